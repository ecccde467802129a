/-
  WALKS: impl.PathDepth, impl.PathValid.
-/
import Derived.Shelf.Abstract
import Derived.Test.YtoipbocbgadjbaaIt
namespace Go.Proofs.Ytoipbocbgadjbaa
open Go.RowKit Go.Shelf

attribute [local go_sem] Oper.semAt_some

theorem name_yes {x : ByteArray} (h : Pm.nameBB x = true) (w : World) : Calls Try.prog 63 #[.string x] w fun e w' => e = .returned (.bool true) ∧ w' = w := by
  rw [← h]; exact isName_c x w
theorem name_no {x : ByteArray} (h : Pm.nameBB x = false) (w : World) : Calls Try.prog 63 #[.string x] w fun e w' => e = .returned (.bool false) ∧ w' = w := by
  rw [← h]; exact isName_c x w

set_option maxRecDepth 100000 in
set_option maxHeartbeats 2000000 in
theorem pathDepth_root (w : World) :
    Calls Try.prog 40 #[.string ⟨#[47]⟩] w fun e w' => e = .returned (.int .i64 0) ∧ Below w.heap.size w w' := by
  go_enter Try.func40, Try.ntmps40
  go_wp2
  exact bodyPost_ret (v := .int .i64 0) (by simp [results, Try.f40, go_sem]) rfl ⟨rfl, (Below.refl _ _).alloc (Nat.le_refl _) _⟩

set_option maxRecDepth 100000 in
set_option maxHeartbeats 2000000 in
theorem pathDepth_in (s : ByteArray) (hr : s ≠ ⟨#[47]⟩) (hs : s.size ≤ 140737488355328) (w : World) :
    CallsIn Fence.wide 6 Try.prog 40 #[.string s] w fun e w' => e = .returned (.int .i64 (Pm.depth s.data.toList)) ∧ Below w.heap.size w w' := by
  have hr2 : (s.toList == [47]) = false := by
    rw [Lib.toList_data]; simpa using fun e => hr (by rw [← Lib.mk_data s, e])
  refine callsIn_of_wp_marks Try.func40 rfl trivial ?_ rfl
  simp only [Try.ntmps40, List.size_toArray, List.length_cons, List.length_nil, Nat.reduceAdd, Nat.reduceSub, Array.replicate_succ, Array.replicate_zero, List.push_toArray, List.append_toArray, List.nil_append, List.cons_append]
  gi_wp2_with (refine ⟨trivial, ?_⟩; gi_at_call 62; refine (partsOf_in _ s _).mono ?_; rintro e w' ⟨rfl, rfl⟩)
  have b0 := Boxed.new w 3 (.int .i64 0)
  have b1 := Boxed.new (w.alloc (.cells #[.int .i64 0] 3)) 3 (.int .i64 0)
  have b2 := Boxed.new ((w.alloc (.cells #[.int .i64 0] 3)).alloc (.cells #[.int .i64 0] 3)) 9 (.string s)
  simp only [World.size_alloc] at b1 b2
  have hB0 : Below w.heap.size w (((w.alloc (.cells #[.int .i64 0] 3)).alloc (.cells #[.int .i64 0] 3)).alloc (.cells #[.string s] 9)) := (((Below.refl _ w).alloc (Nat.le_refl _) _).alloc (by simp) _).alloc (by simp; omega) _
  refine wpIn_rangeFunc_ownG rfl (by omega) (gf := 74) (lb := #[.pointer (some ⟨w.heap.size + 1 + 1, 0, none⟩)]) rfl trivial (enters_of Try.func74 (by kernel_rfl) rfl)
    (partsOf_stops _ (by omega) (w.heap.size + 1 + 1) w.heap.size s hs _ (by simp) b2.cell) belowK_t (belowK_b (by simp; omega)) (Below.refl _ _) (fun _ => rfl)
    (fun pre W => ((pre.all Pm.nameBB = true ∧ pre.length ≤ 4) ∧ Boxed W w.heap.size 3 (.int .i64 0) ∧ Boxed W (w.heap.size + 1) 3 (.int .i64 pre.length)) ∧ Below w.heap.size w W)
    (fun c pre W => (c = .ret ∧ (pre.all Pm.nameBB = false ∨ 4 < pre.length) ∧ Boxed W w.heap.size 3 (.int .i64 (-1))) ∧ Below w.heap.size w W)
    (OwnFrom.and (Own.from (fun s A B row hs hg hr => ⟨hs.1, boxed_own _ _ (fun _ : Unit => _) () A B row hs.2.1 hg hr, boxed_own _ _ (fun _ : Unit => _) () A B row hs.2.2 hg hr⟩) _) (ownFrom_below (Nat.le_refl _) (by simp; omega)))
    (fun c => OwnFrom.and (Own.from (fun s A B row hs hg hr => ⟨hs.1, hs.2.1, boxed_own _ _ (fun _ : Unit => _) () A B row hs.2.2 hg hr⟩) _) (ownFrom_below (Nat.le_refl _) (by simp; omega)))
    ⟨⟨⟨rfl, by simp⟩, (b0.alloc _).alloc _, b1.alloc _⟩, hB0⟩
    (fun x => { tmps := #[.string s, undef, .pointer (some ⟨w.heap.size, 0, none⟩), .pointer (some ⟨w.heap.size + 1, 0, none⟩), .string x, .string s, .bool false, .string s, .func (.func 74) #[] #[.pointer (some ⟨w.heap.size + 1 + 1, 0, none⟩)], .string x, undef, undef, undef, undef, undef, undef, undef, undef, undef, undef, undef, undef], defers := [] }) ?assign ?body ?done ?stop
  case assign =>
    intro l x W K hK
    gi_wp2
    exact hK
  case body =>
    rintro l pre x W ⟨⟨⟨hp1, hp2⟩, q0, q1⟩, hB⟩ _
    have hc0 := q0.cell
    have hf0 := q0.frozen
    have hc1 := q1.cell
    have hf1 := q1.frozen
    cases hx : Pm.nameBB x with
    | false =>
      have hn := fun w => name_no hx w
      have hall : Hid ((pre ++ [x]).all Pm.nameBB = false) := by show _ = _; simp [hx]
      clear hx
      gi_wp2_with (refine ⟨trivial, ?_⟩; gi_at_call 63; refine (CallsIn.inRound l (callsIn_wide.2 (hn _))).mono ?_; rintro e w' ⟨rfl, rfl⟩)
      exact ⟨(KeepsOthers.setCell _ _ _).from _, ⟨rfl, .inl hall.out, q0.set _⟩, hB.setCell (p := ⟨w.heap.size, 0, none⟩) (Nat.le_refl _) _⟩
    | true =>
      have hn := fun w => name_yes hx w
      have hall : Hid ((pre ++ [x]).all Pm.nameBB = true) := by show _ = _; simp [hx, hp1]
      clear hx
      by_cases h4 : pre.length = 4
      · have H4 : Hid (4 < (pre ++ [x]).length) := by show _ < _; simp [h4]
        have he : ((pre.length : Int) == 4) = true := by rw [h4]; rfl
        clear h4
        gi_wp2_with (refine ⟨trivial, ?_⟩; gi_at_call 63; refine (CallsIn.inRound l (callsIn_wide.2 (hn _))).mono ?_; rintro e w' ⟨rfl, rfl⟩)
        exact ⟨(KeepsOthers.setCell _ _ _).from _, ⟨rfl, .inr H4.out, q0.set _⟩, hB.setCell (p := ⟨w.heap.size, 0, none⟩) (Nat.le_refl _) _⟩
      · have he : ((pre.length : Int) == 4) = false := by simp; omega
        have hle : (pre.length : Int) ≤ 3 := by omega
        gi_wp2_with (refine ⟨trivial, ?_⟩; gi_at_call 63; refine (CallsIn.inRound l (callsIn_wide.2 (hn _))).mono ?_; rintro e w' ⟨rfl, rfl⟩)
        refine ⟨(KeepsOthers.setCell _ _ _).from _, (Below.refl w.heap.size _).setCell (p := ⟨w.heap.size + 1, 0, none⟩) (by simp) _, ⟨⟨hall.out, by simp; omega⟩, q0.other (by simp) _, ?_⟩, hB.setCell (p := ⟨w.heap.size + 1, 0, none⟩) (by simp) _⟩
        have := q1.set (.int .i64 ((pre.length : Int) + 1))
        simpa using this
  case done =>
    rintro D ys W hD rfl ⟨⟨⟨hp1, hp2⟩, q0, q1⟩, hB⟩ hK
    have hc0 := q0.cell
    have hf0 := q0.frozen
    have hc1 := q1.cell
    have hf1 := q1.frozen
    by_cases h0 : (Pm.partsB s).length = 0
    · have hd : Hid (Pm.depth s.data.toList = -1) := Pm.depth_bad s hr (fun _ h _ => by omega)
      have he : (((Pm.partsB s).length : Int) == 0) = true := by rw [h0]; rfl
      clear h0 hp1
      gi_wp2
      have hK' := (KeepsOthers.setCell W ⟨w.heap.size, 0, none⟩ (.int .i64 (-1))).same D _ hK rfl
      refine ⟨by simp, .inl ⟨_, _, rfl, run_takeDeferred hK', ?_⟩⟩
      have hc5 := _root_.Go.cell_kept (q0.set (.int .i64 (-1))).cell (grownBy_putObj' _ D (.deferred none)) (fun r e => by cases e; exact ⟨_, hK', rfl⟩)
      refine ⟨.int .i64 (-1), ?_, by rw [hd.out], (hB.setCell (p := ⟨w.heap.size, 0, none⟩) (Nat.le_refl _) _).trans (belowK_b (w := w) (Nat.le_refl _) _ D _ _ (by simp at hD; omega) hK' rfl rfl)⟩
      simp [results, Try.f40, go_sem, hc5]
    · have hd : Hid (Pm.depth s.data.toList = (Pm.partsB s).length) := Pm.depth_good s hr hp1 (by omega) hp2
      have he : (((Pm.partsB s).length : Int) == 0) = false := beq_eq_false_iff_ne.2 (by omega)
      clear h0 hp1
      gi_wp2
      have hK' := (KeepsOthers.setCell W ⟨w.heap.size, 0, none⟩ (.int .i64 ((Pm.partsB s).length))).same D _ hK rfl
      refine ⟨by simp, .inl ⟨_, _, rfl, run_takeDeferred hK', ?_⟩⟩
      have hc5 := _root_.Go.cell_kept (q0.set (.int .i64 ((Pm.partsB s).length))).cell (grownBy_putObj' _ D (.deferred none)) (fun r e => by cases e; exact ⟨_, hK', rfl⟩)
      refine ⟨.int .i64 ((Pm.partsB s).length), ?_, by rw [hd.out], (hB.setCell (p := ⟨w.heap.size, 0, none⟩) (Nat.le_refl _) _).trans (belowK_b (w := w) (Nat.le_refl _) _ D _ _ (by simp at hD; omega) hK' rfl rfl)⟩
      simp [results, Try.f40, go_sem, hc5]
  case stop =>
    rintro D c pre W hD hpre ⟨⟨rfl, hbad, q0⟩, hB⟩ hK
    have hd := Pm.depth_bad s hr (Pm.prefix_bad hpre hbad)
    gi_wp2
    refine ⟨by simp, .inl ⟨_, _, rfl, run_takeDeferred hK, ?_⟩⟩
    have hc5 := _root_.Go.cell_kept q0.cell (grownBy_putObj' _ D (.deferred none)) (fun r e => by cases e; exact ⟨_, hK, rfl⟩)
    refine ⟨.int .i64 (-1), ?_, by rw [hd], hB.trans (belowK_b (w := w) (Nat.le_refl _) W D _ _ (by simp at hD; omega) hK rfl rfl)⟩
    simp [results, Try.f40, go_sem, hc5]

theorem depth_root : Pm.depth [47] = 0 := by decide

/-- impl.PathDepth, at every text. -/
theorem pathDepth_c (s : ByteArray) (hs : s.size ≤ 140737488355328) (w : World) :
    Calls Try.prog 40 #[.string s] w fun e w' => e = .returned (.int .i64 (Pm.depth s.data.toList)) ∧ Below w.heap.size w w' := by
  by_cases hr : s = ⟨#[47]⟩
  · subst hr; exact pathDepth_root w
  · exact callsIn_wide.1 (pathDepth_in s hr hs w)

end Go.Proofs.Ytoipbocbgadjbaa
