/-
  WALKS: impl.PathNormal.
-/
import Derived.Shelf.Abstract
import Derived.Maps.AppendAt
import Derived.Test.YtlnjcikoeiffgaaNs
import Derived.Test.YtlnjcikoeiffgaaJn
import Derived.Test.YtlnjcikoeiffgaaIt
namespace Go.Proofs.Ytlnjcikoeiffgaa
open Go.RowKit Go.Shelf
set_option linter.unusedVariables false

attribute [local go_sem] Oper.semAt_some

/-- Fewer of a row that is owned. -/
theorem ownsRow_less {w : World} {base : Nat} {e : TypeId} {g cap n m : Nat} {xs : List Value} (h : w.ownsRow base e 1 (.slice (some ⟨g, 0, none⟩) n cap) n xs) (hm : m ≤ n) : w.ownsRow base e 1 (.slice (some ⟨g, 0, none⟩) m cap) m (xs.take m) := by
  obtain ⟨h1, h2⟩ := h
  refine ⟨by rw [List.length_take, h1]; omega, ?_⟩
  rcases h2 with ⟨h2, _⟩ | ⟨g', cap', cur, hv, hb, hg, hc, hm2, hs, ht⟩
  · cases h2
  · cases hv
    refine .inr ⟨g, cap, cur, rfl, hb, hg, by omega, hm2, hs, ?_⟩
    rw [← ht, List.take_take]
    congr 1
    omega

def lettersV (ns : List UInt8) : List Value := ns.map fun c => Value.string ⟨#[c]⟩

/-- The stack of letters when some parts have come. -/
def stackOf (pre : List ByteArray) : List UInt8 := (Pm.runN (pre.map (·.data.toList)) []).getD []
def goodRun (pre : List ByteArray) : Prop := (Pm.runN (pre.map (·.data.toList)) []).isSome = true

theorem good_some {pre : List ByteArray} (h : goodRun pre) : Pm.runN (pre.map (fun y : ByteArray => y.data.toList)) [] = some (stackOf pre) := by
  unfold goodRun at h
  unfold stackOf
  obtain ⟨ms, hm⟩ := Option.isSome_iff_exists.1 h
  rw [hm]; rfl

theorem some_good {pre : List ByteArray} {ns : List UInt8} (h : Pm.runN (pre.map (fun y : ByteArray => y.data.toList)) [] = some ns) : goodRun pre ∧ stackOf pre = ns := by
  unfold goodRun stackOf; rw [h]; exact ⟨rfl, rfl⟩

theorem run_snoc {pre : List ByteArray} (x : ByteArray) (h : goodRun pre) : Pm.runN ((pre ++ [x]).map (fun y : ByteArray => y.data.toList)) [] = Pm.stepN (stackOf pre) x.data.toList := by
  rw [List.map_append]
  exact Pm.runN_snoc _ _ _ _ (good_some h)

theorem run_prefix {pre ps : List ByteArray} (hp : pre <+: ps) (h : Pm.runN (pre.map (fun y : ByteArray => y.data.toList)) [] = none) : Pm.runN (ps.map (fun y : ByteArray => y.data.toList)) [] = none := by
  obtain ⟨t, rfl⟩ := hp
  rw [List.map_append]
  exact Pm.runN_stop _ _ _ h

theorem lettersV_snoc (ns : List UInt8) (c : UInt8) : lettersV (ns ++ [c]) = lettersV ns ++ [.string ⟨#[c]⟩] := by simp [lettersV]

theorem lettersV_take (ns : List UInt8) (m : Nat) (h : ns.length = m + 1) : (lettersV ns).take m = lettersV ns.dropLast := by
  unfold lettersV
  rw [← List.map_take, List.dropLast_eq_take, h]; rfl

theorem bgrown {W W' : World} (h : Below W.heap.size W W') : W.grownBy W' none := ⟨h.os, h.tape, h.output, h.size, fun k hk _ => h.block k hk⟩
theorem below_next' {a b c : World} (h : Below a.heap.size a b) (k : Below b.heap.size b c) : Below a.heap.size a c := h.trans (k.mono h.size)

set_option maxHeartbeats 1000000 in
/-- The shutting: both results are stored, the deferred calls are none. -/
theorem norm_shut {s o : ByteArray} {p : List UInt8} {w W : World} {D : Nat} {tmps : Array Value} (hn : Pm.normal s.data.toList = some p) (ho : o.data.toList = p) (hB : Below w.heap.size w W)
    (q0 : Boxed W w.heap.size 9 (.string ⟨#[]⟩)) (q1 : Boxed W (w.heap.size + 1) 4 (.bool false)) (hK : W.heap[D]? = some (Obj.deferred (some []))) (hD : w.heap.size ≤ D)
    (h2 : tmps[2]? = some (.pointer (some ⟨w.heap.size, 0, none⟩))) (h3 : tmps[3]? = some (.pointer (some ⟨w.heap.size + 1, 0, none⟩))) :
    bodyPostM Fence.wide 6 Try.prog Try.f28 (NormPost s w) Exit.ret { tmps := tmps, defers := [{ target := .collected D, args := #[] }] } ((W.setCell ⟨w.heap.size, 0, none⟩ (.string o)).setCell ⟨w.heap.size + 1, 0, none⟩ (.bool true)) := by
  have hK1 := (KeepsOthers.setCell W ⟨w.heap.size, 0, none⟩ (.string o)).same D _ hK rfl
  have hK' := (KeepsOthers.setCell _ ⟨w.heap.size + 1, 0, none⟩ (.bool true)).same D _ hK1 rfl
  refine ⟨by simp, .inl ⟨_, _, rfl, run_takeDeferred hK', ?_⟩⟩
  have hc5 := cell_kept (((q0.set (.string o)).other (B' := w.heap.size + 1) (by simp) (.bool true)).cell) (grownBy_putObj' _ D (.deferred none)) (fun r e => by cases e; exact ⟨_, hK', rfl⟩)
  have hc6 := cell_kept (((q1.other (B' := w.heap.size) (by simp) (.string o)).set (.bool true)).cell) (grownBy_putObj' _ D (.deferred none)) (fun r e => by cases e; exact ⟨_, hK', rfl⟩)
  refine ⟨.tuple #[.string o, .bool true], ?_, norm_end_some hn ho (((hB.setCell (p := ⟨w.heap.size, 0, none⟩) (Nat.le_refl _) _).setCell (p := ⟨w.heap.size + 1, 0, none⟩) (by simp) _).trans (belowK_b (w := w) (Nat.le_refl _) _ D _ _ hD hK' rfl rfl))⟩
  simp [results, Try.f28, go_sem, hc5, hc6, h2, h3]

set_option maxRecDepth 100000 in
set_option maxHeartbeats 4000000 in
theorem pathNormal_in (s : ByteArray) (h40 : s.size ≤ 40) (hpf : pfxB s ⟨#[47]⟩ = true) (w : World) :
    CallsIn Fence.wide 6 Try.prog 28 #[.string s] w (NormPost s w) := by
  obtain ⟨i0, hi, hz0, hz1, hz2⟩ := info_parts infoStr
  have h40' : (s.size : Int) ≤ 40 := by omega
  have hd40 : decide ((40 : Int) < s.size) = false := decide_eq_false (by omega)
  have hpc : ∀ w, Calls Try.prog 37 #[.string s, .string ⟨#[47]⟩] w fun e w' => e = .returned (.bool true) ∧ w' = w := fun w => by rw [← hpf]; exact hasPrefix_c s _ w
  have hh : s.data.toList.head? = some 47 := by
    rw [pfxB_eq] at hpf
    obtain ⟨⟨l⟩⟩ := s
    cases l with
    | nil => simp at hpf
    | cons c l => simp at hpf; simp [hpf]
  have hr := normal_run h40 hh
  have hlen := Pm.parts_length s.data.toList
  rw [← Lib.size_eq] at hlen
  rw [← partsB_data] at hr
  rw [← partsB_data, List.length_map] at hlen
  obtain ⟨hr1, hr2⟩ := hr
  have HR1 := Lib.hid hr1
  have HR2 := Lib.hid hr2
  have hps41 : (Pm.partsB s).length ≤ 40 := by omega
  have HPC := Lib.hid hpc
  clear hpc hr1 hr2 hh hlen hpf
  refine callsIn_of_wp_marks Try.func28 rfl trivial ?_ rfl
  simp only [Try.ntmps28, List.size_toArray, List.length_cons, List.length_nil, Nat.reduceAdd, Nat.reduceSub, Array.replicate_succ, Array.replicate_zero, List.push_toArray, List.append_toArray, List.nil_append, List.cons_append]
  gi_wp2_with (first | (refine ⟨trivial, ?_⟩; gi_at_call 37; refine (callsIn_wide.2 (HPC.out _)).mono ?_; rintro e w' ⟨rfl, rfl⟩) | (refine ⟨trivial, ?_⟩; gi_at_call 33; refine (partsOf_in _ s _).mono ?_; rintro e w' ⟨rfl, rfl⟩))
  have b0 := Boxed.new w 9 (.string ⟨#[]⟩)
  have b1 := Boxed.new (w.alloc (.cells #[.string ⟨#[]⟩] 9)) 4 (.bool false)
  have b2 := Boxed.new ((w.alloc (.cells #[.string ⟨#[]⟩] 9)).alloc (.cells #[.bool false] 4)) 41 (.slice none 0 0)
  have b3 := Boxed.new (((w.alloc (.cells #[.string ⟨#[]⟩] 9)).alloc (.cells #[.bool false] 4)).alloc (.cells #[.slice none 0 0] 41)) 9 (.string s)
  simp only [World.size_alloc] at b1 b2 b3
  have hB0 : Below w.heap.size w ((((w.alloc (.cells #[.string ⟨#[]⟩] 9)).alloc (.cells #[.bool false] 4)).alloc (.cells #[.slice none 0 0] 41)).alloc (.cells #[.string s] 9)) := ((((Below.refl _ w).alloc (Nat.le_refl _) _).alloc (by simp) _).alloc (by simp; omega) _).alloc (by simp; omega) _
  refine wpIn_rangeFunc_ownG rfl (by omega) (gf := 44) (lb := #[.pointer (some ⟨w.heap.size + 1 + 1 + 1, 0, none⟩)]) rfl trivial (enters_of Try.func44 (by kernel_rfl) rfl)
    (partsOf_stops _ (by omega) (w.heap.size + 1 + 1 + 1) w.heap.size s (by omega) _ (by simp) b3.cell) belowK_t (belowK_b (by simp; omega)) (Below.refl _ _) (fun _ => rfl)
    (fun pre W => ((∃ v, Boxed W (w.heap.size + 1 + 1) 41 v ∧ W.ownsRow (w.heap.size + 1 + 1) 9 1 v (stackOf pre).length (lettersV (stackOf pre)) ∧ goodRun pre) ∧ Boxed W w.heap.size 9 (.string ⟨#[]⟩) ∧ Boxed W (w.heap.size + 1) 4 (.bool false)) ∧ Below w.heap.size w W)
    (fun c pre W => ((c = .ret ∧ Pm.runN (pre.map (fun y : ByteArray => y.data.toList)) [] = none) ∧ Boxed W w.heap.size 9 (.string ⟨#[]⟩) ∧ Boxed W (w.heap.size + 1) 4 (.bool false)) ∧ Below w.heap.size w W)
    (OwnFrom.and (OwnFrom.and (Own.from (holdsRow_own (w.heap.size + 1 + 1) (w.heap.size + 1 + 1) 41 9 1 (fun pre => (stackOf pre).length) (fun pre => lettersV (stackOf pre)) (fun pre _ => goodRun pre)) _) (Own.from (fun s A B row hs hg hr => ⟨boxed_own _ _ (fun _ : Unit => _) () A B row hs.1 hg hr, boxed_own _ _ (fun _ : Unit => _) () A B row hs.2 hg hr⟩) _)) (ownFrom_below (Nat.le_refl _) (by simp; omega)))
    (fun c => OwnFrom.and (Own.from (fun s A B row hs hg hr => ⟨hs.1, boxed_own _ _ (fun _ : Unit => _) () A B row hs.2.1 hg hr, boxed_own _ _ (fun _ : Unit => _) () A B row hs.2.2 hg hr⟩) _) (ownFrom_below (Nat.le_refl _) (by simp; omega)))
    ⟨⟨⟨_, b2.alloc _, World.ownsRow_nil _ _ _ _, rfl⟩, ((b0.alloc _).alloc _).alloc _, (b1.alloc _).alloc _⟩, hB0⟩
    (fun x => { tmps := #[.string s, undef, .pointer (some ⟨w.heap.size, 0, none⟩), .pointer (some ⟨w.heap.size + 1, 0, none⟩), .pointer (some ⟨w.heap.size + 1 + 1, 0, none⟩), .string x, .string s, .int .i64 s.size, .bool false, .bool false, .string s, .bool true, .bool false, .bool false, .string s, .func (.func 44) #[] #[.pointer (some ⟨w.heap.size + 1 + 1 + 1, 0, none⟩)], .string x, undef, undef, undef, undef, undef, undef, undef, undef, undef, undef, undef, undef, undef, undef, undef, undef, undef, undef, undef, undef, undef, undef, undef, undef, undef, undef, undef, undef, undef, undef, undef, undef, undef], defers := [] }) ?assign ?body ?done ?stop
  case assign =>
    intro l x W K hK
    gi_wp2
    exact hK
  case body =>
    rintro l pre x W ⟨⟨⟨v, hv, hrow, hgr⟩, q0, q1⟩, hB⟩ hlt
    have hc := hv.cell
    have hf := hv.frozen
    have hc0 := q0.cell
    have hf0 := q0.frozen
    have hc1 := q1.cell
    have hf1 := q1.frozen
    have hst := run_snoc x hgr
    have hlen : (stackOf pre).length ≤ pre.length := by
      have := (Pm.runN_letters (good_some hgr) (by simp)).2
      simpa using this
    obtain ⟨ns, hns⟩ : ∃ ns, stackOf pre = ns := ⟨_, rfl⟩
    rw [hns] at hrow hst hlen
    have HST := Lib.hid hst
    have hns40 : ns.length ≤ 40 := by omega
    clear hst hns hlen hgr
    by_cases hA : x.data.toList = [] ∨ x.data.toList = [46]
    · have hG := some_good (pre := pre ++ [x]) (ns := ns) (by rw [HST.out]; unfold Pm.stepN; rw [if_pos hA])
      have HG := Lib.hid hG
      have hxx : x = ⟨#[]⟩ ∨ x = ⟨#[46]⟩ := hA.imp (fun h => ba_ext h) (fun h => ba_ext h)
      clear hA hG HST
      rcases hxx with rfl | rfl
      all_goals
        gi_wp2
        exact ⟨KeepsFrom.refl _ _, Below.refl _ _, ⟨⟨v, hv, by rw [HG.out.2]; exact hrow, HG.out.1⟩, q0, q1⟩, hB⟩
    · have e0 : ¬ x.toList = [] := by rw [Lib.toList_data]; exact fun e => hA (.inl e)
      have e1 : x.toList.isEmpty = false := by rw [List.isEmpty_eq_false_iff]; exact e0
      have e2 : (x.toList == [46]) = false := by rw [Lib.toList_data]; simpa using fun e => hA (.inr e)
      by_cases hB2 : x.data.toList = [46, 46]
      · obtain rfl : x = ⟨#[46, 46]⟩ := ba_ext hB2
        by_cases hn : ns = []
        · subst hn
          have hd := Lib.hid (show Pm.runN ((pre ++ [(⟨#[46, 46]⟩ : ByteArray)]).map (fun y : ByteArray => y.data.toList)) [] = none by rw [HST.out]; decide)
          have hno := Lib.hid (fun w => name_no (x := ⟨#[46, 46]⟩) (by decide) w)
          have hvv : v = .slice none 0 0 ∨ ∃ g cap, v = .slice (some ⟨g, 0, none⟩) 0 cap := by
            rcases hrow.2 with ⟨h, _⟩ | ⟨g, cap, cur, h, _⟩
            · exact .inl h
            · exact .inr ⟨g, cap, h⟩
          clear hA hB2 HST e0 e1 e2 hrow
          rcases hvv with rfl | ⟨g, cap, rfl⟩
          all_goals
            gi_wp2_with (refine ⟨trivial, ?_⟩; gi_at_call 34; refine (CallsIn.inRound l (callsIn_wide.2 (hno.out _))).mono ?_; rintro e w' ⟨rfl, rfl⟩)
            exact ⟨((KeepsOthers.setCell _ _ _).trans (KeepsOthers.setCell _ _ _)).from _, ⟨⟨rfl, hd.out⟩, (q0.set _).other (by simp) _, (q1.other (by simp) _).set _⟩, (hB.setCell (p := ⟨w.heap.size, 0, none⟩) (Nat.le_refl _) _).setCell (p := ⟨w.heap.size + 1, 0, none⟩) (by simp) _⟩
        · obtain ⟨m, hm⟩ : ∃ m, ns.length = m + 1 := ⟨ns.length - 1, by
            have : 1 ≤ ns.length := by cases ns with | nil => exact absurd rfl hn | cons => simp
            omega⟩
          have hG := some_good (pre := pre ++ [⟨#[46, 46]⟩]) (ns := ns.dropLast) (by rw [HST.out]; unfold Pm.stepN; rw [if_neg hA, if_pos ⟨rfl, hn⟩])
          have HG := Lib.hid hG
          rw [hm] at hrow
          obtain ⟨g, cap, rfl⟩ := ownsRow_succ hrow
          have hcap : m + 1 ≤ cap ∧ cap ≤ 9223372036854775807 := by
            rcases hrow.2 with ⟨h, _⟩ | ⟨g', cap', cur, h, _, _, h3, h4, _⟩
            · cases h
            · cases h; unfold maxLen at h4; exact ⟨h3, by omega⟩
          obtain ⟨hcap1, hcap2⟩ := hcap
          have hnb := hv.not_row (by decide) hrow
          have hless := ownsRow_less hrow (m := m) (by omega)
          rw [lettersV_take ns m hm] at hless
          have hdl : ns.dropLast.length = m := by rw [List.length_dropLast]; omega
          have HDL := Lib.hid hdl
          have k1 : (0 : Int) ≤ m := by omega
          have k2 : (m : Int) ≤ cap := by omega
          clear hA hB2 HST e0 e1 e2 hrow hG hm hdl hn
          gi_wp2
          refine ⟨(KeepsOthers.setCell _ _ _).from _, (Below.refl w.heap.size _).setCell (p := ⟨w.heap.size + 1 + 1, 0, none⟩) (by simp; omega) _, ⟨⟨.slice (some ⟨g, 0, none⟩) m cap, hv.set _, ?_, HG.out.1⟩, q0.other (by simp; omega) _, q1.other (by simp) _⟩, hB.setCell (p := ⟨w.heap.size + 1 + 1, 0, none⟩) (by simp; omega) _⟩
          rw [HG.out.2, HDL.out]
          exact hless.kept (grownBy_setCell' _ _ _) (.inr (by simpa [Value.ownBlock, eq_comm] using hnb))
      · have e3 : (x.toList == [46, 46]) = false := by rw [Lib.toList_data]; simpa using hB2
        cases hn : Pm.nameBB x with
        | true =>
          obtain ⟨c, hcx, hcl⟩ := Pm.name_form hn
          have hc46 : (c == 46) = false := by
            rw [beq_eq_false_iff_ne]; intro e; subst e; exact absurd hcl (by decide)
          obtain rfl : x = ⟨#[c]⟩ := ba_ext hcx
          have hG := some_good (pre := pre ++ [⟨#[c]⟩]) (ns := ns ++ [c]) (by
            rw [HST.out]; unfold Pm.stepN
            rw [if_neg hA, if_neg (fun h => hB2 h.1), if_pos (show Pm.nameB (⟨#[c]⟩ : ByteArray).data.toList = true from hn)])
          have HG := Lib.hid hG
          have hyes := Lib.hid (fun w => name_yes hn w)
          clear hA hB2 HST hG hn hcx hcl
          gi_wp2_with (first
            | (refine ⟨trivial, ?_⟩; gi_at_call 34; refine (CallsIn.inRound l (callsIn_wide.2 (hyes.out _))).mono ?_; rintro e w' ⟨rfl, rfl⟩)
            | (gi_at_builtin; refine wpListIn_append_own _ rfl _ _ 41 rfl (w.heap.size + 1 + 1) 9 i0 (.string ⟨#[]⟩) 1 16 Try.underlying41 hi hz0 hz1 hz2 rfl (by decide) _ _ _ rfl (hrow.alloc _) ⟨_, 0, none⟩ 1 1 [.string ⟨#[c]⟩] rfl rfl (cell_one_new _ _ _) (by simp [Value.oneCell']) (by unfold maxLen; omega) (by omega) (by have := hv.lt; simp; omega) ?_; intro v' w1 hown' hgrow hnil; obtain ⟨g', cap', rfl⟩ := ownsRow_succ hown'; obtain ⟨hv1, hv2, hr2, hk2, hb2⟩ := hv.appended (by decide) hrow (Nat.le_of_lt hv.lt) (Nat.le_refl _) hown' hgrow; have hc5 := hv1.cell; have hf5 := hv1.frozen))
          have hrl := hrow.lt
          have hn0 := Boxed.kept (q0.alloc _) hgrow (fun e => by have := (hrl _ e.symm).1; omega)
          have hn1 := Boxed.kept (q1.alloc _) hgrow (fun e => by have := (hrl _ e.symm).1; omega)
          refine ⟨hk2.from _, hb2.mono (by omega), ⟨⟨_, hv2, ?_, HG.out.1⟩, hn0.other (by omega) _, hn1.other (by omega) _⟩, hB.trans (hb2.mono (by omega))⟩
          rw [HG.out.2, lettersV_snoc, List.length_append]
          exact hr2
        | false =>
          have hd := Lib.hid (show Pm.runN ((pre ++ [x]).map (fun y : ByteArray => y.data.toList)) [] = none by
            rw [HST.out]; unfold Pm.stepN
            rw [if_neg hA, if_neg (fun h => hB2 h.1), if_neg (by rw [show Pm.nameB x.data.toList = false from hn]; simp)])
          have hno := Lib.hid (fun w => name_no hn w)
          clear hA hB2 HST hrow hn
          gi_wp2_with (refine ⟨trivial, ?_⟩; gi_at_call 34; refine (CallsIn.inRound l (callsIn_wide.2 (hno.out _))).mono ?_; rintro e w' ⟨rfl, rfl⟩)
          exact ⟨((KeepsOthers.setCell _ _ _).trans (KeepsOthers.setCell _ _ _)).from _, ⟨⟨rfl, hd.out⟩, (q0.set _).other (by simp) _, (q1.other (by simp) _).set _⟩, (hB.setCell (p := ⟨w.heap.size, 0, none⟩) (Nat.le_refl _) _).setCell (p := ⟨w.heap.size + 1, 0, none⟩) (by simp) _⟩
  case done =>
    rintro D ys W hD rfl ⟨⟨⟨v, hv, hrow, hgr⟩, q0, q1⟩, hB⟩ hK
    have hc := hv.cell
    have hc0 := q0.cell
    have hf0 := q0.frozen
    have hc1 := q1.cell
    have hf1 := q1.frozen
    obtain ⟨fd1, fd2⟩ := HR2.out _ (good_some hgr)
    have hns40 : (stackOf (Pm.partsB s)).length ≤ 40 := by
      have := (Pm.runN_letters (good_some hgr) (by simp)).2
      simp at this; omega
    obtain ⟨ns, hns⟩ : ∃ ns, stackOf (Pm.partsB s) = ns := ⟨_, rfl⟩
    rw [hns] at hrow fd1 fd2 hns40
    clear hns hgr
    have hDlt : D < W.heap.size := (Array.getElem?_eq_some_iff.1 hK).1
    simp only [World.size_alloc] at hD
    by_cases h4 : ns.length ≤ 4
    · have hd := Lib.hid (fd1 h4)
      by_cases hn : ns = []
      · subst hn
        have hvv : v = .slice none 0 0 ∨ ∃ g cap, v = .slice (some ⟨g, 0, none⟩) 0 cap := by
          rcases hrow.2 with ⟨h, _⟩ | ⟨g, cap, cur, h, _⟩
          · exact .inl h
          · exact .inr ⟨g, cap, h⟩
        have HJ := Lib.hid (fun a c w => Jn.strings_Join_none a c ⟨#[47]⟩ w)
        clear hrow fd1 fd2 h4
        rcases hvv with rfl | ⟨g, cap, rfl⟩
        all_goals
          gi_wp2_with (refine ⟨trivial, ?_⟩; gi_at_call 43; refine (callsIn_wide.2 (HJ.out _ _ _)).mono ?_; rintro e w' ⟨rfl, rfl⟩)
          exact norm_shut hd.out rfl hB q0 q1 hK (by omega) rfl rfl
      · obtain ⟨m, hm⟩ : ∃ m, ns.length = m + 1 := ⟨ns.length - 1, by
          have : 1 ≤ ns.length := by cases ns with | nil => exact absurd rfl hn | cons => simp
          omega⟩
        have hrow0 := hrow
        rw [hm] at hrow
        obtain ⟨g, cap, rfl⟩ := ownsRow_succ hrow
        have hcap : m + 1 ≤ cap ∧ g < W.heap.size := by
          rcases hrow.2 with ⟨h, _⟩ | ⟨g', cap', cur, h, _, h2, h3, h4, _⟩
          · cases h
          · cases h; exact ⟨h3, (Array.getElem?_eq_some_iff.1 h2).1⟩
        obtain ⟨hcap1, hgl⟩ := hcap
        have hjn : (ns.map (fun c => (⟨#[c]⟩ : ByteArray))).map (fun y : ByteArray => y.data.toList) = ns.map fun x => [x] := by rw [List.map_map]; rfl
        have hjl : (Lib.join (ns.map fun x => [x]) [47]).length ≤ 100 := by
          have := congrArg List.length (Pm.join_path ns)
          rw [List.length_cons] at this
          unfold Pm.pathOf at this
          rw [if_neg hn, Pm.flat_length] at this
          omega
        have hcells : ∀ (j : Nat) (x : ByteArray), (ns.map (fun c => (⟨#[c]⟩ : ByteArray)))[j]? = some x → W.cell? ⟨g, 0 + j, none⟩ = some (.string x) := by
          intro j x hj
          have hjlt : j < ns.length := by
            rcases Nat.lt_or_ge j ns.length with h | h
            · exact h
            · rw [List.getElem?_eq_none (by simpa using h)] at hj; cases hj
          rw [Nat.zero_add, hrow.cellAt j (by omega)]
          unfold lettersV
          rw [List.getElem?_map] at hj ⊢
          cases hq : ns[j]? with
          | none => rw [hq] at hj; cases hj
          | some c => rw [hq] at hj; simp at hj; simp [hj]
        have hJ := Jn.strings_Join g 0 cap (ns.map (fun c => (⟨#[c]⟩ : ByteArray))) ⟨#[47]⟩ W hcells hgl (by simp; omega) (by simp; omega) (by rw [hjn]; show (Lib.join _ [47]).length ≤ _; omega)
        rw [hjn, List.length_map, hm] at hJ
        obtain ⟨jl, hjj⟩ : ∃ jl : List UInt8, Lib.join (ns.map fun x => [x]) [47] = jl := ⟨_, rfl⟩
        rw [show (⟨#[47]⟩ : ByteArray).data.toList = [47] from rfl, hjj] at hJ
        have hjp := Pm.join_path ns
        rw [hjj] at hjp hjl
        obtain ⟨jb, hjb⟩ : ∃ jb : ByteArray, (⟨jl.toArray⟩ : ByteArray) = jb := ⟨_, rfl⟩
        have hjbd : jb.data.toList = jl := by rw [← hjb]
        rw [hjb] at hJ
        have hjs : jb.size ≤ 100 := by rw [Lib.size_eq, hjbd]; exact hjl
        have hfin := Lib.hid (show (⟨#[47]⟩ ++ jb : ByteArray).data.toList = Pm.pathOf ns by
          rw [ByteArray.data_append, Array.toList_append, hjbd, ← hjp]; rfl)
        have HJ := Lib.hid hJ
        have hm4 : (m : Int) + 1 ≤ 4 := by omega
        clear hrow hrow0 hJ hcells hjn hjl hjj hjp hjb hjbd fd1 fd2 h4 hn hm hns40
        gi_wp2_with (refine ⟨trivial, ?_⟩; gi_at_call 43; refine (callsIn_wide.2 HJ.out).mono ?_; rintro e W2 ⟨rfl, hb2⟩; have g0 := Boxed.kept q0 (bgrown hb2) (by simp); have g1 := Boxed.kept q1 (bgrown hb2) (by simp); have hc7 := g0.cell; have hf7 := g0.frozen; have hc8 := g1.cell; have hf8 := g1.frozen)
        have hK2 : W2.heap[D]? = some (Obj.deferred (some [])) := (hb2.block D hDlt).trans hK
        exact norm_shut hd.out hfin.out (below_next' hB hb2) g0 g1 hK2 (by omega) rfl rfl
    · have hd := Lib.hid (fd2 h4)
      have hlt4 : (4 : Int) < ns.length := by omega
      obtain ⟨m, hm⟩ : ∃ m, ns.length = m + 1 := ⟨ns.length - 1, by omega⟩
      rw [hm] at hrow
      obtain ⟨g, cap, rfl⟩ := ownsRow_succ hrow
      have hlt4' : (4 : Int) < (m : Int) + 1 := by omega
      clear hrow fd1 fd2 h4 hm hlt4
      gi_wp2
      have hK1 := (KeepsOthers.setCell W ⟨w.heap.size, 0, none⟩ (.string ⟨#[]⟩)).same D _ hK rfl
      have hK' := (KeepsOthers.setCell _ ⟨w.heap.size + 1, 0, none⟩ (.bool false)).same D _ hK1 rfl
      refine ⟨by simp, .inl ⟨_, _, rfl, run_takeDeferred hK', ?_⟩⟩
      have hc5 := cell_kept (((q0.set (.string ⟨#[]⟩)).other (B' := w.heap.size + 1) (by simp) (.bool false)).cell) (grownBy_putObj' _ D (.deferred none)) (fun r e => by cases e; exact ⟨_, hK', rfl⟩)
      have hc6 := cell_kept (((q1.other (B' := w.heap.size) (by simp) (.string ⟨#[]⟩)).set (.bool false)).cell) (grownBy_putObj' _ D (.deferred none)) (fun r e => by cases e; exact ⟨_, hK', rfl⟩)
      refine ⟨.tuple #[.string ⟨#[]⟩, .bool false], ?_, norm_end_none hd.out (((hB.setCell (p := ⟨w.heap.size, 0, none⟩) (Nat.le_refl _) _).setCell (p := ⟨w.heap.size + 1, 0, none⟩) (by simp) _).trans (belowK_b (w := w) (Nat.le_refl _) _ D _ _ (by omega) hK' rfl rfl))⟩
      simp [results, Try.f28, go_sem, hc5, hc6]
  case stop =>
    rintro D c pre W hD hpre ⟨⟨⟨rfl, hbad⟩, q0, q1⟩, hB⟩ hK
    have hd := Lib.hid (HR1.out (run_prefix hpre hbad))
    clear hbad
    gi_wp2
    refine ⟨by simp, .inl ⟨_, _, rfl, run_takeDeferred hK, ?_⟩⟩
    have hc5 := cell_kept q0.cell (grownBy_putObj' _ D (.deferred none)) (fun r e => by cases e; exact ⟨_, hK, rfl⟩)
    have hc6 := cell_kept q1.cell (grownBy_putObj' _ D (.deferred none)) (fun r e => by cases e; exact ⟨_, hK, rfl⟩)
    refine ⟨.tuple #[.string ⟨#[]⟩, .bool false], ?_, norm_end_none hd.out (hB.trans (belowK_b (w := w) (Nat.le_refl _) W D _ _ (by simp at hD; omega) hK rfl rfl))⟩
    simp [results, Try.f28, go_sem, hc5, hc6]

set_option maxHeartbeats 1000000 in
set_option maxRecDepth 100000 in
theorem pathNormal_long (s : ByteArray) (h : 40 < s.size) (w : World) : Calls Try.prog 28 #[.string s] w (NormPost s w) := by
  have hd := Lib.hid (normal_guard (s := s) (.inl h))
  have h1 : decide ((40 : Int) < s.size) = true := decide_eq_true (by omega)
  clear h
  go_enter Try.func28, Try.ntmps28
  go_wp2
  exact bodyPost_ret (v := .tuple #[.string ⟨#[]⟩, .bool false]) (by simp [results, Try.f28, go_sem]) rfl (norm_end_none hd.out (((Below.refl _ _).alloc (Nat.le_refl _) _).alloc (by simp) _))

set_option maxHeartbeats 1000000 in
set_option maxRecDepth 100000 in
theorem pathNormal_other (s : ByteArray) (h40 : s.size ≤ 40) (hp : pfxB s ⟨#[47]⟩ = false) (w : World) : Calls Try.prog 28 #[.string s] w (NormPost s w) := by
  have hd := Lib.hid (normal_guard (s := s) (.inr (by
    intro e
    rw [pfxB_eq] at hp
    obtain ⟨⟨l⟩⟩ := s
    cases l with
    | nil => simp at e
    | cons c l =>
      have hc : c = 47 := by simpa using e
      subst hc
      simp at hp)))
  have h1 : decide ((40 : Int) < s.size) = false := decide_eq_false (by omega)
  have HP := Lib.hid (show ∀ w, Calls Try.prog 37 #[.string s, .string ⟨#[47]⟩] w fun e w' => e = .returned (.bool false) ∧ w' = w from fun w => by rw [← hp]; exact hasPrefix_c s _ w)
  clear h40 hp
  go_enter Try.func28, Try.ntmps28
  go_wp2_with (go_at_call 37; refine (HP.out _).mono ?_; rintro e w' ⟨rfl, rfl⟩)
  exact bodyPost_ret (v := .tuple #[.string ⟨#[]⟩, .bool false]) (by simp [results, Try.f28, go_sem]) rfl (norm_end_none hd.out (((Below.refl _ _).alloc (Nat.le_refl _) _).alloc (by simp) _))

/-- impl.PathNormal, at every text. -/
theorem pathNormal_c (s : ByteArray) (w : World) : Calls Try.prog 28 #[.string s] w (NormPost s w) := by
  by_cases h40 : s.size ≤ 40
  · cases hp : pfxB s ⟨#[47]⟩ with
    | true => exact callsIn_wide.1 (pathNormal_in s h40 hp w)
    | false => exact pathNormal_other s h40 hp w
  · exact pathNormal_long s (by omega) w

end Go.Proofs.Ytlnjcikoeiffgaa
