/-
  WALKS: spec.FrameOf.
-/
import Derived.Maps.AppendAt
import Derived.OwnWalk
import Derived.Laws.OwnMore
import Derived.Laws.AppendOwnNone
import Derived.Test.YtoipbocbgadjbaaFa
namespace Go.Proofs.Ytoipbocbgadjbaa
open Go.RowKit
set_option linter.unusedVariables false

theorem infoInt : (Try.prog.info? 3).map (fun i => (i.zero, i.size, i.bytes)) = some (some (.int .i64 0), 1, 8) := by kernel_rfl

/-- A list of numbers that the call has made. -/
def OwnsInts (base : Nat) (zs : List Int) (e : Ending) (w' : World) : Prop := ∃ sl, e = .returned sl ∧ w'.ownsRow base 3 1 sl zs.length (intsV zs)

theorem intsV_append (a b : List Int) : intsV (a ++ b) = intsV a ++ intsV b := by unfold intsV; rw [List.map_append]
theorem intsV_length (a : List Int) : (intsV a).length = a.length := by unfold intsV; rw [List.length_map]
theorem intsV_cells (zs : List Int) : ∀ u ∈ intsV zs, u.oneCell' = true := by
  intro u hu
  unfold intsV at hu
  obtain ⟨z, _, rfl⟩ := List.mem_map.1 hu
  rfl

theorem own_join1 {W : World} {b : Nat} {e : TypeId} {v : Value} {acc more : List Int} (h : W.ownsRow b e 1 v (acc.length + more.length) (intsV acc ++ intsV more)) : W.ownsRow b e 1 v (acc ++ more).length (intsV (acc ++ more)) := by
  rw [intsV_append, List.length_append]; exact h

theorem own_below1 {W W' : World} {base : Nat} {e : TypeId} {size n : Nat} {v : Value} {xs : List Value} (h : W.ownsRow base e size v n xs) (hg : Below W.heap.size W W') : W'.ownsRow base e size v n xs :=
  h.kept (below_grown hg) (by cases hv : v.ownBlock <;> simp)

theorem own_mono1 {W : World} {b c : Nat} {e : TypeId} {size n : Nat} {v : Value} {xs : List Value} (h : W.ownsRow c e size v n xs) (hbc : b ≤ c) : W.ownsRow b e size v n xs := by
  obtain ⟨h1, h2 | ⟨g, cap, cur, h3, h4, h5⟩⟩ := h
  · exact ⟨h1, .inl h2⟩
  · exact ⟨h1, .inr ⟨g, cap, cur, h3, Nat.le_trans hbc h4, h5⟩⟩

theorem add_off (b off j : Nat) : ((⟨b, off, none⟩ : Addr).add j) = ⟨b, off + j, none⟩ := by
  unfold Addr.add
  split
  · rename_i h; rw [h]; rfl
  · rfl

theorem ints_cells {W : World} {b off len : Nat} {zs : List Int} (h : IntsAt W (some ⟨b, off, none⟩) len zs) : ∀ j u, (intsV zs)[j]? = some u → W.cell? ((⟨b, off, none⟩ : Addr).add j) = some u := by
  intro j u hj
  unfold intsV at hj
  rw [List.getElem?_map] at hj
  obtain ⟨z, hz, rfl⟩ := Option.map_eq_some_iff.1 hj
  obtain ⟨h1, h0 | ⟨b', off', ha, hc⟩⟩ := h
  · have := (List.getElem?_eq_some_iff.1 hz).1; omega
  · simp at ha
    obtain ⟨rfl, rfl⟩ := ha
    rw [add_off]; exact hc j z hz

theorem cell_int_new (w : World) (v : Value) (t : TypeId) : ∀ j u, [v][j]? = some u → (w.alloc (.cells #[v] t)).cell? ((⟨w.heap.size, 0, none⟩ : Addr).add j) = some u := by
  intro j u hj
  match j, hj with
  | 0, hj => simp at hj; subst hj; simp [Addr.add]

set_option maxHeartbeats 1000000 in
theorem specFrameOf_c (a : Option Addr) (len cap : Nat) (zs : List Int) (hl : len ≤ 2097152) (W : World) (hN : IntsAt W a len zs) :
    Calls Try.prog 46 #[.slice a len cap] W fun e W' => OwnsInts W.heap.size (frameOf zs) e W' ∧ Below W.heap.size W W' := by
  obtain ⟨i0, hi, hz0, hz1, hz2⟩ := info_parts infoInt
  obtain ⟨p, hp⟩ : ∃ p, bodyOk zs = p := ⟨_, rfl⟩
  have HB := Lib.hid (show Calls Try.prog 39 #[.slice a len cap] W (fun e W' => e = .returned (.bool p) ∧ W' = W) by rw [← hp]; exact l4Body_c a len cap zs hl W hN)
  cases p with
  | false =>
    have hr := Lib.hid (show frameOf zs = [] by unfold frameOf; rw [hp]; rfl)
    clear hp hN
    go_enter Try.func46, Try.ntmps46
    go_wp2_with fail
    refine HB.out.mono ?_
    rintro e w' ⟨rfl, rfl⟩
    go_wp2
    refine bodyPost_ret (v := .slice (some ⟨w'.heap.size, 0, none⟩) 0 0) (by simp [results, Try.f46, go_sem]) rfl ⟨⟨_, rfl, ?_⟩, below_box _ _⟩
    rw [hr.out]
    exact World.ownsRow_lit (e := 3) (size := 1) w' #[] 0 (Nat.le_refl _) (by simp [maxLen]) rfl
  | true =>
    have hr := Lib.hid (show frameOf zs = frame zs by unfold frameOf; rw [hp]; rfl)
    have hb : zs.all byteOk = true := by unfold bodyOk at hp; simp only [Bool.and_eq_true] at hp; exact hp.1
    have hlz := bodyOk_len hp
    have hE := hN.1
    have HS := Lib.hid (fun W' (hw : Below W.heap.size W W') => l4Sum_c a len cap zs hl hb W' (hN.keep hw))
    obtain ⟨b, off, rfl⟩ : ∃ b off, a = some ⟨b, off, none⟩ := by
      obtain ⟨_, h0 | ⟨b, off, ha, _⟩⟩ := hN
      · omega
      · exact ⟨b, off, ha⟩
    have HN := Lib.hid hN
    have HE := Lib.hid hE
    have hl16 : (len : Int) ≤ 16 := by omega
    have HLZ := Lib.hid (And.intro hlz hl)
    clear hp hN hb hE hlz
    go_enter Try.func46, Try.ntmps46
    go_wp2_with fail
    refine HB.out.mono ?_
    rintro e w' ⟨rfl, rfl⟩
    go_upto_region 4 with (at_builtin; refine wpList_append_own _ rfl _ _ 28 rfl w'.heap.size 3 i0 (.int .i64 0) 1 8 Try.underlying28 hi hz0 hz1 hz2 rfl (by decide) _ _ _ rfl (World.ownsRow_lit (e := 3) (size := 1) w' #[.int .i64 len] 1 (Nat.le_refl _) (by simp [maxLen]) rfl) ⟨b, off, none⟩ len cap (intsV zs) rfl (by rw [intsV_length, HE.out]; omega) (fun j u h => cell_kept (below_box _ _) (ints_cells HN.out j u h)) (intsV_cells _) (by have := HE.out; have := HLZ.out; unfold maxLen; omega) (by have := HE.out; have := HLZ.out; omega) (by simp) ?_; intro v3 w3 ho3 hg3 hn3)
    have B3 : Below w'.heap.size w' w3 := (below_box w' _).grown hg3 (by simp) (fun k e => by cases e; exact Nat.le_refl _)
    have hown3 : w3.ownsRow w'.heap.size 3 1 v3 ((len : Int) :: zs).length (intsV ((len : Int) :: zs)) := by
      rw [List.length_cons, HE.out, show len + 1 = 1 + len by omega]; exact ho3
    have HB3 := Lib.hid B3
    have HO3 := Lib.hid hown3
    have HSB := Lib.hid (HS.out w3 B3)
    clear ho3 hg3 hn3 hown3 B3
    go_wp2_with fail
    refine HSB.out.mono ?_
    rintro e w4 ⟨rfl, hb4⟩
    have HO4 := Lib.hid (own_below1 HO3.out hb4)
    have HB4 := Lib.hid (below_next HB3.out hb4)
    have hlt0 := HO4.out.lt
    have hlen1 : ((len : Int) :: zs).length = len + 1 := by rw [List.length_cons, HE.out]
    have HL1 := Lib.hid hlen1
    have hfr := Lib.hid (show (len : Int) :: zs ++ [sumB zs] = frame zs by unfold frame; rw [HE.out]; rfl)
    clear hb4 hlen1
    go_wp2_with (at_builtin; refine wpList_append_own _ rfl _ _ 28 rfl w'.heap.size 3 i0 (.int .i64 0) 1 8 Try.underlying28 hi hz0 hz1 hz2 rfl (by decide) _ _ _ rfl (HO4.out.alloc _) ⟨w4.heap.size, 0, none⟩ 1 1 [.int .i64 (sumB zs)] rfl rfl (cell_int_new _ _ _) (fun x hx => by simp at hx; subst hx; rfl) (by have := HL1.out; have := HLZ.out; unfold maxLen; omega) (by have := HL1.out; have := HLZ.out; omega) (by have := HB4.out.size; simp; omega) ?_; intro v5 w5 ho5 hg5 hn5)
    have B5 : Below w'.heap.size w' w5 := (HB4.out.alloc HB4.out.size _).grown hg5 (by have := HB4.out.size; simp; omega) (fun g e => (hlt0 g e).1)
    refine bodyPost_ret (v := v5) (by simp [results, Try.f46, go_sem]) rfl ⟨⟨v5, rfl, ?_⟩, B5⟩
    rw [hr.out, ← hfr.out]
    exact own_join1 (more := [sumB zs]) ho5

end Go.Proofs.Ytoipbocbgadjbaa
