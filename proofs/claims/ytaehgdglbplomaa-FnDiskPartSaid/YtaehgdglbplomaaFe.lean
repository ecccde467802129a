/-
  WALKS: laws.sameInts, laws.sameTable, at equal lists.
-/
import Derived.Deep.RegionHeld3
import Derived.Test.YtaehgdglbplomaaFd
namespace Go.Proofs.Ytaehgdglbplomaa
open Go.RowKit
set_option linter.unusedVariables false

def SameRel (len : Nat) (W : World) (i : Value) (wr : World) : Prop := ∃ n : Nat, i = .int .i64 n ∧ n ≤ len ∧ Hid (Below W.heap.size W wr)

theorem below_drewN1 {n : Nat} {W W' : World} (h : Below n W W') (k : Nat) : Below n W (W'.drewN k) := by
  have e := (drewN_cell W' k ⟨0, 0, none⟩).2.2
  exact ⟨h.os, h.tape, h.output, by rw [e]; exact h.size, fun j hj => by rw [e]; exact h.block j hj⟩

set_option maxHeartbeats 1000000 in
theorem sameInts_c (a1 a2 : Option Addr) (len c1 c2 : Nat) (zs : List Int) (hl : len ≤ 2097152) (W : World) (h1 : IntsAt W a1 len zs) (h2 : IntsAt W a2 len zs) :
    Calls Try.prog 23 #[.slice a1 len c1, .slice a2 len c2] W (BoolPost true W) := by
  have H1 := Lib.hid h1
  have H2 := Lib.hid h2
  clear h1 h2
  go_enter Try.func23, Try.ntmps23
  go_wp2
  go_loopw [5] (fun i wr => SameRel len W i wr) (fun i _ => len - (intOf i).toNat)
  case atStart => exact ⟨0, rfl, by omega, Below.refl _ _⟩
  case round =>
    obtain ⟨i, rfl, hi, HB⟩ := hrel
    by_cases hlt : i < len
    · obtain ⟨b, off, n, rfl, hn, x0⟩ := (H1.out.keep HB.out).at hlt
      obtain ⟨b', off', n', rfl, hn', y0⟩ := (H2.out.keep HB.out).at hlt
      obtain rfl : n = n' := Option.some.inj (hn.symm.trans hn')
      have hlt' : (i : Int) < len := by omega
      have hi0 : (0 : Int) ≤ i := by omega
      have HLT := Lib.hid hlt
      clear hi hlt hn hn'
      go_wp2
      go_quiet (fail)
      have HB2 := Lib.hid (below_drewN1 HB.out nq)
      clear x0 y0
      go_wp2
      go_roundw
      case rel => exact ⟨i + 1, by go_num, by have := HLT.out; omega, HB2⟩
      case measure => have := HLT.out; simp [intOf]; omega
    · have hge : (len : Int) ≤ i := by omega
      clear hi hlt
      go_wp2
      go_ret
      exact ⟨rfl, HB.out⟩

theorem tab_of_own {W : World} {base : Nat} {e : TypeId} {v : Value} {vs : List Value} {bs : List (List Int)} (h : W.ownsRow base e 1 v bs.length vs) (hi : Inner W base vs bs) :
    ∃ a cap, v = .slice a bs.length cap ∧ TabAt W a bs.length bs := by
  rcases h.2 with ⟨rfl, h0⟩ | ⟨g, cap, cur, rfl, h1, h2, h3, h4, h5, h6⟩
  · exact ⟨none, 0, by rw [h0], rfl, .inl h0⟩
  · refine ⟨some ⟨g, 0, none⟩, cap, rfl, rfl, .inr ⟨g, 0, rfl, fun i z hz => ?_⟩⟩
    have hlt := (List.getElem?_eq_some_iff.1 hz).1
    obtain ⟨u, hu⟩ : ∃ u, vs[i]? = some u := ⟨_, List.getElem?_eq_getElem (by have := hi.1; omega)⟩
    obtain ⟨ai, ci, rfl, hz2⟩ := ints_of_own (hi.2.1 i z u hz hu)
    refine ⟨ai, ci, ?_, hz2⟩
    rw [Nat.zero_add, h.cellAt i (by omega)]
    exact hu

end Go.Proofs.Ytaehgdglbplomaa
