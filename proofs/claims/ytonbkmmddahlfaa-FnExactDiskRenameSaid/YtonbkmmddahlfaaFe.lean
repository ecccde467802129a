/-
  WALKS: laws.sameInts, laws.sameTable, at equal lists.
-/
import Derived.Deep.RegionHeld3
import Derived.Test.YtonbkmmddahlfaaFd
namespace Go.Proofs.Ytonbkmmddahlfaa
open Go.RowKit
set_option linter.unusedVariables false

def SameRel (len : Nat) (W : World) (i : Value) (wr : World) : Prop := ∃ n : Nat, i = .int .i64 n ∧ n ≤ len ∧ Hid (Below W.heap.size W wr)

theorem below_drewN1 {n : Nat} {W W' : World} (h : Below n W W') (k : Nat) : Below n W (W'.drewN k) := by
  have e := (drewN_cell W' k ⟨0, 0, none⟩).2.2
  exact ⟨h.os, h.tape, h.output, by rw [e]; exact h.size, fun j hj => by rw [e]; exact h.block j hj⟩

theorem tab_of_own {W : World} {base : Nat} {e : TypeId} {v : Value} {vs : List Value} {bs : List (List Int)} (h : W.ownsRow base e 1 v bs.length vs) (hi : Inner W base vs bs) :
    ∃ a cap, v = .slice a bs.length cap ∧ TabAt W a bs.length bs := by
  rcases h.2 with ⟨rfl, h0⟩ | ⟨g, cap, cur, rfl, h1, h2, h3, h4, h5, h6⟩
  · exact ⟨none, 0, by rw [h0], rfl, .inl h0⟩
  · refine ⟨some ⟨g, 0, none⟩, cap, rfl, rfl, .inr ⟨g, 0, rfl, fun i z hz => ?_⟩⟩
    have hlt := (List.getElem?_eq_some_iff.1 hz).1
    obtain ⟨u, hu⟩ : ∃ u, vs[i]? = some u := ⟨_, List.getElem?_eq_getElem (by have := hi.1; omega)⟩
    obtain ⟨ai, ci, rfl, hz2⟩ := ints_of_own (hi.2.1 i z u hz hu)
    refine ⟨ai, ci, ?_, hz2⟩
    rw [Nat.zero_add, h.cellAt i (by omega)]
    exact hu

end Go.Proofs.Ytonbkmmddahlfaa
