/-
  LAWS OF CHAPTER 31: lists that are drawn beside the disk; parts of lists.
-/
import Derived.Test.YtaehgdglbplomaaJy
namespace Go.Proofs.Ytaehgdglbplomaa
open Go.RowKit
set_option linter.unusedVariables false

theorem jx_first : (0 : Nat) ≤ 0 := Nat.le_refl 0

theorem OwnZ.at {k : Nat} {W W' : World} {s : Value} {zs : List Int} (h : OwnZ k W W' s zs) : ∃ a l c, s = .slice a l c ∧ LsAt W' (.slice a l c) zs ∧ zs.length ≤ k := by
  have hl := ls_of_own h.1
  obtain ⟨a, c, rfl, -⟩ := hl.out
  exact ⟨a, zs.length, c, rfl, hl, h.2.1⟩
theorem told_getD {α : Type} {r : Option (List α)} {out : List α} {b : Bool} (h : (b = true ∧ r = some out) ∨ (b = false ∧ r = none ∧ out = [])) : r.getD [] = out := by
  rcases h with ⟨-, rfl⟩ | ⟨-, rfl, rfl⟩ <;> rfl
theorem LsAt.first {W : World} {a : Option Addr} {len c : Nat} {zs : List Int} (h : LsAt W (.slice a len c) zs) {k : Nat} (hk : k ≤ len) : LsAt W (.slice a k c) (zs.take k) := by
  obtain ⟨rfl, -⟩ := h.ints
  exact h.take hk

theorem rem_natX (n m : Nat) (hm : 0 < m) : ((n : Int)).tmod m = ((n % m : Nat) : Int) := by
  rw [Int.tmod_eq_emod_of_nonneg (by omega)]; rfl
theorem OwnZ.shape {k : Nat} {W W' : World} {a : Option Addr} {l c : Nat} {zs : List Int} (h : OwnZ k W W' (.slice a l c) zs) : (a = none ∧ l = 0 ∧ c = 0) ∨ ∃ g, a = some ⟨g, 0, none⟩ := by
  rcases h.1.2 with ⟨he, h0⟩ | ⟨g, cap, cur, he, -⟩
  · cases he; exact .inl ⟨rfl, rfl, rfl⟩
  · cases he; exact .inr ⟨g, rfl⟩
/-- What is behind a number of elements. -/
theorem LsAt.rest {W : World} {g len c : Nat} {zs : List Int} (h : LsAt W (.slice (some ⟨g, 0, none⟩) len c) zs) {k : Nat} (hk : k ≤ len) : LsAt W (.slice (some ⟨g, k, none⟩) (len - k) (c - k)) (zs.drop k) := by
  obtain ⟨a', c', he, h2, h3, h4, h5⟩ := h
  cases he
  have hl : (zs.drop k).length = zs.length - k := List.length_drop
  refine ⟨some ⟨g, k, none⟩, c - k, by rw [hl], by rw [hl]; omega, by omega, by simp, ?_⟩
  rcases h5 with h0 | ⟨b, off, cs, ha, hb, hcs, hz⟩
  · exact .inl (by rw [hl]; omega)
  · cases ha
    refine .inr ⟨g, k, cs, rfl, hb, hcs, fun i z hi => ?_⟩
    rw [List.getElem?_drop] at hi
    have := hz (k + i) z hi
    rwa [Nat.zero_add] at this
theorem ls_nothing {W : World} {a : Option Addr} {c : Nat} (hc : c ≤ maxLen) (ha : a = none → c = 0) : LsAt W (.slice a 0 c) [] := ⟨a, c, rfl, Nat.zero_le _, hc, ha, .inl rfl⟩

end Go.Proofs.Ytaehgdglbplomaa
