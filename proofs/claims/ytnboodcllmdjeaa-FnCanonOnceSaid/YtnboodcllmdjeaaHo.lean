/-
  LISTS OF COMMANDS of the call's own: a whole command written; two exchanged; the last one left out.
-/
import Derived.Test.YtnboodcllmdjeaaLc
import Derived.Test.YtnboodcllmdjeaaHa
namespace Go.Proofs.Ytnboodcllmdjeaa
open Go.RowKit
set_option linter.unusedVariables false

theorem flatC_set5 : ∀ (cs : List Cmd) (i : Nat) (c : Cmd), i < cs.length → (((((flatC cs).set (i * 5) (.string c.p)).set (i * 5 + 1) (.int .i64 c.fk)).set (i * 5 + 2) (.int .i64 c.fv)).set (i * 5 + 3) (.int .i64 c.tk)).set (i * 5 + 4) (.int .i64 c.tv) = flatC (cs.set i c)
  | [], i, c, h => by simp at h
  | m :: r, 0, c, h => rfl
  | m :: r, i + 1, c, h => by
    have ih := flatC_set5 r i c (by simpa using h)
    have e : ∀ (x : Cmd) (t : List Cmd), flatC (x :: t) = .string x.p :: .int .i64 x.fk :: .int .i64 x.fv :: .int .i64 x.tk :: .int .i64 x.tv :: flatC t := fun _ _ => rfl
    rw [List.set_cons_succ, e m r, e m (r.set i c), ← ih, show (i + 1) * 5 = i * 5 + 5 by omega, show i * 5 + 5 + 1 = (i * 5 + 1) + 5 by omega, show i * 5 + 5 + 2 = (i * 5 + 2) + 5 by omega, show i * 5 + 5 + 3 = (i * 5 + 3) + 5 by omega, show i * 5 + 5 + 4 = (i * 5 + 4) + 5 by omega]
    rfl

/-- Five cells written, from a place on. -/
def set5 (W : World) (g o : Nat) (c : Cmd) : World :=
  ((((W.setCell ⟨g, o, none⟩ (.string c.p)).setCell ⟨g, o + 1, none⟩ (.int .i64 c.fk)).setCell ⟨g, o + 2, none⟩ (.int .i64 c.fv)).setCell ⟨g, o + 3, none⟩ (.int .i64 c.tk)).setCell ⟨g, o + 4, none⟩ (.int .i64 c.tv)

theorem own_set5 {W : World} {base : Nat} {e : TypeId} {g n cap : Nat} {cs : List Cmd} {i : Nat} (h : W.ownsRow base e 5 (.slice (some ⟨g, 0, none⟩) n cap) n (flatC cs)) (hi : i < cs.length) (c : Cmd) :
    (set5 W g (i * 5) c).ownsRow base e 5 (.slice (some ⟨g, 0, none⟩) n cap) n (flatC (cs.set i c)) := by
  have := (((((h.stored (i * 5) (.string c.p)).1.stored (i * 5 + 1) (.int .i64 c.fk)).1.stored (i * 5 + 2) (.int .i64 c.fv)).1.stored (i * 5 + 3) (.int .i64 c.tk)).1.stored (i * 5 + 4) (.int .i64 c.tv)).1
  rw [flatC_set5 cs i c hi] at this
  exact this

theorem grown_set5 (W : World) (g o : Nat) (c : Cmd) : W.grownBy (set5 W g o c) (some g) := by
  unfold set5
  have a : ∀ (X Y : World) (p : Nat) (v : Value), X.grownBy Y (some g) → X.grownBy (Y.setCell ⟨g, p, none⟩ v) (some g) := fun X Y p v h =>
    ⟨h.os, h.tape, h.output, by simpa [World.setCell] using h.size, fun k hk hne => (Below.heap_setCell _ _ _ _ (fun e => hne (by rw [e]))).trans (h.block k hk hne)⟩
  exact a _ _ _ _ (a _ _ _ _ (a _ _ _ _ (a _ _ _ _ (a _ _ _ _ ⟨rfl, rfl, rfl, Nat.le_refl _, fun _ _ _ => rfl⟩))))

/-- Two exchanged. -/
theorem own_swap5 {W : World} {base : Nat} {e : TypeId} {g n cap : Nat} {cs : List Cmd} {i j : Nat} (h : W.ownsRow base e 5 (.slice (some ⟨g, 0, none⟩) n cap) n (flatC cs)) (hi : i < cs.length) (hj : j < cs.length) :
    (set5 (set5 W g (i * 5) (atK cs j)) g (j * 5) (atK cs i)).ownsRow base e 5 (.slice (some ⟨g, 0, none⟩) n cap) n (flatC (swapK cs i j)) :=
  own_set5 (own_set5 h hi (atK cs j)) (by simpa using hj) (atK cs i)

theorem swapK_comm {cs : List Cmd} {i j : Nat} (hi : i < cs.length) (hj : j < cs.length) : swapK cs j i = swapK cs i j := by
  refine List.ext_getElem? (fun k => ?_)
  by_cases hk : k < cs.length
  · rw [atK_get (by rw [swapK_length]; exact hk), atK_get (by rw [swapK_length]; exact hk), atK_swap hj hi, atK_swap hi hj]
    congr 1
    by_cases h1 : k = i <;> by_cases h2 : k = j
    · subst h1; subst h2; rfl
    · rw [if_pos h1, if_neg h2, if_pos h1]
    · rw [if_neg h1, if_pos h2, if_pos h2]
    · rw [if_neg h1, if_neg h2, if_neg h2, if_neg h1]
  · rw [List.getElem?_eq_none (by rw [swapK_length]; omega), List.getElem?_eq_none (by rw [swapK_length]; omega)]

theorem flatC_take5 (cs : List Cmd) (k : Nat) : (flatC cs).take (k * 5) = flatC (cs.take k) := by
  induction cs generalizing k with
  | nil => simp [flatC]
  | cons c r ih =>
    cases k with
    | zero => rfl
    | succ k =>
      have e : ∀ (x : Cmd) (t : List Cmd), flatC (x :: t) = .string x.p :: .int .i64 x.fk :: .int .i64 x.fv :: .int .i64 x.tk :: .int .i64 x.tv :: flatC t := fun _ _ => rfl
      rw [List.take_succ_cons, e, e, show (k + 1) * 5 = k * 5 + 5 by omega, ← ih k]
      rfl

/-- The first commands of a list of the call's own. -/
theorem own_take5 {W : World} {base : Nat} {e : TypeId} {g n cap : Nat} {cs : List Cmd} (h : W.ownsRow base e 5 (.slice (some ⟨g, 0, none⟩) n cap) n (flatC cs)) (hn : n = cs.length) (k : Nat) (hk : k ≤ n) : W.ownsRow base e 5 (.slice (some ⟨g, 0, none⟩) k cap) (cs.take k).length (flatC (cs.take k)) := by
  have hl : (cs.take k).length = k := by rw [List.length_take]; omega
  rw [hl]
  obtain ⟨h1, h2⟩ := h
  refine ⟨by rw [flatC_length, hl], .inr ?_⟩
  rcases h2 with ⟨h3, _⟩ | ⟨g', cap', cur, h3, h4, h5, h6, h7, h8, h9⟩
  · cases h3
  · cases h3
    refine ⟨g, cap, cur, rfl, h4, h5, by omega, h7, h8, ?_⟩
    rw [← flatC_take5, ← h9, List.take_take]
    congr 1
    omega

end Go.Proofs.Ytnboodcllmdjeaa
