/-
  WALKS: the draws of chapter 31.
-/
import Derived.Test.YtonbkmmddahlfaaJd
namespace Go.Proofs.Ytonbkmmddahlfaa
open Go.RowKit
set_option linter.unusedVariables false

theorem jv_first : (0 : Nat) ≤ 0 := Nat.le_refl 0

/-- A drawn disk, of the call's own. -/
def DrawnD (W W' : World) (sl : Value) (bs : List Bl) : Prop := ∃ vs, DiskAt W' W.heap.size sl bs vs ∧ bs.length ≤ 4 ∧ SmallB bs ∧ Below W.heap.size W W'
def DPost (W : World) (e : Ending) (W' : World) : Prop := ∃ sl bs, e = .returned sl ∧ DrawnD W W' sl bs
def DOnePost (W : World) (e : Ending) (W' : World) : Prop := ∃ sl bs n, e = .returned (.tuple #[sl, .int .i64 n]) ∧ (0 ≤ n ∧ n ≤ 4) ∧ DrawnD W W' sl bs
def DTwoPost (W : World) (e : Ending) (W' : World) : Prop := ∃ sl bs n m, e = .returned (.tuple #[sl, .int .i64 n, .int .i64 m]) ∧ (0 ≤ n ∧ n ≤ 4) ∧ (0 ≤ m ∧ m ≤ 4) ∧ DrawnD W W' sl bs
def OwnZ (k : Nat) (W W' : World) (s : Value) (zs : List Int) : Prop := W'.ownsRow W.heap.size 3 1 s zs.length (intsV zs) ∧ zs.length ≤ k ∧ ∀ z ∈ zs, -1 ≤ z ∧ z ≤ 401
def DWritePost (W : World) (e : Ending) (W' : World) : Prop := ∃ sl bs n s zs, e = .returned (.tuple #[sl, .int .i64 n, s]) ∧ (0 ≤ n ∧ n ≤ 4) ∧ OwnZ 200 W W' s zs ∧ DrawnD W W' sl bs
def DKeepPost (W : World) (e : Ending) (W' : World) : Prop := ∃ sl bs s zs, e = .returned (.tuple #[sl, s]) ∧ OwnZ 4 W W' s zs ∧ DrawnD W W' sl bs

theorem drawn_of {W W1 W2 W3 : World} {B : Nat} {sl : Value} {bs : List Bl} {vs : List Value} (hd : DiskAt W2 W1.heap.size sl bs vs) (hl : bs.length ≤ 4) (hs : SmallB bs) (hB1 : W.heap.size = B) (hB : Below W.heap.size W W1) (hlt : B < W1.heap.size) (hg : W1.grownBy W2 (some B)) (hg3 : W2.grownBy W3 (some B)) : DrawnD W W3 sl bs := by
  subst hB1
  exact ⟨vs, (hd.reader hlt hg3).down hB.size, hl, hs, below_of_reader hB (grownBy_trans hg hg3)⟩

end Go.Proofs.Ytonbkmmddahlfaa
