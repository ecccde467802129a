/-
  WALKS: spec.l91Twist: a text that is changed in a third of all cases.
-/
import Derived.Laws.Concat
import Derived.Deep.RegionWith
import Derived.Test.YtnmpbocnbcokeaaRo
namespace Go.Proofs.Ytnmpbocnbcokeaa
open Go.RowKit
set_option linter.unusedVariables false

/-- A text of modest length; the reader some places on. -/
def TwistPost (N0 B p m : Nat) (W : World) (e : Ending) (W' : World) : Prop :=
  ∃ (t : ByteArray) (q : Nat), e = .returned (.string t) ∧ t.size ≤ m ∧ q ≤ p + 4 ∧ RdAt N0 W' B q ∧ W.grownBy W' (some B)

theorem twist_facts (s : ByteArray) (k t : Nat) (hs : s.size ≤ 20000) (hk : (k : Int) < s.size) (ht : (t : Int) < 2) :
    IntKind.i64.wrap ((k : Int) + t) = ((k + t : Nat) : Int) ∧ ((k + t : Nat) : Int) ≤ s.size ∧ (s.extract (k + t) s.size).size ≤ 20000 := by
  refine ⟨?_, by omega, ?_⟩
  · rw [IntWalk.i64_in _ (by omega)]; omega
  · rw [ByteArray.size_extract]; omega

theorem twist_size (s x : ByteArray) (k t : Nat) (hx : x.size ≤ 1) (hk : (k : Int) < s.size) : (s.extract 0 k ++ x ++ s.extract (k + t) s.size).size ≤ s.size + 1 := by
  rw [ByteArray.size_append, ByteArray.size_append, ByteArray.size_extract, ByteArray.size_extract]; omega

theorem grownBy_drew (W : World) (row : Option Nat) : W.grownBy W.drew row := ⟨rfl, rfl, rfl, Nat.le_refl _, fun _ _ _ => rfl⟩

end Go.Proofs.Ytnmpbocnbcokeaa
