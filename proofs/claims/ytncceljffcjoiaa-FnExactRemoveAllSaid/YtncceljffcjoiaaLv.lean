/-
  WALKS: logs of the model: spec.LogValid, LogApply, LogFits, LogUndo.
-/
import Derived.Test.YtncceljffcjoiaaLg
import Derived.Test.YtncceljffcjoiaaLc
import Derived.Test.YtncceljffcjoiaaCa
namespace Go.Proofs.Ytncceljffcjoiaa
open Go.RowKit
set_option linter.unusedVariables false

def ValidRel (cs : List Cmd) (len : Nat) (W : World) (i : Value) (wr : World) : Prop :=
  ∃ n : Nat, i = .int .i64 n ∧ n ≤ len ∧ Hid (∀ (j : Nat) (c : Cmd), j < n → cs[j]? = some c → validC c = true) ∧ Hid (Below W.heap.size W wr)

/-- What LogApply tells. -/
def LogPost (r : List Nd × Int) (W : World) (e : Ending) (w' : World) : Prop :=
  ∃ sl, e = .returned (.tuple #[sl, .int .i64 r.2]) ∧ w'.ownsRow W.heap.size 62 3 sl r.1.length (flatN r.1) ∧ Below W.heap.size W w'

theorem log_end {r : List Nd × Int} {W w' : World} {sl : Value} {out : List Nd} {n : Int} (h : r = (out, n)) (ho : w'.ownsRow W.heap.size 62 3 sl out.length (flatN out)) (hB : Below W.heap.size W w') : LogPost r W (.returned (.tuple #[sl, .int .i64 n])) w' := by
  subst h
  exact ⟨sl, rfl, ho, hB⟩

def ApplyRel (ns : List Nd) (cs : List Cmd) (len : Nat) (W : World) (o i : Value) (wr : World) : Prop :=
  ∃ (n : Nat) (acc : List Nd), i = .int .i64 n ∧ n ≤ len ∧ wr.ownsRow W.heap.size 62 3 o acc.length (flatN acc) ∧ Hid (acc.length ≤ 10) ∧ Hid (Short 2097152 acc) ∧ Hid (runL ns (cs.take n) = (acc, n)) ∧ Hid (Below W.heap.size W wr)

theorem apply_short2 {ns out : List Nd} {c : Cmd} {m : Nat} (h : applyC ns c = (out, true)) (hs : Short m ns) (hp : c.p.size ≤ m) : Short m out ∧ out.length ≤ 10 := by
  obtain ⟨_, _, _, h4⟩ := applyC_some h
  obtain ⟨_, _, _, h5, h6⟩ := treePut_some h4
  refine ⟨?_, ((validT_iff out).1 h6).2.2⟩
  rw [h5]
  exact short_put hs hp

end Go.Proofs.Ytncceljffcjoiaa
