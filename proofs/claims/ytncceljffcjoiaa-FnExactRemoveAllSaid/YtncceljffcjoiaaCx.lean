/-
  WALKS: commands of the model: spec.CommandValid.
-/
import Derived.Test.YtncceljffcjoiaaCm
import Derived.Test.YtncceljffcjoiaaTt
import Derived.Test.YtncceljffcjoiaaQe
import Derived.Test.YtncceljffcjoiaaSn
import Derived.Test.YtncceljffcjoiaaCv
import Derived.Deep.RegionHeld3
import Derived.Deep.Cut
import Derived.StillTailTactics
namespace Go.Proofs.Ytncceljffcjoiaa
open Go.RowKit
set_option linter.unusedVariables false

def cmdV (c : Cmd) : Value := .agg #[.string c.p, .int .i64 c.fk, .int .i64 c.fv, .int .i64 c.tk, .int .i64 c.tv]

/-- What a call leaves that ends in a command. -/
def CmdPost (c : Cmd) (W : World) (e : Ending) (w' : World) : Prop := e = .returned (cmdV c) ∧ Below W.heap.size W w'

theorem valid_parts {c : Cmd} {d b1 b2 dd : Bool} (hd : decide (1 ≤ depB c.p) = d) (h1 : validB c.fk c.fv = b1) (h2 : validB c.tk c.tv = b2) (h3 : (!sameFT c) = dd) : validC c = (d && b1 && b2 && dd) := by
  unfold validC
  rw [hd, h1, h2, h3]

theorem keepCmd {W0 w1 w2 : World} {b : Nat} {p : ByteArray} {fk fv tk tv : Int} (h : w1.cell? ⟨b, 0, none⟩ = some (.string p) ∧ w1.cell? ⟨b, 1, none⟩ = some (.int .i64 fk) ∧ w1.cell? ⟨b, 2, none⟩ = some (.int .i64 fv) ∧ w1.cell? ⟨b, 3, none⟩ = some (.int .i64 tk) ∧ w1.cell? ⟨b, 4, none⟩ = some (.int .i64 tv) ∧ Below W0.heap.size W0 w1) (hb : Below w1.heap.size w1 w2) :
    w2.cell? ⟨b, 0, none⟩ = some (.string p) ∧ w2.cell? ⟨b, 1, none⟩ = some (.int .i64 fk) ∧ w2.cell? ⟨b, 2, none⟩ = some (.int .i64 fv) ∧ w2.cell? ⟨b, 3, none⟩ = some (.int .i64 tk) ∧ w2.cell? ⟨b, 4, none⟩ = some (.int .i64 tv) ∧ Below W0.heap.size W0 w2 :=
  ⟨cell_kept hb h.1, cell_kept hb h.2.1, cell_kept hb h.2.2.1, cell_kept hb h.2.2.2.1, cell_kept hb h.2.2.2.2.1, below_next h.2.2.2.2.2 hb⟩

end Go.Proofs.Ytncceljffcjoiaa
