/-
  Texts of this proof, one behind the other: Qe, Cx.
-/
import Derived.Laws.Cover1
import Derived.Laws.StructEq
import Derived.Deep.RegionHeld3
import Derived.Deep.Cut
import Derived.StillTailTactics
import Derived.Test.YtnboodcllmdjeaaGreatCd
import Derived.Test.YtnboodcllmdjeaaGreatCm
import Derived.Test.YtnboodcllmdjeaaGreatTt
import Derived.Test.YtnboodcllmdjeaaGreatSn
import Derived.Test.YtnboodcllmdjeaaGreatCv
/-
  Two contents held against each other.
-/
namespace Go.Proofs.YtnboodcllmdjeaaGreat
open Go.RowKit

theorem conEqQ (k v k' v' : Int) (w : World) : (binOp .eql 32 (.agg #[.int .i64 k, .int .i64 v]) (.agg #[.int .i64 k', .int .i64 v'])).run Tryz.prog w = .ok (.bool (k == k' && v == v')) w := by
  by_cases h : k = k'
  · subst h
    by_cases h2 : v = v'
    · subst h2
      simp [binOp, go_sem, Op.equal, Op.maxDepth]
    · simp [binOp, go_sem, Op.equal, Op.maxDepth, h2]
  · have : (k == k') = false := beq_eq_false_iff_ne.2 h
    simp [binOp, go_sem, Op.equal, Op.maxDepth, this]

theorem conNeQ (k v k' v' : Int) (w : World) : (binOp .neq 32 (.agg #[.int .i64 k, .int .i64 v]) (.agg #[.int .i64 k', .int .i64 v'])).run Tryz.prog w = .ok (.bool (!(k == k' && v == v'))) w := by
  by_cases h : k = k'
  · subst h
    by_cases h2 : v = v'
    · subst h2
      simp [binOp, go_sem, Op.equal, Op.maxDepth]
    · simp [binOp, go_sem, Op.equal, Op.maxDepth, h2]
  · have : (k == k') = false := beq_eq_false_iff_ne.2 h
    simp [binOp, go_sem, Op.equal, Op.maxDepth, this]

end Go.Proofs.YtnboodcllmdjeaaGreat

/-
  WALKS: commands of the model: spec.CommandValid.
-/
namespace Go.Proofs.YtnboodcllmdjeaaGreat
open Go.RowKit
set_option linter.unusedVariables false

def cmdV (c : Cmd) : Value := .agg #[.string c.p, .int .i64 c.fk, .int .i64 c.fv, .int .i64 c.tk, .int .i64 c.tv]

/-- What a call leaves that ends in a command. -/
def CmdPost (c : Cmd) (W : World) (e : Ending) (w' : World) : Prop := e = .returned (cmdV c) ∧ Below W.heap.size W w'

theorem valid_parts {c : Cmd} {d b1 b2 dd : Bool} (hd : decide (1 ≤ depB c.p) = d) (h1 : validB c.fk c.fv = b1) (h2 : validB c.tk c.tv = b2) (h3 : (!sameFT c) = dd) : validC c = (d && b1 && b2 && dd) := by
  unfold validC
  rw [hd, h1, h2, h3]

theorem keepCmd {W0 w1 w2 : World} {b : Nat} {p : ByteArray} {fk fv tk tv : Int} (h : w1.cell? ⟨b, 0, none⟩ = some (.string p) ∧ w1.cell? ⟨b, 1, none⟩ = some (.int .i64 fk) ∧ w1.cell? ⟨b, 2, none⟩ = some (.int .i64 fv) ∧ w1.cell? ⟨b, 3, none⟩ = some (.int .i64 tk) ∧ w1.cell? ⟨b, 4, none⟩ = some (.int .i64 tv) ∧ Below W0.heap.size W0 w1) (hb : Below w1.heap.size w1 w2) :
    w2.cell? ⟨b, 0, none⟩ = some (.string p) ∧ w2.cell? ⟨b, 1, none⟩ = some (.int .i64 fk) ∧ w2.cell? ⟨b, 2, none⟩ = some (.int .i64 fv) ∧ w2.cell? ⟨b, 3, none⟩ = some (.int .i64 tk) ∧ w2.cell? ⟨b, 4, none⟩ = some (.int .i64 tv) ∧ Below W0.heap.size W0 w2 :=
  ⟨cell_kept hb h.1, cell_kept hb h.2.1, cell_kept hb h.2.2.1, cell_kept hb h.2.2.2.1, cell_kept hb h.2.2.2.2.1, below_next h.2.2.2.2.2 hb⟩

end Go.Proofs.YtnboodcllmdjeaaGreat
