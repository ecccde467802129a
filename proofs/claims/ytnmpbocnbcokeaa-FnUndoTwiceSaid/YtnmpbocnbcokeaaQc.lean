/-
  A command held against itself.
-/
import Derived.Laws.Cover1
import Derived.Laws.StructEq
import Derived.Test.YtnmpbocnbcokeaaCx
namespace Go.Proofs.Ytnmpbocnbcokeaa
open Go.RowKit

theorem cmdEqS (p : ByteArray) (fk fv tk tv : Int) (w : World) : (binOp .eql 26 (.agg #[.string p, .int .i64 fk, .int .i64 fv, .int .i64 tk, .int .i64 tv]) (.agg #[.string p, .int .i64 fk, .int .i64 fv, .int .i64 tk, .int .i64 tv])).run Try.prog w = .ok (.bool true) w := by
  simp [binOp, go_sem, Op.equal, Op.maxDepth]

theorem cmdNeS (p : ByteArray) (fk fv tk tv : Int) (w : World) : (binOp .neq 26 (.agg #[.string p, .int .i64 fk, .int .i64 fv, .int .i64 tk, .int .i64 tv]) (.agg #[.string p, .int .i64 fk, .int .i64 fv, .int .i64 tk, .int .i64 tv])).run Try.prog w = .ok (.bool false) w := by
  simp [binOp, go_sem, Op.equal, Op.maxDepth]

end Go.Proofs.Ytnmpbocnbcokeaa
