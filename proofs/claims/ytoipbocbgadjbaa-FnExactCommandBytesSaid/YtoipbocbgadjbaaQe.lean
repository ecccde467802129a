/-
  Two contents held against each other.
-/
import Derived.Laws.Cover1
import Derived.Laws.StructEq
import Derived.Test.YtoipbocbgadjbaaCd
namespace Go.Proofs.Ytoipbocbgadjbaa
open Go.RowKit

theorem conEqQ (k v k' v' : Int) (w : World) : (binOp .eql 24 (.agg #[.int .i64 k, .int .i64 v]) (.agg #[.int .i64 k', .int .i64 v'])).run Try.prog w = .ok (.bool (k == k' && v == v')) w := by
  by_cases h : k = k'
  · subst h
    by_cases h2 : v = v'
    · subst h2
      simp [binOp, go_sem, Op.equal, Op.maxDepth]
    · simp [binOp, go_sem, Op.equal, Op.maxDepth, h2]
  · have : (k == k') = false := beq_eq_false_iff_ne.2 h
    simp [binOp, go_sem, Op.equal, Op.maxDepth, this]

theorem conNeQ (k v k' v' : Int) (w : World) : (binOp .neq 24 (.agg #[.int .i64 k, .int .i64 v]) (.agg #[.int .i64 k', .int .i64 v'])).run Try.prog w = .ok (.bool (!(k == k' && v == v'))) w := by
  by_cases h : k = k'
  · subst h
    by_cases h2 : v = v'
    · subst h2
      simp [binOp, go_sem, Op.equal, Op.maxDepth]
    · simp [binOp, go_sem, Op.equal, Op.maxDepth, h2]
  · have : (k == k') = false := beq_eq_false_iff_ne.2 h
    simp [binOp, go_sem, Op.equal, Op.maxDepth, this]

end Go.Proofs.Ytoipbocbgadjbaa
