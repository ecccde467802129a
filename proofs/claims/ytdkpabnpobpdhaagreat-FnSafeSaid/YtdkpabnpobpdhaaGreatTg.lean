/-
  WALKS: spec.TreeGet.
-/
import Derived.Test.YtdkpabnpobpdhaaGreatTv
namespace Go.Proofs.YtdkpabnpobpdhaaGreat
open Go.RowKit
end Go.Proofs.YtdkpabnpobpdhaaGreat
