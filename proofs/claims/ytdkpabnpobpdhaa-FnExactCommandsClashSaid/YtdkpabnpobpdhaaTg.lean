/-
  WALKS: spec.TreeGet.
-/
import Derived.Test.YtdkpabnpobpdhaaTv
namespace Go.Proofs.Ytdkpabnpobpdhaa
open Go.RowKit
end Go.Proofs.Ytdkpabnpobpdhaa
