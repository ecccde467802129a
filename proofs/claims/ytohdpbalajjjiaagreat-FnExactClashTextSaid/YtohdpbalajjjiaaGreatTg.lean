/-
  WALKS: spec.TreeGet.
-/
import Derived.Test.YtohdpbalajjjiaaGreatTv
namespace Go.Proofs.YtohdpbalajjjiaaGreat
open Go.RowKit
end Go.Proofs.YtohdpbalajjjiaaGreat
