/-
  WALKS: spec.TreeGet.
-/
import Derived.Test.YtnboodcllmdjeaaGreatTv
namespace Go.Proofs.YtnboodcllmdjeaaGreat
open Go.RowKit
end Go.Proofs.YtnboodcllmdjeaaGreat
