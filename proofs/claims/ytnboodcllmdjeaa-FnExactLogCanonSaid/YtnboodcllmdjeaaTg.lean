/-
  WALKS: spec.TreeGet.
-/
import Derived.Test.YtnboodcllmdjeaaTv
namespace Go.Proofs.Ytnboodcllmdjeaa
open Go.RowKit
end Go.Proofs.Ytnboodcllmdjeaa
