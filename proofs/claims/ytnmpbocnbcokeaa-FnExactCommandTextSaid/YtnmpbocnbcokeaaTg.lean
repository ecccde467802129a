/-
  WALKS: spec.TreeGet.
-/
import Derived.Test.YtnmpbocnbcokeaaTv
namespace Go.Proofs.Ytnmpbocnbcokeaa
open Go.RowKit
end Go.Proofs.Ytnmpbocnbcokeaa
