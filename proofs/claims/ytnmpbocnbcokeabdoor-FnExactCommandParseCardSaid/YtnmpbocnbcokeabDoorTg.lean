/-
  WALKS: spec.TreeGet.
-/
import Derived.Test.YtnmpbocnbcokeabDoorTv
namespace Go.Proofs.YtnmpbocnbcokeabDoor
open Go.RowKit
end Go.Proofs.YtnmpbocnbcokeabDoor
