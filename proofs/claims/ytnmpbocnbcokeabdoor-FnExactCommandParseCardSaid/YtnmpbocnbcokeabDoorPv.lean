/-
  WALKS: spec.l1Parent, spec.l1Under.
-/
import Derived.Test.YtnmpbocnbcokeabDoorPa
import Derived.Test.YtnmpbocnbcokeabDoorSa
namespace Go.Proofs.YtnmpbocnbcokeabDoor
open Go.RowKit

end Go.Proofs.YtnmpbocnbcokeabDoor
