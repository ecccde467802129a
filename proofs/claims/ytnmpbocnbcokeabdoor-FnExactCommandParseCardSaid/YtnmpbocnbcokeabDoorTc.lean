/-
  WALKS: laws.toContent.
-/
import Derived.Test.YtnmpbocnbcokeabDoorCv
namespace Go.Proofs.YtnmpbocnbcokeabDoor
open Go.RowKit

end Go.Proofs.YtnmpbocnbcokeabDoor
