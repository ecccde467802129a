/-
  WALKS: spec.TreeGet.
-/
import Derived.Test.YtncceljffcjoiaaGreatDoorTv
namespace Go.Proofs.YtncceljffcjoiaaGreatDoor
open Go.RowKit
end Go.Proofs.YtncceljffcjoiaaGreatDoor
