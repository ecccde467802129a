/-
  WALKS: spec.TreeGet.
-/
import Derived.Test.YtnboodcllmdjeaaGreatDoorTv
namespace Go.Proofs.YtnboodcllmdjeaaGreatDoor
open Go.RowKit
end Go.Proofs.YtnboodcllmdjeaaGreatDoor
