/-
  WALKS: spec.TreeGet.
-/
import Derived.Test.YtmlnakkfjecibaaGreatDoorTv
namespace Go.Proofs.YtmlnakkfjecibaaGreatDoor
open Go.RowKit
end Go.Proofs.YtmlnakkfjecibaaGreatDoor
