/-
  WALKS: spec.TreeGet.
-/
import Derived.Test.YtpjoahddbdmbpaaGreatDoorTv
namespace Go.Proofs.YtpjoahddbdmbpaaGreatDoor
open Go.RowKit
end Go.Proofs.YtpjoahddbdmbpaaGreatDoor
