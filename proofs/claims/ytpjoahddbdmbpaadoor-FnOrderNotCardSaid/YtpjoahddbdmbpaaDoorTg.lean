/-
  WALKS: spec.TreeGet.
-/
import Derived.Test.YtpjoahddbdmbpaaDoorTv
namespace Go.Proofs.YtpjoahddbdmbpaaDoor
open Go.RowKit
end Go.Proofs.YtpjoahddbdmbpaaDoor
