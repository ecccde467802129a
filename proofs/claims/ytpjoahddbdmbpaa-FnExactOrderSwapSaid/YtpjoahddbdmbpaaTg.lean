/-
  WALKS: spec.TreeGet.
-/
import Derived.Test.YtpjoahddbdmbpaaTv
namespace Go.Proofs.Ytpjoahddbdmbpaa
open Go.RowKit
end Go.Proofs.Ytpjoahddbdmbpaa
