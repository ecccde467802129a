/-
  WALKS: spec.TreeGet.
-/
import Derived.Test.YtmlnakkfjecibaaTv
namespace Go.Proofs.Ytmlnakkfjecibaa
open Go.RowKit
end Go.Proofs.Ytmlnakkfjecibaa
