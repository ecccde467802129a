/-
  WALKS: spec.TreeGet.
-/
import Derived.Test.YtoipbocbgadjbaaTv
namespace Go.Proofs.Ytoipbocbgadjbaa
open Go.RowKit
end Go.Proofs.Ytoipbocbgadjbaa
