/-
  WALKS: spec.TreeGet.
-/
import Derived.Test.YtncceljffcjoiaaTv
namespace Go.Proofs.Ytncceljffcjoiaa
open Go.RowKit
end Go.Proofs.Ytncceljffcjoiaa
