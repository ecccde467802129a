/-
  WALKS: spec.TreeGet.
-/
import Derived.Test.YtncceljffcjoiaaDoorTv
namespace Go.Proofs.YtncceljffcjoiaaDoor
open Go.RowKit
end Go.Proofs.YtncceljffcjoiaaDoor
