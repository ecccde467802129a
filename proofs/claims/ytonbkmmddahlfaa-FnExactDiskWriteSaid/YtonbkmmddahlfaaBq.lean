/-
  What most contracts end in.
-/
import Derived.Test.YtonbkmmddahlfaaRk
namespace Go.Proofs.Ytonbkmmddahlfaa
open Go.RowKit

/-- A bool, and nothing that was there has turned. -/
def BoolPost (b : Bool) (w : World) (e : Ending) (w' : World) : Prop := e = .returned (.bool b) ∧ Below w.heap.size w w'

end Go.Proofs.Ytonbkmmddahlfaa
