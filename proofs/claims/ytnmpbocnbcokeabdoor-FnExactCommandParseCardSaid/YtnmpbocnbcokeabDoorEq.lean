/-
  WALKS: laws.eqContent at equal contents.
-/
import Derived.Test.YtnmpbocnbcokeabDoorCo
namespace Go.Proofs.YtnmpbocnbcokeabDoor
open Go.RowKit

set_option maxHeartbeats 400000 in
theorem eqContent_c (k v : Int) (w : World) : Calls Tryd.prog 13 #[.agg #[.int .i64 k, .int .i64 v], .agg #[.int .i64 k, .int .i64 v]] w (BoolPost true w) := by
  go_enter Tryd.func13, Tryd.ntmps13
  go_wp2
  go_ret
  exact ⟨rfl, (below_box _ _).alloc (by simp) _⟩

end Go.Proofs.YtnmpbocnbcokeabDoor
