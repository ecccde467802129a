/-
  WALKS: laws.toContent.
-/
import Derived.Test.YtnmpbocnbcokeaaCv
namespace Go.Proofs.Ytnmpbocnbcokeaa
open Go.RowKit

set_option maxHeartbeats 400000 in
theorem toContent_c (k v : Int) (w : World) : Calls Try.prog 26 #[con k v] w (ConRet k v w) := by
  unfold con ConRet
  go_enter Try.func26, Try.ntmps26
  go_wp2
  refine bodyPost_ret (v := con k v) ?_ rfl ⟨rfl, ((below_box _ _).alloc (by simp) _).alloc (by simp; omega) _⟩
  simp [results, Try.f26, go_sem]

end Go.Proofs.Ytnmpbocnbcokeaa
