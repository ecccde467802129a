/-
  WALKS: commands in the exact laws: laws.toCommand, szCommand, eqCommand; spec.CommandUndo.
-/
import Derived.Test.YtnmpbocnbcokeabDoorCk
import Derived.Test.YtnmpbocnbcokeabDoorTc
import Derived.Test.YtnmpbocnbcokeabDoorEq
namespace Go.Proofs.YtnmpbocnbcokeabDoor
open Go.RowKit
set_option linter.unusedVariables false

/-- What is left; if anything is, the text is of modest length. -/
def SzCmd (c : Cmd) (w : World) (e : Ending) (w' : World) : Prop := ∃ z : Int, e = .returned (.int .i64 z) ∧ -1 ≤ z ∧ z ≤ 1048576 ∧ (0 ≤ z → c.p.size ≤ 1048576) ∧ Below w.heap.size w w'

set_option maxHeartbeats 1000000 in
theorem eqCommand_c (c : Cmd) (w : World) : Calls Tryd.prog 6 #[cmdV c, cmdV c] w (BoolPost true w) := by
  obtain ⟨p, fk, fv, tk, tv⟩ := c
  have HE := Lib.hid (fun k v w => eqContent_c k v w)
  unfold cmdV
  go_enter Tryd.func6, Tryd.ntmps6
  go_wp2_with fail
  refine (HE.out _ _ _).mono ?_
  rintro e W1 ⟨rfl, hb1⟩
  have hbb := below_next (below_box (w.alloc (.cells #[.string p, .int .i64 fk, .int .i64 fv, .int .i64 tk, .int .i64 tv] 25)) _) hb1
  have q3 := box_cell hbb 3
  have q4 := box_cell hbb 4
  have r3 := box_cell hb1 3
  have r4 := box_cell hb1 4
  simp at q3 q4 r3 r4
  have B1 := Lib.hid (below_next (below_box w _) hbb)
  clear hb1 hbb
  go_wp2_with fail
  refine (HE.out _ _ _).mono ?_
  rintro e W2 ⟨rfl, hb2⟩
  have B2 := Lib.hid (below_next B1.out hb2)
  clear hb2 q3 q4 r3 r4
  go_wp2
  go_ret
  exact ⟨rfl, B2.out⟩

theorem five_at {W : World} {n : Nat} (hn : n = W.heap.size) (a b c d e : Value) (t : TypeId) : Five (W.alloc (.cells #[a, b, c, d, e] t)) n a b c d e := by subst hn; exact five_new W a b c d e t

theorem undo_yes {c : Cmd} {vc : Bool} (h : validC c = vc) : undoC c = if vc = true then ⟨c.p, c.tk, c.tv, c.fk, c.fv⟩ else zeroC := by subst h; rfl

end Go.Proofs.YtnmpbocnbcokeabDoor
