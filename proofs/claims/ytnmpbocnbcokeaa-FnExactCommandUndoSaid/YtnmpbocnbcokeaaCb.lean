/-
  WALKS: commands in the exact laws: laws.toCommand, szCommand, eqCommand; spec.CommandUndo.
-/
import Derived.Test.YtnmpbocnbcokeaaCk
import Derived.Test.YtnmpbocnbcokeaaTc
import Derived.Test.YtnmpbocnbcokeaaEq
namespace Go.Proofs.Ytnmpbocnbcokeaa
open Go.RowKit
set_option linter.unusedVariables false

/-- What is left; if anything is, the text is of modest length. -/
def SzCmd (c : Cmd) (w : World) (e : Ending) (w' : World) : Prop := ∃ z : Int, e = .returned (.int .i64 z) ∧ -1 ≤ z ∧ z ≤ 1048576 ∧ (0 ≤ z → c.p.size ≤ 1048576) ∧ Below w.heap.size w w'

set_option maxHeartbeats 1000000 in
theorem szCommand_c (c : Cmd) (l : Int) (h0 : 0 ≤ l) (h1 : l ≤ 1048576) (hm : c.p.size ≤ maxLen) (w : World) : Calls Try.prog 14 #[cmdV c, .int .i64 l] w (SzCmd c w) := by
  obtain ⟨p, fk, fv, tk, tv⟩ := c
  unfold cmdV
  have hm' : p.size ≤ 9223372036854775807 := Nat.le_trans (show p.size ≤ maxLen from hm) (by unfold maxLen; omega)
  obtain ⟨z, hz⟩ : ∃ z, l - (p.size : Int) = z := ⟨_, rfl⟩
  have hw : IntKind.i64.wrap (l - (p.size : Int)) = z := (IntWalk.i64_in _ (by omega)).trans hz
  by_cases hneg : z < 0
  · clear h0 h1 hm hm' hz
    go_enter Try.func14, Try.ntmps14
    go_wp2
    go_ret
    exact ⟨-1, rfl, by omega, by omega, fun h => absurd h (by omega), below_box _ _⟩
  · have hpos : 0 ≤ z := by omega
    have HF := Lib.hid (show z ≤ 1048576 ∧ p.size ≤ 1048576 by omega)
    clear h0 h1 hm hm' hz hneg
    go_enter Try.func14, Try.ntmps14
    go_wp2
    go_ret
    exact ⟨z, rfl, by omega, HF.out.1, fun _ => HF.out.2, below_box _ _⟩

set_option maxHeartbeats 1000000 in
theorem eqCommand_c (c : Cmd) (w : World) : Calls Try.prog 16 #[cmdV c, cmdV c] w (BoolPost true w) := by
  obtain ⟨p, fk, fv, tk, tv⟩ := c
  have HE := Lib.hid (fun k v w => eqContent_c k v w)
  unfold cmdV
  go_enter Try.func16, Try.ntmps16
  go_wp2_with fail
  refine (HE.out _ _ _).mono ?_
  rintro e W1 ⟨rfl, hb1⟩
  have hbb := below_next (below_box (w.alloc (.cells #[.string p, .int .i64 fk, .int .i64 fv, .int .i64 tk, .int .i64 tv] 26)) _) hb1
  have q3 := box_cell hbb 3
  have q4 := box_cell hbb 4
  have r3 := box_cell hb1 3
  have r4 := box_cell hb1 4
  simp at q3 q4 r3 r4
  have B1 := Lib.hid (below_next (below_box w _) hbb)
  clear hb1 hbb
  go_wp2_with fail
  refine (HE.out _ _ _).mono ?_
  rintro e W2 ⟨rfl, hb2⟩
  have B2 := Lib.hid (below_next B1.out hb2)
  clear hb2 q3 q4 r3 r4
  go_wp2
  go_ret
  exact ⟨rfl, B2.out⟩

theorem five_at {W : World} {n : Nat} (hn : n = W.heap.size) (a b c d e : Value) (t : TypeId) : Five (W.alloc (.cells #[a, b, c, d, e] t)) n a b c d e := by subst hn; exact five_new W a b c d e t

set_option maxHeartbeats 1000000 in
theorem toCommand_c (c : Cmd) (W : World) : Calls Try.prog 15 #[cmdV c] W (CmdPost c W) := by
  obtain ⟨p, fk, fv, tk, tv⟩ := c
  have HT := Lib.hid (fun k v w => toContent_c k v w)
  have HA := Lib.hid (((five_at (W := W) rfl (.string p) (.int .i64 fk) (.int .i64 fv) (.int .i64 tk) (.int .i64 tv) 33).alloc (.cells #[.string ⟨#[]⟩, .int .i64 0, .int .i64 0, .int .i64 0, .int .i64 0] 26)).alloc (.cells #[.string p, .int .i64 0, .int .i64 0, .int .i64 0, .int .i64 0] 26))
  have HB := Lib.hid ((five_at (W := W.alloc (.cells #[.string p, .int .i64 fk, .int .i64 fv, .int .i64 tk, .int .i64 tv] 33)) (n := W.heap.size + 1) (by simp) (.string ⟨#[]⟩) (.int .i64 0) (.int .i64 0) (.int .i64 0) (.int .i64 0) 26).alloc (.cells #[.string p, .int .i64 0, .int .i64 0, .int .i64 0, .int .i64 0] 26))
  have HC := Lib.hid (five_at (W := (W.alloc (.cells #[.string p, .int .i64 fk, .int .i64 fv, .int .i64 tk, .int .i64 tv] 33)).alloc (.cells #[.string ⟨#[]⟩, .int .i64 0, .int .i64 0, .int .i64 0, .int .i64 0] 26)) (n := W.heap.size + 1 + 1) (by simp) (.string p) (.int .i64 0) (.int .i64 0) (.int .i64 0) (.int .i64 0) 26)
  have HD := Lib.hid (below_next (below_next (below_box W (.cells #[.string p, .int .i64 fk, .int .i64 fv, .int .i64 tk, .int .i64 tv] 33)) (below_box _ (.cells #[.string ⟨#[]⟩, .int .i64 0, .int .i64 0, .int .i64 0, .int .i64 0] 26))) (below_box _ (.cells #[.string p, .int .i64 0, .int .i64 0, .int .i64 0, .int .i64 0] 26)))
  unfold cmdV
  unfold con at HT
  go_enter Try.func15, Try.ntmps15
  go_wp2_with fail
  refine (HT.out _ _ _).mono ?_
  rintro e W1 ⟨rfl, hb1⟩
  have A1 := Lib.hid (HA.out.below hb1)
  have R1 := Lib.hid (HB.out.below hb1)
  have O1 := Lib.hid (HC.out.below hb1)
  have B1 := Lib.hid (below_next HD.out hb1)
  clear HA HB HC HD hb1
  have A2 := Lib.hid ((A1.out.setOther (x := ⟨W.heap.size + 1 + 1, 1, none⟩) (v := .int .i64 fk) (by show W.heap.size + 1 + 1 ≠ _; omega)).setOther (x := ⟨W.heap.size + 1 + 1, 2, none⟩) (v := .int .i64 fv) (by show W.heap.size + 1 + 1 ≠ _; omega))
  have R2 := Lib.hid ((R1.out.setOther (x := ⟨W.heap.size + 1 + 1, 1, none⟩) (v := .int .i64 fk) (by show W.heap.size + 1 + 1 ≠ _; omega)).setOther (x := ⟨W.heap.size + 1 + 1, 2, none⟩) (v := .int .i64 fv) (by show W.heap.size + 1 + 1 ≠ _; omega))
  have O2 := Lib.hid ((O1.out.set1 (x := .int .i64 fk)).set2 (x := .int .i64 fv))
  have B2 := Lib.hid (below_setCell (below_setCell B1.out ⟨W.heap.size + 1 + 1, 1, none⟩ (.int .i64 fk) (by simp; omega)) ⟨W.heap.size + 1 + 1, 2, none⟩ (.int .i64 fv) (by simp; omega))
  obtain ⟨c0, c1, c2, c3, c4, f0, f1, f2, f3, f4, -⟩ := O1.out
  unfold con
  go_upto_region 4 with (fail)
  clear c0 c1 c2 c3 c4 f0 f1 f2 f3 f4 A1 R1 O1 B1
  generalize (W1.setCell ⟨W.heap.size + 1 + 1, 1, none⟩ (.int .i64 fk)).setCell ⟨W.heap.size + 1 + 1, 2, none⟩ (.int .i64 fv) = W2 at A2 R2 O2 B2 ⊢
  obtain ⟨-, -, -, a3, a4, -⟩ := A2.out
  go_wp2_with fail
  refine (HT.out _ _ _).mono ?_
  rintro e W3 ⟨rfl, hb3⟩
  have R3 := Lib.hid (R2.out.below hb3)
  have O3 := Lib.hid (O2.out.below hb3)
  have B3 := Lib.hid (below_next B2.out hb3)
  clear hb3 a3 a4 A2 R2 O2 B2
  have R4 := Lib.hid ((R3.out.setOther (x := ⟨W.heap.size + 1 + 1, 3, none⟩) (v := .int .i64 tk) (by show W.heap.size + 1 + 1 ≠ _; omega)).setOther (x := ⟨W.heap.size + 1 + 1, 4, none⟩) (v := .int .i64 tv) (by show W.heap.size + 1 + 1 ≠ _; omega))
  have O4 := Lib.hid ((O3.out.set3 (x := .int .i64 tk)).set4 (x := .int .i64 tv))
  have B4 := Lib.hid (below_setCell (below_setCell B3.out ⟨W.heap.size + 1 + 1, 3, none⟩ (.int .i64 tk) (by simp; omega)) ⟨W.heap.size + 1 + 1, 4, none⟩ (.int .i64 tv) (by simp; omega))
  obtain ⟨c0, c1, c2, c3, c4, f0, f1, f2, f3, f4, -⟩ := O3.out
  unfold con
  go_upto_region 5 with (fail)
  clear c0 c1 c2 c3 c4 f0 f1 f2 f3 f4 R3 O3 B3
  generalize (W3.setCell ⟨W.heap.size + 1 + 1, 3, none⟩ (.int .i64 tk)).setCell ⟨W.heap.size + 1 + 1, 4, none⟩ (.int .i64 tv) = W4 at R4 O4 B4 ⊢
  obtain ⟨c0, c1, c2, c3, c4, -⟩ := O4.out
  obtain ⟨r0, r1, r2, r3, r4, f0, f1, f2, f3, f4, -⟩ := R4.out
  go_wp2
  exact bodyPost_ret (cmd_results _ rfl _ (W.heap.size + 1) ⟨p, fk, fv, tk, tv⟩ _ rfl R4.out.setAll) rfl ⟨rfl, below_set5 B4.out (Nat.le_succ _)⟩

theorem undo_yes {c : Cmd} {vc : Bool} (h : validC c = vc) : undoC c = if vc = true then ⟨c.p, c.tk, c.tv, c.fk, c.fv⟩ else zeroC := by subst h; rfl

set_option maxHeartbeats 2000000 in
set_option maxRecDepth 100000 in
theorem specCmdUndo_c (c : Cmd) (hp : c.p.size ≤ 2097152) (W : World) : Calls Try.prog 10 #[cmdV c] W (CmdPost (undoC c) W) := by
  obtain ⟨vc, hvc⟩ : ∃ vc, validC c = vc := ⟨_, rfl⟩
  have HC := Lib.hid (fun W' => show Calls Try.prog 11 #[cmdV c] W' (BoolPost vc W') by rw [← hvc]; exact specCmdValid_c c hp W')
  have HR := Lib.hid (undo_yes hvc)
  clear hvc hp
  obtain ⟨p, fk, fv, tk, tv⟩ := c
  have HA := Lib.hid ((five_at (W := W) rfl (.string p) (.int .i64 fk) (.int .i64 fv) (.int .i64 tk) (.int .i64 tv) 26).alloc (.cells #[.string ⟨#[]⟩, .int .i64 0, .int .i64 0, .int .i64 0, .int .i64 0] 26))
  have HB := Lib.hid (five_at (W := W.alloc (.cells #[.string p, .int .i64 fk, .int .i64 fv, .int .i64 tk, .int .i64 tv] 26)) (n := W.heap.size + 1) (by simp) (.string ⟨#[]⟩) (.int .i64 0) (.int .i64 0) (.int .i64 0) (.int .i64 0) 26)
  have HD := Lib.hid (below_next (below_box W (.cells #[.string p, .int .i64 fk, .int .i64 fv, .int .i64 tk, .int .i64 tv] 26)) (below_box _ (.cells #[.string ⟨#[]⟩, .int .i64 0, .int .i64 0, .int .i64 0, .int .i64 0] 26)))
  unfold cmdV at HC ⊢
  simp only at HC HR ⊢
  go_enter Try.func10, Try.ntmps10
  go_wp2_with fail
  refine (HC.out _).mono ?_
  rintro e W1 ⟨rfl, hb1⟩
  have A1 := Lib.hid (HA.out.below hb1)
  have R1 := Lib.hid (HB.out.below hb1)
  have B1 := Lib.hid (below_next HD.out hb1)
  clear HA HB HD hb1
  obtain ⟨r0, r1, r2, r3, r4, f0, f1, f2, f3, f4, -⟩ := R1.out
  cases vc with
  | false =>
    go_wp2
    rw [HR.out]
    exact bodyPost_ret (cmd_results _ rfl _ (W.heap.size + 1) ⟨⟨#[]⟩, 0, 0, 0, 0⟩ _ rfl R1.out.setAll) rfl ⟨rfl, below_set5 B1.out (Nat.le_succ _)⟩
  | true =>
    obtain ⟨c0, c1, c2, c3, c4, -⟩ := A1.out
    go_wp2
    rw [HR.out]
    exact bodyPost_ret (cmd_results _ rfl _ (W.heap.size + 1) ⟨p, tk, tv, fk, fv⟩ _ rfl R1.out.setAll) rfl ⟨rfl, below_set5 B1.out (Nat.le_succ _)⟩

end Go.Proofs.Ytnmpbocnbcokeaa
