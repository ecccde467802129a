/-
  WALKS: commands of the program: impl.CommandValid, impl.CommandUndo, impl.CommandText.
-/
import Derived.Test.YtnmpbocnbcokeaaCx
import Derived.Test.YtnmpbocnbcokeaaCu
import Derived.Test.YtnmpbocnbcokeaaCk
import Derived.Test.YtnmpbocnbcokeaaCo
import Derived.Test.YtnmpbocnbcokeaaPd
namespace Go.Proofs.Ytnmpbocnbcokeaa
open Go.RowKit
set_option linter.unusedVariables false

set_option maxHeartbeats 2000000 in
set_option maxRecDepth 100000 in
theorem implCmdValid_c (c : Cmd) (hp : c.p.size ≤ 2097152) (W : World) : Calls Try.prog 12 #[cmdV c] W (BoolPost (validC c) W) := by
  obtain ⟨dp, hdp⟩ : ∃ dp, depB c.p = dp := ⟨_, rfl⟩
  have HD := Lib.hid (fun w => show Calls Try.prog 21 #[.string c.p] w (fun e w' => e = .returned (.int .i64 dp) ∧ Below w.heap.size w w') by rw [← hdp]; exact pathDepth_c c.p (by omega) w)
  obtain ⟨b1, h1⟩ : ∃ b, validB c.fk c.fv = b := ⟨_, rfl⟩
  obtain ⟨b2, h2⟩ : ∃ b, validB c.tk c.tv = b := ⟨_, rfl⟩
  obtain ⟨dd, h3⟩ : ∃ b, (!sameFT c) = b := ⟨_, rfl⟩
  have HF := Lib.hid (fun w => show Calls Try.prog 22 #[con c.fk c.fv] w (BoolPost b1 w) by rw [← h1]; exact implValid_c _ _ w)
  have HT := Lib.hid (fun w => show Calls Try.prog 22 #[con c.tk c.tv] w (BoolPost b2 w) by rw [← h2]; exact implValid_c _ _ w)
  have hne := fun w' => (conNeQ c.fk c.fv c.tk c.tv w').trans (show _ = Result.ok (Value.bool dd) w' by rw [← h3]; rfl)
  have HV := Lib.hid (valid_parts (d := decide (1 ≤ dp)) (by rw [hdp]) h1 h2 h3)
  clear h1 h2 h3 hdp
  obtain ⟨p, fk, fv, tk, tv⟩ := c
  unfold cmdV
  unfold con at HF HT
  simp only at HD HF HT hne hp ⊢
  by_cases hd : 0 < dp
  · have hdd : decide (1 ≤ dp) = true := decide_eq_true (by omega)
    rw [hdd] at HV
    clear hdd
    go_enter Try.func12, Try.ntmps12
    go_wp2_with fail
    refine (HD.out _).mono ?_
    rintro e W1 ⟨rfl, hb1⟩
    have q1 := box_cell hb1 1
    have q2 := box_cell hb1 2
    have q3 := box_cell hb1 3
    have q4 := box_cell hb1 4
    simp at q1 q2 q3 q4
    have B1 := Lib.hid (below_next (below_box W _) hb1)
    clear hb1
    go_wp2_with fail
    refine (HF.out _).mono ?_
    rintro e W2 ⟨rfl, hb2⟩
    have r1 := cell_kept hb2 q1
    have r2 := cell_kept hb2 q2
    have r3 := cell_kept hb2 q3
    have r4 := cell_kept hb2 q4
    have B2 := Lib.hid (below_next B1.out hb2)
    clear hb2 q1 q2 q3 q4
    cases b1 with
    | false =>
      clear hne
      go_wp2
      go_ret
      exact ⟨ret_bool (by rw [HV.out]; rfl), B2.out⟩
    | true =>
      go_wp2_with fail
      refine (HT.out _).mono ?_
      rintro e W3 ⟨rfl, hb3⟩
      have s1 := cell_kept hb3 r1
      have s2 := cell_kept hb3 r2
      have s3 := cell_kept hb3 r3
      have s4 := cell_kept hb3 r4
      have B3 := Lib.hid (below_next B2.out hb3)
      clear hb3 r1 r2 r3 r4
      cases b2 with
      | false =>
        clear hne
        go_wp2
        go_ret
        exact ⟨ret_bool (by rw [HV.out]; rfl), B3.out⟩
      | true =>
        go_wp2
        go_ret
        exact ⟨ret_bool (by rw [HV.out]; rfl), B3.out⟩
  · have hdd : decide (1 ≤ dp) = false := decide_eq_false (by omega)
    rw [hdd] at HV
    clear hdd hne
    go_enter Try.func12, Try.ntmps12
    go_wp2_with fail
    refine (HD.out _).mono ?_
    rintro e W1 ⟨rfl, hb1⟩
    have B1 := Lib.hid (below_next (below_box W _) hb1)
    clear hb1
    go_wp2
    go_ret
    exact ⟨ret_bool (by rw [HV.out]; rfl), B1.out⟩

theorem five_atI {W : World} {n : Nat} (hn : n = W.heap.size) (a b c d e : Value) (t : TypeId) : Five (W.alloc (.cells #[a, b, c, d, e] t)) n a b c d e := by subst hn; exact five_new W a b c d e t

theorem undo_is {c : Cmd} {vc : Bool} (h : validC c = vc) : undoC c = if vc = true then ⟨c.p, c.tk, c.tv, c.fk, c.fv⟩ else zeroC := by subst h; rfl

set_option maxHeartbeats 2000000 in
set_option maxRecDepth 100000 in
theorem implCmdUndo_c (c : Cmd) (hp : c.p.size ≤ 2097152) (W : World) : Calls Try.prog 9 #[cmdV c] W (CmdPost (undoC c) W) := by
  obtain ⟨vc, hvc⟩ : ∃ vc, validC c = vc := ⟨_, rfl⟩
  have HC := Lib.hid (fun W' => show Calls Try.prog 12 #[cmdV c] W' (BoolPost vc W') by rw [← hvc]; exact implCmdValid_c c hp W')
  have HR := Lib.hid (undo_is hvc)
  clear hvc hp
  obtain ⟨p, fk, fv, tk, tv⟩ := c
  have HA := Lib.hid ((five_atI (W := W) rfl (.string p) (.int .i64 fk) (.int .i64 fv) (.int .i64 tk) (.int .i64 tv) 26).alloc (.cells #[.string ⟨#[]⟩, .int .i64 0, .int .i64 0, .int .i64 0, .int .i64 0] 26))
  have HB := Lib.hid (five_atI (W := W.alloc (.cells #[.string p, .int .i64 fk, .int .i64 fv, .int .i64 tk, .int .i64 tv] 26)) (n := W.heap.size + 1) (by simp) (.string ⟨#[]⟩) (.int .i64 0) (.int .i64 0) (.int .i64 0) (.int .i64 0) 26)
  have HD := Lib.hid (below_next (below_box W (.cells #[.string p, .int .i64 fk, .int .i64 fv, .int .i64 tk, .int .i64 tv] 26)) (below_box _ (.cells #[.string ⟨#[]⟩, .int .i64 0, .int .i64 0, .int .i64 0, .int .i64 0] 26)))
  unfold cmdV at HC ⊢
  simp only at HC HR ⊢
  go_enter Try.func9, Try.ntmps9
  go_wp2_with fail
  refine (HC.out _).mono ?_
  rintro e W1 ⟨rfl, hb1⟩
  have A1 := Lib.hid (HA.out.below hb1)
  have R1 := Lib.hid (HB.out.below hb1)
  have B1 := Lib.hid (below_next HD.out hb1)
  clear HA HB HD hb1
  obtain ⟨r0, r1, r2, r3, r4, f0, f1, f2, f3, f4, -⟩ := R1.out
  cases vc with
  | false =>
    go_wp2
    rw [HR.out]
    exact bodyPost_ret (cmd_results _ rfl _ (W.heap.size + 1) ⟨⟨#[]⟩, 0, 0, 0, 0⟩ _ rfl R1.out.setAll) rfl ⟨rfl, below_set5 B1.out (Nat.le_succ _)⟩
  | true =>
    obtain ⟨c0, c1, c2, c3, c4, -⟩ := A1.out
    go_wp2
    rw [HR.out]
    exact bodyPost_ret (cmd_results _ rfl _ (W.heap.size + 1) ⟨p, tk, tv, fk, fv⟩ _ rfl R1.out.setAll) rfl ⟨rfl, below_set5 B1.out (Nat.le_succ _)⟩

set_option maxHeartbeats 2000000 in
set_option maxRecDepth 100000 in
theorem implCmdText_c (c : Cmd) (hp : c.p.size ≤ 2097152) (W : World) : Calls Try.prog 18 #[cmdV c] W (TextPost (textC c) W) := by
  obtain ⟨vc, hvc⟩ : ∃ vc, validC c = vc := ⟨_, rfl⟩
  have HC := Lib.hid (fun W' => show Calls Try.prog 12 #[cmdV c] W' (BoolPost vc W') by rw [← hvc]; exact implCmdValid_c c hp W')
  cases vc with
  | false =>
    have HR := Lib.hid (textC_bad hvc)
    clear hvc
    unfold cmdV at HC ⊢
    obtain ⟨p, fk, fv, tk, tv⟩ := c
    simp only at HC ⊢
    go_enter Try.func18, Try.ntmps18
    go_wp2_with fail
    refine (HC.out _).mono ?_
    rintro e W1 ⟨rfl, hb1⟩
    have B1 := Lib.hid (below_next (below_box W _) hb1)
    clear hb1
    go_wp2
    go_ret
    exact ⟨ret_str HR.out.symm, B1.out⟩
  | true =>
    have HR := Lib.hid (textC_ok hvc)
    have hz0 := pathB_size ((validC_iff c).1 hvc).1
    have HT1 := Lib.hid (fun W' => show Calls Try.prog 29 #[con c.fk c.fv] W' (TextPost (conText c.fk c.fv) W') from implText_c _ _ W')
    have HT2 := Lib.hid (fun W' => show Calls Try.prog 29 #[con c.tk c.tv] W' (TextPost (conText c.tk c.tv) W') from implText_c _ _ W')
    have hz1 := conSize_le c.fk c.fv
    have hz2 := conSize_le c.tk c.tv
    clear hvc
    unfold cmdV at HC ⊢
    obtain ⟨p, fk, fv, tk, tv⟩ := c
    unfold con at HT1 HT2
    simp only at HC HT1 HT2 HR hz0 hz1 hz2 ⊢
    generalize conText fk fv = t1 at HT1 HR hz1
    generalize conText tk tv = t2 at HT2 HR hz2
    have y1 : ¬ 9223372036854775807 < p.size + 1 := by omega
    have y2 : ¬ 9223372036854775807 < p.size + 1 + t1.size := by omega
    have y3 : ¬ 9223372036854775807 < p.size + 1 + t1.size + 1 := by omega
    have y4 : ¬ 9223372036854775807 < p.size + 1 + t1.size + 1 + t2.size := by omega
    clear hz0 hz1 hz2
    go_enter Try.func18, Try.ntmps18
    go_wp2_with fail
    refine (HC.out _).mono ?_
    rintro e W1 ⟨rfl, hb1⟩
    have q0 := box_cell hb1 0
    have q1 := box_cell hb1 1
    have q2 := box_cell hb1 2
    have q3 := box_cell hb1 3
    have q4 := box_cell hb1 4
    simp at q0 q1 q2 q3 q4
    have B1 := Lib.hid (below_next (below_box W _) hb1)
    have HS0 : Hid (W1.drew.cell? ⟨W.heap.size, 0, none⟩ = some (.string p) ∧ W1.drew.cell? ⟨W.heap.size, 1, none⟩ = some (.int .i64 fk) ∧ W1.drew.cell? ⟨W.heap.size, 2, none⟩ = some (.int .i64 fv) ∧ W1.drew.cell? ⟨W.heap.size, 3, none⟩ = some (.int .i64 tk) ∧ W1.drew.cell? ⟨W.heap.size, 4, none⟩ = some (.int .i64 tv) ∧ Below W.heap.size W W1.drew) :=
      ⟨q0, q1, q2, q3, q4, B1.out.drew⟩
    clear hb1 q0 q1 q2 q3 q4
    go_upto_region 3 with (fail)
    go_region_held3 (fun w' => w'.cell? ⟨W.heap.size, 0, none⟩ = some (.string p) ∧ w'.cell? ⟨W.heap.size, 1, none⟩ = some (.int .i64 fk) ∧ w'.cell? ⟨W.heap.size, 2, none⟩ = some (.int .i64 fv) ∧ w'.cell? ⟨W.heap.size, 3, none⟩ = some (.int .i64 tk) ∧ w'.cell? ⟨W.heap.size, 4, none⟩ = some (.int .i64 tv) ∧ Below W.heap.size W w')
      (first | exact HS0.out | exact keepCmd HS0.out hb5 | exact keepCmd (keepCmd HS0.out hb5) hb6)
      (first | (go_at_call 29; (with_reducible refine (HT1.out _).mono ?_); rintro e W5 ⟨rfl, hb5⟩) | (go_at_call 29; (with_reducible refine (HT2.out _).mono ?_); rintro e W6 ⟨rfl, hb6⟩))
    rename_i hS
    have HB := Lib.hid hS.2.2.2.2.2
    clear hS
    go_wp2
    go_ret
    exact ⟨ret_str HR.out.symm, HB.out⟩

end Go.Proofs.Ytnmpbocnbcokeaa
