/-
  laws.FnExactCommandsClash returns true for every input, and leaves its arguments as they were.
  Conditions: none.
-/
import Derived.Test.YtdkpabnpobpdhaaRows
import Derived.WalkKit
import Derived.ProofKit
import Derived.OpenShut
import Derived.ShutString
import Derived.ChangeOld
import Derived.Below
import Derived.Test.YtdkpabnpobpdhaaQ10
import Derived.Test.YtdkpabnpobpdhaaQ4
import Derived.Test.YtdkpabnpobpdhaaQ11
import Derived.Test.YtdkpabnpobpdhaaQ8
import Derived.Test.YtdkpabnpobpdhaaQ6
import Derived.Test.YtdkpabnpobpdhaaQ5
namespace Go.Proofs.Ytdkpabnpobpdhaa.fnExactCommandsClash
open Go.ChangeShapes Go.WideShapes Go.ChangeAt Go.RowKit
open Go.ChangeMaps (open_string shut_string)
set_option linter.unusedVariables false

theorem own : ownKnob Try.prog.godebug = none := by kernel_rfl
theorem laidOut : laidOutB Try.prog = true := by kernel_rfl

theorem twoL_new (W : World) (c d : Cmd) : TwoC ((W.alloc (.cells #[.string c.p, .int .i64 c.fk, .int .i64 c.fv, .int .i64 c.tk, .int .i64 c.tv] 49)).alloc (.cells #[.string d.p, .int .i64 d.fk, .int .i64 d.fv, .int .i64 d.tk, .int .i64 d.tv] 49)) W.heap.size c d := by
  have h1 := (five_new W (.string c.p) (.int .i64 c.fk) (.int .i64 c.fv) (.int .i64 c.tk) (.int .i64 c.tv) 49).alloc (.cells #[.string d.p, .int .i64 d.fk, .int .i64 d.fv, .int .i64 d.tk, .int .i64 d.tv] 49)
  have h2 := five_new (W.alloc (.cells #[.string c.p, .int .i64 c.fk, .int .i64 c.fv, .int .i64 c.tk, .int .i64 c.tv] 49)) (.string d.p) (.int .i64 d.fk) (.int .i64 d.fv) (.int .i64 d.tk) (.int .i64 d.tv) 49
  rw [World.size_alloc] at h2
  obtain ⟨a0, a1, a2, a3, a4, -⟩ := h1
  obtain ⟨b0, b1, b2, b3, b4, -⟩ := h2
  exact ⟨a0, a1, a2, a3, a4, b0, b1, b2, b3, b4⟩

set_option maxHeartbeats 4000000 in
set_option maxRecDepth 100000 in
theorem walk (c : Cmd) (hm : c.p.size ≤ maxLen) (d : Cmd) (hm2 : d.p.size ≤ maxLen) (w : World) :
    Calls Try.prog 8 #[cmdV c, cmdV d] w fun e w' => e = .returned (.bool true) ∧ Below w.heap.size w w' := by
  have HZ := Lib.hid (fun w => szCommand_c c 1048576 (by omega) (by omega) hm w)
  have HZ2 := Lib.hid (fun z h0 h1 w => szCommand_c d z h0 h1 hm2 w)
  have HTC := Lib.hid (fun w => toCommand_c c w)
  have HTD := Lib.hid (fun w => toCommand_c d w)
  have HS0 := Lib.hid (fun (h : c.p.size ≤ 1048576) (h2 : d.p.size ≤ 1048576) w => specCommandsClash_c c d (by omega) (by omega) w)
  have HI0 := Lib.hid (fun (h : c.p.size ≤ 1048576) (h2 : d.p.size ≤ 1048576) w => implCommandsClash_c c d (by omega) (by omega) w)
  obtain ⟨vv, hvv⟩ : ∃ vv, clashP c d = vv := ⟨_, rfl⟩
  rw [hvv] at HS0 HI0
  have hne : (vv != vv) = false := by simp
  have T0 := Lib.hid (twoL_new w c d)
  have B0 := Lib.hid (below_next (below_box w (.cells #[.string c.p, .int .i64 c.fk, .int .i64 c.fv, .int .i64 c.tk, .int .i64 c.tv] 49)) (below_box _ (.cells #[.string d.p, .int .i64 d.fk, .int .i64 d.fv, .int .i64 d.tk, .int .i64 d.tv] 49)))
  clear hm hm2 hvv
  obtain ⟨p, fk, fv, tk, tv⟩ := c
  obtain ⟨p', fk', fv', tk', tv'⟩ := d
  unfold cmdV at HZ HZ2 HTC HTD HS0 HI0 ⊢
  unfold CmdPost cmdV at HTC HTD
  simp only at HZ HZ2 HTC HTD HS0 HI0 T0 B0 ⊢
  obtain ⟨a0, a1, a2, a3, a4, b0, b1, b2, b3, b4⟩ := T0.out
  simp only at a0 a1 a2 a3 a4 b0 b1 b2 b3 b4
  go_enter Try.func8, Try.ntmps8
  go_wp2_with fail
  refine (HZ.out _).mono ?_; rintro e W1 ⟨z, rfl, z0, z1, hz, hb1⟩
  have T1 := Lib.hid (T0.out.keep hb1)
  have B1 := Lib.hid (below_next B0.out hb1)
  have HZ1 := Lib.hid hz
  clear hb1 hz a0 a1 a2 a3 a4 b0 b1 b2 b3 b4
  obtain ⟨a0, a1, a2, a3, a4, b0, b1, b2, b3, b4⟩ := T1.out
  by_cases hneg : z < 0
  · clear z0 z1
    go_wp2
    go_ret
    exact ⟨rfl, B1.out⟩
  · have hzd : decide (z < 0) = false := decide_eq_false hneg
    have hzp : 0 ≤ z := by omega
    have HZB := Lib.hid (HZ2.out z hzp z1)
    have HCS := Lib.hid (HZ1.out hzp)
    clear z0 z1 hneg
    go_wp2_with fail
    refine (HZB.out _).mono ?_; rintro e W2 ⟨y, rfl, y0, y1, hy, hb2⟩
    have T2 := Lib.hid (T1.out.keep hb2)
    have B2 := Lib.hid (below_next B1.out hb2)
    have HY1 := Lib.hid hy
    clear hb2 hy a0 a1 a2 a3 a4 b0 b1 b2 b3 b4
    obtain ⟨a0, a1, a2, a3, a4, b0, b1, b2, b3, b4⟩ := T2.out
    by_cases hneg : y < 0
    · clear y0 y1
      go_wp2
      go_ret
      exact ⟨rfl, B2.out⟩
    · have hyd : decide (y < 0) = false := decide_eq_false hneg
      have HS := Lib.hid (HS0.out HCS.out (HY1.out (by omega)))
      have HI := Lib.hid (HI0.out HCS.out (HY1.out (by omega)))
      have HKP := Lib.hid (fun (u1 u2 : World) (h : u1.cell? ⟨w.heap.size, 0, none⟩ = some (.string p) ∧ u1.cell? ⟨w.heap.size, 1, none⟩ = some (.int .i64 fk) ∧ u1.cell? ⟨w.heap.size, 2, none⟩ = some (.int .i64 fv) ∧ u1.cell? ⟨w.heap.size, 3, none⟩ = some (.int .i64 tk) ∧ u1.cell? ⟨w.heap.size, 4, none⟩ = some (.int .i64 tv) ∧ u1.cell? ⟨(w.heap.size + 1), 0, none⟩ = some (.string p') ∧ u1.cell? ⟨(w.heap.size + 1), 1, none⟩ = some (.int .i64 fk') ∧ u1.cell? ⟨(w.heap.size + 1), 2, none⟩ = some (.int .i64 fv') ∧ u1.cell? ⟨(w.heap.size + 1), 3, none⟩ = some (.int .i64 tk') ∧ u1.cell? ⟨(w.heap.size + 1), 4, none⟩ = some (.int .i64 tv') ∧ Below w.heap.size w u1) (hb : Below u1.heap.size u1 u2) => show u2.cell? ⟨w.heap.size, 0, none⟩ = some (.string p) ∧ u2.cell? ⟨w.heap.size, 1, none⟩ = some (.int .i64 fk) ∧ u2.cell? ⟨w.heap.size, 2, none⟩ = some (.int .i64 fv) ∧ u2.cell? ⟨w.heap.size, 3, none⟩ = some (.int .i64 tk) ∧ u2.cell? ⟨w.heap.size, 4, none⟩ = some (.int .i64 tv) ∧ u2.cell? ⟨(w.heap.size + 1), 0, none⟩ = some (.string p') ∧ u2.cell? ⟨(w.heap.size + 1), 1, none⟩ = some (.int .i64 fk') ∧ u2.cell? ⟨(w.heap.size + 1), 2, none⟩ = some (.int .i64 fv') ∧ u2.cell? ⟨(w.heap.size + 1), 3, none⟩ = some (.int .i64 tk') ∧ u2.cell? ⟨(w.heap.size + 1), 4, none⟩ = some (.int .i64 tv') ∧ Below w.heap.size w u2 from ⟨cell_kept hb h.1, cell_kept hb h.2.1, cell_kept hb h.2.2.1, cell_kept hb h.2.2.2.1, cell_kept hb h.2.2.2.2.1, cell_kept hb h.2.2.2.2.2.1, cell_kept hb h.2.2.2.2.2.2.1, cell_kept hb h.2.2.2.2.2.2.2.1, cell_kept hb h.2.2.2.2.2.2.2.2.1, cell_kept hb h.2.2.2.2.2.2.2.2.2.1, below_next h.2.2.2.2.2.2.2.2.2.2 hb⟩)
      clear y0 y1 hneg HS0 HI0
      have HSA := Lib.hid (show W2.drew.cell? ⟨w.heap.size, 0, none⟩ = some (.string p) ∧ W2.drew.cell? ⟨w.heap.size, 1, none⟩ = some (.int .i64 fk) ∧ W2.drew.cell? ⟨w.heap.size, 2, none⟩ = some (.int .i64 fv) ∧ W2.drew.cell? ⟨w.heap.size, 3, none⟩ = some (.int .i64 tk) ∧ W2.drew.cell? ⟨w.heap.size, 4, none⟩ = some (.int .i64 tv) ∧ W2.drew.cell? ⟨(w.heap.size + 1), 0, none⟩ = some (.string p') ∧ W2.drew.cell? ⟨(w.heap.size + 1), 1, none⟩ = some (.int .i64 fk') ∧ W2.drew.cell? ⟨(w.heap.size + 1), 2, none⟩ = some (.int .i64 fv') ∧ W2.drew.cell? ⟨(w.heap.size + 1), 3, none⟩ = some (.int .i64 tk') ∧ W2.drew.cell? ⟨(w.heap.size + 1), 4, none⟩ = some (.int .i64 tv') ∧ Below w.heap.size w W2.drew from ⟨a0, a1, a2, a3, a4, b0, b1, b2, b3, b4, B2.out.drew⟩)
      clear a0 a1 a2 a3 a4 b0 b1 b2 b3 b4
      go_upto_region 8 with (fail)
      go_region_held3 (fun w' => w'.cell? ⟨w.heap.size, 0, none⟩ = some (.string p) ∧ w'.cell? ⟨w.heap.size, 1, none⟩ = some (.int .i64 fk) ∧ w'.cell? ⟨w.heap.size, 2, none⟩ = some (.int .i64 fv) ∧ w'.cell? ⟨w.heap.size, 3, none⟩ = some (.int .i64 tk) ∧ w'.cell? ⟨w.heap.size, 4, none⟩ = some (.int .i64 tv) ∧ w'.cell? ⟨(w.heap.size + 1), 0, none⟩ = some (.string p') ∧ w'.cell? ⟨(w.heap.size + 1), 1, none⟩ = some (.int .i64 fk') ∧ w'.cell? ⟨(w.heap.size + 1), 2, none⟩ = some (.int .i64 fv') ∧ w'.cell? ⟨(w.heap.size + 1), 3, none⟩ = some (.int .i64 tk') ∧ w'.cell? ⟨(w.heap.size + 1), 4, none⟩ = some (.int .i64 tv') ∧ Below w.heap.size w w')
        (first | exact HSA.out | exact HSPA.out | exact HSQA.out | exact HSRA.out | exact HKP.out _ _ (by assumption) hb9)
        (first
          | (go_at_call 26; (with_reducible refine (HTC.out _).mono ?_); rintro e WD ⟨rfl, hbD⟩; have HSPA := Lib.hid (HKP.out _ _ HSA.out hbD); clear hbD)
          | (go_at_call 26; (with_reducible refine (HTD.out _).mono ?_); rintro e WC ⟨rfl, hbC⟩; have HSQA := Lib.hid (HKP.out _ _ HSPA.out hbC); clear hbC)
          | (go_at_call 26; (with_reducible refine (HTD.out _).mono ?_); rintro e WC ⟨rfl, hbC⟩; have HSRA := Lib.hid (HKP.out _ _ HSA.out hbC); clear hbC)
          | (go_at_call 26; (with_reducible refine (HTC.out _).mono ?_); rintro e WD ⟨rfl, hbD⟩; have HSQA := Lib.hid (HKP.out _ _ HSRA.out hbD); clear hbD)
          | (go_at_call 15; (with_reducible refine (HS.out _).mono ?_); rintro e W9 ⟨rfl, hb9⟩))
      all_goals
        rename_i hS9
        have HX9 := Lib.hid hS9
        obtain ⟨a0, a1, a2, a3, a4, b0, b1, b2, b3, b4, hB9⟩ := HX9.out
        have B9 := Lib.hid hB9
        obtain ⟨WW, hWW⟩ : ∃ X, X = W9 := ⟨_, rfl⟩
        clear hS9 hB9
        have HSB := Lib.hid (show W9.drew.cell? ⟨w.heap.size, 0, none⟩ = some (.string p) ∧ W9.drew.cell? ⟨w.heap.size, 1, none⟩ = some (.int .i64 fk) ∧ W9.drew.cell? ⟨w.heap.size, 2, none⟩ = some (.int .i64 fv) ∧ W9.drew.cell? ⟨w.heap.size, 3, none⟩ = some (.int .i64 tk) ∧ W9.drew.cell? ⟨w.heap.size, 4, none⟩ = some (.int .i64 tv) ∧ W9.drew.cell? ⟨(w.heap.size + 1), 0, none⟩ = some (.string p') ∧ W9.drew.cell? ⟨(w.heap.size + 1), 1, none⟩ = some (.int .i64 fk') ∧ W9.drew.cell? ⟨(w.heap.size + 1), 2, none⟩ = some (.int .i64 fv') ∧ W9.drew.cell? ⟨(w.heap.size + 1), 3, none⟩ = some (.int .i64 tk') ∧ W9.drew.cell? ⟨(w.heap.size + 1), 4, none⟩ = some (.int .i64 tv') ∧ Below w.heap.size w W9.drew from ⟨a0, a1, a2, a3, a4, b0, b1, b2, b3, b4, B9.out.drew⟩)
        clear a0 a1 a2 a3 a4 b0 b1 b2 b3 b4
        go_upto_region 9 with (fail)
        go_region_held3 (fun w' => w'.cell? ⟨w.heap.size, 0, none⟩ = some (.string p) ∧ w'.cell? ⟨w.heap.size, 1, none⟩ = some (.int .i64 fk) ∧ w'.cell? ⟨w.heap.size, 2, none⟩ = some (.int .i64 fv) ∧ w'.cell? ⟨w.heap.size, 3, none⟩ = some (.int .i64 tk) ∧ w'.cell? ⟨w.heap.size, 4, none⟩ = some (.int .i64 tv) ∧ w'.cell? ⟨(w.heap.size + 1), 0, none⟩ = some (.string p') ∧ w'.cell? ⟨(w.heap.size + 1), 1, none⟩ = some (.int .i64 fk') ∧ w'.cell? ⟨(w.heap.size + 1), 2, none⟩ = some (.int .i64 fv') ∧ w'.cell? ⟨(w.heap.size + 1), 3, none⟩ = some (.int .i64 tk') ∧ w'.cell? ⟨(w.heap.size + 1), 4, none⟩ = some (.int .i64 tv') ∧ Below w.heap.size w w')
          (first | exact HSB.out | exact HSPB.out | exact HSQB.out | exact HSRB.out | exact HKP.out _ _ (by assumption) hb9)
          (first
            | (go_at_call 26; (with_reducible refine (HTC.out _).mono ?_); rintro e WD ⟨rfl, hbD⟩; have HSPB := Lib.hid (HKP.out _ _ HSB.out hbD); clear hbD)
            | (go_at_call 26; (with_reducible refine (HTD.out _).mono ?_); rintro e WC ⟨rfl, hbC⟩; have HSQB := Lib.hid (HKP.out _ _ HSPB.out hbC); clear hbC)
            | (go_at_call 26; (with_reducible refine (HTD.out _).mono ?_); rintro e WC ⟨rfl, hbC⟩; have HSRB := Lib.hid (HKP.out _ _ HSB.out hbC); clear hbC)
            | (go_at_call 26; (with_reducible refine (HTC.out _).mono ?_); rintro e WD ⟨rfl, hbD⟩; have HSQB := Lib.hid (HKP.out _ _ HSRB.out hbD); clear hbD)
            | (go_at_call 14; (with_reducible refine (HI.out _).mono ?_); rintro e W9 ⟨rfl, hb9⟩))
        all_goals
          rename_i hS8
          have HX8 := Lib.hid hS8.2.2.2.2.2.2.2.2.2.2
          clear hS8
          go_wp2
          go_ret
          exact ⟨rfl, HX8.out⟩



set_option maxRecDepth 100000 in
theorem lifted (os : Os) (started : os.Started) (H : Type) (enc : TypeId × Value → H) :
    ReturnsInHanded {} Try.checked os 8 .any (Rows.fnExactCommandsClashSpec.pre6 enc Try.prog Try.f8 Rows.fnExactCommandsClashRow.domain false) (Rows.fnExactCommandsClashSpec.post enc Try.prog Try.f8 false true false false) := by
  refine returnsInHanded_of_change (C := Try.checked) own started (by kernel_rfl) Try.func8
    (ChangeSpec.witness6 (enc := enc) (C := Try.checked) false ⟨#[], #[.agg #[.string ⟨#[]⟩, .int .i64 0, .int .i64 0, .int .i64 0, .int .i64 0], .agg #[.string ⟨#[]⟩, .int .i64 0, .int .i64 0, .int .i64 0, .int .i64 0]], []⟩ 8 (by kernel_rfl) (by kernel_rfl) (by kernel_rfl) (by kernel_rfl)) ?_
  intro W base args ds gs before hval0 hW hcnd _
  have hval : ∀ (j : Nat) t v, Try.f8.params[j]? = some t → args[j]? = some v → Value.okWide Try.prog W .any base t v := hval0
  have hW' := hW
  obtain ⟨p, q, hA0, hV, rfl, hfz, hnd⟩ := hW
  have hA : DataW.TrodAll enc Try.prog W 0 (fun _ => true) true Try.f8.params.toList args.toList ds p := hA0
  rw [Try.params8] at hA hval
  obtain ⟨v0, vs0, d0, ds0, p0, q0, hargs, rfl, rfl, h0, r0⟩ := trodAll_cons hA
  obtain ⟨v1, vs1, d1, ds1, p1, q1, rfl, rfl, rfl, h1, r1⟩ := trodAll_cons r0
  obtain ⟨rfl, rfl, rfl⟩ := trodAll_nil r1
  obtain rfl : args = #[v0, v1] := by cases args; simp_all
  obtain ⟨rfl, rfl⟩ := trodVars_none hV
  have k0 := h0
  have lt0 : ∀ x ∈ p0, x.block < W.heap.size := by obtain ⟨m, hm⟩ := k0; exact DataW.trod_lt m _ _ _ hm
  obtain ⟨a0, rfl, m0⟩ := open_command (hval 0 49 v0 rfl rfl) h0
  have k1 := h1
  have lt1 : ∀ x ∈ p1, x.block < W.heap.size := by obtain ⟨m, hm⟩ := k1; exact DataW.trod_lt m _ _ _ hm
  obtain ⟨a1, rfl, m1⟩ := open_command (hval 1 49 v1 rfl rfl) h1
  clear hA0 hval0
  refine (walk a0 m0 a1 m1 W).mono fun e W' ⟨he, bel⟩ => ?_
  subst he
  exact ⟨_, rfl, _, _, _, [], _, [], hW', trodAll_mk1 (shut_bool Try.underlying4 _), (trodAll_cons_mk (Below.trod laidOut (by kernel_rfl) (of_decide_eq_true (by kernel_rfl)) k0 bel lt0) (trodAll_cons_mk (Below.trod laidOut (by kernel_rfl) (of_decide_eq_true (by kernel_rfl)) k1 bel lt1) trodAll_mk0)), rfl, bel.frame _, fun h => by cases h⟩

theorem over : Rows.fnExactCommandsClashRow.holds Try.pinned (OpenSpec.ofChange Rows.fnExactCommandsClashSpec) :=
  OpenClaim.holds_of_wide 8 Try.f8 rfl rfl rfl rfl rfl rfl rfl ⟨rfl, rfl, rfl, rfl, rfl⟩ rfl rfl rfl rfl rfl (by kernel_rfl) Try.func8 (by kernel_rfl)
    (of_decide_eq_true (by kernel_rfl)) (by unfold Func.isWrapper; first | (rw [if_pos (by decide +kernel)]; kernel_rfl) | (rw [if_neg (by decide +kernel)]; exact ⟨rfl, rfl⟩))
    (fun os started H enc _ => lifted os started H enc)

theorem proved : Rows.FnExactCommandsClashSaid := over
end Go.Proofs.Ytdkpabnpobpdhaa.fnExactCommandsClash
