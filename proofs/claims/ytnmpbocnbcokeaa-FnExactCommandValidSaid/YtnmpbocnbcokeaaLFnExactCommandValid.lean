/-
  laws.FnExactCommandValid returns true for every input, and leaves its arguments as they were.
  Conditions: none.
-/
import Derived.Test.YtnmpbocnbcokeaaRows
import Derived.Test.YtnmpbocnbcokeaaIw
import Derived.Test.YtnmpbocnbcokeaaCb
import Derived.Test.YtnmpbocnbcokeaaOc
import Derived.WalkKit
import Derived.ProofKit
import Derived.OpenShut
import Derived.ShutString
import Derived.ChangeOld
import Derived.Below
namespace Go.Proofs.Ytnmpbocnbcokeaa.fnExactCommandValid
open Go.ChangeShapes Go.WideShapes Go.ChangeAt Go.RowKit
open Go.ChangeMaps (open_string shut_string)
set_option linter.unusedVariables false

theorem own : ownKnob Try.prog.godebug = none := by kernel_rfl
theorem laidOut : laidOutB Try.prog = true := by kernel_rfl

set_option maxHeartbeats 2000000 in
set_option maxRecDepth 100000 in
theorem walk (c : Cmd) (hm : c.p.size ≤ maxLen) (w : World) :
    Calls Try.prog 5 #[cmdV c] w fun e w' => e = .returned (.bool true) ∧ Below w.heap.size w w' := by
  have HZ := Lib.hid (fun w => szCommand_c c 1048576 (by omega) (by omega) hm w)
  have HT := Lib.hid (fun w => toCommand_c c w)
  have HS0 := Lib.hid (fun (h : c.p.size ≤ 1048576) w => specCmdValid_c c (by omega) w)
  have HI0 := Lib.hid (fun (h : c.p.size ≤ 1048576) w => implCmdValid_c c (by omega) w)
  obtain ⟨vv, hvv⟩ : ∃ vv, validC c = vv := ⟨_, rfl⟩
  rw [hvv] at HS0 HI0
  clear hm hvv
  obtain ⟨p, fk, fv, tk, tv⟩ := c
  have HF := Lib.hid (five_new w (.string p) (.int .i64 fk) (.int .i64 fv) (.int .i64 tk) (.int .i64 tv) 33)
  unfold cmdV at HZ HT HS0 HI0 ⊢
  unfold CmdPost cmdV at HT
  simp only at HZ HT HS0 HI0 ⊢
  go_enter Try.func5, Try.ntmps5
  go_wp2_with fail
  refine (HZ.out _).mono ?_; rintro e W1 ⟨z, rfl, z0, z1, hz, hb1⟩
  have F1 := Lib.hid (HF.out.below hb1)
  have B1 := Lib.hid (below_next (below_box w _) hb1)
  have HZ1 := Lib.hid hz
  clear hb1 hz HF
  by_cases hneg : z < 0
  · clear z0 z1
    go_wp2
    go_ret
    exact ⟨rfl, B1.out⟩
  · have HS := Lib.hid (HS0.out (HZ1.out (by omega)))
    have HI := Lib.hid (HI0.out (HZ1.out (by omega)))
    have hpos : 0 ≤ z := by omega
    clear z0 z1 hneg HS0 HI0
    obtain ⟨c0, c1, c2, c3, c4, -⟩ := F1.out
    go_wp2_with fail
    refine (HT.out _).mono ?_; rintro e W2 ⟨rfl, hb2⟩
    have F2 := Lib.hid (F1.out.below hb2)
    have B2 := Lib.hid (below_next B1.out hb2)
    clear hb2 c0 c1 c2 c3 c4 F1
    go_wp2_with fail
    refine (HS.out _).mono ?_; rintro e W3 ⟨rfl, hb3⟩
    have F3 := Lib.hid (F2.out.below hb3)
    have B3 := Lib.hid (below_next B2.out hb3)
    clear hb3 F2
    obtain ⟨c0, c1, c2, c3, c4, -⟩ := F3.out

    go_wp2_with fail
    refine (HT.out _).mono ?_; rintro e W4 ⟨rfl, hb4⟩
    have B4 := Lib.hid (below_next B3.out hb4)
    clear hb4 c0 c1 c2 c3 c4 F3
    go_wp2_with fail
    refine (HI.out _).mono ?_; rintro e W5 ⟨rfl, hb5⟩
    have B5 := Lib.hid (below_next B4.out hb5)
    clear hb5
    go_wp2
    go_ret
    exact ⟨rfl, B5.out⟩

set_option maxRecDepth 100000 in
theorem lifted (os : Os) (started : os.Started) (H : Type) (enc : TypeId × Value → H) :
    ReturnsInHanded {} Try.checked os 5 .any (Rows.fnExactCommandValidSpec.pre6 enc Try.prog Try.f5 Rows.fnExactCommandValidRow.domain false) (Rows.fnExactCommandValidSpec.post enc Try.prog Try.f5 false true false false) := by
  refine returnsInHanded_of_change (C := Try.checked) own started (by kernel_rfl) Try.func5
    (ChangeSpec.witness6 (enc := enc) (C := Try.checked) false ⟨#[], #[.agg #[.string ⟨#[]⟩, .int .i64 0, .int .i64 0, .int .i64 0, .int .i64 0]], []⟩ 8 (by kernel_rfl) (by kernel_rfl) (by kernel_rfl) (by kernel_rfl)) ?_
  intro W base args ds gs before hval0 hW hcnd _
  have hval : ∀ (j : Nat) t v, Try.f5.params[j]? = some t → args[j]? = some v → Value.okWide Try.prog W .any base t v := hval0
  have hW' := hW
  obtain ⟨p, q, hA0, hV, rfl, hfz, hnd⟩ := hW
  have hA : DataW.TrodAll enc Try.prog W 0 (fun _ => true) true Try.f5.params.toList args.toList ds p := hA0
  rw [Try.params5] at hA hval
  obtain ⟨v0, vs0, d0, ds0, p0, q0, hargs, rfl, rfl, h0, r0⟩ := trodAll_cons hA
  obtain ⟨rfl, rfl, rfl⟩ := trodAll_nil r0
  obtain rfl : args = #[v0] := by cases args; simp_all
  obtain ⟨rfl, rfl⟩ := trodVars_none hV
  have k0 := h0
  have lt0 : ∀ x ∈ p0, x.block < W.heap.size := by obtain ⟨m, hm⟩ := k0; exact DataW.trod_lt m _ _ _ hm
  obtain ⟨a0, rfl, m0⟩ := open_command (hval 0 33 v0 rfl rfl) h0
  clear hA0 hval0
  refine (walk a0 m0 W).mono fun e W' ⟨he, bel⟩ => ?_
  subst he
  exact ⟨_, rfl, _, _, _, [], _, [], hW', trodAll_mk1 (shut_bool Try.underlying4 _), (trodAll_cons_mk (Below.trod laidOut (by kernel_rfl) (of_decide_eq_true (by kernel_rfl)) k0 bel lt0) trodAll_mk0), rfl, bel.frame _, fun h => by cases h⟩

theorem over : Rows.fnExactCommandValidRow.holds Try.pinned (OpenSpec.ofChange Rows.fnExactCommandValidSpec) :=
  OpenClaim.holds_of_wide 5 Try.f5 rfl rfl rfl rfl rfl rfl rfl ⟨rfl, rfl, rfl, rfl, rfl⟩ rfl rfl rfl rfl rfl (by kernel_rfl) Try.func5 (by kernel_rfl)
    (of_decide_eq_true (by kernel_rfl)) (by unfold Func.isWrapper; first | (rw [if_pos (by decide +kernel)]; kernel_rfl) | (rw [if_neg (by decide +kernel)]; exact ⟨rfl, rfl⟩))
    (fun os started H enc _ => lifted os started H enc)

theorem proved : Rows.FnExactCommandValidSaid := over
end Go.Proofs.Ytnmpbocnbcokeaa.fnExactCommandValid
