/-
  laws.FnExactCommandFrom returns true for every input, and leaves its arguments as they were.
  Conditions: none.
-/
import Derived.Test.YtoipbocbgadjbaaRows
import Derived.WalkKit
import Derived.ProofKit
import Derived.OpenShut
import Derived.ShutString
import Derived.ChangeOld
import Derived.Below
import Derived.Test.YtoipbocbgadjbaaQ7
import Derived.Test.YtoipbocbgadjbaaQ4
import Derived.Test.YtoipbocbgadjbaaQ8
namespace Go.Proofs.Ytoipbocbgadjbaa.fnExactCommandFrom
open Go.ChangeShapes Go.WideShapes Go.ChangeAt Go.RowKit
open Go.ChangeMaps (open_string shut_string)
set_option linter.unusedVariables false

theorem own : ownKnob Try.prog.godebug = none := by kernel_rfl
theorem laidOut : laidOutB Try.prog = true := by kernel_rfl

set_option maxHeartbeats 4000000 in
set_option maxRecDepth 100000 in
theorem walk (a0 : Option Addr) (len0 cap0 : Nat) (zs : List Int) (l0 : len0 ≤ maxLen) (c0 : len0 ≤ cap0) (m0 : cap0 ≤ maxLen) (w : World) (w0 : IntsAt w a0 len0 zs) :
    Calls Try.prog 7 #[.slice a0 len0 cap0] w fun e w' => e = .returned (.bool true) ∧ Below w.heap.size w w' := by
  by_cases h : len0 ≤ 1048576
  · have hl : (len0 : Int) ≤ 1048576 := by omega
    have HLE := Lib.hid w0.1
    have HTO := Lib.hid (fun W' (hb : Below w.heap.size w W') => toIntS_c a0 len0 cap0 zs (by omega) W' (w0.keep hb))
    obtain ⟨r, hr⟩ : ∃ r, cmdFrom zs = r := ⟨_, rfl⟩
    obtain ⟨⟨p, fk, fv, tk, tv⟩, ok⟩ := r
    have HI := Lib.hid (fun a c (h1 : len0 ≤ c) (h2 : c ≤ maxLen) W' (hi : IntsAt W' a len0 zs) => show Calls Try.prog 13 #[.slice a len0 c] W' (CmdPairPost ⟨p, fk, fv, tk, tv⟩ ok W') by have := implCmdFrom_c a len0 c zs (by omega) h1 h2 W' hi; rw [hr] at this; exact this)
    have HS := Lib.hid (fun a c W' (hi : IntsAt W' a len0 zs) => show Calls Try.prog 15 #[.slice a len0 c] W' (CmdPairPost ⟨p, fk, fv, tk, tv⟩ ok W') by have := specCmdFrom_c a len0 c zs (by omega) W' hi; rw [hr] at this; exact this)
    have HEQ := Lib.hid (fun a1 a2 c1 c2 W' (h1 : IntsAt W' a1 len0 zs) (h2 : IntsAt W' a2 len0 zs) => eqIntS_c a1 a2 len0 c1 c2 zs (by omega) W' h1 h2)
    have HEC := Lib.hid (fun w => eqCommand_c ⟨p, fk, fv, tk, tv⟩ w)
    have hbb : (ok != ok) = false := by simp
    clear h w0 l0 c0 m0 hr
    unfold CmdPairPost cmdV at HI HS
    unfold cmdV at HEC
    simp only at HI HS HEC
    go_enter Try.func7, Try.ntmps7
    go_wp2_with fail
    refine (HTO.out _ (Below.refl _ _)).mono ?_
    rintro e W1 ⟨h1, hb1⟩
    obtain ⟨a1, c1, rfl, hi1, -, -⟩ := h1.at
    rw [HLE.out] at hi1 ⊢
    have HS1 := Lib.hid (HS.out a1 c1 W1 hi1)
    have HB1 := Lib.hid hb1
    clear h1 hi1 hb1
    go_wp2_with fail
    refine HS1.out.mono ?_
    rintro e W2 ⟨rfl, hb2⟩
    have HB2 := Lib.hid (below_next HB1.out hb2)
    have X2 := Lib.hid (five_new W2 (.string p) (.int .i64 fk) (.int .i64 fv) (.int .i64 tk) (.int .i64 tv) 26)
    have HB2X := Lib.hid (below_next HB2.out (below_box W2 (.cells #[.string p, .int .i64 fk, .int .i64 fv, .int .i64 tk, .int .i64 tv] 26)))
    clear hb2
    go_wp2_with fail
    refine (HTO.out _ HB2X.out).mono ?_
    rintro e W3 ⟨h3, hb3⟩
    obtain ⟨a3, c3, rfl, hi3, hc3, hm3⟩ := h3.at
    rw [HLE.out] at hi3 hc3 ⊢
    have X3 := Lib.hid (X2.out.below hb3)
    have HB3 := Lib.hid (below_next HB2X.out hb3)
    have N3 := Lib.hid hi3
    have HI3 := Lib.hid (HI.out a3 c3 hc3 hm3 W3 hi3)
    clear h3 hi3 hc3 hm3 hb3
    go_wp2_with fail
    refine HI3.out.mono ?_
    rintro e W4 ⟨rfl, hb4⟩
    have N4 := Lib.hid (N3.out.keep hb4)
    have X4 := Lib.hid (X3.out.below hb4)
    have HB4 := Lib.hid (below_next HB3.out hb4)
    have Y4 := Lib.hid (five_new W4 (.string p) (.int .i64 fk) (.int .i64 fv) (.int .i64 tk) (.int .i64 tv) 26)
    have HB4X := Lib.hid (below_next HB4.out (below_box W4 (.cells #[.string p, .int .i64 fk, .int .i64 fv, .int .i64 tk, .int .i64 tv] 26)))
    have N4X := Lib.hid (N4.out.keep (below_box W4 (.cells #[.string p, .int .i64 fk, .int .i64 fv, .int .i64 tk, .int .i64 tv] 26)))
    clear hb4
    obtain ⟨o0, o1, o2, o3, o4, -⟩ := X4.out
    have d0 := fun o => cell_kept (below_box W4 o) o0
    have d1 := fun o => cell_kept (below_box W4 o) o1
    have d2 := fun o => cell_kept (below_box W4 o) o2
    have d3 := fun o => cell_kept (below_box W4 o) o3
    have d4 := fun o => cell_kept (below_box W4 o) o4
    clear o0 o1 o2 o3 o4
    go_wp2_with fail
    refine (HEC.out _).mono ?_
    rintro e W5 ⟨rfl, hb5⟩
    have HB5 := Lib.hid (below_next HB4X.out hb5)
    have N5 := Lib.hid (N4X.out.keep hb5)
    clear hb5 d0 d1 d2 d3 d4
    cases ok
    all_goals
      go_wp2_with fail
      refine (HTO.out _ HB5.out).mono ?_
      rintro e W6 ⟨h6, hb6⟩
      obtain ⟨a6, c6, rfl, hi6, -, -⟩ := h6.at
      rw [HLE.out] at hi6 ⊢
      have HB6 := Lib.hid (below_next HB5.out hb6)
      have HE6 := Lib.hid (HEQ.out a3 a6 c3 c6 W6 (N5.out.keep hb6) hi6)
      clear h6 hi6 hb6
      go_wp2_with fail
      refine HE6.out.mono ?_
      rintro e W7 ⟨rfl, hb7⟩
      have HB7 := Lib.hid (below_next HB6.out hb7)
      clear hb7
      go_wp2
      go_ret
      exact ⟨rfl, HB7.out⟩
  · have hl : (1048576 : Int) < len0 := by omega
    clear h w0
    go_enter Try.func7, Try.ntmps7
    go_wp2
    go_ret
    exact ⟨rfl, Below.refl _ _⟩


set_option maxRecDepth 100000 in
theorem lifted (os : Os) (started : os.Started) (H : Type) (enc : TypeId × Value → H) :
    ReturnsInHanded {} Try.checked os 7 .any (Rows.fnExactCommandFromSpec.pre6 enc Try.prog Try.f7 Rows.fnExactCommandFromRow.domain false) (Rows.fnExactCommandFromSpec.post enc Try.prog Try.f7 false true false false) := by
  refine returnsInHanded_of_change (C := Try.checked) own started (by kernel_rfl) Try.func7
    (ChangeSpec.witness6 (enc := enc) (C := Try.checked) false ⟨#[], #[.slice none 0 0], []⟩ 8 (by kernel_rfl) (by kernel_rfl) (by kernel_rfl) (by kernel_rfl)) ?_
  intro W base args ds gs before hval0 hW hcnd _
  have hval : ∀ (j : Nat) t v, Try.f7.params[j]? = some t → args[j]? = some v → Value.okWide Try.prog W .any base t v := hval0
  have hW' := hW
  obtain ⟨p, q, hA0, hV, rfl, hfz, hnd⟩ := hW
  have hA : DataW.TrodAll enc Try.prog W 0 (fun _ => true) true Try.f7.params.toList args.toList ds p := hA0
  rw [Try.params7] at hA hval
  obtain ⟨v0, vs0, d0, ds0, p0, q0, hargs, rfl, rfl, h0, r0⟩ := trodAll_cons hA
  obtain ⟨rfl, rfl, rfl⟩ := trodAll_nil r0
  obtain rfl : args = #[v0] := by cases args; simp_all
  obtain ⟨rfl, rfl⟩ := trodVars_none hV
  obtain ⟨a0, len0, cap0, rfl⟩ := okWide_slice Try.underlying28 (hval 0 28 v0 rfl rfl)
  have k0 := h0
  have lt0 : ∀ x ∈ p0, x.block < W.heap.size := by obtain ⟨m, hm⟩ := k0; exact DataW.trod_lt m _ _ _ hm
  obtain ⟨z0, w0, l0, c0, m0⟩ : ∃ zs, IntsAt W a0 len0 zs ∧ len0 ≤ maxLen ∧ len0 ≤ cap0 ∧ cap0 ≤ maxLen := by
    obtain ⟨fuel, hf⟩ := h0
    exact open_ints hf
  clear hA0 hval0
  refine (walk a0 len0 cap0 z0 l0 c0 m0 W w0).mono fun e W' ⟨he, bel⟩ => ?_
  subst he
  exact ⟨_, rfl, _, _, _, [], _, [], hW', trodAll_mk1 (shut_bool Try.underlying4 _), (trodAll_cons_mk (Below.trod laidOut (by kernel_rfl) (of_decide_eq_true (by kernel_rfl)) k0 bel lt0) trodAll_mk0), rfl, bel.frame _, fun h => by cases h⟩

theorem over : Rows.fnExactCommandFromRow.holds Try.pinned (OpenSpec.ofChange Rows.fnExactCommandFromSpec) :=
  OpenClaim.holds_of_wide 7 Try.f7 rfl rfl rfl rfl rfl rfl rfl ⟨rfl, rfl, rfl, rfl, rfl⟩ rfl rfl rfl rfl rfl (by kernel_rfl) Try.func7 (by kernel_rfl)
    (of_decide_eq_true (by kernel_rfl)) (by unfold Func.isWrapper; first | (rw [if_pos (by decide +kernel)]; kernel_rfl) | (rw [if_neg (by decide +kernel)]; exact ⟨rfl, rfl⟩))
    (fun os started H enc _ => lifted os started H enc)

theorem proved : Rows.FnExactCommandFromSaid := over
end Go.Proofs.Ytoipbocbgadjbaa.fnExactCommandFrom
