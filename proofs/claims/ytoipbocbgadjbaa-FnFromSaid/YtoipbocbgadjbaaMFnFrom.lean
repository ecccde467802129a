/-
  laws.FnFrom returns true for every input, and leaves its arguments as they were.
  Conditions: none.
-/
import Derived.Test.YtoipbocbgadjbaaRows
import Derived.WalkKit
import Derived.ProofKit
import Derived.OpenShut
import Derived.ShutString
import Derived.ChangeOld
import Derived.Below
import Derived.Test.YtoipbocbgadjbaaQ7
import Derived.Test.YtoipbocbgadjbaaQ9
namespace Go.Proofs.Ytoipbocbgadjbaa.fnFrom
open Go.ChangeShapes Go.WideShapes Go.ChangeAt Go.RowKit
open Go.ChangeMaps (open_string shut_string)
set_option linter.unusedVariables false

theorem own : ownKnob Try.prog.godebug = none := by kernel_rfl
theorem laidOut : laidOutB Try.prog = true := by kernel_rfl

set_option maxHeartbeats 4000000 in
set_option maxRecDepth 100000 in
theorem walk (a0 : Option Addr) (len0 cap0 : Nat) (z0 : List Int) (w : World) (w0 : IsRow .u8 w a0 len0 cap0 z0) :
    Calls Try.prog 4 #[.slice a0 len0 cap0] w fun e w' => e = .returned (.bool true) ∧ Below w.heap.size w w' := by
  by_cases h : len0 ≤ 1048576
  · have hl : (len0 : Int) ≤ 1048576 := by omega
    have HD := Lib.hid (drawCommandFrom_c a0 len0 cap0 z0 w w0)
    clear h w0
    go_enter Try.func4, Try.ntmps4
    go_wp2_with fail
    refine HD.out.mono ?_
    rintro e W1 hd
    obtain ⟨a, cap, zs, rfl, hn, hlen, hcl, hcm, hb1⟩ := hd.at
    obtain ⟨ln, hln⟩ : ∃ ln, zs.length = ln := ⟨_, rfl⟩
    rw [hln] at hn hlen hcl ⊢
    obtain ⟨fo, hfo⟩ : ∃ fo, fromOk zs = fo := ⟨_, rfl⟩
    obtain ⟨r, hr⟩ : ∃ r, cmdFrom zs = r := ⟨_, rfl⟩
    obtain ⟨c, ok⟩ := r
    have HI := Lib.hid (implCmdFrom_c a ln cap zs (by omega) hcl hcm W1 hn)
    have HS := Lib.hid (fun W' (hb : Below W1.heap.size W1 W') => specCmdFrom_c a ln cap zs (by omega) W' (hn.keep hb))
    rw [hr] at HI HS
    have HOK := Lib.hid (show ok = true → validC c = true ∧ cmdBytes c = zs by
      intro e
      subst e
      cases hf : fromOk zs with
      | true =>
        rw [cmdFrom_yes hf] at hr
        injection hr with hr1
        subst hr1
        exact ⟨((fromOk_iff zs).1 hf).2.2, bytes_from hf⟩
      | false =>
        rw [cmdFrom_no hf] at hr
        injection hr with _ hr2
        cases hr2)
    have HN := Lib.hid hn
    have HL := Lib.hid (And.intro hlen hln)
    have B1 := Lib.hid hb1
    clear hd hn hlen hcl hcm hb1 hln hfo hr
    obtain ⟨p, fk, fv, tk, tv⟩ := c
    have heq := fun w => cmdEqS p fk fv tk tv w
    have hne := fun w => cmdNeS p fk fv tk tv w
    unfold CmdPairPost cmdV at HI HS
    have hbb : (ok != ok) = false := by simp
    have hbe : (ok == ok) = true := by simp
    go_wp2_with fail
    refine HI.out.mono ?_
    rintro e W2 ⟨rfl, hb2⟩
    have B2 := Lib.hid hb2
    have B2X := Lib.hid (below_next hb2 (below_box W2 (.cells #[.string p, .int .i64 fk, .int .i64 fv, .int .i64 tk, .int .i64 tv] 26)))
    have X2 := Lib.hid (five_new W2 (.string p) (.int .i64 fk) (.int .i64 fv) (.int .i64 tk) (.int .i64 tv) 26)
    clear hb2
    go_wp2_with fail
    refine (HS.out _ B2X.out).mono ?_
    rintro e W3 ⟨rfl, hb3⟩
    have X3 := Lib.hid (X2.out.below hb3)
    have B3 := Lib.hid (below_next B2X.out hb3)
    clear hb3
    obtain ⟨od0, od1, od2, od3, od4, -⟩ := X3.out
    have d0 := fun o => cell_kept (below_box W3 o) od0
    have d1 := fun o => cell_kept (below_box W3 o) od1
    have d2 := fun o => cell_kept (below_box W3 o) od2
    have d3 := fun o => cell_kept (below_box W3 o) od3
    have d4 := fun o => cell_kept (below_box W3 o) od4
    have HX3 := Lib.hid (X3.out.alloc (.cells #[.string p, .int .i64 fk, .int .i64 fv, .int .i64 tk, .int .i64 tv] 26))
    have HB3 := Lib.hid (below_next B1.out (below_next B3.out (below_box W3 (.cells #[.string p, .int .i64 fk, .int .i64 fv, .int .i64 tk, .int .i64 tv] 26))))
    cases ok with
    | false =>
      go_wp2
      go_ret
      exact ⟨rfl, HB3.out⟩
    | true =>
      obtain ⟨k1, k2⟩ := HOK.out rfl
      have HPS := path_size ((validC_iff _).1 k1).1
      simp only at HPS
      have HU1 := Lib.hid (fun w => implCmdBytes_c ⟨p, fk, fv, tk, tv⟩ (by show p.size ≤ _; omega) w)
      have HV := Lib.hid (fun w => implCmdValid_c ⟨p, fk, fv, tk, tv⟩ (by show p.size ≤ _; omega) w)
      rw [k2] at HU1
      rw [k1] at HV
      unfold cmdV at HU1 HV
      simp only at HU1 HV
      clear k1 k2 HPS
      go_wp2_with fail
      refine (HU1.out _).mono ?_
      rintro e W4 ⟨h4, hb4⟩
      obtain ⟨x4, p4, rfl, hn4, -, -⟩ := h4.at
      have X4 := Lib.hid (HX3.out.below hb4)
      have B4 := Lib.hid (below_next HB3.out hb4)
      have N4 := Lib.hid hn4
      have NA := Lib.hid (HN.out.keep (below_next (below_next B3.out (below_box W3 (.cells #[.string p, .int .i64 fk, .int .i64 fv, .int .i64 tk, .int .i64 tv] 26))) hb4))
      rw [HL.out.2] at N4 ⊢
      have HSI := Lib.hid (sameInts_c x4 a ln p4 cap zs (by have := HL.out.1; omega) W4 N4.out NA.out)
      clear h4 hb4 hn4 d0 d1 d2 d3 d4
      go_wp2_with fail
      refine HSI.out.mono ?_
      rintro e W5 ⟨rfl, hb5⟩
      obtain ⟨c0, c1, c2, c3, c4, -⟩ := X4.out.below hb5
      have B5 := Lib.hid (below_next B4.out hb5)
      clear hb5
      go_wp2_with fail
      refine (HV.out _).mono ?_
      rintro e W6 ⟨rfl, hb6⟩
      have B6 := Lib.hid (below_next B5.out hb6)
      clear hb6
      go_wp2
      go_ret
      exact ⟨rfl, B6.out⟩
  · have hl : (1048576 : Int) < len0 := by omega
    clear h w0
    go_enter Try.func4, Try.ntmps4
    go_wp2
    go_ret
    exact ⟨rfl, Below.refl _ _⟩


set_option maxRecDepth 100000 in
theorem lifted (os : Os) (started : os.Started) (H : Type) (enc : TypeId × Value → H) :
    ReturnsInHanded {} Try.checked os 4 .any (Rows.fnFromSpec.pre6 enc Try.prog Try.f4 Rows.fnFromRow.domain false) (Rows.fnFromSpec.post enc Try.prog Try.f4 false true false false) := by
  refine returnsInHanded_of_change (C := Try.checked) own started (by kernel_rfl) Try.func4
    (ChangeSpec.witness6 (enc := enc) (C := Try.checked) false ⟨#[], #[.slice none 0 0], []⟩ 8 (by kernel_rfl) (by kernel_rfl) (by kernel_rfl) (by kernel_rfl)) ?_
  intro W base args ds gs before hval0 hW hcnd _
  have hval : ∀ (j : Nat) t v, Try.f4.params[j]? = some t → args[j]? = some v → Value.okWide Try.prog W .any base t v := hval0
  have hW' := hW
  obtain ⟨p, q, hA0, hV, rfl, hfz, hnd⟩ := hW
  have hA : DataW.TrodAll enc Try.prog W 0 (fun _ => true) true Try.f4.params.toList args.toList ds p := hA0
  rw [Try.params4] at hA hval
  obtain ⟨v0, vs0, d0, ds0, p0, q0, hargs, rfl, rfl, h0, r0⟩ := trodAll_cons hA
  obtain ⟨rfl, rfl, rfl⟩ := trodAll_nil r0
  obtain rfl : args = #[v0] := by cases args; simp_all
  obtain ⟨rfl, rfl⟩ := trodVars_none hV
  obtain ⟨a0, len0, cap0, rfl⟩ := okWide_slice Try.underlying22 (hval 0 22 v0 rfl rfl)
  have k0 := h0
  have lt0 : ∀ x ∈ p0, x.block < W.heap.size := by obtain ⟨m, hm⟩ := k0; exact DataW.trod_lt m _ _ _ hm
  obtain ⟨z0, w0⟩ : ∃ zs, IsRow .u8 W a0 len0 cap0 zs := by
    obtain ⟨fuel, hf⟩ := h0
    rcases _root_.Go.ChangeShapes.open_ints Try.underlying22 Try.underlying5 (by kernel_rfl) hf with ⟨hcs, _⟩ | ⟨x, l, c, zs, hcs, _, hl, hm, hz, _, hcell, hwz⟩
    · simp [Value.cells] at hcs
      obtain ⟨rfl, rfl, rfl⟩ := hcs
      exact ⟨[], .inl ⟨rfl, rfl, rfl, rfl⟩⟩
    · simp [Value.cells] at hcs
      obtain ⟨rfl, rfl, rfl⟩ := hcs
      exact ⟨zs, .inr ⟨_, rfl, hl, hm, by simpa using hz, hcell, hwz⟩⟩
  clear hA0 hval0
  refine (walk a0 len0 cap0 z0 W w0).mono fun e W' ⟨he, bel⟩ => ?_
  subst he
  exact ⟨_, rfl, _, _, _, [], _, [], hW', trodAll_mk1 (shut_bool Try.underlying4 _), (trodAll_cons_mk (Below.trod laidOut (by kernel_rfl) (of_decide_eq_true (by kernel_rfl)) k0 bel lt0) trodAll_mk0), rfl, bel.frame _, fun h => by cases h⟩

theorem over : Rows.fnFromRow.holds Try.pinned (OpenSpec.ofChange Rows.fnFromSpec) :=
  OpenClaim.holds_of_wide 4 Try.f4 rfl rfl rfl rfl rfl rfl rfl ⟨rfl, rfl, rfl, rfl, rfl⟩ rfl rfl rfl rfl rfl (by kernel_rfl) Try.func4 (by kernel_rfl)
    (of_decide_eq_true (by kernel_rfl)) (by unfold Func.isWrapper; first | (rw [if_pos (by decide +kernel)]; kernel_rfl) | (rw [if_neg (by decide +kernel)]; exact ⟨rfl, rfl⟩))
    (fun os started H enc _ => lifted os started H enc)

theorem proved : Rows.FnFromSaid := over
end Go.Proofs.Ytoipbocbgadjbaa.fnFrom
