/-
  laws.FnCrashTwice returns true for every input, and leaves its arguments as they were.
  Conditions: none.
-/
import Derived.Test.YtaehgdglbplomaaRows
import Derived.Test.YtaehgdglbplomaaJy
import Derived.Test.YtaehgdglbplomaaJn
import Derived.Test.YtaehgdglbplomaaJz
import Derived.WalkKit
import Derived.ProofKit
import Derived.OpenShut
import Derived.ShutString
import Derived.ChangeOld
import Derived.Below
namespace Go.Proofs.Ytaehgdglbplomaa.fnCrashTwice
open Go.ChangeShapes Go.WideShapes Go.ChangeAt Go.RowKit
open Go.ChangeMaps (open_string shut_string)
set_option linter.unusedVariables false

theorem own : ownKnob Try.prog.godebug = none := by kernel_rfl
theorem laidOut : laidOutB Try.prog = true := by kernel_rfl

set_option maxHeartbeats 4000000 in
set_option maxRecDepth 100000 in
theorem walk (a0 : Option Addr) (len0 cap0 : Nat) (z0 : List Int) (w : World) (w0 : IsRow .u8 w a0 len0 cap0 z0) :
    Calls Try.prog 8 #[.slice a0 len0 cap0] w fun e w' => e = .returned (.bool true) ∧ Below w.heap.size w w' := by
  by_cases h : len0 ≤ 1048576
  · have hl : (len0 : Int) ≤ 1048576 := by omega
    have HD := Lib.hid (drawDiskCrash_c a0 len0 cap0 z0 w w0)
    clear h w0
    go_enter Try.func8, Try.ntmps8
    go_wp2_with fail
    refine HD.out.mono ?_
    rintro e W1 ⟨sl, bs, ks, keep, rfl, hk, hd⟩
    obtain ⟨a, ln, c, rfl, hN, hc, hb1⟩ := hd.at
    have HCC := Lib.hid hc
    have HN := Lib.hid hN
    have HB1 := Lib.hid hb1
    obtain ⟨ak, lk, ck, rfl, hk, hkl⟩ := hk.ints (by omega)
    have HK := Lib.hid hk
    have HKL := Lib.hid hkl
    clear hk hkl
    clear hd hN hc hb1
    obtain ⟨r, hr⟩ : ∃ r, diskCrash bs keep = r := ⟨_, rfl⟩
    have HR := Lib.hid hr
    have HI := Lib.hid (fun W' (hb : Below W1.heap.size W1 W') => show Calls Try.prog 27 #[.slice a ln c, .slice ak lk ck] W' (DkPost r W') from hr ▸ iCrash c ck HKL.out (HN.out.keep hb) (HK.out.keep hb))
    have HS := Lib.hid (fun W' (hb : Below W1.heap.size W1 W') => show Calls Try.prog 33 #[.slice a ln c, .slice ak lk ck] W' (DkPost r W') from hr ▸ sCrash c ck HKL.out (HN.out.keep hb) (HK.out.keep hb))
    clear hr
    go_wp2_with fail
    refine (HI.out _ (Below.refl _ _)).mono ?_
    rintro e W2 ⟨a2, l2, c2, out, b, rfl, hr2, hN2, hc2, hb2⟩
    have HC2 := Lib.hid hc2
    have HR2 := Lib.hid hr2
    have HN2 := Lib.hid hN2
    have HB2 := Lib.hid hb2
    clear hr2 hN2 hc2 hb2
    go_wp2_with fail
    refine (HS.out _ HB2.out).mono ?_
    rintro e W3 ⟨a3, l3, c3, out', b', rfl, hr3, hN3, -, hb3⟩
    obtain ⟨rfl, rfl⟩ := told_same HR2.out hr3
    have hll : l2 = l3 := by rw [← HN2.out.len, ← hN3.len]
    subst hll
    have HB3 := Lib.hid (below_next HB2.out hb3)
    have HO := Lib.hid (HN2.out.keep hb3)
    have HW := Lib.hid hN3
    have hbb : (b' != b') = false := by simp
    have hbe : (b' == b') = true := by simp
    clear hr3 hN3 hb3 HI HS
    go_wp2_with fail
    refine (dkSame c2 c3 HO.out HW.out).mono ?_
    rintro e W4 ⟨rfl, hb4⟩
    have HB4 := Lib.hid (below_next HB3.out hb4)
    have HO4 := Lib.hid (HO.out.keep hb4)
    have HW4 := Lib.hid (HW.out.keep hb4)
    clear hb4
    cases b' with
    | false =>
      go_wp2_with fail
      refine (dkSame c2 c3 HO4.out HW4.out).mono ?_
      rintro e W5 ⟨rfl, hb5⟩
      have HE := Lib.hid (below_next HB1.out (below_next HB4.out hb5))
      clear hb5
      go_wp2
      go_ret
      exact ⟨rfl, HE.out⟩
    | true =>
      have HT := Lib.hid (HR.out.trans (told_true HR2.out))
      have HBX := Lib.hid (below_next HB1.out HB4.out)
      have HN4 := Lib.hid (HN.out.keep HB4.out)
      obtain ⟨h6, h7⟩ := crash_twice HT.out
      have HK4 := Lib.hid (HK.out.keep HB4.out)
      have HY := Lib.hid (show Calls Try.prog 27 #[.slice a2 l2 c2, .slice ak lk ck] W4 (DkPost (some out') W4) from h6 ▸ iCrash c2 ck HKL.out HO4.out HK4.out)
      have HV := Lib.hid (fun W' (hb : Below W4.heap.size W4 W') g => show Calls Try.prog 27 #[.slice a2 l2 c2, .slice (some ⟨g, 0, none⟩) 0 0] W' (DkPost (some out') W') from h7 ▸ iCrash c2 0 (by omega) (HO4.out.keep hb) (show IntsAt W' (some ⟨g, 0, none⟩) 0 [] from ⟨rfl, .inl rfl⟩))
      clear h6 h7
      go_wp2_with fail
      refine (HY.out).mono ?_
      rintro e W5 ⟨a5, l5, c5, out5, b5, rfl, hr5, hN5, -, hb5⟩
      obtain ⟨rfl, rfl⟩ := told_some hr5 rfl
      have HB5 := Lib.hid hb5
      have HN5 := Lib.hid hN5
      clear hr5 hN5 hb5
      have hbx := below_box W5 (.cells #[] 3)
      have HBL := Lib.hid (below_next HB5.out hbx)
      have HO5 := Lib.hid (HO4.out.keep HBL.out)
      have HN5a := Lib.hid (HN5.out.keep hbx)
      clear hbx
      go_wp2_with fail
      refine (HV.out _ HBL.out _).mono ?_
      rintro e W6 ⟨a6, l6, c6, out6, b6, rfl, hr6, hN6, -, hb6⟩
      obtain ⟨rfl, rfl⟩ := told_some hr6 rfl
      have HB6 := Lib.hid hb6
      have HN6 := Lib.hid hN6
      clear hr6 hN6 hb6
      have hll : l2 = l5 := by rw [← HO4.out.len, ← HN5.out.len]
      subst hll
      have hll : l2 = l6 := by rw [← HO4.out.len, ← HN6.out.len]
      subst hll
      go_wp2_with fail
      refine (dkSame c5 c2 (HN5a.out.keep HB6.out) (HO5.out.keep HB6.out)).mono ?_
      rintro e W7 ⟨rfl, hb7⟩
      have HO7 := Lib.hid ((HO5.out.keep HB6.out).keep hb7)
      have HN7 := Lib.hid (HN6.out.keep hb7)
      have HB7 := Lib.hid (below_next HB6.out hb7)
      clear hb7
      go_wp2_with fail
      refine (dkSame c6 c2 HN7.out HO7.out).mono ?_
      rintro e W8 ⟨rfl, hb8⟩
      have HE := Lib.hid (below_next HBX.out (below_next HBL.out (below_next HB7.out hb8)))
      clear hb8
      go_wp2
      go_ret
      exact ⟨rfl, HE.out⟩
  · have hl : (1048576 : Int) < len0 := by omega
    clear h w0
    go_enter Try.func8, Try.ntmps8
    go_wp2
    go_ret
    exact ⟨rfl, Below.refl _ _⟩


set_option maxRecDepth 100000 in
theorem lifted (os : Os) (started : os.Started) (H : Type) (enc : TypeId × Value → H) :
    ReturnsInHanded {} Try.checked os 8 .any (Rows.fnCrashTwiceSpec.pre6 enc Try.prog Try.f8 Rows.fnCrashTwiceRow.domain false) (Rows.fnCrashTwiceSpec.post enc Try.prog Try.f8 false true false false) := by
  refine returnsInHanded_of_change (C := Try.checked) own started (by kernel_rfl) Try.func8
    (ChangeSpec.witness6 (enc := enc) (C := Try.checked) false ⟨#[], #[.slice none 0 0], []⟩ 8 (by kernel_rfl) (by kernel_rfl) (by kernel_rfl) (by kernel_rfl)) ?_
  intro W base args ds gs before hval0 hW hcnd _
  have hval : ∀ (j : Nat) t v, Try.f8.params[j]? = some t → args[j]? = some v → Value.okWide Try.prog W .any base t v := hval0
  have hW' := hW
  obtain ⟨p, q, hA0, hV, rfl, hfz, hnd⟩ := hW
  have hA : DataW.TrodAll enc Try.prog W 0 (fun _ => true) true Try.f8.params.toList args.toList ds p := hA0
  rw [Try.params8] at hA hval
  obtain ⟨v0, vs0, d0, ds0, p0, q0, hargs, rfl, rfl, h0, r0⟩ := trodAll_cons hA
  obtain ⟨rfl, rfl, rfl⟩ := trodAll_nil r0
  obtain rfl : args = #[v0] := by cases args; simp_all
  obtain ⟨rfl, rfl⟩ := trodVars_none hV
  obtain ⟨a0, len0, cap0, rfl⟩ := okWide_slice Try.underlying22 (hval 0 22 v0 rfl rfl)
  have k0 := h0
  have lt0 : ∀ x ∈ p0, x.block < W.heap.size := by obtain ⟨m, hm⟩ := k0; exact DataW.trod_lt m _ _ _ hm
  obtain ⟨z0, w0⟩ : ∃ zs, IsRow .u8 W a0 len0 cap0 zs := by
    obtain ⟨fuel, hf⟩ := h0
    rcases open_ints Try.underlying22 Try.underlying5 (by kernel_rfl) hf with ⟨hcs, _⟩ | ⟨x, l, c, zs, hcs, _, hl, hm, hz, _, hcell, hwz⟩
    · simp [Value.cells] at hcs
      obtain ⟨rfl, rfl, rfl⟩ := hcs
      exact ⟨[], .inl ⟨rfl, rfl, rfl, rfl⟩⟩
    · simp [Value.cells] at hcs
      obtain ⟨rfl, rfl, rfl⟩ := hcs
      exact ⟨zs, .inr ⟨_, rfl, hl, hm, by simpa using hz, hcell, hwz⟩⟩
  clear hA0 hval0
  refine (walk a0 len0 cap0 z0 W w0).mono fun e W' ⟨he, bel⟩ => ?_
  subst he
  exact ⟨_, rfl, _, _, _, [], _, [], hW', trodAll_mk1 (shut_bool Try.underlying4 _), (trodAll_cons_mk (Below.trod laidOut (by kernel_rfl) (of_decide_eq_true (by kernel_rfl)) k0 bel lt0) trodAll_mk0), rfl, bel.frame _, fun h => by cases h⟩

theorem over : Rows.fnCrashTwiceRow.holds Try.pinned (OpenSpec.ofChange Rows.fnCrashTwiceSpec) :=
  OpenClaim.holds_of_wide 8 Try.f8 rfl rfl rfl rfl rfl rfl rfl ⟨rfl, rfl, rfl, rfl, rfl⟩ rfl rfl rfl rfl rfl (by kernel_rfl) Try.func8 (by unfold joinedFacts; rw [show Try.pinned.checked.prog = Try.prog from rfl, enter_ok, final_ok, make_ok]; kernel_rfl)
    (of_decide_eq_true (by kernel_rfl)) (by unfold Func.isWrapper; first | (rw [if_pos (by decide +kernel)]; kernel_rfl) | (rw [if_neg (by decide +kernel)]; exact ⟨rfl, rfl⟩))
    (fun os started H enc _ => lifted os started H enc)

theorem proved : Rows.FnCrashTwiceSaid := over
end Go.Proofs.Ytaehgdglbplomaa.fnCrashTwice
