/-
  laws.FnSync returns true for every input, and leaves its arguments as they were.
  Conditions: none.
-/
import Derived.Test.YtaehgdglbplomaaRows
import Derived.Test.YtaehgdglbplomaaJy
import Derived.Test.YtaehgdglbplomaaJz
import Derived.WalkKit
import Derived.ProofKit
import Derived.OpenShut
import Derived.ShutString
import Derived.ChangeOld
import Derived.Below
namespace Go.Proofs.Ytaehgdglbplomaa.fnSync
open Go.ChangeShapes Go.WideShapes Go.ChangeAt Go.RowKit
open Go.ChangeMaps (open_string shut_string)
set_option linter.unusedVariables false

theorem own : ownKnob Try.prog.godebug = none := by kernel_rfl
theorem laidOut : laidOutB Try.prog = true := by kernel_rfl

set_option maxHeartbeats 4000000 in
set_option maxRecDepth 100000 in
theorem walk (a0 : Option Addr) (len0 cap0 : Nat) (z0 : List Int) (w : World) (w0 : IsRow .u8 w a0 len0 cap0 z0) :
    Calls Try.prog 4 #[.slice a0 len0 cap0] w fun e w' => e = .returned (.bool true) ∧ Below w.heap.size w w' := by
  by_cases h : len0 ≤ 1048576
  · have hl : (len0 : Int) ≤ 1048576 := by omega
    have HD := Lib.hid (drawDiskSync_c a0 len0 cap0 z0 w w0)
    clear h w0
    go_enter Try.func4, Try.ntmps4
    go_wp2_with fail
    refine HD.out.mono ?_
    rintro e W1 ⟨sl, bs, n, rfl, -, hd⟩
    obtain ⟨a, ln, c, rfl, hN, hc, hb1⟩ := hd.at
    have HCC := Lib.hid hc
    have HN := Lib.hid hN
    have HB1 := Lib.hid hb1
    clear hd hN hc hb1
    obtain ⟨r, hr⟩ : ∃ r, diskSync bs n = r := ⟨_, rfl⟩
    have HR := Lib.hid hr
    have HI := Lib.hid (fun W' (hb : Below W1.heap.size W1 W') => show Calls Try.prog 25 #[.slice a ln c, .int .i64 n] W' (DkPost r W') from hr ▸ iSync c n (HN.out.keep hb))
    have HS := Lib.hid (fun W' (hb : Below W1.heap.size W1 W') => show Calls Try.prog 26 #[.slice a ln c, .int .i64 n] W' (DkPost r W') from hr ▸ sSync c n (HN.out.keep hb))
    clear hr
    go_wp2_with fail
    refine (HI.out _ (Below.refl _ _)).mono ?_
    rintro e W2 ⟨a2, l2, c2, out, b, rfl, hr2, hN2, hc2, hb2⟩
    have HC2 := Lib.hid hc2
    have HR2 := Lib.hid hr2
    have HN2 := Lib.hid hN2
    have HB2 := Lib.hid hb2
    clear hr2 hN2 hc2 hb2
    go_wp2_with fail
    refine (HS.out _ HB2.out).mono ?_
    rintro e W3 ⟨a3, l3, c3, out', b', rfl, hr3, hN3, -, hb3⟩
    obtain ⟨rfl, rfl⟩ := told_same HR2.out hr3
    have hll : l2 = l3 := by rw [← HN2.out.len, ← hN3.len]
    subst hll
    have HB3 := Lib.hid (below_next HB2.out hb3)
    have HO := Lib.hid (HN2.out.keep hb3)
    have HW := Lib.hid hN3
    have hbb : (b' != b') = false := by simp
    have hbe : (b' == b') = true := by simp
    clear hr3 hN3 hb3 HI HS
    go_wp2_with fail
    refine (dkSame c2 c3 HO.out HW.out).mono ?_
    rintro e W4 ⟨rfl, hb4⟩
    have HB4 := Lib.hid (below_next HB3.out hb4)
    have HO4 := Lib.hid (HO.out.keep hb4)
    have HW4 := Lib.hid (HW.out.keep hb4)
    clear hb4
    cases b' with
    | false =>
      go_wp2_with fail
      refine (dkSame c2 c3 HO4.out HW4.out).mono ?_
      rintro e W5 ⟨rfl, hb5⟩
      have HE := Lib.hid (below_next HB1.out (below_next HB4.out hb5))
      clear hb5
      go_wp2
      go_ret
      exact ⟨rfl, HE.out⟩
    | true =>
      have HT := Lib.hid (HR.out.trans (told_true HR2.out))
      have HBX := Lib.hid (below_next HB1.out HB4.out)
      have HN4 := Lib.hid (HN.out.keep HB4.out)
      obtain ⟨zs, xd, h1, h2, h3, h4⟩ := sync_told HT.out
      have HA := Lib.hid (show Calls Try.prog 22 #[.slice a ln c, .int .i64 n] W4 (RdPost (some zs) W4) from h1 ▸ iRead c n HN4.out)
      have HBB := Lib.hid (fun W' (hb : Below W4.heap.size W4 W') => show Calls Try.prog 22 #[.slice a2 l2 c2, .int .i64 n] W' (RdPost (some zs) W') from h2 ▸ iRead c2 n (HO4.out.keep hb))
      have HX := Lib.hid (fun W' (hb : Below W4.heap.size W4 W') g => show Calls Try.prog 27 #[.slice a2 l2 c2, .slice (some ⟨g, 0, none⟩) 0 0] W' (DkPost (some xd) W') from h3 ▸ iCrash c2 0 (by omega) (HO4.out.keep hb) (show IntsAt W' (some ⟨g, 0, none⟩) 0 [] from ⟨rfl, .inl rfl⟩))
      have HXR := Lib.hid (fun W' a l c (h : Dk W' a l xd) => show Calls Try.prog 22 #[.slice a l c, .int .i64 n] W' (RdPost (some zs) W') from h4 ▸ iRead c n h)
      clear h1 h2 h3 h4
      go_wp2_with fail
      refine (HA.out).mono ?_
      rintro e W5 ⟨a5, l5, c5, o5, b5, rfl, hr5, hN5, hl5, hb5⟩
      obtain ⟨rfl, rfl⟩ := told_some hr5 rfl
      have HB5 := Lib.hid hb5
      have HN5 := Lib.hid hN5
      have HL5 := Lib.hid hl5
      clear hr5 hN5 hb5 hl5
      go_wp2_with fail
      refine (HBB.out _ HB5.out).mono ?_
      rintro e W6 ⟨a6, l6, c6, o6, b6, rfl, hr6, hN6, hl6, hb6⟩
      obtain ⟨rfl, rfl⟩ := told_some hr6 rfl
      have HB6 := Lib.hid hb6
      have HN6 := Lib.hid hN6
      have HL6 := Lib.hid hl6
      clear hr6 hN6 hb6 hl6
      have hbx := below_box W6 (.cells #[] 3)
      have HBL := Lib.hid (below_next (below_next HB5.out HB6.out) hbx)
      have HBL5 := Lib.hid (below_next HB6.out hbx)
      have HBL6 := Lib.hid hbx
      clear hbx
      go_wp2_with fail
      refine (HX.out _ HBL.out _).mono ?_
      rintro e W7 ⟨a7, l7, c7, out7, b7, rfl, hr7, hN7, -, hb7⟩
      obtain ⟨rfl, rfl⟩ := told_some hr7 rfl
      have HB7 := Lib.hid hb7
      have HN7 := Lib.hid hN7
      clear hr7 hN7 hb7
      go_wp2_with fail
      refine (HXR.out _ _ _ _ HN7.out).mono ?_
      rintro e W8 ⟨a8, l8, c8, o8, b8, rfl, hr8, hN8, hl8, hb8⟩
      obtain ⟨rfl, rfl⟩ := told_some hr8 rfl
      have HB8 := Lib.hid hb8
      have HN8 := Lib.hid hN8
      have HL8 := Lib.hid hl8
      clear hr8 hN8 hb8 hl8
      have H58 := Lib.hid (HN5.out.keep (below_next HBL5.out (below_next HB7.out HB8.out)))
      have H68 := Lib.hid (HN6.out.keep (below_next HBL6.out (below_next HB7.out HB8.out)))
      have HBZ := Lib.hid (below_next HBL.out (below_next HB7.out HB8.out))
      obtain ⟨g5, -⟩ := HN5.out.ints
      obtain ⟨g6, -⟩ := HN6.out.ints
      obtain ⟨g8, -⟩ := HN8.out.ints
      have hll : l5 = l6 := by omega
      subst hll
      have hll : l5 = l8 := by omega
      subst hll
      clear g5 g6 g8
      go_wp2_with fail
      refine (lsSame c5 c6 (by have := HL5.out; omega) H58.out H68.out).mono ?_
      rintro e W9 ⟨rfl, hb9⟩
      have H59 := Lib.hid (H58.out.keep hb9)
      have H89 := Lib.hid (HN8.out.keep hb9)
      have HB9 := Lib.hid (below_next HBZ.out hb9)
      clear hb9
      go_wp2_with fail
      refine (lsSame c5 c8 (by have := HL5.out; omega) H59.out H89.out).mono ?_
      rintro e Wa ⟨rfl, hba⟩
      have HE := Lib.hid (below_next HBX.out (below_next HB9.out hba))
      clear hba
      go_wp2
      go_ret
      exact ⟨rfl, HE.out⟩
  · have hl : (1048576 : Int) < len0 := by omega
    clear h w0
    go_enter Try.func4, Try.ntmps4
    go_wp2
    go_ret
    exact ⟨rfl, Below.refl _ _⟩


set_option maxRecDepth 100000 in
theorem lifted (os : Os) (started : os.Started) (H : Type) (enc : TypeId × Value → H) :
    ReturnsInHanded {} Try.checked os 4 .any (Rows.fnSyncSpec.pre6 enc Try.prog Try.f4 Rows.fnSyncRow.domain false) (Rows.fnSyncSpec.post enc Try.prog Try.f4 false true false false) := by
  refine returnsInHanded_of_change (C := Try.checked) own started (by kernel_rfl) Try.func4
    (ChangeSpec.witness6 (enc := enc) (C := Try.checked) false ⟨#[], #[.slice none 0 0], []⟩ 8 (by kernel_rfl) (by kernel_rfl) (by kernel_rfl) (by kernel_rfl)) ?_
  intro W base args ds gs before hval0 hW hcnd _
  have hval : ∀ (j : Nat) t v, Try.f4.params[j]? = some t → args[j]? = some v → Value.okWide Try.prog W .any base t v := hval0
  have hW' := hW
  obtain ⟨p, q, hA0, hV, rfl, hfz, hnd⟩ := hW
  have hA : DataW.TrodAll enc Try.prog W 0 (fun _ => true) true Try.f4.params.toList args.toList ds p := hA0
  rw [Try.params4] at hA hval
  obtain ⟨v0, vs0, d0, ds0, p0, q0, hargs, rfl, rfl, h0, r0⟩ := trodAll_cons hA
  obtain ⟨rfl, rfl, rfl⟩ := trodAll_nil r0
  obtain rfl : args = #[v0] := by cases args; simp_all
  obtain ⟨rfl, rfl⟩ := trodVars_none hV
  obtain ⟨a0, len0, cap0, rfl⟩ := okWide_slice Try.underlying22 (hval 0 22 v0 rfl rfl)
  have k0 := h0
  have lt0 : ∀ x ∈ p0, x.block < W.heap.size := by obtain ⟨m, hm⟩ := k0; exact DataW.trod_lt m _ _ _ hm
  obtain ⟨z0, w0⟩ : ∃ zs, IsRow .u8 W a0 len0 cap0 zs := by
    obtain ⟨fuel, hf⟩ := h0
    rcases open_ints Try.underlying22 Try.underlying5 (by kernel_rfl) hf with ⟨hcs, _⟩ | ⟨x, l, c, zs, hcs, _, hl, hm, hz, _, hcell, hwz⟩
    · simp [Value.cells] at hcs
      obtain ⟨rfl, rfl, rfl⟩ := hcs
      exact ⟨[], .inl ⟨rfl, rfl, rfl, rfl⟩⟩
    · simp [Value.cells] at hcs
      obtain ⟨rfl, rfl, rfl⟩ := hcs
      exact ⟨zs, .inr ⟨_, rfl, hl, hm, by simpa using hz, hcell, hwz⟩⟩
  clear hA0 hval0
  refine (walk a0 len0 cap0 z0 W w0).mono fun e W' ⟨he, bel⟩ => ?_
  subst he
  exact ⟨_, rfl, _, _, _, [], _, [], hW', trodAll_mk1 (shut_bool Try.underlying4 _), (trodAll_cons_mk (Below.trod laidOut (by kernel_rfl) (of_decide_eq_true (by kernel_rfl)) k0 bel lt0) trodAll_mk0), rfl, bel.frame _, fun h => by cases h⟩

theorem over : Rows.fnSyncRow.holds Try.pinned (OpenSpec.ofChange Rows.fnSyncSpec) :=
  OpenClaim.holds_of_wide 4 Try.f4 rfl rfl rfl rfl rfl rfl rfl ⟨rfl, rfl, rfl, rfl, rfl⟩ rfl rfl rfl rfl rfl (by kernel_rfl) Try.func4 (by unfold joinedFacts; rw [show Try.pinned.checked.prog = Try.prog from rfl, enter_ok, final_ok, make_ok]; kernel_rfl)
    (of_decide_eq_true (by kernel_rfl)) (by unfold Func.isWrapper; first | (rw [if_pos (by decide +kernel)]; kernel_rfl) | (rw [if_neg (by decide +kernel)]; exact ⟨rfl, rfl⟩))
    (fun os started H enc _ => lifted os started H enc)

theorem proved : Rows.FnSyncSaid := over
end Go.Proofs.Ytaehgdglbplomaa.fnSync
