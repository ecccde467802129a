/-
  laws.FnWrite returns true for every input, and leaves its arguments as they were.
  Conditions: none.
-/
import Derived.Test.YtaehgdglbplomaaRows
import Derived.Test.YtaehgdglbplomaaJy
import Derived.Test.YtaehgdglbplomaaJx
import Derived.Test.YtaehgdglbplomaaJz
import Derived.WalkKit
import Derived.ProofKit
import Derived.OpenShut
import Derived.ShutString
import Derived.ChangeOld
import Derived.Below
namespace Go.Proofs.Ytaehgdglbplomaa.fnWrite
open Go.ChangeShapes Go.WideShapes Go.ChangeAt Go.RowKit
open Go.ChangeMaps (open_string shut_string)
set_option linter.unusedVariables false

theorem own : ownKnob Try.prog.godebug = none := by kernel_rfl
theorem laidOut : laidOutB Try.prog = true := by kernel_rfl

set_option maxHeartbeats 4000000 in
set_option maxRecDepth 100000 in
theorem walk (a0 : Option Addr) (len0 cap0 : Nat) (z0 : List Int) (w : World) (w0 : IsRow .u8 w a0 len0 cap0 z0) :
    Calls Try.prog 3 #[.slice a0 len0 cap0] w fun e w' => e = .returned (.bool true) ∧ Below w.heap.size w w' := by
  by_cases h : len0 ≤ 1048576
  · have hl : (len0 : Int) ≤ 1048576 := by omega
    have HD := Lib.hid (drawDiskWrite_c a0 len0 cap0 z0 w w0)
    clear h w0
    go_enter Try.func3, Try.ntmps3
    go_wp2_with fail
    refine HD.out.mono ?_
    rintro e W1 ⟨sl, bs, n, s, zs, rfl, -, hz, hd⟩
    obtain ⟨a, ln, c, rfl, hN, hc, hb1⟩ := hd.at
    have HCC := Lib.hid hc
    have HN := Lib.hid hN
    have HB1 := Lib.hid hb1
    obtain ⟨az, lz, cz, rfl, hzl, hzn⟩ := hz.at
    have HZ := Lib.hid hzl
    have HZN := Lib.hid (show zs.length ≤ 2000000 by omega)
    have HZ2 := Lib.hid hzn
    clear hz hzl hzn
    clear hd hN hc hb1
    obtain ⟨r, hr⟩ : ∃ r, diskWrite bs n zs = r := ⟨_, rfl⟩
    have HR := Lib.hid hr
    have HI := Lib.hid (fun W' (hb : Below W1.heap.size W1 W') => show Calls Try.prog 19 #[.slice a ln c, .int .i64 n, .slice az lz cz] W' (DkPost r W') from hr ▸ iWrite c n HZN.out (HN.out.keep hb) (HZ.out.keep hb))
    have HS := Lib.hid (fun W' (hb : Below W1.heap.size W1 W') => show Calls Try.prog 20 #[.slice a ln c, .int .i64 n, .slice az lz cz] W' (DkPost r W') from hr ▸ sWrite c n HZN.out (HN.out.keep hb) (HZ.out.keep hb))
    clear hr
    go_wp2_with fail
    refine (HI.out _ (Below.refl _ _)).mono ?_
    rintro e W2 ⟨a2, l2, c2, out, b, rfl, hr2, hN2, hc2, hb2⟩
    have HC2 := Lib.hid hc2
    have HR2 := Lib.hid hr2
    have HN2 := Lib.hid hN2
    have HB2 := Lib.hid hb2
    clear hr2 hN2 hc2 hb2
    go_wp2_with fail
    refine (HS.out _ HB2.out).mono ?_
    rintro e W3 ⟨a3, l3, c3, out', b', rfl, hr3, hN3, -, hb3⟩
    obtain ⟨rfl, rfl⟩ := told_same HR2.out hr3
    have hll : l2 = l3 := by rw [← HN2.out.len, ← hN3.len]
    subst hll
    have HB3 := Lib.hid (below_next HB2.out hb3)
    have HO := Lib.hid (HN2.out.keep hb3)
    have HW := Lib.hid hN3
    have hbb : (b' != b') = false := by simp
    have hbe : (b' == b') = true := by simp
    clear hr3 hN3 hb3 HI HS
    go_wp2_with fail
    refine (dkSame c2 c3 HO.out HW.out).mono ?_
    rintro e W4 ⟨rfl, hb4⟩
    have HB4 := Lib.hid (below_next HB3.out hb4)
    have HO4 := Lib.hid (HO.out.keep hb4)
    have HW4 := Lib.hid (HW.out.keep hb4)
    clear hb4
    cases b' with
    | false =>
      go_wp2_with fail
      refine (dkSame c2 c3 HO4.out HW4.out).mono ?_
      rintro e W5 ⟨rfl, hb5⟩
      have HE := Lib.hid (below_next HB1.out (below_next HB4.out hb5))
      clear hb5
      go_wp2
      go_ret
      exact ⟨rfl, HE.out⟩
    | true =>
      have HT := Lib.hid (HR.out.trans (told_true HR2.out))
      have HBX := Lib.hid (below_next HB1.out HB4.out)
      have HN4 := Lib.hid (HN.out.keep HB4.out)
      obtain ⟨-, h2, h4⟩ := write_told HT.out
      have HA := Lib.hid (iRead c n HN4.out)
      have HBB := Lib.hid (fun W' (hb : Below W4.heap.size W4 W') => show Calls Try.prog 22 #[.slice a2 l2 c2, .int .i64 n] W' (RdPost (some ((diskRead bs n).getD [] ++ zs)) W') from h2 ▸ iRead c2 n (HO4.out.keep hb))
      have H4 := Lib.hid h4
      clear h2 h4
      go_wp2_with fail
      refine HA.out.mono ?_
      rintro e W5 ⟨a5, l5, c5, o5, b5, rfl, hr5, hN5, hl5, hb5⟩
      obtain ⟨tot, htot⟩ : ∃ t, o5 ++ zs = t := ⟨_, rfl⟩
      rw [told_getD hr5, htot] at HBB
      have HTT := Lib.hid htot
      have HTL := Lib.hid (show tot.length ≤ 1000 by rw [← htot, List.length_append]; have := HZ2.out; omega)
      have HB5 := Lib.hid hb5
      have HN5 := Lib.hid hN5
      have HL5 := Lib.hid hl5
      clear hr5 hN5 hl5 hb5 htot
      go_wp2_with fail
      refine (HBB.out _ HB5.out).mono ?_
      rintro e W6 ⟨a6, l6, c6, o6, b6, rfl, hr6, hN6, -, hb6⟩
      obtain ⟨rfl, rfl⟩ := told_some hr6 rfl
      obtain ⟨rfl, -⟩ := hN6.ints
      have HB6 := Lib.hid (below_next HB5.out hb6)
      have H56 := Lib.hid (HN5.out.keep hb6)
      have HN6 := Lib.hid hN6
      have HZ6 := Lib.hid (HZ.out.keep (below_next HB4.out (below_next HB5.out hb6)))
      generalize hol : o6.length = ol at HN6 HTL
      have HOL := Lib.hid hol
      clear hr6 hN6 hb6 hol
      go_wp2
      go_loopw [14, 15, 16, 17, 18] (fun o _ _ _ _ wr => ∃ j : Nat, o = .int .i64 ((j : Int) + 1) ∧ j ≤ 3 ∧ Hid (Below W4.heap.size W4 wr) ∧ Hid (Below W6.heap.size W6 wr)) (fun o _ _ _ _ _ => 4 - (intOf o).toNat)
      case atStart => exact ⟨0, rfl, by omega, HB6, Lib.hid (Below.refl _ _)⟩
      case round =>
        obtain ⟨j, rfl, hj, HB, HBW⟩ := hrel
        by_cases hlt : j < 3
        · have hlt' : (j : Int) + 1 ≤ 3 := by omega
          have HJ := Lib.hid hlt
          have HRA := Lib.hid (iRead c ((j : Int) + 1) (HN4.out.keep HB.out))
          have HRB := Lib.hid (fun W' (hb : Below wr.heap.size wr W') => iRead c2 ((j : Int) + 1) (HO4.out.keep (below_next HB.out hb)))
          clear hj hlt
          go_wp2_with fail
          refine HRA.out.mono ?_
          rintro e W8 ⟨a8, l8, c8, o8, b8, rfl, hr8, hN8, hl8, hb8⟩
          have HB8 := Lib.hid hb8
          have HR8 := Lib.hid hr8
          have HN8 := Lib.hid hN8
          have HL8 := Lib.hid hl8
          clear hr8 hN8 hl8 hb8
          go_wp2_with fail
          refine (HRB.out _ HB8.out).mono ?_
          rintro e W9 ⟨a9, l9, c9, o9, b9, rfl, hr9, hN9, hl9, hb9⟩
          have HB9 := Lib.hid (below_next HB.out (below_next HB8.out hb9))
          have HW9 := Lib.hid (below_next HBW.out (below_next HB8.out hb9))
          have HN89 := Lib.hid (HN8.out.keep hb9)
          have HN9 := Lib.hid hN9
          have HR9 := Lib.hid hr9
          clear hr9 hN9 hl9 hb9
          by_cases hn : (j : Int) + 1 = n
          · have hd : ((j : Int) + 1 != n) = false := by simp [hn]
            clear hn
            go_wp2
            go_roundw
            case rel => exact ⟨j + 1, by go_num, HJ.out, HB9, HW9⟩
            case measure => have := HJ.out; simp [intOf]; omega
          · have hd : ((j : Int) + 1 != n) = true := by simpa using hn
            obtain ⟨rfl, rfl⟩ := told_same HR8.out (H4.out _ hn ▸ HR9.out)
            have hbx : (b9 != b9) = false := by simp
            obtain ⟨g8, -⟩ := HN8.out.ints
            obtain ⟨g9, -⟩ := HN9.out.ints
            have hll : l8 = l9 := by omega
            subst hll
            clear hn g8 g9
            go_wp2_with fail
            refine (lsSame c8 c9 (by have := HL8.out; omega) HN89.out HN9.out).mono ?_
            rintro e Wa ⟨rfl, hba⟩
            have HBa := Lib.hid (below_next HB9.out hba)
            have HWa := Lib.hid (below_next HW9.out hba)
            clear hba
            go_wp2
            go_roundw
            case rel => exact ⟨j + 1, by go_num, HJ.out, HBa, HWa⟩
            case measure => have := HJ.out; simp [intOf]; omega
        · obtain rfl : j = 3 := by omega
          clear hj hlt
          obtain ⟨lo, hlo⟩ : ∃ l, o5.length = l := ⟨_, rfl⟩
          obtain ⟨rfl, -⟩ := HN5.out.ints
          obtain ⟨rfl, -⟩ := HZ.out.ints
          have H5R := Lib.hid (fun W' (hb : Below wr.heap.size wr W') => (H56.out.keep HBW.out).keep hb)
          have HZR := Lib.hid (fun W' (hb : Below wr.heap.size wr W') => (HZ6.out.keep HBW.out).keep hb)
          have HSZ := Lib.hid (show o5.length ≤ 1000 ∧ o5.length + zs.length ≤ 1000 by have h1 := HTL.out; have h2 := HTT.out; have h3 := HOL.out; rw [← h3, ← h2, List.length_append] at h1; omega)
          clear hlo
          go_wp2_with (first
            | (at_builtin; refine wpList_wanted (by rfl) fun K hK => wp_append_lit _ _ rfl wr.heap.size _ rfl a5 o5.length c5 o5 rfl (H5R.out _ (below_al (Below.refl _ _) (Nat.le_refl _) _)) (by have := HSZ.out.1; omega) (by simp) ?_; intro v3 w3 hF3 hb3; refine hK _ _ ?_; have HB3 := Lib.hid (below_next (below_al (Below.refl wr.heap.size wr) (Nat.le_refl _) (.cells #[] 3)) hb3); have HF3 := Lib.hid hF3; obtain ⟨a3', c3', rfl⟩ := hF3.out; clear hF3 hb3)
            | (at_builtin; refine wpList_wanted (by rfl) fun K hK => wp_append_onto _ _ rfl wr.heap.size (.slice a3' o5.length c3') o5 rfl HF3.out az zs.length cz zs rfl (HZR.out _ HB3.out) (by have := HSZ.out.2; omega) HB3.out.size ?_; intro v4 w4 hF4 hb4; refine hK _ _ ?_; rw [HTT.out] at hF4; have HB4' := Lib.hid (HB3.out.trans hb4); have HF4 := Lib.hid hF4; obtain ⟨a4', c4', rfl⟩ := hF4.out; clear hF4 hb4))
          have HL4 := Lib.hid HF4.out.ls
          rw [HOL.out] at HL4 ⊢
          refine (lsSame c6 c4' (by rw [HOL.out]; exact HTL.out) ((HN6.out.keep HBW.out).keep HB4'.out) HL4.out).mono ?_
          rintro e Wb ⟨rfl, hbb⟩
          have HE := Lib.hid (below_next HBX.out (below_next (below_next HB.out HB4'.out) hbb))
          clear hbb
          go_wp2
          go_ret
          exact ⟨rfl, HE.out⟩
  · have hl : (1048576 : Int) < len0 := by omega
    clear h w0
    go_enter Try.func3, Try.ntmps3
    go_wp2
    go_ret
    exact ⟨rfl, Below.refl _ _⟩


set_option maxRecDepth 100000 in
theorem lifted (os : Os) (started : os.Started) (H : Type) (enc : TypeId × Value → H) :
    ReturnsInHanded {} Try.checked os 3 .any (Rows.fnWriteSpec.pre6 enc Try.prog Try.f3 Rows.fnWriteRow.domain false) (Rows.fnWriteSpec.post enc Try.prog Try.f3 false true false false) := by
  refine returnsInHanded_of_change (C := Try.checked) own started (by kernel_rfl) Try.func3
    (ChangeSpec.witness6 (enc := enc) (C := Try.checked) false ⟨#[], #[.slice none 0 0], []⟩ 8 (by kernel_rfl) (by kernel_rfl) (by kernel_rfl) (by kernel_rfl)) ?_
  intro W base args ds gs before hval0 hW hcnd _
  have hval : ∀ (j : Nat) t v, Try.f3.params[j]? = some t → args[j]? = some v → Value.okWide Try.prog W .any base t v := hval0
  have hW' := hW
  obtain ⟨p, q, hA0, hV, rfl, hfz, hnd⟩ := hW
  have hA : DataW.TrodAll enc Try.prog W 0 (fun _ => true) true Try.f3.params.toList args.toList ds p := hA0
  rw [Try.params3] at hA hval
  obtain ⟨v0, vs0, d0, ds0, p0, q0, hargs, rfl, rfl, h0, r0⟩ := trodAll_cons hA
  obtain ⟨rfl, rfl, rfl⟩ := trodAll_nil r0
  obtain rfl : args = #[v0] := by cases args; simp_all
  obtain ⟨rfl, rfl⟩ := trodVars_none hV
  obtain ⟨a0, len0, cap0, rfl⟩ := okWide_slice Try.underlying22 (hval 0 22 v0 rfl rfl)
  have k0 := h0
  have lt0 : ∀ x ∈ p0, x.block < W.heap.size := by obtain ⟨m, hm⟩ := k0; exact DataW.trod_lt m _ _ _ hm
  obtain ⟨z0, w0⟩ : ∃ zs, IsRow .u8 W a0 len0 cap0 zs := by
    obtain ⟨fuel, hf⟩ := h0
    rcases open_ints Try.underlying22 Try.underlying5 (by kernel_rfl) hf with ⟨hcs, _⟩ | ⟨x, l, c, zs, hcs, _, hl, hm, hz, _, hcell, hwz⟩
    · simp [Value.cells] at hcs
      obtain ⟨rfl, rfl, rfl⟩ := hcs
      exact ⟨[], .inl ⟨rfl, rfl, rfl, rfl⟩⟩
    · simp [Value.cells] at hcs
      obtain ⟨rfl, rfl, rfl⟩ := hcs
      exact ⟨zs, .inr ⟨_, rfl, hl, hm, by simpa using hz, hcell, hwz⟩⟩
  clear hA0 hval0
  refine (walk a0 len0 cap0 z0 W w0).mono fun e W' ⟨he, bel⟩ => ?_
  subst he
  exact ⟨_, rfl, _, _, _, [], _, [], hW', trodAll_mk1 (shut_bool Try.underlying4 _), (trodAll_cons_mk (Below.trod laidOut (by kernel_rfl) (of_decide_eq_true (by kernel_rfl)) k0 bel lt0) trodAll_mk0), rfl, bel.frame _, fun h => by cases h⟩

theorem over : Rows.fnWriteRow.holds Try.pinned (OpenSpec.ofChange Rows.fnWriteSpec) :=
  OpenClaim.holds_of_wide 3 Try.f3 rfl rfl rfl rfl rfl rfl rfl ⟨rfl, rfl, rfl, rfl, rfl⟩ rfl rfl rfl rfl rfl (by kernel_rfl) Try.func3 (by unfold joinedFacts; rw [show Try.pinned.checked.prog = Try.prog from rfl, enter_ok, final_ok, make_ok]; kernel_rfl)
    (of_decide_eq_true (by kernel_rfl)) (by unfold Func.isWrapper; first | (rw [if_pos (by decide +kernel)]; kernel_rfl) | (rw [if_neg (by decide +kernel)]; exact ⟨rfl, rfl⟩))
    (fun os started H enc _ => lifted os started H enc)

theorem proved : Rows.FnWriteSaid := over
end Go.Proofs.Ytaehgdglbplomaa.fnWrite
