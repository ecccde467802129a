/-
  laws.FnWriteParts returns true for every input, and leaves its arguments as they were.
  Conditions: none.
-/
import Derived.Test.YtaehgdglbplomaaRows
import Derived.Test.YtaehgdglbplomaaJy
import Derived.Test.YtaehgdglbplomaaJx
import Derived.Test.YtaehgdglbplomaaJz
import Derived.WalkKit
import Derived.ProofKit
import Derived.OpenShut
import Derived.ShutString
import Derived.ChangeOld
import Derived.Below
namespace Go.Proofs.Ytaehgdglbplomaa.fnWriteParts
open Go.ChangeShapes Go.WideShapes Go.ChangeAt Go.RowKit
open Go.ChangeMaps (open_string shut_string)
set_option linter.unusedVariables false

theorem own : ownKnob Try.prog.godebug = none := by kernel_rfl
theorem laidOut : laidOutB Try.prog = true := by kernel_rfl

set_option maxHeartbeats 4000000 in
set_option maxRecDepth 100000 in
theorem walk (a0 : Option Addr) (len0 cap0 : Nat) (z0 : List Int) (a1 : Option Addr) (len1 cap1 : Nat) (z1 : List Int) (w : World) (w0 : IsRow .u8 w a0 len0 cap0 z0) (w1 : IsRow .u8 w a1 len1 cap1 z1) :
    Calls Try.prog 9 #[.slice a0 len0 cap0, .slice a1 len1 cap1] w fun e w' => e = .returned (.bool true) ∧ Below w.heap.size w w' := by
  clear w1
  by_cases h : len0 ≤ 1048576
  · have hl : (len0 : Int) ≤ 1048576 := by omega
    by_cases h1 : len1 ≤ 1048576
    case neg =>
      have hl1 : (1048576 : Int) < len1 := by omega
      clear h h1 w0
      go_enter Try.func9, Try.ntmps9
      go_wp2
      go_ret
      exact ⟨rfl, Below.refl _ _⟩
    have hl1 : (len1 : Int) ≤ 1048576 := by omega
    clear h1
    have HD := Lib.hid (drawDiskWrite_c a0 len0 cap0 z0 w w0)
    clear h w0
    go_enter Try.func9, Try.ntmps9
    go_wp2_with fail
    refine HD.out.mono ?_
    rintro e W1 ⟨sl, bs, n, s, zs, rfl, -, hz, hd⟩
    obtain ⟨a, ln, c, rfl, hN, hc, hb1⟩ := hd.at
    have HCC := Lib.hid hc
    have HN := Lib.hid hN
    have HB1 := Lib.hid hb1
    obtain ⟨az, lz, cz, rfl, hzl, hzn⟩ := hz.at
    have HZ := Lib.hid hzl
    have HZS := Lib.hid hz.shape
    have HZN := Lib.hid (show zs.length ≤ 2000000 by omega)
    have hlz : (lz : Int) ≤ 200 := by have := hzl.ints.1; omega
    have hlc : (lz : Int) ≤ cz := by have := hzl.ints; omega
    have hcb : cz ≤ 9223372036854775807 := Nat.le_trans hzl.ints.2.2.2.1 (by unfold maxLen; omega)
    clear hz hzl hzn
    clear hd hN hc hb1
    obtain ⟨r, hr⟩ : ∃ r, diskWrite bs n zs = r := ⟨_, rfl⟩
    have HR := Lib.hid hr
    have HI := Lib.hid (fun W' (hb : Below W1.heap.size W1 W') => show Calls Try.prog 19 #[.slice a ln c, .int .i64 n, .slice az lz cz] W' (DkPost r W') from hr ▸ iWrite c n HZN.out (HN.out.keep hb) (HZ.out.keep hb))
    have HS := Lib.hid (fun W' (hb : Below W1.heap.size W1 W') => show Calls Try.prog 20 #[.slice a ln c, .int .i64 n, .slice az lz cz] W' (DkPost r W') from hr ▸ sWrite c n HZN.out (HN.out.keep hb) (HZ.out.keep hb))
    clear hr
    go_wp2_with fail
    refine (HI.out _ (Below.refl _ _)).mono ?_
    rintro e W2 ⟨a2, l2, c2, out, b, rfl, hr2, hN2, hc2, hb2⟩
    have HC2 := Lib.hid hc2
    have HR2 := Lib.hid hr2
    have HN2 := Lib.hid hN2
    have HB2 := Lib.hid hb2
    clear hr2 hN2 hc2 hb2
    go_wp2_with fail
    refine (HS.out _ HB2.out).mono ?_
    rintro e W3 ⟨a3, l3, c3, out', b', rfl, hr3, hN3, -, hb3⟩
    obtain ⟨rfl, rfl⟩ := told_same HR2.out hr3
    have hll : l2 = l3 := by rw [← HN2.out.len, ← hN3.len]
    subst hll
    have HB3 := Lib.hid (below_next HB2.out hb3)
    have HO := Lib.hid (HN2.out.keep hb3)
    have HW := Lib.hid hN3
    have hbb : (b' != b') = false := by simp
    have hbe : (b' == b') = true := by simp
    clear hr3 hN3 hb3 HI HS
    go_wp2_with fail
    refine (dkSame c2 c3 HO.out HW.out).mono ?_
    rintro e W4 ⟨rfl, hb4⟩
    have HB4 := Lib.hid (below_next HB3.out hb4)
    have HO4 := Lib.hid (HO.out.keep hb4)
    have HW4 := Lib.hid (HW.out.keep hb4)
    clear hb4
    cases b' with
    | false =>
      go_wp2_with fail
      refine (dkSame c2 c3 HO4.out HW4.out).mono ?_
      rintro e W5 ⟨rfl, hb5⟩
      have HE := Lib.hid (below_next HB1.out (below_next HB4.out hb5))
      clear hb5
      go_wp2
      go_ret
      exact ⟨rfl, HE.out⟩
    | true =>
      have HT := Lib.hid (HR.out.trans (told_true HR2.out))
      have HBX := Lib.hid (below_next HB1.out HB4.out)
      have HN4 := Lib.hid (HN.out.keep HB4.out)
      have HZ4 := Lib.hid (HZ.out.keep HB4.out)
      have hapA := rem_natX len1 (lz + 1) (by omega)
      rw [show ((lz + 1 : Nat) : Int) = (lz : Int) + 1 by push_cast; rfl] at hapA
      obtain ⟨k, hk⟩ : ∃ k, k = len1 % (lz + 1) := ⟨_, rfl⟩
      rw [← hk] at hapA
      have hkl : k ≤ lz := by have := Nat.mod_lt len1 (show 0 < lz + 1 by omega); omega
      have hkl' : (k : Int) ≤ lz := by omega
      have hk0 : (0 : Int) ≤ k := by omega
      have hkc : (k : Int) ≤ cz := by omega
      have HKL := Lib.hid hkl
      obtain ⟨x, h1, h2⟩ := write_parts HT.out k
      have HFST := Lib.hid (show Calls Try.prog 19 #[.slice a ln c, .int .i64 n, .slice az k cz] W4 (DkPost (some x) W4) from h1 ▸ iWrite c n (by rw [List.length_take]; have := HZN.out; omega) HN4.out (HZ4.out.first hkl))
      have HSND := Lib.hid h2
      clear hk hkl h1 h2
      go_wp2_with fail
      refine (HFST.out).mono ?_
      rintro e W5 ⟨a5, l5, c5, out5, b5, rfl, hr5, hN5, -, hb5⟩
      obtain ⟨rfl, rfl⟩ := told_some hr5 rfl
      have HB5 := Lib.hid hb5
      have HN5 := Lib.hid hN5
      clear hr5 hN5 hb5
      have HRST := Lib.hid (fun a' l' c' (h : LsAt W5 (.slice a' l' c') (zs.drop k)) => show Calls Try.prog 19 #[.slice a5 l5 c5, .int .i64 n, .slice a' l' c'] W5 (DkPost (some out') W5) from HSND.out ▸ iWrite c5 n (by rw [List.length_drop]; have := HZN.out; omega) HN5.out h)
      have HZ5 := Lib.hid (HZ4.out.keep HB5.out)
      rcases HZS.out with ⟨rfl, rfl, rfl⟩ | ⟨g, rfl⟩
      · obtain rfl : k = 0 := by have := HKL.out; omega
        go_wp2_with fail
        refine (HRST.out _ _ _ (by rw [List.drop_zero]; exact HZ5.out)).mono ?_
        rintro e W6 ⟨a6, l6, c6, o6, b6, rfl, hr6, hN6, -, hb6⟩
        obtain ⟨rfl, rfl⟩ := told_some hr6 rfl
        have hll : l2 = l6 := by rw [← HO4.out.len, ← hN6.len]
        subst hll
        have HN6 := Lib.hid hN6
        have HO6 := Lib.hid ((HO4.out.keep HB5.out).keep hb6)
        have HB6 := Lib.hid (below_next HB5.out hb6)
        clear hr6 hN6 hb6
        go_wp2_with fail
        refine (dkSame c6 c2 HN6.out HO6.out).mono ?_
        rintro e W7 ⟨rfl, hb7⟩
        have HE := Lib.hid (below_next HBX.out (below_next HB6.out hb7))
        clear hb7
        go_wp2
        go_ret
        exact ⟨rfl, HE.out⟩
      · by_cases hcap : cz = k
        · subst hcap
          have hlk : lz = cz := by have := HKL.out; omega
          subst hlk
          go_wp2_with fail
          refine (HRST.out _ _ _ (by rw [List.drop_of_length_le (by have := HZ5.out.ints.1; omega)]; exact ls_nothing (Nat.zero_le _) (by simp))).mono ?_
          rintro e W6 ⟨a6, l6, c6, o6, b6, rfl, hr6, hN6, -, hb6⟩
          obtain ⟨rfl, rfl⟩ := told_some hr6 rfl
          have hll : l2 = l6 := by rw [← HO4.out.len, ← hN6.len]
          subst hll
          have HN6 := Lib.hid hN6
          have HO6 := Lib.hid ((HO4.out.keep HB5.out).keep hb6)
          have HB6 := Lib.hid (below_next HB5.out hb6)
          clear hr6 hN6 hb6
          go_wp2_with fail
          refine (dkSame c6 c2 HN6.out HO6.out).mono ?_
          rintro e W7 ⟨rfl, hb7⟩
          have HE := Lib.hid (below_next HBX.out (below_next HB6.out hb7))
          clear hb7
          go_wp2
          go_ret
          exact ⟨rfl, HE.out⟩
        · have hcap' : ¬ k = cz := fun e => hcap e.symm
          have hcap2 : ¬ ((k : Int) = cz) := by omega
          go_wp2_with fail
          refine (HRST.out _ _ _ (HZ5.out.rest HKL.out)).mono ?_
          rintro e W6 ⟨a6, l6, c6, o6, b6, rfl, hr6, hN6, -, hb6⟩
          obtain ⟨rfl, rfl⟩ := told_some hr6 rfl
          have hll : l2 = l6 := by rw [← HO4.out.len, ← hN6.len]
          subst hll
          have HN6 := Lib.hid hN6
          have HO6 := Lib.hid ((HO4.out.keep HB5.out).keep hb6)
          have HB6 := Lib.hid (below_next HB5.out hb6)
          clear hr6 hN6 hb6
          go_wp2_with fail
          refine (dkSame c6 c2 HN6.out HO6.out).mono ?_
          rintro e W7 ⟨rfl, hb7⟩
          have HE := Lib.hid (below_next HBX.out (below_next HB6.out hb7))
          clear hb7
          go_wp2
          go_ret
          exact ⟨rfl, HE.out⟩
  · have hl : (1048576 : Int) < len0 := by omega
    clear h w0
    go_enter Try.func9, Try.ntmps9
    go_wp2
    go_ret
    exact ⟨rfl, Below.refl _ _⟩


set_option maxRecDepth 100000 in
theorem lifted (os : Os) (started : os.Started) (H : Type) (enc : TypeId × Value → H) :
    ReturnsInHanded {} Try.checked os 9 .any (Rows.fnWritePartsSpec.pre6 enc Try.prog Try.f9 Rows.fnWritePartsRow.domain false) (Rows.fnWritePartsSpec.post enc Try.prog Try.f9 false true false false) := by
  refine returnsInHanded_of_change (C := Try.checked) own started (by kernel_rfl) Try.func9
    (ChangeSpec.witness6 (enc := enc) (C := Try.checked) false ⟨#[], #[.slice none 0 0, .slice none 0 0], []⟩ 8 (by kernel_rfl) (by kernel_rfl) (by kernel_rfl) (by kernel_rfl)) ?_
  intro W base args ds gs before hval0 hW hcnd _
  have hval : ∀ (j : Nat) t v, Try.f9.params[j]? = some t → args[j]? = some v → Value.okWide Try.prog W .any base t v := hval0
  have hW' := hW
  obtain ⟨p, q, hA0, hV, rfl, hfz, hnd⟩ := hW
  have hA : DataW.TrodAll enc Try.prog W 0 (fun _ => true) true Try.f9.params.toList args.toList ds p := hA0
  rw [Try.params9] at hA hval
  obtain ⟨v0, vs0, d0, ds0, p0, q0, hargs, rfl, rfl, h0, r0⟩ := trodAll_cons hA
  obtain ⟨v1, vs1, d1, ds1, p1, q1, rfl, rfl, rfl, h1, r1⟩ := trodAll_cons r0
  obtain ⟨rfl, rfl, rfl⟩ := trodAll_nil r1
  obtain rfl : args = #[v0, v1] := by cases args; simp_all
  obtain ⟨rfl, rfl⟩ := trodVars_none hV
  obtain ⟨a0, len0, cap0, rfl⟩ := okWide_slice Try.underlying22 (hval 0 22 v0 rfl rfl)
  have k0 := h0
  have lt0 : ∀ x ∈ p0, x.block < W.heap.size := by obtain ⟨m, hm⟩ := k0; exact DataW.trod_lt m _ _ _ hm
  obtain ⟨z0, w0⟩ : ∃ zs, IsRow .u8 W a0 len0 cap0 zs := by
    obtain ⟨fuel, hf⟩ := h0
    rcases open_ints Try.underlying22 Try.underlying5 (by kernel_rfl) hf with ⟨hcs, _⟩ | ⟨x, l, c, zs, hcs, _, hl, hm, hz, _, hcell, hwz⟩
    · simp [Value.cells] at hcs
      obtain ⟨rfl, rfl, rfl⟩ := hcs
      exact ⟨[], .inl ⟨rfl, rfl, rfl, rfl⟩⟩
    · simp [Value.cells] at hcs
      obtain ⟨rfl, rfl, rfl⟩ := hcs
      exact ⟨zs, .inr ⟨_, rfl, hl, hm, by simpa using hz, hcell, hwz⟩⟩
  obtain ⟨a1, len1, cap1, rfl⟩ := okWide_slice Try.underlying22 (hval 1 22 v1 rfl rfl)
  have k1 := h1
  have lt1 : ∀ x ∈ p1, x.block < W.heap.size := by obtain ⟨m, hm⟩ := k1; exact DataW.trod_lt m _ _ _ hm
  obtain ⟨z1, w1⟩ : ∃ zs, IsRow .u8 W a1 len1 cap1 zs := by
    obtain ⟨fuel, hf⟩ := h1
    rcases open_ints Try.underlying22 Try.underlying5 (by kernel_rfl) hf with ⟨hcs, _⟩ | ⟨x, l, c, zs, hcs, _, hl, hm, hz, _, hcell, hwz⟩
    · simp [Value.cells] at hcs
      obtain ⟨rfl, rfl, rfl⟩ := hcs
      exact ⟨[], .inl ⟨rfl, rfl, rfl, rfl⟩⟩
    · simp [Value.cells] at hcs
      obtain ⟨rfl, rfl, rfl⟩ := hcs
      exact ⟨zs, .inr ⟨_, rfl, hl, hm, by simpa using hz, hcell, hwz⟩⟩
  clear hA0 hval0
  refine (walk a0 len0 cap0 z0 a1 len1 cap1 z1 W w0 w1).mono fun e W' ⟨he, bel⟩ => ?_
  subst he
  exact ⟨_, rfl, _, _, _, [], _, [], hW', trodAll_mk1 (shut_bool Try.underlying4 _), (trodAll_cons_mk (Below.trod laidOut (by kernel_rfl) (of_decide_eq_true (by kernel_rfl)) k0 bel lt0) (trodAll_cons_mk (Below.trod laidOut (by kernel_rfl) (of_decide_eq_true (by kernel_rfl)) k1 bel lt1) trodAll_mk0)), rfl, bel.frame _, fun h => by cases h⟩

theorem over : Rows.fnWritePartsRow.holds Try.pinned (OpenSpec.ofChange Rows.fnWritePartsSpec) :=
  OpenClaim.holds_of_wide 9 Try.f9 rfl rfl rfl rfl rfl rfl rfl ⟨rfl, rfl, rfl, rfl, rfl⟩ rfl rfl rfl rfl rfl (by kernel_rfl) Try.func9 (by unfold joinedFacts; rw [show Try.pinned.checked.prog = Try.prog from rfl, enter_ok, final_ok, make_ok]; kernel_rfl)
    (of_decide_eq_true (by kernel_rfl)) (by unfold Func.isWrapper; first | (rw [if_pos (by decide +kernel)]; kernel_rfl) | (rw [if_neg (by decide +kernel)]; exact ⟨rfl, rfl⟩))
    (fun os started H enc _ => lifted os started H enc)

theorem proved : Rows.FnWritePartsSaid := over
end Go.Proofs.Ytaehgdglbplomaa.fnWriteParts
