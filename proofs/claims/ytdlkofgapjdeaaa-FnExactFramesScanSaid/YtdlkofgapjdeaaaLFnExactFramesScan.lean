/-
  laws.FnExactFramesScan returns true for every input, and leaves its arguments as they were.
  Conditions: none.
-/
import Derived.Test.YtdlkofgapjdeaaaRows
import Derived.Test.YtdlkofgapjdeaaaFo
import Derived.Test.YtdlkofgapjdeaaaGo
import Derived.WalkKit
import Derived.ProofKit
import Derived.OpenShut
import Derived.ShutString
import Derived.ChangeOld
import Derived.Below
namespace Go.Proofs.Ytdlkofgapjdeaaa.fnExactFramesScan
open Go.ChangeShapes Go.WideShapes Go.ChangeAt Go.RowKit
open Go.ChangeMaps (open_string shut_string)
set_option linter.unusedVariables false

theorem own : ownKnob Try.prog.godebug = none := by kernel_rfl
theorem laidOut : laidOutB Try.prog = true := by kernel_rfl

set_option maxHeartbeats 4000000 in
set_option maxRecDepth 100000 in
theorem walk (a0 : Option Addr) (len0 cap0 : Nat) (zs : List Int) (l0 : len0 ≤ maxLen) (c0 : len0 ≤ cap0) (m0 : cap0 ≤ maxLen) (w : World) (w0 : IntsAt w a0 len0 zs) :
    Calls Try.prog 14 #[.slice a0 len0 cap0] w fun e w' => e = .returned (.bool true) ∧ Below w.heap.size w w' := by
  by_cases h : len0 ≤ 1048576
  · have hl : (len0 : Int) ≤ 1048576 := by omega
    have HLE := Lib.hid w0.1
    have HTO := Lib.hid (fun W' (hb : Below w.heap.size w W') => toIntS_c a0 len0 cap0 zs (by omega) W' (w0.keep hb))
    obtain ⟨bs, n, hsc⟩ : ∃ bs n, scanL zs = (bs, n) := ⟨_, _, rfl⟩
    have HSF := Lib.hid (scan_facts hsc)
    obtain ⟨bl, hbl⟩ : ∃ bl, bs.length = bl := ⟨_, rfl⟩
    have HBL := Lib.hid hbl
    have hn0 : n ≤ 1048576 := by have := (scan_facts hsc).2.2.1; have := w0.1; omega
    have hbb : bl ≤ 1048576 := by have := (scan_facts hsc).2.2.2.1; omega
    have htt : total bs ≤ 1048576 := by have := total_le bs; have := (scan_facts hsc).2.2.2.2; omega
    have hsh : ShortT 2097152 bs := (shortT_ok (scan_facts hsc).1).mono (by omega)
    have hnI : (n : Int) ≤ 1048576 := by omega
    have HI := Lib.hid (fun a c W' (h1 : len0 ≤ c) (h2 : c ≤ maxLen) (hi : IntsAt W' a len0 zs) => show Calls Try.prog 22 #[.slice a len0 c] W' (ScanPost (bs, n) W') by rw [← hsc]; exact implFramesScan_c a len0 c zs (by omega) h1 h2 W' hi)
    have HS := Lib.hid (fun a c W' (h1 : len0 ≤ c) (h2 : c ≤ maxLen) (hi : IntsAt W' a len0 zs) => show Calls Try.prog 28 #[.slice a len0 c] W' (ScanPost (bs, n) W') by rw [← hsc]; exact specFramesScan_c a len0 c zs (by omega) h1 h2 W' hi)
    have HEQ := Lib.hid (fun a1 a2 c1 c2 W' (h1 : IntsAt W' a1 len0 zs) (h2 : IntsAt W' a2 len0 zs) => eqIntS_c a1 a2 len0 c1 c2 zs (by omega) W' h1 h2)
    have HEF := Lib.hid (fun a1 a2 c1 c2 W' (h1 : TabAt W' a1 bl bs) (h2 : TabAt W' a2 bl bs) => eqIntSS_c a1 a2 bl c1 c2 bs (by omega) hsh W' h1 h2)
    have HFB := Lib.hid (And.intro (And.intro h hbb) (And.intro htt hsh))
    clear h w0 l0 c0 m0 hsc hbl hbb htt hsh hn0
    go_enter Try.func14, Try.ntmps14
    go_wp2_with fail
    refine (HTO.out _ (Below.refl _ _)).mono ?_
    rintro e W1 ⟨h1, hb1⟩
    obtain ⟨a1, c1, rfl, hi1, hc1, hm1⟩ := h1.at
    rw [HLE.out] at hi1 hc1 ⊢
    have HS1 := Lib.hid (HS.out a1 c1 W1 hc1 hm1 hi1)
    have HB1 := Lib.hid hb1
    clear h1 hi1 hb1 hc1 hm1
    go_wp2_with fail
    refine HS1.out.mono ?_
    rintro e W2 ⟨s2, vs2, rfl, ho2, hin2, hb2⟩
    dsimp only at ho2 hin2 ⊢
    rw [HBL.out] at ho2
    obtain ⟨x2, p2, rfl, -⟩ := own_caps ho2
    have HW := Lib.hid (fun k (e : (Value.slice x2 bl p2).ownBlock = some k) => (ho2.lt k e).2)
    have HV := Lib.hid hin2.lt
    have HO2 := Lib.hid ho2
    have HN2 := Lib.hid hin2
    have HB2 := Lib.hid (below_next HB1.out hb2)
    clear ho2 hin2 hb2
    go_wp2_with fail
    refine (HTO.out _ HB2.out).mono ?_
    rintro e W3 ⟨⟨s3, rfl, ho3⟩, hb3⟩
    obtain ⟨x3, p3, rfl, hi3⟩ := ints_of_own ho3
    obtain ⟨x3', p3', he3, hc3, hm3⟩ := own_caps ho3
    cases he3
    rw [HLE.out] at ho3 hi3 hc3 ⊢
    have HX := Lib.hid (fun k (e : (Value.slice x3 len0 p3).ownBlock = some k) => ho3.lt k e)
    have HI3 := Lib.hid (HI.out x3 p3 W3 hc3 hm3 hi3)
    have HO3 := Lib.hid ho3
    have HO23 := Lib.hid (own_below1 HO2.out hb3)
    have HN23 := Lib.hid (HN2.out.below hb3)
    have HB3 := Lib.hid (below_next HB2.out hb3)
    have HZ3 := Lib.hid hb3.size
    clear ho3 hi3 hb3 hc3 hm3
    go_wp2_with fail
    refine HI3.out.mono ?_
    rintro e W4 ⟨s4, vs4, rfl, ho4, hin4, hb4⟩
    dsimp only at ho4 hin4 ⊢
    rw [HBL.out] at ho4
    obtain ⟨x4, p4, rfl, -⟩ := own_caps ho4
    have HG := Lib.hid (fun k (e : (Value.slice x4 bl p4).ownBlock = some k) => (ho4.lt k e).1)
    have HU := Lib.hid hin4.ge
    have HO4 := Lib.hid ho4
    have HN4 := Lib.hid hin4
    have HO24 := Lib.hid (own_below1 HO23.out hb4)
    have HN24 := Lib.hid (HN23.out.below hb4)
    have HO34 := Lib.hid (own_below1 HO3.out hb4)
    have HB4 := Lib.hid (below_next HB3.out hb4)
    have HE4 := Lib.hid (HEF.out x4 x2 p4 p2 W4 (tab_own HBL.out HO4.out HN4.out) (tab_own HBL.out HO24.out HN24.out))
    clear ho4 hin4 hb4
    have hnn : ((n : Int) != n) = false := by simp
    go_wp2_with fail
    refine HE4.out.mono ?_
    rintro e W5 ⟨rfl, hb5⟩
    have H45 := Lib.hid hb5
    have HB5 := Lib.hid (below_next HB4.out hb5)
    clear hb5
    go_wp2_with fail
    refine (HTO.out _ HB5.out).mono ?_
    rintro e W6 ⟨h6, hb6⟩
    obtain ⟨x6, p6, rfl, hi6, -, -⟩ := h6.at
    rw [HLE.out] at hi6 ⊢
    have H46 := Lib.hid (below_next H45.out hb6)
    have HB6 := Lib.hid (below_next HB5.out hb6)
    have HE6 := Lib.hid (HEQ.out x3 x6 p3 p6 W6 (ints_own HLE.out (own_below1 HO34.out H46.out)) hi6)
    clear h6 hi6 hb6
    go_wp2_with fail
    refine HE6.out.mono ?_
    rintro e W7 ⟨rfl, hb7⟩
    have H47 := Lib.hid (below_next H46.out hb7)
    have HB7 := Lib.hid (below_next HB6.out hb7)
    have HMK := Lib.hid (markIntS_c (.slice x3 len0 p3) W2.heap.size len0 1 _ (by have := HFB.out.1; omega) (by omega) W7 (own_below1 HO34.out H47.out))
    clear hb7
    go_wp2_with fail
    refine HMK.out.mono ?_
    rintro e W8 ⟨rfl, hg8, -⟩
    have HO28 := Lib.hid (own_farT (own_below1 HO24.out H47.out) hg8 (fun k e1 e2 => by have := HW.out k e1; have := (HX.out k e2).1; omega))
    have HN28 := Lib.hid ((HN24.out.below H47.out).far hg8 (fun u hu k e1 e2 => by have := HV.out u hu k e1; have := (HX.out k e2).1; omega))
    have HO48 := Lib.hid (own_farT (own_below1 HO4.out H47.out) hg8 (fun k e1 e2 => by have := HG.out k e1; have := (HX.out k e2).2; omega))
    have HN48 := Lib.hid ((HN4.out.below H47.out).far hg8 (fun u hu k e1 e2 => by have := HU.out u hu k e1; have := (HX.out k e2).2; omega))
    have HB8 := Lib.hid (HB7.out.grown hg8 HB7.out.size (fun k e => by have := (HX.out k e).1; have := HB2.out.size; omega))
    have HE8 := Lib.hid (HEF.out x4 x2 p4 p2 W8 (tab_own HBL.out HO48.out HN48.out) (tab_own HBL.out HO28.out HN28.out))
    clear hg8
    have hk1 : (0 : Int) ≤ ((1 + len0 : Nat) : Int) := by omega
    go_wp2_with fail
    refine HE8.out.mono ?_
    rintro e W9 ⟨rfl, hb9⟩
    have HO29 := Lib.hid (own_below1 HO28.out hb9)
    have HN29 := Lib.hid (HN28.out.below hb9)
    have HMG := Lib.hid (markIntSS_c (.slice x4 bl p4) W3.heap.size bl 1 vs4 bs (by have := HFB.out.1; omega) HFB.out.2.2 (by have := HFB.out.2.1; omega) W9 HBL.out (own_below1 HO48.out hb9) (HN48.out.below hb9))
    have HB9 := Lib.hid (below_next HB8.out hb9)
    clear hb9
    go_wp2_with fail
    refine HMG.out.mono ?_
    rintro e W10 ⟨rfl, hg10, ho10, hin10⟩
    have HO210 := Lib.hid (own_apart HO29.out hg10 (fun u hu k e1 e2 => by have := HW.out k e2; have := HU.out u hu k e1; have := HZ3.out; omega))
    have HN210 := Lib.hid (HN29.out.apart hg10 (fun v hv u hu k e1 e2 => by have := HV.out v hv k e2; have := HU.out u hu k e1; have := HZ3.out; omega))
    have HB10 := Lib.hid (Below.apart HB9.out hg10 (fun u hu k e => by have := HU.out u hu k e; have := HB3.out.size; omega))
    have HO10 := Lib.hid ho10
    have HN10 := Lib.hid hin10
    have HHE := Lib.hid (fun W' (hb : Below W10.heap.size W10 W') => heldIntSS_c x4 bl p4 1 bs (by have := HFB.out.1; omega) HFB.out.2.2 (by have := HFB.out.2.1; omega) W' HBL.out (tab_own (by rw [markT_len]; exact HBL.out) (own_below1 HO10.out hb) (HN10.out.below hb)))
    clear hg10 ho10 hin10
    obtain ⟨q, hq⟩ : ∃ q, q = ((1 + total bs : Nat) : Int) := ⟨_, rfl⟩
    rw [← hq] at HHE ⊢
    have hq0 : 0 ≤ q := by omega
    have hqd : decide (q < 0) = false := decide_eq_false (by omega)
    have hqq : (q != q) = false := by simp
    clear hq
    go_wp2_with fail
    refine (HHE.out _ (Below.refl _ _)).mono ?_
    rintro e W11 ⟨rfl, rfl⟩
    go_wp2_with fail
    refine (HTO.out _ HB10.out).mono ?_
    rintro e W12 ⟨h12, hb12⟩
    obtain ⟨x12, p12, rfl, hi12, hc12, hm12⟩ := h12.at
    rw [HLE.out] at hi12 hc12 ⊢
    have H12 := Lib.hid hb12
    have HB12 := Lib.hid (below_next HB10.out hb12)
    have HI12 := Lib.hid (HI.out x12 p12 W12 hc12 hm12 hi12)
    clear h12 hi12 hb12 hc12 hm12
    go_wp2_with fail
    refine HI12.out.mono ?_
    rintro e W13 h13
    obtain ⟨x13, p13, rfl, ht13, -, -, hb13⟩ := h13.at
    dsimp only at ht13 ⊢
    rw [HBL.out] at ht13 ⊢
    have H13 := Lib.hid (below_next H12.out hb13)
    have HB13 := Lib.hid (below_next HB12.out hb13)
    have HE13 := Lib.hid (HEF.out x13 x2 p13 p2 W13 ht13 (tab_own HBL.out (own_below1 HO210.out H13.out) (HN210.out.below H13.out)))
    clear h13 ht13 hb13
    go_wp2_with fail
    refine HE13.out.mono ?_
    rintro e W14 ⟨rfl, hb14⟩
    have H14 := Lib.hid (below_next H13.out hb14)
    have HB14 := Lib.hid (below_next HB13.out hb14)
    clear hb14
    go_wp2_with fail
    refine (HHE.out _ H14.out).mono ?_
    rintro e W15 ⟨rfl, rfl⟩
    go_wp2
    go_ret
    exact ⟨rfl, HB14.out⟩
  · have hl : (1048576 : Int) < len0 := by omega
    have l0' : len0 ≤ 9223372036854775807 := Nat.le_trans l0 (by unfold maxLen; omega)
    clear h w0 l0 c0 m0
    go_enter Try.func14, Try.ntmps14
    go_wp2
    go_ret
    exact ⟨rfl, Below.refl _ _⟩


set_option maxRecDepth 100000 in
theorem lifted (os : Os) (started : os.Started) (H : Type) (enc : TypeId × Value → H) :
    ReturnsInHanded {} Try.checked os 14 .any (Rows.fnExactFramesScanSpec.pre6 enc Try.prog Try.f14 Rows.fnExactFramesScanRow.domain false) (Rows.fnExactFramesScanSpec.post enc Try.prog Try.f14 false true false false) := by
  refine returnsInHanded_of_change (C := Try.checked) own started (by kernel_rfl) Try.func14
    (ChangeSpec.witness6 (enc := enc) (C := Try.checked) false ⟨#[], #[.slice none 0 0], []⟩ 8 (by kernel_rfl) (by kernel_rfl) (by kernel_rfl) (by kernel_rfl)) ?_
  intro W base args ds gs before hval0 hW hcnd _
  have hval : ∀ (j : Nat) t v, Try.f14.params[j]? = some t → args[j]? = some v → Value.okWide Try.prog W .any base t v := hval0
  have hW' := hW
  obtain ⟨p, q, hA0, hV, rfl, hfz, hnd⟩ := hW
  have hA : DataW.TrodAll enc Try.prog W 0 (fun _ => true) true Try.f14.params.toList args.toList ds p := hA0
  rw [Try.params14] at hA hval
  obtain ⟨v0, vs0, d0, ds0, p0, q0, hargs, rfl, rfl, h0, r0⟩ := trodAll_cons hA
  obtain ⟨rfl, rfl, rfl⟩ := trodAll_nil r0
  obtain rfl : args = #[v0] := by cases args; simp_all
  obtain ⟨rfl, rfl⟩ := trodVars_none hV
  obtain ⟨a0, len0, cap0, rfl⟩ := okWide_slice Try.underlying23 (hval 0 23 v0 rfl rfl)
  have k0 := h0
  have lt0 : ∀ x ∈ p0, x.block < W.heap.size := by obtain ⟨m, hm⟩ := k0; exact DataW.trod_lt m _ _ _ hm
  obtain ⟨z0, w0, l0, c0, m0⟩ : ∃ zs, IntsAt W a0 len0 zs ∧ len0 ≤ maxLen ∧ len0 ≤ cap0 ∧ cap0 ≤ maxLen := by
    obtain ⟨fuel, hf⟩ := h0
    exact open_ints hf
  clear hA0 hval0
  refine (walk a0 len0 cap0 z0 l0 c0 m0 W w0).mono fun e W' ⟨he, bel⟩ => ?_
  subst he
  exact ⟨_, rfl, _, _, _, [], _, [], hW', trodAll_mk1 (shut_bool Try.underlying4 _), (trodAll_cons_mk (Below.trod laidOut (by kernel_rfl) (of_decide_eq_true (by kernel_rfl)) k0 bel lt0) trodAll_mk0), rfl, bel.frame _, fun h => by cases h⟩

theorem over : Rows.fnExactFramesScanRow.holds Try.pinned (OpenSpec.ofChange Rows.fnExactFramesScanSpec) :=
  OpenClaim.holds_of_wide 14 Try.f14 rfl rfl rfl rfl rfl rfl rfl ⟨rfl, rfl, rfl, rfl, rfl⟩ rfl rfl rfl rfl rfl (by kernel_rfl) Try.func14 (by kernel_rfl)
    (of_decide_eq_true (by kernel_rfl)) (by unfold Func.isWrapper; first | (rw [if_pos (by decide +kernel)]; kernel_rfl) | (rw [if_neg (by decide +kernel)]; exact ⟨rfl, rfl⟩))
    (fun os started H enc _ => lifted os started H enc)

theorem proved : Rows.FnExactFramesScanSaid := over
end Go.Proofs.Ytdlkofgapjdeaaa.fnExactFramesScan
