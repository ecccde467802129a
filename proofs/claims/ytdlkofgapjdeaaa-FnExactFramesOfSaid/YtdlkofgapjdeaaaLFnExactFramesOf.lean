/-
  laws.FnExactFramesOf returns true for every input, and leaves its arguments as they were.
  Conditions: none.
-/
import Derived.Test.YtdlkofgapjdeaaaRows
import Derived.Test.YtdlkofgapjdeaaaFo
import Derived.Test.YtdlkofgapjdeaaaGo
import Derived.WalkKit
import Derived.ProofKit
import Derived.OpenShut
import Derived.ShutString
import Derived.ChangeOld
import Derived.Below
namespace Go.Proofs.Ytdlkofgapjdeaaa.fnExactFramesOf
open Go.ChangeShapes Go.WideShapes Go.ChangeAt Go.RowKit
open Go.ChangeMaps (open_string shut_string)
set_option linter.unusedVariables false

theorem own : ownKnob Try.prog.godebug = none := by kernel_rfl
theorem laidOut : laidOutB Try.prog = true := by kernel_rfl

set_option maxHeartbeats 4000000 in
set_option maxRecDepth 100000 in
theorem walk (a0 : Option Addr) (len0 cap0 : Nat) (bs : List (List Int)) (l0 : len0 ≤ maxLen) (m0 : ShortT maxLen bs) (w : World) (w0 : TabAt w a0 len0 bs) :
    Calls Try.prog 13 #[.slice a0 len0 cap0] w fun e w' => e = .returned (.bool true) ∧ Below w.heap.size w w' := by
  have HSZ := Lib.hid (szIntSS_c a0 len0 cap0 bs l0 m0 w w0)
  have HN := Lib.hid w0
  have HLE := Lib.hid w0.1
  clear w0 l0 m0
  go_enter Try.func13, Try.ntmps13
  go_wp2_with fail
  refine HSZ.out.mono ?_
  rintro e W0 ⟨⟨z, rfl, hz⟩, rfl⟩
  by_cases h0 : z < 0
  · go_wp2
    go_ret
    exact ⟨rfl, Below.refl _ _⟩
  · obtain ⟨hl0, hs0, ht0⟩ := hz (by omega)
    have hz0 : 0 ≤ z := by omega
    have hzd : decide (z < 0) = false := decide_eq_false h0
    have hl : (len0 : Int) ≤ 1048576 := by omega
    have hsh : ShortT 2097152 bs := hs0.mono (by omega)
    have HTO := Lib.hid (fun W' (hb : Below W0.heap.size W0 W') => toIntSS_c a0 len0 cap0 bs (by omega) hsh W' (HN.out.keep hb))
    obtain ⟨r, hr⟩ : ∃ r, framesOf bs = r := ⟨_, rfl⟩
    have HR := Lib.hid hr
    have HI := Lib.hid (fun a c W' (hi : TabAt W' a len0 bs) => show Calls Try.prog 24 #[.slice a len0 c] W' (FPost (framesOf bs) W') from implFramesOf_c a len0 c bs (by omega) hsh W' hi)
    have HS := Lib.hid (fun a c W' (hi : TabAt W' a len0 bs) => show Calls Try.prog 25 #[.slice a len0 c] W' (FPost (framesOf bs) W') from specFramesOf_c a len0 c bs (by omega) hsh W' hi)
    have HEQ := Lib.hid (fun a1 a2 c1 c2 W' (h1 : TabAt W' a1 len0 bs) (h2 : TabAt W' a2 len0 bs) => eqIntSS_c a1 a2 len0 c1 c2 bs (by omega) hsh W' h1 h2)
    have HFB := Lib.hid (And.intro hl0 (And.intro ht0 hsh))
    clear h0 hz hl0 hs0 ht0 hsh hr
    go_wp2_with fail
    refine (HTO.out _ (Below.refl _ _)).mono ?_
    rintro e W1 ⟨⟨s1, vs1, rfl, ho1, hin1⟩, hb1⟩
    rw [HLE.out] at ho1
    obtain ⟨x1, p1, rfl, -⟩ := own_caps ho1
    have HS1 := Lib.hid (HS.out x1 p1 W1 (tab_own HLE.out ho1 hin1))
    have HB1 := Lib.hid hb1
    clear ho1 hin1 hb1
    go_wp2_with fail
    refine HS1.out.mono ?_
    rintro e W2 ⟨s2, out, ok, rfl, hr2, ho2, hb2⟩
    have HRR := Lib.hid hr2
    obtain ⟨fl, hfl⟩ : ∃ fl, out.length = fl := ⟨_, rfl⟩
    have HFE := Lib.hid hfl
    have hf720 : fl ≤ 720 := by rw [← hfl]; exact fpost_len hr2
    have HFL := Lib.hid hf720
    have hf720' : (fl : Int) ≤ 720 := by omega
    rw [hfl] at ho2
    obtain ⟨x2, p2, rfl, -⟩ := own_caps ho2
    have HW := Lib.hid (fun k (e : (Value.slice x2 fl p2).ownBlock = some k) => (ho2.lt k e).2)
    have HO2 := Lib.hid ho2
    have HB2 := Lib.hid (below_next HB1.out hb2)
    have HEF := Lib.hid (fun a1 a2 c1 c2 W' (h1 : IntsAt W' a1 fl out) (h2 : IntsAt W' a2 fl out) => eqIntS_c a1 a2 fl c1 c2 out (by omega) W' h1 h2)
    clear ho2 hb2 hr2 hf720 hfl
    go_wp2_with fail
    refine (HTO.out _ HB2.out).mono ?_
    rintro e W3 ⟨⟨s3, vs3, rfl, ho3, hin3⟩, hb3⟩
    rw [HLE.out] at ho3
    obtain ⟨x3, p3, rfl, -⟩ := own_caps ho3
    have HU := Lib.hid hin3.ge
    have HUL := Lib.hid hin3.lt
    have HI3 := Lib.hid (HI.out x3 p3 W3 (tab_own HLE.out ho3 hin3))
    have HO3 := Lib.hid ho3
    have HN3 := Lib.hid hin3
    have HO23 := Lib.hid (own_below1 HO2.out hb3)
    have HB3 := Lib.hid (below_next HB2.out hb3)
    have HZ3 := Lib.hid hb3.size
    clear ho3 hin3 hb3
    go_wp2_with fail
    refine HI3.out.mono ?_
    rintro e W4 ⟨s4, out', ok', rfl, hr4, ho4, hb4⟩
    obtain ⟨rfl, rfl⟩ := fpost_same HRR.out hr4
    rw [HFE.out] at ho4
    obtain ⟨x4, p4, rfl, -⟩ := own_caps ho4
    have HG := Lib.hid (fun k (e : (Value.slice x4 fl p4).ownBlock = some k) => ho4.lt k e)
    have HO4 := Lib.hid ho4
    have HO24 := Lib.hid (own_below1 HO23.out hb4)
    have HO34 := Lib.hid (own_below1 HO3.out hb4)
    have HN34 := Lib.hid (HN3.out.below hb4)
    have HB4 := Lib.hid (below_next HB3.out hb4)
    have HE4 := Lib.hid (HEF.out x4 x2 p4 p2 W4 (ints_own HFE.out HO4.out) (ints_own HFE.out HO24.out))
    clear ho4 hr4 hb4
    have hoo : (ok' != ok') = false := by simp
    go_wp2_with fail
    refine HE4.out.mono ?_
    rintro e W5 ⟨rfl, hb5⟩
    have H45 := Lib.hid hb5
    have HB5 := Lib.hid (below_next HB4.out hb5)
    clear hb5
    go_wp2_with fail
    refine (HTO.out _ HB5.out).mono ?_
    rintro e W6 ⟨⟨s6, vs6, rfl, ho6, hin6⟩, hb6⟩
    rw [HLE.out] at ho6
    obtain ⟨x6, p6, rfl, -⟩ := own_caps ho6
    have H46 := Lib.hid (below_next H45.out hb6)
    have HB6 := Lib.hid (below_next HB5.out hb6)
    have HE6 := Lib.hid (HEQ.out x3 x6 p3 p6 W6 (tab_own HLE.out (own_below1 HO34.out H46.out) (HN34.out.below H46.out)) (tab_own HLE.out ho6 hin6))
    clear ho6 hin6 hb6
    go_wp2_with fail
    refine HE6.out.mono ?_
    rintro e W7 ⟨rfl, hb7⟩
    have H47 := Lib.hid (below_next H46.out hb7)
    have HB7 := Lib.hid (below_next HB6.out hb7)
    have HMK := Lib.hid (markIntSS_c (.slice x3 len0 p3) W2.heap.size len0 1 vs3 bs (by have := HFB.out.1; omega) HFB.out.2.2 (by have := HFB.out.2.1; omega) W7 HLE.out (own_below1 HO34.out H47.out) (HN34.out.below H47.out))
    clear hb7
    go_wp2_with fail
    refine HMK.out.mono ?_
    rintro e W8 ⟨rfl, hg8, -, -⟩
    have HO28 := Lib.hid (own_apart (own_below1 HO24.out H47.out) hg8 (fun u hu k e1 e2 => by have := HW.out k e2; have := HU.out u hu k e1; omega))
    have HO48 := Lib.hid (own_apart (own_below1 HO4.out H47.out) hg8 (fun u hu k e1 e2 => by have := (HG.out k e2).1; have := HUL.out u hu k e1; omega))
    have HB8 := Lib.hid (Below.apart HB7.out hg8 (fun u hu k e => by have := HU.out u hu k e; have := HB2.out.size; omega))
    have HE8 := Lib.hid (HEF.out x4 x2 p4 p2 W8 (ints_own HFE.out HO48.out) (ints_own HFE.out HO28.out))
    clear hg8
    obtain ⟨q1, hq1⟩ : ∃ q, q = ((1 + total bs : Nat) : Int) := ⟨_, rfl⟩
    rw [← hq1]
    have hk1 : 0 ≤ q1 := by omega
    have hk1d : decide (q1 < 0) = false := decide_eq_false (by omega)
    clear hq1
    go_wp2_with fail
    refine HE8.out.mono ?_
    rintro e W9 ⟨rfl, hb9⟩
    have HO29 := Lib.hid (own_below1 HO28.out hb9)
    have HMG := Lib.hid (markIntS_c (.slice x4 fl p4) W3.heap.size fl 1 _ (by have := HFL.out; omega) (by omega) W9 (own_below1 HO48.out hb9))
    have HB9 := Lib.hid (below_next HB8.out hb9)
    clear hb9
    go_wp2_with fail
    refine HMG.out.mono ?_
    rintro e W10 ⟨rfl, hg10, ho10⟩
    have HO210 := Lib.hid (own_farT HO29.out hg10 (fun k e1 e2 => by have := HW.out k e1; have := (HG.out k e2).1; have := HZ3.out; omega))
    have HB10 := Lib.hid (HB9.out.grown hg10 HB9.out.size (fun k e => by have := (HG.out k e).1; have := HB3.out.size; omega))
    have HO10 := Lib.hid ho10
    have HHE := Lib.hid (fun W' (hb : Below W10.heap.size W10 W') => heldIntS_c x4 fl p4 1 (by have := HFL.out; omega) (by omega) W' (ints_own (markI_len 1 fl) (own_below1 HO10.out hb)))
    clear hg10 ho10
    obtain ⟨q, hq⟩ : ∃ q, q = ((1 + fl : Nat) : Int) := ⟨_, rfl⟩
    rw [← hq] at HHE ⊢
    have hq0 : 0 ≤ q := by omega
    have hqd : decide (q < 0) = false := decide_eq_false (by omega)
    have hqq : (q != q) = false := by simp
    clear hq
    go_wp2_with fail
    refine (HHE.out _ (Below.refl _ _)).mono ?_
    rintro e W11 ⟨rfl, rfl⟩
    go_wp2_with fail
    refine (HTO.out _ HB10.out).mono ?_
    rintro e W12 ⟨⟨s12, vs12, rfl, ho12, hin12⟩, hb12⟩
    rw [HLE.out] at ho12
    obtain ⟨x12, p12, rfl, -⟩ := own_caps ho12
    have H12 := Lib.hid hb12
    have HB12 := Lib.hid (below_next HB10.out hb12)
    have HI12 := Lib.hid (HI.out x12 p12 W12 (tab_own HLE.out ho12 hin12))
    clear ho12 hin12 hb12
    go_wp2_with fail
    refine HI12.out.mono ?_
    rintro e W13 ⟨s13, out'', ok'', rfl, hr13, ho13, hb13⟩
    obtain ⟨rfl, rfl⟩ := fpost_same HRR.out hr13
    rw [HFE.out] at ho13
    obtain ⟨x13, p13, rfl, -⟩ := own_caps ho13
    have H13 := Lib.hid (below_next H12.out hb13)
    have HB13 := Lib.hid (below_next HB12.out hb13)
    have HE13 := Lib.hid (HEF.out x13 x2 p13 p2 W13 (ints_own HFE.out ho13) (ints_own HFE.out (own_below1 HO210.out H13.out)))
    clear hr13 ho13 hb13
    go_wp2_with fail
    refine HE13.out.mono ?_
    rintro e W14 ⟨rfl, hb14⟩
    have H14 := Lib.hid (below_next H13.out hb14)
    have HB14 := Lib.hid (below_next HB13.out hb14)
    clear hb14
    go_wp2_with fail
    refine (HHE.out _ H14.out).mono ?_
    rintro e W15 ⟨rfl, rfl⟩
    go_wp2
    go_ret
    exact ⟨rfl, HB14.out⟩


set_option maxRecDepth 100000 in
theorem lifted (os : Os) (started : os.Started) (H : Type) (enc : TypeId × Value → H) :
    ReturnsInHanded {} Try.checked os 13 .any (Rows.fnExactFramesOfSpec.pre6 enc Try.prog Try.f13 Rows.fnExactFramesOfRow.domain false) (Rows.fnExactFramesOfSpec.post enc Try.prog Try.f13 false true false false) := by
  refine returnsInHanded_of_change (C := Try.checked) own started (by kernel_rfl) Try.func13
    (ChangeSpec.witness6 (enc := enc) (C := Try.checked) false ⟨#[], #[.slice none 0 0], []⟩ 8 (by kernel_rfl) (by kernel_rfl) (by kernel_rfl) (by kernel_rfl)) ?_
  intro W base args ds gs before hval0 hW hcnd _
  have hval : ∀ (j : Nat) t v, Try.f13.params[j]? = some t → args[j]? = some v → Value.okWide Try.prog W .any base t v := hval0
  have hW' := hW
  obtain ⟨p, q, hA0, hV, rfl, hfz, hnd⟩ := hW
  have hA : DataW.TrodAll enc Try.prog W 0 (fun _ => true) true Try.f13.params.toList args.toList ds p := hA0
  rw [Try.params13] at hA hval
  obtain ⟨v0, vs0, d0, ds0, p0, q0, hargs, rfl, rfl, h0, r0⟩ := trodAll_cons hA
  obtain ⟨rfl, rfl, rfl⟩ := trodAll_nil r0
  obtain rfl : args = #[v0] := by cases args; simp_all
  obtain ⟨rfl, rfl⟩ := trodVars_none hV
  obtain ⟨a0, len0, cap0, rfl⟩ := okWide_slice Try.underlying29 (hval 0 29 v0 rfl rfl)
  have k0 := h0
  have lt0 : ∀ x ∈ p0, x.block < W.heap.size := by obtain ⟨m, hm⟩ := k0; exact DataW.trod_lt m _ _ _ hm
  obtain ⟨z0, w0, l0, m0⟩ : ∃ bs, TabAt W a0 len0 bs ∧ len0 ≤ maxLen ∧ ShortT maxLen bs := by
    obtain ⟨fuel, hf⟩ := h0
    exact open_tab hf
  clear hA0 hval0
  refine (walk a0 len0 cap0 z0 l0 m0 W w0).mono fun e W' ⟨he, bel⟩ => ?_
  subst he
  exact ⟨_, rfl, _, _, _, [], _, [], hW', trodAll_mk1 (shut_bool Try.underlying4 _), (trodAll_cons_mk (Below.trod laidOut (by kernel_rfl) (of_decide_eq_true (by kernel_rfl)) k0 bel lt0) trodAll_mk0), rfl, bel.frame _, fun h => by cases h⟩

theorem over : Rows.fnExactFramesOfRow.holds Try.pinned (OpenSpec.ofChange Rows.fnExactFramesOfSpec) :=
  OpenClaim.holds_of_wide 13 Try.f13 rfl rfl rfl rfl rfl rfl rfl ⟨rfl, rfl, rfl, rfl, rfl⟩ rfl rfl rfl rfl rfl (by kernel_rfl) Try.func13 (by kernel_rfl)
    (of_decide_eq_true (by kernel_rfl)) (by unfold Func.isWrapper; first | (rw [if_pos (by decide +kernel)]; kernel_rfl) | (rw [if_neg (by decide +kernel)]; exact ⟨rfl, rfl⟩))
    (fun os started H enc _ => lifted os started H enc)

theorem proved : Rows.FnExactFramesOfSaid := over
end Go.Proofs.Ytdlkofgapjdeaaa.fnExactFramesOf
