/-
  laws.FnExactFrameOf returns true for every input, and leaves its arguments as they were.
  Conditions: none.
-/
import Derived.Test.YtdlkofgapjdeaaaRows
import Derived.Test.YtdlkofgapjdeaaaFo
import Derived.Test.YtdlkofgapjdeaaaFi
import Derived.Test.YtdlkofgapjdeaaaGk
import Derived.WalkKit
import Derived.ProofKit
import Derived.OpenShut
import Derived.ShutString
import Derived.ChangeOld
import Derived.Below
namespace Go.Proofs.Ytdlkofgapjdeaaa.fnExactFrameOf
open Go.ChangeShapes Go.WideShapes Go.ChangeAt Go.RowKit
open Go.ChangeMaps (open_string shut_string)
set_option linter.unusedVariables false

theorem own : ownKnob Try.prog.godebug = none := by kernel_rfl
theorem laidOut : laidOutB Try.prog = true := by kernel_rfl

/-- An owned list of numbers, as it lies. -/
theorem ints_own {W : World} {base len c : Nat} {e : TypeId} {a : Option Addr} {zs : List Int} (hz : zs.length = len) (h : W.ownsRow base e 1 (.slice a len c) len (intsV zs)) : IntsAt W a len zs := by
  subst hz
  obtain ⟨a', c', he, hi⟩ := ints_of_own h
  cases he
  exact hi

set_option maxHeartbeats 4000000 in
set_option maxRecDepth 100000 in
theorem walk (a0 : Option Addr) (len0 cap0 : Nat) (zs : List Int) (l0 : len0 ≤ maxLen) (c0 : len0 ≤ cap0) (m0 : cap0 ≤ maxLen) (w : World) (w0 : IntsAt w a0 len0 zs) :
    Calls Try.prog 12 #[.slice a0 len0 cap0] w fun e w' => e = .returned (.bool true) ∧ Below w.heap.size w w' := by
  by_cases h : len0 ≤ 1048576
  · have hl : (len0 : Int) ≤ 1048576 := by omega
    have HLE := Lib.hid w0.1
    have HTO := Lib.hid (fun W' (hb : Below w.heap.size w W') => toIntS_c a0 len0 cap0 zs (by omega) W' (w0.keep hb))
    obtain ⟨fr, hfr⟩ : ∃ fr, frameOf zs = fr := ⟨_, rfl⟩
    obtain ⟨fl, hfl⟩ : ∃ fl, fr.length = fl := ⟨_, rfl⟩
    have HFE := Lib.hid hfl
    have hfb : fl ≤ 1048578 := by
      rw [← hfl, ← hfr]; unfold frameOf; split
      · rw [frame_length, w0.1]; omega
      · simp
    have hfl' : (fl : Int) ≤ 1048578 := by omega
    have HI := Lib.hid (fun a c W' (hi : IntsAt W' a len0 zs) => show Calls Try.prog 19 #[.slice a len0 c] W' (fun e W'' => OwnsInts W'.heap.size fr e W'' ∧ Below W'.heap.size W' W'') by rw [← hfr]; exact implFrameOf_c a len0 c zs (by omega) W' hi)
    have HS := Lib.hid (fun a c W' (hi : IntsAt W' a len0 zs) => show Calls Try.prog 20 #[.slice a len0 c] W' (fun e W'' => OwnsInts W'.heap.size fr e W'' ∧ Below W'.heap.size W' W'') by rw [← hfr]; exact specFrameOf_c a len0 c zs (by omega) W' hi)
    have HEQ := Lib.hid (fun a1 a2 c1 c2 W' (h1 : IntsAt W' a1 len0 zs) (h2 : IntsAt W' a2 len0 zs) => eqIntS_c a1 a2 len0 c1 c2 zs (by omega) W' h1 h2)
    have HEF := Lib.hid (fun a1 a2 c1 c2 W' (h1 : IntsAt W' a1 fl fr) (h2 : IntsAt W' a2 fl fr) => eqIntS_c a1 a2 fl c1 c2 fr (by omega) W' h1 h2)
    have HFB := Lib.hid (And.intro h hfb)
    clear h w0 l0 c0 m0 hfr hfl hfb
    go_enter Try.func12, Try.ntmps12
    go_wp2_with fail
    refine (HTO.out _ (Below.refl _ _)).mono ?_
    rintro e W1 ⟨h1, hb1⟩
    obtain ⟨a1, c1, rfl, hi1, -, -⟩ := h1.at
    rw [HLE.out] at hi1 ⊢
    have HS1 := Lib.hid (HS.out a1 c1 W1 hi1)
    have HB1 := Lib.hid hb1
    clear h1 hi1 hb1
    go_wp2_with fail
    refine HS1.out.mono ?_
    rintro e W2 ⟨⟨s2, rfl, ho2⟩, hb2⟩
    obtain ⟨x2, p2, rfl, -⟩ := ints_of_own ho2
    rw [HFE.out] at ho2 ⊢
    have HW := Lib.hid (fun k (e : (Value.slice x2 fl p2).ownBlock = some k) => (ho2.lt k e).2)
    have HO2 := Lib.hid ho2
    have HB2 := Lib.hid (below_next HB1.out hb2)
    clear ho2 hb2
    go_wp2_with fail
    refine (HTO.out _ HB2.out).mono ?_
    rintro e W3 ⟨⟨s3, rfl, ho3⟩, hb3⟩
    obtain ⟨x3, p3, rfl, hi3⟩ := ints_of_own ho3
    rw [HLE.out] at ho3 hi3 ⊢
    have HX := Lib.hid (fun k (e : (Value.slice x3 len0 p3).ownBlock = some k) => ho3.lt k e)
    have HI3 := Lib.hid (HI.out x3 p3 W3 hi3)
    have HO3 := Lib.hid ho3
    have HO23 := Lib.hid (own_below1 HO2.out hb3)
    have HB3 := Lib.hid (below_next HB2.out hb3)
    have HZ3 := Lib.hid hb3.size
    clear ho3 hi3 hb3
    go_wp2_with fail
    refine HI3.out.mono ?_
    rintro e W4 ⟨⟨s4, rfl, ho4⟩, hb4⟩
    obtain ⟨x4, p4, rfl, hi4⟩ := ints_of_own ho4
    rw [HFE.out] at ho4 hi4 ⊢
    have HG := Lib.hid (fun k (e : (Value.slice x4 fl p4).ownBlock = some k) => ho4.lt k e)
    have HO4 := Lib.hid ho4
    have HO24 := Lib.hid (own_below1 HO23.out hb4)
    have HO34 := Lib.hid (own_below1 HO3.out hb4)
    have HB4 := Lib.hid (below_next HB3.out hb4)
    have HE4 := Lib.hid (HEF.out x4 x2 p4 p2 W4 hi4 (ints_own HFE.out HO24.out))
    clear ho4 hi4 hb4
    go_wp2_with fail
    refine HE4.out.mono ?_
    rintro e W5 ⟨rfl, hb5⟩
    have H45 := Lib.hid hb5
    have HB5 := Lib.hid (below_next HB4.out hb5)
    clear hb5
    go_wp2_with fail
    refine (HTO.out _ HB5.out).mono ?_
    rintro e W6 ⟨h6, hb6⟩
    obtain ⟨x6, p6, rfl, hi6, -, -⟩ := h6.at
    rw [HLE.out] at hi6 ⊢
    have H46 := Lib.hid (below_next H45.out hb6)
    have HB6 := Lib.hid (below_next HB5.out hb6)
    have HE6 := Lib.hid (HEQ.out x3 x6 p3 p6 W6 (ints_own HLE.out (own_below1 HO34.out H46.out)) hi6)
    clear h6 hi6 hb6
    go_wp2_with fail
    refine HE6.out.mono ?_
    rintro e W7 ⟨rfl, hb7⟩
    have H47 := Lib.hid (below_next H46.out hb7)
    have HB7 := Lib.hid (below_next HB6.out hb7)
    have HMK := Lib.hid (markIntS_c (.slice x3 len0 p3) W2.heap.size len0 1 _ (by have := HFB.out; omega) (by omega) W7 (own_below1 HO34.out H47.out))
    clear hb7
    go_wp2_with fail
    refine HMK.out.mono ?_
    rintro e W8 ⟨rfl, hg8, -⟩
    have HO28 := Lib.hid (own_farT (own_below1 HO24.out H47.out) hg8 (fun k e1 e2 => by have := HW.out k e1; have := (HX.out k e2).1; omega))
    have HO48 := Lib.hid (own_farT (own_below1 HO4.out H47.out) hg8 (fun k e1 e2 => by have := (HG.out k e1).1; have := (HX.out k e2).2; omega))
    have HB8 := Lib.hid (HB7.out.grown hg8 HB7.out.size (fun k e => by have := (HX.out k e).1; have := HB2.out.size; omega))
    have HE8 := Lib.hid (HEF.out x4 x2 p4 p2 W8 (ints_own HFE.out HO48.out) (ints_own HFE.out HO28.out))
    clear hg8
    have hk1 : (0 : Int) ≤ ((1 + len0 : Nat) : Int) := by omega
    go_wp2_with fail
    refine HE8.out.mono ?_
    rintro e W9 ⟨rfl, hb9⟩
    have HO29 := Lib.hid (own_below1 HO28.out hb9)
    have HMG := Lib.hid (markIntS_c (.slice x4 fl p4) W3.heap.size fl 1 _ (by have := HFB.out; omega) (by omega) W9 (own_below1 HO48.out hb9))
    have HB9 := Lib.hid (below_next HB8.out hb9)
    clear hb9
    go_wp2_with fail
    refine HMG.out.mono ?_
    rintro e W10 ⟨rfl, hg10, ho10⟩
    have HO210 := Lib.hid (own_farT HO29.out hg10 (fun k e1 e2 => by have := HW.out k e1; have := (HG.out k e2).1; have := HZ3.out; omega))
    have HB10 := Lib.hid (HB9.out.grown hg10 HB9.out.size (fun k e => by have := (HG.out k e).1; have := HB3.out.size; omega))
    have HO10 := Lib.hid ho10
    have HHE := Lib.hid (fun W' (hb : Below W10.heap.size W10 W') => heldIntS_c x4 fl p4 1 (by have := HFB.out; omega) (by omega) W' (ints_own (markI_len 1 fl) (own_below1 HO10.out hb)))
    clear hg10 ho10
    obtain ⟨q, hq⟩ : ∃ q, q = ((1 + fl : Nat) : Int) := ⟨_, rfl⟩
    rw [← hq] at HHE ⊢
    have hq0 : 0 ≤ q := by omega
    have hqd : decide (q < 0) = false := decide_eq_false (by omega)
    have hqq : (q != q) = false := by simp
    clear hq
    go_wp2_with fail
    refine (HHE.out _ (Below.refl _ _)).mono ?_
    rintro e W11 ⟨rfl, rfl⟩
    go_wp2_with fail
    refine (HTO.out _ HB10.out).mono ?_
    rintro e W12 ⟨h12, hb12⟩
    obtain ⟨x12, p12, rfl, hi12, -, -⟩ := h12.at
    rw [HLE.out] at hi12 ⊢
    have H12 := Lib.hid hb12
    have HB12 := Lib.hid (below_next HB10.out hb12)
    have HI12 := Lib.hid (HI.out x12 p12 W12 hi12)
    clear h12 hi12 hb12
    go_wp2_with fail
    refine HI12.out.mono ?_
    rintro e W13 ⟨h13, hb13⟩
    obtain ⟨x13, p13, rfl, hi13, -, -⟩ := h13.at
    rw [HFE.out] at hi13 ⊢
    have H13 := Lib.hid (below_next H12.out hb13)
    have HB13 := Lib.hid (below_next HB12.out hb13)
    have HE13 := Lib.hid (HEF.out x13 x2 p13 p2 W13 hi13 (ints_own HFE.out (own_below1 HO210.out H13.out)))
    clear h13 hi13 hb13
    go_wp2_with fail
    refine HE13.out.mono ?_
    rintro e W14 ⟨rfl, hb14⟩
    have H14 := Lib.hid (below_next H13.out hb14)
    have HB14 := Lib.hid (below_next HB13.out hb14)
    clear hb14
    go_wp2_with fail
    refine (HHE.out _ H14.out).mono ?_
    rintro e W15 ⟨rfl, rfl⟩
    go_wp2
    go_ret
    exact ⟨rfl, HB14.out⟩
  · have hl : (1048576 : Int) < len0 := by omega
    have l0' : len0 ≤ 9223372036854775807 := Nat.le_trans l0 (by unfold maxLen; omega)
    clear h w0 l0 c0 m0
    go_enter Try.func12, Try.ntmps12
    go_wp2
    go_ret
    exact ⟨rfl, Below.refl _ _⟩


set_option maxRecDepth 100000 in
theorem lifted (os : Os) (started : os.Started) (H : Type) (enc : TypeId × Value → H) :
    ReturnsInHanded {} Try.checked os 12 .any (Rows.fnExactFrameOfSpec.pre6 enc Try.prog Try.f12 Rows.fnExactFrameOfRow.domain false) (Rows.fnExactFrameOfSpec.post enc Try.prog Try.f12 false true false false) := by
  refine returnsInHanded_of_change (C := Try.checked) own started (by kernel_rfl) Try.func12
    (ChangeSpec.witness6 (enc := enc) (C := Try.checked) false ⟨#[], #[.slice none 0 0], []⟩ 8 (by kernel_rfl) (by kernel_rfl) (by kernel_rfl) (by kernel_rfl)) ?_
  intro W base args ds gs before hval0 hW hcnd _
  have hval : ∀ (j : Nat) t v, Try.f12.params[j]? = some t → args[j]? = some v → Value.okWide Try.prog W .any base t v := hval0
  have hW' := hW
  obtain ⟨p, q, hA0, hV, rfl, hfz, hnd⟩ := hW
  have hA : DataW.TrodAll enc Try.prog W 0 (fun _ => true) true Try.f12.params.toList args.toList ds p := hA0
  rw [Try.params12] at hA hval
  obtain ⟨v0, vs0, d0, ds0, p0, q0, hargs, rfl, rfl, h0, r0⟩ := trodAll_cons hA
  obtain ⟨rfl, rfl, rfl⟩ := trodAll_nil r0
  obtain rfl : args = #[v0] := by cases args; simp_all
  obtain ⟨rfl, rfl⟩ := trodVars_none hV
  obtain ⟨a0, len0, cap0, rfl⟩ := okWide_slice Try.underlying23 (hval 0 23 v0 rfl rfl)
  have k0 := h0
  have lt0 : ∀ x ∈ p0, x.block < W.heap.size := by obtain ⟨m, hm⟩ := k0; exact DataW.trod_lt m _ _ _ hm
  obtain ⟨z0, w0, l0, c0, m0⟩ : ∃ zs, IntsAt W a0 len0 zs ∧ len0 ≤ maxLen ∧ len0 ≤ cap0 ∧ cap0 ≤ maxLen := by
    obtain ⟨fuel, hf⟩ := h0
    exact open_ints hf
  clear hA0 hval0
  refine (walk a0 len0 cap0 z0 l0 c0 m0 W w0).mono fun e W' ⟨he, bel⟩ => ?_
  subst he
  exact ⟨_, rfl, _, _, _, [], _, [], hW', trodAll_mk1 (shut_bool Try.underlying4 _), (trodAll_cons_mk (Below.trod laidOut (by kernel_rfl) (of_decide_eq_true (by kernel_rfl)) k0 bel lt0) trodAll_mk0), rfl, bel.frame _, fun h => by cases h⟩

theorem over : Rows.fnExactFrameOfRow.holds Try.pinned (OpenSpec.ofChange Rows.fnExactFrameOfSpec) :=
  OpenClaim.holds_of_wide 12 Try.f12 rfl rfl rfl rfl rfl rfl rfl ⟨rfl, rfl, rfl, rfl, rfl⟩ rfl rfl rfl rfl rfl (by kernel_rfl) Try.func12 (by kernel_rfl)
    (of_decide_eq_true (by kernel_rfl)) (by unfold Func.isWrapper; first | (rw [if_pos (by decide +kernel)]; kernel_rfl) | (rw [if_neg (by decide +kernel)]; exact ⟨rfl, rfl⟩))
    (fun os started H enc _ => lifted os started H enc)

theorem proved : Rows.FnExactFrameOfSaid := over
end Go.Proofs.Ytdlkofgapjdeaaa.fnExactFrameOf
