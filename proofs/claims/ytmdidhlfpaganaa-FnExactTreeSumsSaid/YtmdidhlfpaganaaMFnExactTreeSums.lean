/-
  laws.FnExactTreeSums returns true for every input, and leaves its arguments as they were.
  Conditions: none.
-/
import Derived.Test.YtmdidhlfpaganaaRows
import Derived.WalkKit
import Derived.ProofKit
import Derived.OpenShut
import Derived.ShutString
import Derived.ChangeOld
import Derived.Below
import Derived.Test.YtmdidhlfpaganaaK5
namespace Go.Proofs.Ytmdidhlfpaganaa.fnExactTreeSums
open Go.ChangeShapes Go.WideShapes Go.ChangeAt Go.RowKit
open Go.ChangeMaps (open_string shut_string)
set_option linter.unusedVariables false

theorem own : ownKnob Try.prog.godebug = none := by kernel_rfl
theorem laidOut : laidOutB Try.prog = true := by kernel_rfl

/-- An owned list of nodes, as it lies. -/
theorem nodes_ownN {W : World} {base len c : Nat} {e : TypeId} {a : Option Addr} {ns : List Nd} (hz : ns.length = len) (h : W.ownsRow base e 3 (.slice a len c) len (flatN ns)) : NodesAt W a len ns := by
  subst hz
  obtain ⟨a', c', he, hi⟩ := nodes_of_own h
  cases he
  exact hi

theorem ints_ownN {W : World} {base len c : Nat} {e : TypeId} {a : Option Addr} {zs : List Int} (hz : zs.length = len) (h : W.ownsRow base e 1 (.slice a len c) len (intsV zs)) : IntsAt W a len zs := by
  subst hz
  obtain ⟨a', c', he, hi⟩ := ints_of_own h
  cases he
  exact hi

set_option maxHeartbeats 4000000 in
set_option maxRecDepth 100000 in
theorem walk (a0 : Option Addr) (len0 cap0 : Nat) (ns : List Nd) (l0 : len0 ≤ maxLen) (m0 : Short maxLen ns) (w : World) (w0 : NodesAt w a0 len0 ns) :
    Calls Try.prog 10 #[.slice a0 len0 cap0] w fun e w' => e = .returned (.bool true) ∧ Below w.heap.size w w' := by
  have HSZ := Lib.hid (szNodeS_c a0 len0 cap0 ns l0 m0 w w0)
  have HN := Lib.hid w0
  have HLE := Lib.hid w0.1
  clear w0 l0 m0
  go_enter Try.func10, Try.ntmps10
  go_wp2_with fail
  refine HSZ.out.mono ?_
  rintro e W0 ⟨z, rfl, hz, hb0⟩
  have HB0 := Lib.hid hb0
  clear hb0
  by_cases h0 : z < 0
  · go_wp2
    go_ret
    exact ⟨rfl, HB0.out⟩
  · obtain ⟨hl0, hs0⟩ := hz (by omega)
    have hz0 : 0 ≤ z := by omega
    have hzd : decide (z < 0) = false := decide_eq_false h0
    have hl1 : len0 ≤ 1048576 := by omega
    have hl : (len0 : Int) ≤ 1048576 := by omega
    have hsh : Short 2097152 ns := hs0.mono (by omega)
    have HTO := Lib.hid (fun W' (hb : Below w.heap.size w W') => toNodeS_c a0 len0 cap0 ns (by omega) W' (HN.out.keep hb))
    obtain ⟨out, hout⟩ : ∃ out, treeSums ns = out := ⟨_, rfl⟩
    obtain ⟨fl, hfl⟩ : ∃ fl, out.length = fl := ⟨_, rfl⟩
    have HFE := Lib.hid hfl
    have hfb : fl ≤ 1048576 := by
      rw [← hfl, ← hout]; unfold treeSums; split
      · rw [List.length_map]; have := HLE.out; omega
      · simp
    have hfl' : (fl : Int) ≤ 1048576 := by omega
    have HI := Lib.hid (fun a c W' (hi : NodesAt W' a len0 ns) => show Calls Try.prog 19 #[.slice a len0 c] W' (fun e W'' => OwnsInts W'.heap.size out e W'' ∧ Below W'.heap.size W' W'') by rw [← hout]; exact implTreeSums_c a len0 c ns (by omega) hsh W' hi)
    have HS := Lib.hid (fun a c W' (hi : NodesAt W' a len0 ns) => show Calls Try.prog 20 #[.slice a len0 c] W' (fun e W'' => OwnsInts W'.heap.size out e W'' ∧ Below W'.heap.size W' W'') by rw [← hout]; exact specTreeSums_c a len0 c ns (by omega) hsh W' hi)
    have HEQ := Lib.hid (fun a1 a2 c1 c2 W' (h1 : NodesAt W' a1 len0 ns) (h2 : NodesAt W' a2 len0 ns) => eqNodeS_c a1 a2 len0 c1 c2 ns (by omega) W' h1 h2)
    have HEF := Lib.hid (fun a1 a2 c1 c2 W' (h1 : IntsAt W' a1 fl out) (h2 : IntsAt W' a2 fl out) => eqIntS_c a1 a2 fl c1 c2 out (by omega) W' h1 h2)
    have HFB := Lib.hid (And.intro hl1 hfb)
    clear h0 hz hl0 hs0 hl1 hsh hout hfl hfb
    go_wp2_with fail
    refine (HTO.out _ HB0.out).mono ?_
    rintro e W1 ⟨⟨s1, rfl, ho1⟩, hb1⟩
    obtain ⟨a1, c1, rfl, hi1⟩ := nodes_of_own ho1
    rw [HLE.out] at hi1 ⊢
    have HS1 := Lib.hid (HS.out a1 c1 W1 hi1)
    have HB1 := Lib.hid (below_next HB0.out hb1)
    clear ho1 hi1 hb1
    go_wp2_with fail
    refine HS1.out.mono ?_
    rintro e W2 ⟨⟨s2, rfl, ho2⟩, hb2⟩
    obtain ⟨x2, p2, rfl, -⟩ := ints_of_own ho2
    rw [HFE.out] at ho2 ⊢
    have HW := Lib.hid (fun k (e : (Value.slice x2 fl p2).ownBlock = some k) => (ho2.lt k e).2)
    have HO2 := Lib.hid ho2
    have HB2 := Lib.hid (below_next HB1.out hb2)
    clear ho2 hb2
    go_wp2_with fail
    refine (HTO.out _ HB2.out).mono ?_
    rintro e W3 ⟨⟨s3, rfl, ho3⟩, hb3⟩
    obtain ⟨x3, p3, rfl, hi3⟩ := nodes_of_own ho3
    rw [HLE.out] at ho3 hi3 ⊢
    have HX := Lib.hid (fun k (e : (Value.slice x3 len0 p3).ownBlock = some k) => ho3.lt k e)
    have HI3 := Lib.hid (HI.out x3 p3 W3 hi3)
    have HO3 := Lib.hid ho3
    have HO23 := Lib.hid (own_below HO2.out hb3)
    have HB3 := Lib.hid (below_next HB2.out hb3)
    have HZ3 := Lib.hid hb3.size
    clear ho3 hi3 hb3
    go_wp2_with fail
    refine HI3.out.mono ?_
    rintro e W4 ⟨⟨s4, rfl, ho4⟩, hb4⟩
    obtain ⟨x4, p4, rfl, hi4⟩ := ints_of_own ho4
    rw [HFE.out] at ho4 hi4 ⊢
    have HG := Lib.hid (fun k (e : (Value.slice x4 fl p4).ownBlock = some k) => ho4.lt k e)
    have HO4 := Lib.hid ho4
    have HO24 := Lib.hid (own_below HO23.out hb4)
    have HO34 := Lib.hid (own_below HO3.out hb4)
    have HB4 := Lib.hid (below_next HB3.out hb4)
    have HE4 := Lib.hid (HEF.out x4 x2 p4 p2 W4 hi4 (ints_ownN HFE.out HO24.out))
    clear ho4 hi4 hb4
    go_wp2_with fail
    refine HE4.out.mono ?_
    rintro e W5 ⟨rfl, hb5⟩
    have H45 := Lib.hid hb5
    have HB5 := Lib.hid (below_next HB4.out hb5)
    clear hb5
    go_wp2_with fail
    refine (HTO.out _ HB5.out).mono ?_
    rintro e W6 ⟨⟨s6, rfl, ho6⟩, hb6⟩
    obtain ⟨x6, p6, rfl, hi6⟩ := nodes_of_own ho6
    rw [HLE.out] at hi6 ⊢
    have H46 := Lib.hid (below_next H45.out hb6)
    have HB6 := Lib.hid (below_next HB5.out hb6)
    have HE6 := Lib.hid (HEQ.out x3 x6 p3 p6 W6 (nodes_ownN HLE.out (own_below HO34.out H46.out)) hi6)
    clear ho6 hi6 hb6
    go_wp2_with fail
    refine HE6.out.mono ?_
    rintro e W7 ⟨rfl, hb7⟩
    have H47 := Lib.hid (below_next H46.out hb7)
    have HB7 := Lib.hid (below_next HB6.out hb7)
    have HMK := Lib.hid (markNodeS_c (.slice x3 len0 p3) W2.heap.size len0 _ (by have := HFB.out; omega) W7 (own_below HO34.out H47.out))
    clear hb7
    go_wp2_with fail
    refine HMK.out.mono ?_
    rintro e W8 ⟨rfl, hg8, -⟩
    have HO28 := Lib.hid (own_farT (own_below HO24.out H47.out) hg8 (fun k e1 e2 => by have := HW.out k e1; have := (HX.out k e2).1; omega))
    have HO48 := Lib.hid (own_farT (own_below HO4.out H47.out) hg8 (fun k e1 e2 => by have := (HG.out k e1).1; have := (HX.out k e2).2; omega))
    have HB8 := Lib.hid (HB7.out.grown hg8 HB7.out.size (fun k e => by have := (HX.out k e).1; have := HB2.out.size; omega))
    have HE8 := Lib.hid (HEF.out x4 x2 p4 p2 W8 (ints_ownN HFE.out HO48.out) (ints_ownN HFE.out HO28.out))
    clear hg8
    have hk1 : (0 : Int) ≤ 1 + 3 * (len0 : Int) := by omega
    go_wp2_with fail
    refine HE8.out.mono ?_
    rintro e W9 ⟨rfl, hb9⟩
    have HO29 := Lib.hid (own_below HO28.out hb9)
    have HMG := Lib.hid (markIntS_c (.slice x4 fl p4) W3.heap.size fl 1 _ (by have := HFB.out; omega) (by omega) W9 (own_below HO48.out hb9))
    have HB9 := Lib.hid (below_next HB8.out hb9)
    clear hb9
    go_wp2_with fail
    refine HMG.out.mono ?_
    rintro e W10 ⟨rfl, hg10, ho10⟩
    have HO210 := Lib.hid (own_farT HO29.out hg10 (fun k e1 e2 => by have := HW.out k e1; have := (HG.out k e2).1; have := HZ3.out; omega))
    have HB10 := Lib.hid (HB9.out.grown hg10 HB9.out.size (fun k e => by have := (HG.out k e).1; have := HB3.out.size; omega))
    have HO10 := Lib.hid ho10
    have HHE := Lib.hid (fun W' (hb : Below W10.heap.size W10 W') => heldIntS_c x4 fl p4 1 (by have := HFB.out; omega) (by omega) W' (ints_ownN (markI_len 1 fl) (own_below HO10.out hb)))
    clear hg10 ho10
    obtain ⟨q, hq⟩ : ∃ q, q = ((1 + fl : Nat) : Int) := ⟨_, rfl⟩
    rw [← hq] at HHE ⊢
    have hq0 : 0 ≤ q := by omega
    have hqd : decide (q < 0) = false := decide_eq_false (by omega)
    have hqq : (q != q) = false := by simp
    clear hq
    go_wp2_with fail
    refine (HHE.out _ (Below.refl _ _)).mono ?_
    rintro e W11 ⟨rfl, rfl⟩
    go_wp2_with fail
    refine (HTO.out _ HB10.out).mono ?_
    rintro e W12 ⟨⟨s12, rfl, ho12⟩, hb12⟩
    obtain ⟨x12, p12, rfl, hi12⟩ := nodes_of_own ho12
    rw [HLE.out] at hi12 ⊢
    have H12 := Lib.hid hb12
    have HB12 := Lib.hid (below_next HB10.out hb12)
    have HI12 := Lib.hid (HI.out x12 p12 W12 hi12)
    clear ho12 hi12 hb12
    go_wp2_with fail
    refine HI12.out.mono ?_
    rintro e W13 ⟨⟨s13, rfl, ho13⟩, hb13⟩
    obtain ⟨x13, p13, rfl, hi13⟩ := ints_of_own ho13
    rw [HFE.out] at hi13 ⊢
    have H13 := Lib.hid (below_next H12.out hb13)
    have HB13 := Lib.hid (below_next HB12.out hb13)
    have HE13 := Lib.hid (HEF.out x13 x2 p13 p2 W13 hi13 (ints_ownN HFE.out (own_below HO210.out H13.out)))
    clear ho13 hi13 hb13
    go_wp2_with fail
    refine HE13.out.mono ?_
    rintro e W14 ⟨rfl, hb14⟩
    have H14 := Lib.hid (below_next H13.out hb14)
    have HB14 := Lib.hid (below_next HB13.out hb14)
    clear hb14
    go_wp2_with fail
    refine (HHE.out _ H14.out).mono ?_
    rintro e W15 ⟨rfl, rfl⟩
    go_wp2
    go_ret
    exact ⟨rfl, HB14.out⟩


set_option maxRecDepth 100000 in
theorem lifted (os : Os) (started : os.Started) (H : Type) (enc : TypeId × Value → H) :
    ReturnsInHanded {} Try.checked os 10 .any (Rows.fnExactTreeSumsSpec.pre6 enc Try.prog Try.f10 Rows.fnExactTreeSumsRow.domain false) (Rows.fnExactTreeSumsSpec.post enc Try.prog Try.f10 false true false false) := by
  refine returnsInHanded_of_change (C := Try.checked) own started (by kernel_rfl) Try.func10
    (ChangeSpec.witness6 (enc := enc) (C := Try.checked) false ⟨#[], #[.slice none 0 0], []⟩ 8 (by kernel_rfl) (by kernel_rfl) (by kernel_rfl) (by kernel_rfl)) ?_
  intro W base args ds gs before hval0 hW hcnd _
  have hval : ∀ (j : Nat) t v, Try.f10.params[j]? = some t → args[j]? = some v → Value.okWide Try.prog W .any base t v := hval0
  have hW' := hW
  obtain ⟨p, q, hA0, hV, rfl, hfz, hnd⟩ := hW
  have hA : DataW.TrodAll enc Try.prog W 0 (fun _ => true) true Try.f10.params.toList args.toList ds p := hA0
  rw [Try.params10] at hA hval
  obtain ⟨v0, vs0, d0, ds0, p0, q0, hargs, rfl, rfl, h0, r0⟩ := trodAll_cons hA
  obtain ⟨rfl, rfl, rfl⟩ := trodAll_nil r0
  obtain rfl : args = #[v0] := by cases args; simp_all
  obtain ⟨rfl, rfl⟩ := trodVars_none hV
  obtain ⟨a0, len0, cap0, rfl⟩ := okWide_slice Try.underlying51 (hval 0 51 v0 rfl rfl)
  have k0 := h0
  have lt0 : ∀ x ∈ p0, x.block < W.heap.size := by obtain ⟨m, hm⟩ := k0; exact DataW.trod_lt m _ _ _ hm
  obtain ⟨z0, w0, l0, m0⟩ : ∃ ns, NodesAt W a0 len0 ns ∧ len0 ≤ maxLen ∧ Short maxLen ns := by
    obtain ⟨fuel, hf⟩ := h0
    exact open_nodes hf
  clear hA0 hval0
  refine (walk a0 len0 cap0 z0 l0 m0 W w0).mono fun e W' ⟨he, bel⟩ => ?_
  subst he
  exact ⟨_, rfl, _, _, _, [], _, [], hW', trodAll_mk1 (shut_bool Try.underlying4 _), (trodAll_cons_mk (Below.trod laidOut (by kernel_rfl) (of_decide_eq_true (by kernel_rfl)) k0 bel lt0) trodAll_mk0), rfl, bel.frame _, fun h => by cases h⟩

theorem over : Rows.fnExactTreeSumsRow.holds Try.pinned (OpenSpec.ofChange Rows.fnExactTreeSumsSpec) :=
  OpenClaim.holds_of_wide 10 Try.f10 rfl rfl rfl rfl rfl rfl rfl ⟨rfl, rfl, rfl, rfl, rfl⟩ rfl rfl rfl rfl rfl (by kernel_rfl) Try.func10 (by kernel_rfl)
    (of_decide_eq_true (by kernel_rfl)) (by unfold Func.isWrapper; first | (rw [if_pos (by decide +kernel)]; kernel_rfl) | (rw [if_neg (by decide +kernel)]; exact ⟨rfl, rfl⟩))
    (fun os started H enc _ => lifted os started H enc)

theorem proved : Rows.FnExactTreeSumsSaid := over
end Go.Proofs.Ytmdidhlfpaganaa.fnExactTreeSums
