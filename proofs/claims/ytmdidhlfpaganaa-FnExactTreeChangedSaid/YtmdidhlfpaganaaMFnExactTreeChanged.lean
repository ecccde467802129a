/-
  laws.FnExactTreeChanged returns true for every input, and leaves its arguments as they were.
  Conditions: none.
-/
import Derived.Test.YtmdidhlfpaganaaRows
import Derived.WalkKit
import Derived.ProofKit
import Derived.OpenShut
import Derived.ShutString
import Derived.ChangeOld
import Derived.Below
import Derived.Test.YtmdidhlfpaganaaK5
namespace Go.Proofs.Ytmdidhlfpaganaa.fnExactTreeChanged
open Go.ChangeShapes Go.WideShapes Go.ChangeAt Go.RowKit
open Go.ChangeMaps (open_string shut_string)
set_option linter.unusedVariables false

theorem own : ownKnob Try.prog.godebug = none := by kernel_rfl
theorem laidOut : laidOutB Try.prog = true := by kernel_rfl

/-- An owned list of nodes, as it lies. -/
theorem nodes_ownN {W : World} {base len c : Nat} {e : TypeId} {a : Option Addr} {ns : List Nd} (hz : ns.length = len) (h : W.ownsRow base e 3 (.slice a len c) len (flatN ns)) : NodesAt W a len ns := by
  subst hz
  obtain ⟨a', c', he, hi⟩ := nodes_of_own h
  cases he
  exact hi

theorem texts_ownN {W : World} {base len c : Nat} {e : TypeId} {a : Option Addr} {zs : List ByteArray} (hz : zs.length = len) (h : W.ownsRow base e 1 (.slice a len c) len (zs.map Value.string)) : TextsAt W a len zs := by
  subst hz
  obtain ⟨a', c', he, hi⟩ := texts_of_own h
  cases he
  exact hi

set_option maxHeartbeats 4000000 in
set_option maxRecDepth 100000 in
theorem walk (a0 : Option Addr) (len0 cap0 : Nat) (ns : List Nd) (l0 : len0 ≤ maxLen) (m0 : Short maxLen ns) (a1 : Option Addr) (len1 cap1 : Nat) (ms : List Nd) (l1 : len1 ≤ maxLen) (m1 : Short maxLen ms) (w : World) (w0 : NodesAt w a0 len0 ns) (w1 : NodesAt w a1 len1 ms) :
    Calls Try.prog 11 #[.slice a0 len0 cap0, .slice a1 len1 cap1] w fun e w' => e = .returned (.bool true) ∧ Below w.heap.size w w' := by
  have HSZ := Lib.hid (szNodeSG_c 1048576 (by omega) (by omega) a0 len0 cap0 ns l0 m0 w w0)
  have HSZ1 := Lib.hid (fun l h0 h1 W' (hb : Below w.heap.size w W') => szNodeSG_c l h0 h1 a1 len1 cap1 ms l1 m1 W' (w1.keep hb))
  have HN := Lib.hid w0
  have HN1 := Lib.hid w1
  have HLE := Lib.hid w0.1
  have HLE1 := Lib.hid w1.1
  clear w0 w1 l0 m0 l1 m1
  go_enter Try.func11, Try.ntmps11
  go_wp2_with fail
  refine HSZ.out.mono ?_
  rintro e W0 ⟨z, rfl, hz1, hz, hb0⟩
  have HB0 := Lib.hid hb0
  clear hb0
  by_cases h0 : z < 0
  · go_wp2
    go_ret
    exact ⟨rfl, HB0.out⟩
  · obtain ⟨hl0, hs0⟩ := hz (by omega)
    have hz0 : 0 ≤ z := by omega
    have hzd : decide (z < 0) = false := decide_eq_false h0
    have HSY := Lib.hid (HSZ1.out z hz0 hz1 W0 HB0.out)
    clear h0 hz hz1
    go_wp2_with fail
    refine HSY.out.mono ?_
    rintro e W00 ⟨y, rfl, hy1, hy, hb00⟩
    have HB00 := Lib.hid (below_next HB0.out hb00)
    clear hb00
    by_cases h0 : y < 0
    · go_wp2
      go_ret
      exact ⟨rfl, HB00.out⟩
    · obtain ⟨hl1, hs1⟩ := hy (by omega)
      have hy0 : 0 ≤ y := by omega
      have hyd : decide (y < 0) = false := decide_eq_false h0
      have hl : (len0 : Int) ≤ 1048576 := by omega
      have hll : (len1 : Int) ≤ 1048576 := by omega
      have hsh : Short 2097152 ns := hs0.mono (by omega)
      have hsh1 : Short 2097152 ms := hs1.mono (by omega)
      have HTO := Lib.hid (fun W' (hb : Below w.heap.size w W') => toNodeS_c a0 len0 cap0 ns (by omega) W' (HN.out.keep hb))
      have HTP := Lib.hid (fun W' (hb : Below w.heap.size w W') => toNodeS_c a1 len1 cap1 ms (by omega) W' (HN1.out.keep hb))
      obtain ⟨out, hout⟩ : ∃ out, chgL ns ms = out := ⟨_, rfl⟩
      obtain ⟨fl, hfl⟩ : ∃ fl, out.length = fl := ⟨_, rfl⟩
      have HFE := Lib.hid hfl
      have hfb : fl ≤ 20 := by rw [← hfl, ← hout]; exact chg_len ns ms
      have hfl' : (fl : Int) ≤ 20 := by omega
      have HI := Lib.hid (fun a c b d W' (hi : NodesAt W' a len0 ns) (hj : NodesAt W' b len1 ms) => show Calls Try.prog 24 #[.slice a len0 c, .slice b len1 d] W' (TextsPost out W') by rw [← hout]; exact implTreeChanged_c a len0 c ns b len1 d ms (by omega) (by omega) hsh hsh1 W' hi hj)
      have HS := Lib.hid (fun a c b d W' (hi : NodesAt W' a len0 ns) (hj : NodesAt W' b len1 ms) => show Calls Try.prog 25 #[.slice a len0 c, .slice b len1 d] W' (TextsPost out W') by rw [← hout]; exact specTreeChanged_c a len0 c ns b len1 d ms (by omega) (by omega) hsh hsh1 W' hi hj)
      have HEQ := Lib.hid (fun a1 a2 c1 c2 W' (h1 : NodesAt W' a1 len0 ns) (h2 : NodesAt W' a2 len0 ns) => eqNodeS_c a1 a2 len0 c1 c2 ns (by omega) W' h1 h2)
      have HEP := Lib.hid (fun a1' a2 c1 c2 W' (h1 : NodesAt W' a1' len1 ms) (h2 : NodesAt W' a2 len1 ms) => eqNodeS_c a1' a2 len1 c1 c2 ms (by omega) W' h1 h2)
      have HEF := Lib.hid (fun a1 a2 c1 c2 W' (h1 : TextsAt W' a1 fl out) (h2 : TextsAt W' a2 fl out) => eqStringS_c a1 a2 fl c1 c2 out (by omega) W' h1 h2)
      have HFB := Lib.hid (And.intro hl0 (And.intro hl1 hfb))
      clear h0 hy hy1 hl0 hs0 hl1 hs1 hsh hsh1 hout hfl hfb
      go_wp2_with fail
      refine (HTO.out _ HB00.out).mono ?_
      rintro e W1 ⟨⟨s1, rfl, ho1⟩, hb1⟩
      obtain ⟨b1, c1, rfl, hi1⟩ := nodes_of_own ho1
      rw [HLE.out] at hi1 ⊢
      have HI1 := Lib.hid hi1
      have HB1 := Lib.hid (below_next HB00.out hb1)
      clear ho1 hi1 hb1
      go_wp2_with fail
      refine (HTP.out _ HB1.out).mono ?_
      rintro e W2 ⟨⟨s2, rfl, ho2⟩, hb2⟩
      obtain ⟨b2, c2, rfl, hi2⟩ := nodes_of_own ho2
      rw [HLE1.out] at hi2 ⊢
      have HS2 := Lib.hid (HS.out b1 c1 b2 c2 W2 (HI1.out.keep hb2) hi2)
      have HB2 := Lib.hid (below_next HB1.out hb2)
      clear ho2 hi2 hb2
      go_wp2_with fail
      refine HS2.out.mono ?_
      rintro e W3 ⟨⟨s3, rfl, ho3⟩, hb3⟩
      obtain ⟨x3, p3, rfl, -⟩ := texts_of_own ho3
      rw [HFE.out] at ho3 ⊢
      have HW := Lib.hid (fun k (e : (Value.slice x3 fl p3).ownBlock = some k) => (ho3.lt k e).2)
      have HO3 := Lib.hid ho3
      have HB3 := Lib.hid (below_next HB2.out hb3)
      clear ho3 hb3
      go_wp2_with fail
      refine (HTO.out _ HB3.out).mono ?_
      rintro e W4 ⟨⟨s4, rfl, ho4⟩, hb4⟩
      obtain ⟨x4, p4, rfl, -⟩ := nodes_of_own ho4
      rw [HLE.out] at ho4 ⊢
      have HX := Lib.hid (fun k (e : (Value.slice x4 len0 p4).ownBlock = some k) => ho4.lt k e)
      have HO4 := Lib.hid ho4
      have HO34 := Lib.hid (own_below HO3.out hb4)
      have HB4 := Lib.hid (below_next HB3.out hb4)
      have HZ4 := Lib.hid hb4.size
      clear ho4 hb4
      go_wp2_with fail
      refine (HTP.out _ HB4.out).mono ?_
      rintro e W5 ⟨⟨s5, rfl, ho5⟩, hb5⟩
      obtain ⟨x5, p5, rfl, hi5⟩ := nodes_of_own ho5
      rw [HLE1.out] at ho5 hi5 ⊢
      have HY := Lib.hid (fun k (e : (Value.slice x5 len1 p5).ownBlock = some k) => ho5.lt k e)
      have HO5 := Lib.hid ho5
      have HO35 := Lib.hid (own_below HO34.out hb5)
      have HO45 := Lib.hid (own_below HO4.out hb5)
      have HB5 := Lib.hid (below_next HB4.out hb5)
      have HZ5 := Lib.hid hb5.size
      have HI5 := Lib.hid (HI.out x4 p4 x5 p5 W5 (nodes_ownN HLE.out HO45.out) hi5)
      clear ho5 hi5 hb5
      go_wp2_with fail
      refine HI5.out.mono ?_
      rintro e W6 ⟨⟨s6, rfl, ho6⟩, hb6⟩
      obtain ⟨x6, p6, rfl, -⟩ := texts_of_own ho6
      rw [HFE.out] at ho6 ⊢
      have HG := Lib.hid (fun k (e : (Value.slice x6 fl p6).ownBlock = some k) => ho6.lt k e)
      have HO6 := Lib.hid ho6
      have HO36 := Lib.hid (own_below HO35.out hb6)
      have HO46 := Lib.hid (own_below HO45.out hb6)
      have HO56 := Lib.hid (own_below HO5.out hb6)
      have HB6 := Lib.hid (below_next HB5.out hb6)
      have HE6 := Lib.hid (HEF.out x6 x3 p6 p3 W6 (texts_ownN HFE.out HO6.out) (texts_ownN HFE.out HO36.out))
      clear ho6 hb6
      go_wp2_with fail
      refine HE6.out.mono ?_
      rintro e W7 ⟨rfl, hb7⟩
      have H7 := Lib.hid hb7
      have HB7 := Lib.hid (below_next HB6.out hb7)
      clear hb7
      go_wp2_with fail
      refine (HTO.out _ HB7.out).mono ?_
      rintro e W8 ⟨⟨s8, rfl, ho8⟩, hb8⟩
      obtain ⟨x8, p8, rfl, hi8⟩ := nodes_of_own ho8
      rw [HLE.out] at hi8 ⊢
      have H8 := Lib.hid (below_next H7.out hb8)
      have HB8 := Lib.hid (below_next HB7.out hb8)
      have HE8 := Lib.hid (HEQ.out x4 x8 p4 p8 W8 (nodes_ownN HLE.out (own_below HO46.out H8.out)) hi8)
      clear ho8 hi8 hb8
      go_wp2_with fail
      refine HE8.out.mono ?_
      rintro e W9 ⟨rfl, hb9⟩
      have H9 := Lib.hid (below_next H8.out hb9)
      have HB9 := Lib.hid (below_next HB8.out hb9)
      clear hb9
      go_wp2_with fail
      refine (HTP.out _ HB9.out).mono ?_
      rintro e W10 ⟨⟨s10, rfl, ho10⟩, hb10⟩
      obtain ⟨x10, p10, rfl, hi10⟩ := nodes_of_own ho10
      rw [HLE1.out] at hi10 ⊢
      have H10 := Lib.hid (below_next H9.out hb10)
      have HB10 := Lib.hid (below_next HB9.out hb10)
      have HE10 := Lib.hid (HEP.out x5 x10 p5 p10 W10 (nodes_ownN HLE1.out (own_below HO56.out H10.out)) hi10)
      clear ho10 hi10 hb10
      go_wp2_with fail
      refine HE10.out.mono ?_
      rintro e W11 ⟨rfl, hb11⟩
      have H11 := Lib.hid (below_next H10.out hb11)
      have HB11 := Lib.hid (below_next HB10.out hb11)
      have HMK := Lib.hid (markNodeSK_c (.slice x4 len0 p4) W3.heap.size len0 1 (by omega) (by omega) _ (by have := HFB.out; omega) W11 (own_below HO46.out H11.out))
      clear hb11
      go_wp2_with fail
      refine HMK.out.mono ?_
      rintro e W12 ⟨rfl, hg12, -⟩
      have HO312 := Lib.hid (own_farT (own_below HO36.out H11.out) hg12 (fun k e1 e2 => by have := HW.out k e1; have := (HX.out k e2).1; omega))
      have HO512 := Lib.hid (own_farT (own_below HO56.out H11.out) hg12 (fun k e1 e2 => by have := (HY.out k e1).1; have := (HX.out k e2).2; omega))
      have HO612 := Lib.hid (own_farT (own_below HO6.out H11.out) hg12 (fun k e1 e2 => by have := (HG.out k e1).1; have := (HX.out k e2).2; have := HZ5.out; omega))
      have HB12 := Lib.hid (HB11.out.grown hg12 HB11.out.size (fun k e => by have := (HX.out k e).1; have := HB3.out.size; omega))
      have HMJ := Lib.hid (show Calls Try.prog 35 #[.slice x5 len1 p5, .int .i64 (((1 : Nat) : Int) + 3 * (len0 : Int))] W12 _ by
        have := markNodeSK_c (.slice x5 len1 p5) W4.heap.size len1 (1 + 3 * len0) (by omega) (by have := HFB.out; omega) _ (by have := HFB.out; omega) W12 HO512.out
        rwa [show ((1 + 3 * len0 : Nat) : Int) = ((1 : Nat) : Int) + 3 * (len0 : Int) by push_cast; rfl] at this)
      clear hg12
      obtain ⟨kk, hkk⟩ : ∃ kk, kk = ((1 : Nat) : Int) + 3 * (len0 : Int) := ⟨_, rfl⟩
      rw [← hkk] at HMJ ⊢
      have hkk0 : 0 ≤ kk := by omega
      clear hkk
      go_wp2_with fail
      refine HMJ.out.mono ?_
      rintro e W13 ⟨rfl, hg13, -⟩
      have HO313 := Lib.hid (own_farT HO312.out hg13 (fun k e1 e2 => by have := HW.out k e1; have := (HY.out k e2).1; have := HZ4.out; omega))
      have HO613 := Lib.hid (own_farT HO612.out hg13 (fun k e1 e2 => by have := (HG.out k e1).1; have := (HY.out k e2).2; omega))
      have HB13 := Lib.hid (HB12.out.grown hg13 HB12.out.size (fun k e => by have := (HY.out k e).1; have := HB4.out.size; omega))
      have HE13 := Lib.hid (HEF.out x6 x3 p6 p3 W13 (texts_ownN HFE.out HO613.out) (texts_ownN HFE.out HO313.out))
      clear hg13
      obtain ⟨k2, hk2⟩ : ∃ k2, k2 = kk + 3 * (len1 : Int) := ⟨_, rfl⟩
      rw [← hk2]
      have hk20 : 0 ≤ k2 := by omega
      have hk2d : decide (k2 < 0) = false := decide_eq_false (by omega)
      clear hk2
      go_wp2_with fail
      refine HE13.out.mono ?_
      rintro e W14 ⟨rfl, hb14⟩
      have HO314 := Lib.hid (own_below HO313.out hb14)
      have HB14 := Lib.hid (below_next HB13.out hb14)
      have HMG := Lib.hid (markStringS_c (.slice x6 fl p6) W5.heap.size fl _ (by have := HFB.out; omega) W14 (own_below HO613.out hb14))
      clear hb14
      go_wp2_with fail
      refine HMG.out.mono ?_
      rintro e W15 ⟨rfl, hg15, ho15⟩
      have HO315 := Lib.hid (own_farT HO314.out hg15 (fun k e1 e2 => by have := HW.out k e1; have := (HG.out k e2).1; have := HZ4.out; have := HZ5.out; omega))
      have HB15 := Lib.hid (HB14.out.grown hg15 HB14.out.size (fun k e => by have := (HG.out k e).1; have := HB5.out.size; omega))
      have HO15 := Lib.hid ho15
      have HHE := Lib.hid (fun W' (hb : Below W15.heap.size W15 W') => heldStringS_c x6 fl p6 (by have := HFB.out; omega) W' (texts_ownN (markS_len fl) (own_below HO15.out hb)))
      clear hg15 ho15
      obtain ⟨q, hq⟩ : ∃ q, q = 1 + (fl : Int) := ⟨_, rfl⟩
      rw [← hq] at HHE ⊢
      have hq0 : 0 ≤ q := by omega
      have hqd : decide (q < 0) = false := decide_eq_false (by omega)
      have hqq : (q != q) = false := by simp
      clear hq
      go_wp2_with fail
      refine (HHE.out _ (Below.refl _ _)).mono ?_
      rintro e W16 ⟨rfl, hb16⟩
      have H16 := Lib.hid hb16
      have HB16 := Lib.hid (below_next HB15.out hb16)
      clear hb16
      go_wp2_with fail
      refine (HTO.out _ HB16.out).mono ?_
      rintro e W17 ⟨⟨s17, rfl, ho17⟩, hb17⟩
      obtain ⟨b17, c17, rfl, hi17⟩ := nodes_of_own ho17
      rw [HLE.out] at hi17 ⊢
      have HI17 := Lib.hid hi17
      have H17 := Lib.hid (below_next H16.out hb17)
      have HB17 := Lib.hid (below_next HB16.out hb17)
      clear ho17 hi17 hb17
      go_wp2_with fail
      refine (HTP.out _ HB17.out).mono ?_
      rintro e W18 ⟨⟨s18, rfl, ho18⟩, hb18⟩
      obtain ⟨b18, c18, rfl, hi18⟩ := nodes_of_own ho18
      rw [HLE1.out] at hi18 ⊢
      have HC18 := Lib.hid (HI.out b17 c17 b18 c18 W18 (HI17.out.keep hb18) hi18)
      have H18 := Lib.hid (below_next H17.out hb18)
      have HB18 := Lib.hid (below_next HB17.out hb18)
      clear ho18 hi18 hb18
      go_wp2_with fail
      refine HC18.out.mono ?_
      rintro e W19 ⟨⟨s19, rfl, ho19⟩, hb19⟩
      obtain ⟨x19, p19, rfl, -⟩ := texts_of_own ho19
      rw [HFE.out] at ho19 ⊢
      have H19 := Lib.hid (below_next H18.out hb19)
      have HB19 := Lib.hid (below_next HB18.out hb19)
      have HE19 := Lib.hid (HEF.out x19 x3 p19 p3 W19 (texts_ownN HFE.out ho19) (texts_ownN HFE.out (own_below HO315.out H19.out)))
      clear ho19 hb19
      go_wp2_with fail
      refine HE19.out.mono ?_
      rintro e W20 ⟨rfl, hb20⟩
      have H20 := Lib.hid (below_next H19.out hb20)
      have HB20 := Lib.hid (below_next HB19.out hb20)
      clear hb20
      go_wp2_with fail
      refine (HHE.out _ H20.out).mono ?_
      rintro e W21 ⟨rfl, hb21⟩
      have HB21 := Lib.hid (below_next HB20.out hb21)
      clear hb21
      go_wp2
      go_ret
      exact ⟨rfl, HB21.out⟩


set_option maxRecDepth 100000 in
theorem lifted (os : Os) (started : os.Started) (H : Type) (enc : TypeId × Value → H) :
    ReturnsInHanded {} Try.checked os 11 .any (Rows.fnExactTreeChangedSpec.pre6 enc Try.prog Try.f11 Rows.fnExactTreeChangedRow.domain false) (Rows.fnExactTreeChangedSpec.post enc Try.prog Try.f11 false true false false) := by
  refine returnsInHanded_of_change (C := Try.checked) own started (by kernel_rfl) Try.func11
    (ChangeSpec.witness6 (enc := enc) (C := Try.checked) false ⟨#[], #[.slice none 0 0, .slice none 0 0], []⟩ 8 (by kernel_rfl) (by kernel_rfl) (by kernel_rfl) (by kernel_rfl)) ?_
  intro W base args ds gs before hval0 hW hcnd _
  have hval : ∀ (j : Nat) t v, Try.f11.params[j]? = some t → args[j]? = some v → Value.okWide Try.prog W .any base t v := hval0
  have hW' := hW
  obtain ⟨p, q, hA0, hV, rfl, hfz, hnd⟩ := hW
  have hA : DataW.TrodAll enc Try.prog W 0 (fun _ => true) true Try.f11.params.toList args.toList ds p := hA0
  rw [Try.params11] at hA hval
  obtain ⟨v0, vs0, d0, ds0, p0, q0, hargs, rfl, rfl, h0, r0⟩ := trodAll_cons hA
  obtain ⟨v1, vs1, d1, ds1, p1, q1, rfl, rfl, rfl, h1, r1⟩ := trodAll_cons r0
  obtain ⟨rfl, rfl, rfl⟩ := trodAll_nil r1
  obtain rfl : args = #[v0, v1] := by cases args; simp_all
  obtain ⟨rfl, rfl⟩ := trodVars_none hV
  obtain ⟨a0, len0, cap0, rfl⟩ := okWide_slice Try.underlying51 (hval 0 51 v0 rfl rfl)
  have k0 := h0
  have lt0 : ∀ x ∈ p0, x.block < W.heap.size := by obtain ⟨m, hm⟩ := k0; exact DataW.trod_lt m _ _ _ hm
  obtain ⟨z0, w0, l0, m0⟩ : ∃ ns, NodesAt W a0 len0 ns ∧ len0 ≤ maxLen ∧ Short maxLen ns := by
    obtain ⟨fuel, hf⟩ := h0
    exact open_nodes hf
  obtain ⟨a1, len1, cap1, rfl⟩ := okWide_slice Try.underlying51 (hval 1 51 v1 rfl rfl)
  have k1 := h1
  have lt1 : ∀ x ∈ p1, x.block < W.heap.size := by obtain ⟨m, hm⟩ := k1; exact DataW.trod_lt m _ _ _ hm
  obtain ⟨z1, w1, l1, m1⟩ : ∃ ns, NodesAt W a1 len1 ns ∧ len1 ≤ maxLen ∧ Short maxLen ns := by
    obtain ⟨fuel, hf⟩ := h1
    exact open_nodes hf
  clear hA0 hval0
  refine (walk a0 len0 cap0 z0 l0 m0 a1 len1 cap1 z1 l1 m1 W w0 w1).mono fun e W' ⟨he, bel⟩ => ?_
  subst he
  exact ⟨_, rfl, _, _, _, [], _, [], hW', trodAll_mk1 (shut_bool Try.underlying4 _), (trodAll_cons_mk (Below.trod laidOut (by kernel_rfl) (of_decide_eq_true (by kernel_rfl)) k0 bel lt0) (trodAll_cons_mk (Below.trod laidOut (by kernel_rfl) (of_decide_eq_true (by kernel_rfl)) k1 bel lt1) trodAll_mk0)), rfl, bel.frame _, fun h => by cases h⟩

theorem over : Rows.fnExactTreeChangedRow.holds Try.pinned (OpenSpec.ofChange Rows.fnExactTreeChangedSpec) :=
  OpenClaim.holds_of_wide 11 Try.f11 rfl rfl rfl rfl rfl rfl rfl ⟨rfl, rfl, rfl, rfl, rfl⟩ rfl rfl rfl rfl rfl (by kernel_rfl) Try.func11 (by kernel_rfl)
    (of_decide_eq_true (by kernel_rfl)) (by unfold Func.isWrapper; first | (rw [if_pos (by decide +kernel)]; kernel_rfl) | (rw [if_neg (by decide +kernel)]; exact ⟨rfl, rfl⟩))
    (fun os started H enc _ => lifted os started H enc)

theorem proved : Rows.FnExactTreeChangedSaid := over
end Go.Proofs.Ytmdidhlfpaganaa.fnExactTreeChanged
