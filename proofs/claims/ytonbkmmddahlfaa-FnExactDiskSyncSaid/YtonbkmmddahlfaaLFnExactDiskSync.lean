/-
  laws.FnExactDiskSync returns true for every input, and leaves its arguments as they were.
  Conditions: none.
-/
import Derived.Test.YtonbkmmddahlfaaRows
import Derived.Test.YtonbkmmddahlfaaKk
import Derived.Test.YtonbkmmddahlfaaKb
import Derived.Test.YtonbkmmddahlfaaJl
import Derived.Test.YtonbkmmddahlfaaJs
import Derived.Test.YtonbkmmddahlfaaJy
import Derived.WalkKit
import Derived.ProofKit
import Derived.OpenShut
import Derived.ShutString
import Derived.ChangeOld
import Derived.Below
namespace Go.Proofs.Ytonbkmmddahlfaa.fnExactDiskSync
open Go.ChangeShapes Go.WideShapes Go.ChangeAt Go.RowKit
open Go.ChangeMaps (open_string shut_string)
set_option linter.unusedVariables false

theorem own : ownKnob Try.prog.godebug = none := by kernel_rfl
theorem laidOut : laidOutB Try.prog = true := by kernel_rfl

theorem lsY {W : World} {base len c : Nat} {a : Option Addr} {zs : List Int} (hz : zs.length = len) (h : W.ownsRow base 3 1 (.slice a len c) len (intsV zs)) : LsAt W (.slice a len c) zs := by
  subst hz
  exact ls_of_own h
theorem ownY {W : World} {base len c : Nat} {a : Option Addr} {zs : List Int} (hz : zs.length = len) (h : W.ownsRow base 3 1 (.slice a len c) len (intsV zs)) : IntsAt W a len zs := by
  subst hz
  obtain ⟨a', c', he, hi⟩ := ints_of_own h
  cases he
  exact hi
theorem below_next0 {n : Nat} {A B C : World} {m : Nat} (h : Below n A B) (k : Below m B C) (hm : n ≤ m) : Below n A C := h.trans (k.mono hm)
theorem _root_.Go.Proofs.Ytonbkmmddahlfaa.DiskAt.atB {W : World} {base : Nat} {a : Option Addr} {c : Nat} {bs : List Bl} {vs : List Value} (h : DiskAt W base (.slice a bs.length c) bs vs) : BlobsAt W a bs.length bs := by
  obtain ⟨a', c', e, h1, -⟩ := h.at
  injection e with e1 _ _
  subst e1
  exact h1
theorem _root_.Go.Proofs.Ytonbkmmddahlfaa.DiskAt.atB' {W : World} {base n : Nat} {a : Option Addr} {c : Nat} {bs : List Bl} {vs : List Value} (h : DiskAt W base (.slice a n c) bs vs) : BlobsAt W a bs.length bs := by
  obtain ⟨a', c', e, h1, -⟩ := h.at
  injection e with e1 _ _
  subst e1
  exact h1

set_option maxHeartbeats 8000000 in
set_option maxRecDepth 100000 in
theorem walk (a0 : Option Addr) (len0 cap0 : Nat) (bs : List Bl) (l0 : len0 ≤ maxLen) (m0 : UpTo maxLen bs) (n0 : Int) (w : World) (w0 : RawsAt w a0 len0 bs) :
    Calls Try.prog 6 #[.slice a0 len0 cap0, .int .i64 n0] w fun e w' => e = .returned (.bool true) ∧ Below w.heap.size w w' := by
  have HSZ := Lib.hid (szBlobS_c a0 len0 cap0 bs l0 m0 w w0)
  have HN := Lib.hid w0
  have HE := Lib.hid w0.1
  clear w0 l0 m0
  go_enter Try.func6, Try.ntmps6
  go_wp2_with fail
  refine HSZ.out.mono ?_
  rintro e S0 ⟨⟨z, rfl, hz⟩, hbz⟩
  have BS := Lib.hid hbz
  clear hbz
  by_cases hneg : z < 0
  · clear hz
    go_wp2
    go_ret
    exact ⟨rfl, BS.out⟩
  · obtain ⟨hl, hs, ht⟩ := hz (by omega)
    have HTB := Lib.hid ht
    have hzd : decide (z < 0) = false := decide_eq_false hneg
    have HL := Lib.hid (show bs.length ≤ 1048576 by have := HE.out; omega)
    have HS := Lib.hid hs
    have HU := Lib.hid (show UpTo 2097152 bs from fun b hb => ⟨Nat.le_trans (hs b hb).1 (by omega), Nat.le_trans (hs b hb).2 (by omega)⟩)
    have HSB := Lib.hid (show ShortB 2000000 bs from fun b hb => ⟨Nat.le_trans (hs b hb).1 (by omega), Nat.le_trans (hs b hb).2 (by omega)⟩)
    have HTO := Lib.hid (fun W' (hb : Below w.heap.size w W') => toBlobS_c a0 len0 cap0 bs (by omega) (fun b hb => ⟨Nat.le_trans (hs b hb).1 (by omega), Nat.le_trans (hs b hb).2 (by omega)⟩) W' (HN.out.keep hb))
    have hnl : (bs.length : Int) ≤ 1048576 := by have := HL.out; omega
    have HEQ := Lib.hid (fun d1 d2 k1 k2 W' (h1 : BlobsAt W' d1 bs.length bs) (h2 : BlobsAt W' d2 bs.length bs) => eqBlobS_c d1 d2 bs.length k1 k2 bs (by have := HL.out; omega) HU.out W' h1 h2)
    clear hneg hz hl hs ht
    obtain ⟨r, hr⟩ : ∃ r, diskSync bs n0 = r := ⟨_, rfl⟩
    have HRV := Lib.hid (show ∀ o, r = some o → diskV o = true from fun o h => sync_v o (hr.trans h))
    have HSP := Lib.hid (fun a c  W' (h : BlobsAt W' a bs.length bs)  => show Calls Try.prog 24 #[.slice a bs.length c, .int .i64 n0] W' (DiskPost r W') by rw [← hr]; exact specDiskSync_c a bs.length c bs n0 (by have := HL.out; omega) HU.out W' h)
    have HIM := Lib.hid (fun a c  W' (h : BlobsAt W' a bs.length bs)  => show Calls Try.prog 25 #[.slice a bs.length c, .int .i64 n0] W' (DiskPostN W'.heap.size r W') by rw [← hr]; exact implDiskSync_c a bs.length c bs n0 (by have := HL.out; omega) HSB.out W' h)
    clear hr
    go_wp2_with fail
    refine (HTO.out _ BS.out).mono ?_
    rintro e W1 ⟨s1, v1, rfl, hd1, hb1⟩
    obtain ⟨a1, c1, rfl, hB1, -, -, -⟩ := hd1.disk.at
    have D1 := Lib.hid hd1
    have N1 := Lib.hid hB1
    have B1 := Lib.hid (below_next BS.out hb1)
    have Z1 := Lib.hid hb1.size
    clear hd1 hB1 hb1
    have HS1 := Lib.hid (HSP.out a1 c1 W1 N1.out)
    go_wp2_with fail
    refine HS1.out.mono ?_
    rintro e W3 ⟨a3, c3, out, ob, rfl, hr3, hB3, -, hb3⟩
    have N3 := Lib.hid hB3
    have R3 := Lib.hid hr3
    have B3 := Lib.hid (below_next B1.out hb3)
    have P3 := Lib.hid (Below.refl W3.heap.size W3)
    have FO := Lib.hid (fine_told (bs := bs) HRV.out hr3)
    have hol : (out.length : Int) ≤ 5 := by have := FO.out.1; omega
    have HEO := Lib.hid (fun d1 d2 k1 k2 W' (h1 : BlobsAt W' d1 out.length out) (h2 : BlobsAt W' d2 out.length out) => eqBlobS_c d1 d2 out.length k1 k2 out (by have := FO.out.1; omega) FO.out.long W' h1 h2)
    have hbb : (ob != ob) = false := by simp
    clear hr3 hB3 hb3
    go_wp2_with fail
    refine (HTO.out _ B3.out).mono ?_
    rintro e W4 ⟨s4, v4, rfl, hd4, hb4⟩
    obtain ⟨a4, c4, rfl, hB4, -, -, -⟩ := hd4.disk.at
    have D4 := Lib.hid hd4
    have N4 := Lib.hid hB4
    have B4 := Lib.hid (below_next B3.out hb4)
    have Z4 := Lib.hid hb4.size
    have P34 := Lib.hid (P3.out.trans (hb4.mono (Nat.le_refl _)))
    have Q4 := Lib.hid (Below.refl W4.heap.size W4)
    clear hd4 hB4 hb4
    have HI4 := Lib.hid (HIM.out a4 c4 W4 N4.out)
    go_wp2_with fail
    refine HI4.out.mono ?_
    rintro e W6 ⟨s6, v6, out6, b6, rfl, hr6, hrow6, hin6, hb6⟩
    obtain ⟨rfl, rfl⟩ := told_same R3.out hr6
    have hd6 : DiskIn W6 W4.heap.size s6 out6 v6 := ⟨hrow6, hin6⟩
    obtain ⟨a6, c6, rfl, hB6, -, -, -⟩ := hd6.disk.at
    have D6 := Lib.hid hd6
    have B6 := Lib.hid (below_next B4.out hb6)
    have P6 := Lib.hid (P34.out.trans (hb6.mono Z4.out))
    have Q6 := Lib.hid (Q4.out.trans (hb6.mono (Nat.le_refl _)))
    have G6 := Lib.hid (Below.refl W6.heap.size W6)
    have Z6 := Lib.hid hb6.size
    have HE6 := Lib.hid (HEO.out a6 a3 c6 c3 W6 hB6 (N3.out.keep P6.out))
    clear hr6 hrow6 hin6 hb6 hd6 hB6
    go_wp2_with fail
    refine (HE6.out).mono ?_
    rintro e W7 ⟨rfl, hb7⟩
    have B7 := Lib.hid (below_next B6.out hb7)
    have P7 := Lib.hid (P6.out.trans (hb7.mono (P6.out.size)))
    have Q7 := Lib.hid (Q6.out.trans (hb7.mono (Q6.out.size)))
    have G7 := Lib.hid (G6.out.trans (hb7.mono (G6.out.size)))
    clear hb7
    go_wp2_with fail
    refine (HTO.out _ B7.out).mono ?_
    rintro e W8 ⟨s8, v8, rfl, hd8, hb8⟩
    obtain ⟨a8, c8, rfl, hB8, -, -, -⟩ := hd8.disk.at
    have D8 := Lib.hid hd8
    have N8 := Lib.hid hB8
    have B8 := Lib.hid (below_next B7.out hb8)
    have Z8 := Lib.hid hb8.size
    have P8 := Lib.hid (P7.out.trans (hb8.mono (P7.out.size)))
    have Q8 := Lib.hid (Q7.out.trans (hb8.mono (Q7.out.size)))
    have G8 := Lib.hid (G7.out.trans (hb8.mono (G7.out.size)))
    clear hd8 hB8 hb8
    go_wp2_with fail
    refine (HEQ.out a4 a8 c4 c8 W8 ((D4.out.below Q8.out).disk.atB) N8.out).mono ?_
    rintro e W9 ⟨rfl, hb9⟩
    have B9 := Lib.hid (below_next B8.out hb9)
    have P9 := Lib.hid (P8.out.trans (hb9.mono (P8.out.size)))
    have Q9 := Lib.hid (Q8.out.trans (hb9.mono (Q8.out.size)))
    have G9 := Lib.hid (G8.out.trans (hb9.mono (G8.out.size)))
    clear hb9
    have HMK := Lib.hid (markBlobS_any a4 c4 1 W3.heap.size bs v4 (by omega) (by have := HL.out; omega) HU.out (by have := HTB.out; omega) W4 W9 D4.out (D4.out.below Q9.out))
    go_wp2_with fail
    refine HMK.out.mono ?_
    rintro e W10 ⟨rfl, -, hA10⟩
    have B10 := Lib.hid (below_next0 B9.out (hA10.below (by have := Q9.out.size; have := Z4.out; omega)) B3.out.size)
    have P10 := Lib.hid (P9.out.trans (hA10.below (by have := Q9.out.size; have := Z4.out; omega)))
    have D610 := Lib.hid ((D6.out.below G9.out).amid hA10 (Nat.le_refl _))
    have SZ10 := Lib.hid (show W4.heap.size ≤ W10.heap.size from Nat.le_trans Z6.out (Nat.le_trans G9.out.size hA10.size))
    obtain ⟨kv, hkv⟩ : ∃ kv : Nat, endB 1 bs = kv := ⟨_, rfl⟩
    have HKV := Lib.hid (show kv ≤ 3000000 by have := endB_eq 1 bs; have := HTB.out; have := HL.out; omega)
    rw [hkv]
    clear hA10 hkv HMK
    have hkd : decide ((kv : Int) < 0) = false := decide_eq_false (by omega)
    have HE8 := Lib.hid (HEO.out a6 a3 c6 c3 W10 D610.out.disk.atB (N3.out.keep P10.out))
    go_wp2_with fail
    refine HE8.out.mono ?_
    rintro e W11 ⟨rfl, hb11⟩
    have B11 := Lib.hid (below_next B10.out hb11)
    have P11 := Lib.hid (P10.out.trans (hb11.mono P10.out.size))
    have D611 := Lib.hid (D610.out.below hb11)
    have HM9 := Lib.hid (markBlobS_any a6 c6 1 W4.heap.size out6 v6 (by omega) (by have := FO.out.1; omega) FO.out.long (by have h1 := totB_le FO.out.2; have h2 := FO.out.1; have : out6.length * (2 * 400) ≤ 5 * (2 * 400) := Nat.mul_le_mul_right _ h2; omega) W11 W11 D611.out D611.out)
    have SZ11 := Lib.hid (Nat.le_trans SZ10.out hb11.size)
    clear hb11
    go_wp2_with fail
    refine HM9.out.mono ?_
    rintro e W12 ⟨rfl, hm12, hA12⟩
    have B12 := Lib.hid (below_next0 B11.out (hA12.below SZ11.out) (by have := B3.out.size; have := Z4.out; omega))
    have P12 := Lib.hid (P11.out.trans ((hA12.below SZ11.out).mono Z4.out))
    have M12 := Lib.hid hm12
    obtain ⟨q, hq⟩ : ∃ q : Int, ((endB 1 out6 : Nat) : Int) = q := ⟨_, rfl⟩
    have HH := Lib.hid (fun W' (h : DiskIn W' W4.heap.size (.slice a6 out6.length c6) (markB 1 out6) v6) => show Calls Try.prog 23 #[.slice a6 out6.length c6, .int .i64 1] W' (fun e W'' => e = .returned (.int .i64 q) ∧ W'' = W') by
      rw [← hq]
      refine heldBlobS_c a6 c6 1 out6 (by omega) (by have := FO.out.1; omega) FO.out.long (by have h1 := totB_le FO.out.2; have h2 := FO.out.1; have : out6.length * (2 * 400) ≤ 5 * (2 * 400) := Nat.mul_le_mul_right _ h2; omega) W' ?_
      have := h.disk.atB'
      rw [markB_length] at this
      exact this)
    rw [hq]
    have hqd : decide (q < 0) = false := decide_eq_false (by omega)
    have hqq : (q != q) = false := by simp
    clear hm12 hA12 hq HM9
    go_wp2_with fail
    refine (HH.out _ M12.out).mono ?_
    rintro e Wx ⟨rfl, rfl⟩
    go_wp2_with fail
    refine (HTO.out _ B12.out).mono ?_
    rintro e W13 ⟨s13, v13, rfl, hd13, hb13⟩
    obtain ⟨a13, c13, rfl, hB13, -, -, -⟩ := hd13.disk.at
    have D13 := Lib.hid hd13
    have N13 := Lib.hid hB13
    have B13 := Lib.hid (below_next B12.out hb13)
    have Z13 := Lib.hid hb13.size
    have P13 := Lib.hid (P12.out.trans (hb13.mono (P12.out.size)))
    have M13 := Lib.hid (M12.out.below hb13)
    clear hd13 hB13 hb13
    have HIE := Lib.hid (HIM.out a13 c13 W13 N13.out)
    go_wp2_with fail
    refine HIE.out.mono ?_
    rintro e W14 ⟨s14, v14, out14, b14, rfl, hr14, hrow14, hin14, hb14⟩
    obtain ⟨e1, e2⟩ := told_same R3.out hr14
    replace e1 := e1.symm
    replace e2 := e2.symm
    subst e1
    subst e2
    have hd14 : DiskIn W14 _ s14 _ v14 := ⟨hrow14, hin14⟩
    obtain ⟨a14, c14, rfl, hB14, -, -, -⟩ := hd14.disk.at
    have B14 := Lib.hid (below_next B13.out hb14)
    have P14 := Lib.hid (P13.out.trans (hb14.mono P13.out.size))
    have M14 := Lib.hid (M13.out.below hb14)
    have HEE := Lib.hid (HEO.out a14 a3 c14 c3 W14 hB14 (N3.out.keep P14.out))
    clear hr14 hrow14 hin14 hb14 hd14 hB14
    go_wp2_with fail
    refine (HEE.out).mono ?_
    rintro e W15 ⟨rfl, hb15⟩
    have B15 := Lib.hid (below_next B14.out hb15)
    have M15 := Lib.hid (M14.out.below hb15)
    clear hb15
    go_wp2_with fail
    refine (HH.out _ M15.out).mono ?_
    rintro e Wy ⟨rfl, rfl⟩
    go_wp2
    go_ret
    exact ⟨rfl, B15.out⟩


set_option maxRecDepth 100000 in
theorem lifted (os : Os) (started : os.Started) (H : Type) (enc : TypeId × Value → H) :
    ReturnsInHanded {} Try.checked os 6 .any (Rows.fnExactDiskSyncSpec.pre6 enc Try.prog Try.f6 Rows.fnExactDiskSyncRow.domain false) (Rows.fnExactDiskSyncSpec.post enc Try.prog Try.f6 false true false false) := by
  refine returnsInHanded_of_change (C := Try.checked) own started (by kernel_rfl) Try.func6
    (ChangeSpec.witness6 (enc := enc) (C := Try.checked) false ⟨#[], #[.slice none 0 0, .int .i64 0], []⟩ 8 (by kernel_rfl) (by kernel_rfl) (by kernel_rfl) (by kernel_rfl)) ?_
  intro W base args ds gs before hval0 hW hcnd _
  have hval : ∀ (j : Nat) t v, Try.f6.params[j]? = some t → args[j]? = some v → Value.okWide Try.prog W .any base t v := hval0
  have hW' := hW
  obtain ⟨p, q, hA0, hV, rfl, hfz, hnd⟩ := hW
  have hA : DataW.TrodAll enc Try.prog W 0 (fun _ => true) true Try.f6.params.toList args.toList ds p := hA0
  rw [Try.params6] at hA hval
  obtain ⟨v0, vs0, d0, ds0, p0, q0, hargs, rfl, rfl, h0, r0⟩ := trodAll_cons hA
  obtain ⟨v1, vs1, d1, ds1, p1, q1, rfl, rfl, rfl, h1, r1⟩ := trodAll_cons r0
  obtain ⟨rfl, rfl, rfl⟩ := trodAll_nil r1
  obtain rfl : args = #[v0, v1] := by cases args; simp_all
  obtain ⟨rfl, rfl⟩ := trodVars_none hV
  obtain ⟨a0, len0, cap0, rfl⟩ := okWide_slice Try.underlying22 (hval 0 22 v0 rfl rfl)
  have k0 := h0
  have lt0 : ∀ x ∈ p0, x.block < W.heap.size := by obtain ⟨m, hm⟩ := k0; exact DataW.trod_lt m _ _ _ hm
  obtain ⟨z0, w0, l0, m0⟩ : ∃ bs, RawsAt W a0 len0 bs ∧ len0 ≤ maxLen ∧ UpTo maxLen bs := by
    obtain ⟨fuel, hf⟩ := h0
    exact open_blobs hf
  obtain ⟨a1, rfl, rfl, rfl, w1⟩ := open_int Try.underlying3 (hval 1 3 v1 rfl rfl) h1
  clear hA0 hval0
  refine (walk a0 len0 cap0 z0 l0 m0 a1 W w0).mono fun e W' ⟨he, bel⟩ => ?_
  subst he
  exact ⟨_, rfl, _, _, _, [], _, [], hW', trodAll_mk1 (shut_bool Try.underlying4 _), (trodAll_cons_mk (Below.trod laidOut (by kernel_rfl) (of_decide_eq_true (by kernel_rfl)) k0 bel lt0) (trodAll_cons_mk (shut_int Try.underlying3 w1) trodAll_mk0)), rfl, bel.frame _, fun h => by cases h⟩

theorem over : Rows.fnExactDiskSyncRow.holds Try.pinned (OpenSpec.ofChange Rows.fnExactDiskSyncSpec) :=
  OpenClaim.holds_of_wide 6 Try.f6 rfl rfl rfl rfl rfl rfl rfl ⟨rfl, rfl, rfl, rfl, rfl⟩ rfl rfl rfl rfl rfl (by kernel_rfl) Try.func6 (by kernel_rfl)
    (of_decide_eq_true (by kernel_rfl)) (by unfold Func.isWrapper; first | (rw [if_pos (by decide +kernel)]; kernel_rfl) | (rw [if_neg (by decide +kernel)]; exact ⟨rfl, rfl⟩))
    (fun os started H enc _ => lifted os started H enc)

theorem proved : Rows.FnExactDiskSyncSaid := over
end Go.Proofs.Ytonbkmmddahlfaa.fnExactDiskSync
