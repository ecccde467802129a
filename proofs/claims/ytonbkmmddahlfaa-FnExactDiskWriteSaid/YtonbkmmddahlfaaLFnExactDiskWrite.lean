/-
  laws.FnExactDiskWrite returns true for every input, and leaves its arguments as they were.
  Conditions: none.
-/
import Derived.Test.YtonbkmmddahlfaaRows
import Derived.Test.YtonbkmmddahlfaaKk
import Derived.Test.YtonbkmmddahlfaaKb
import Derived.Test.YtonbkmmddahlfaaFo
import Derived.Test.YtonbkmmddahlfaaJl
import Derived.Test.YtonbkmmddahlfaaJt
import Derived.Test.YtonbkmmddahlfaaJy
import Derived.WalkKit
import Derived.ProofKit
import Derived.OpenShut
import Derived.ShutString
import Derived.ChangeOld
import Derived.Below
namespace Go.Proofs.Ytonbkmmddahlfaa.fnExactDiskWrite
open Go.ChangeShapes Go.WideShapes Go.ChangeAt Go.RowKit
open Go.ChangeMaps (open_string shut_string)
set_option linter.unusedVariables false

theorem own : ownKnob Try.prog.godebug = none := by kernel_rfl
theorem laidOut : laidOutB Try.prog = true := by kernel_rfl

theorem lsY {W : World} {base len c : Nat} {a : Option Addr} {zs : List Int} (hz : zs.length = len) (h : W.ownsRow base 3 1 (.slice a len c) len (intsV zs)) : LsAt W (.slice a len c) zs := by
  subst hz
  exact ls_of_own h
theorem ownY {W : World} {base len c : Nat} {a : Option Addr} {zs : List Int} (hz : zs.length = len) (h : W.ownsRow base 3 1 (.slice a len c) len (intsV zs)) : IntsAt W a len zs := by
  subst hz
  obtain ⟨a', c', he, hi⟩ := ints_of_own h
  cases he
  exact hi
theorem below_next0 {n : Nat} {A B C : World} {m : Nat} (h : Below n A B) (k : Below m B C) (hm : n ≤ m) : Below n A C := h.trans (k.mono hm)
theorem _root_.Go.Proofs.Ytonbkmmddahlfaa.DiskAt.atB {W : World} {base : Nat} {a : Option Addr} {c : Nat} {bs : List Bl} {vs : List Value} (h : DiskAt W base (.slice a bs.length c) bs vs) : BlobsAt W a bs.length bs := by
  obtain ⟨a', c', e, h1, -⟩ := h.at
  injection e with e1 _ _
  subst e1
  exact h1
theorem _root_.Go.Proofs.Ytonbkmmddahlfaa.DiskAt.atB' {W : World} {base n : Nat} {a : Option Addr} {c : Nat} {bs : List Bl} {vs : List Value} (h : DiskAt W base (.slice a n c) bs vs) : BlobsAt W a bs.length bs := by
  obtain ⟨a', c', e, h1, -⟩ := h.at
  injection e with e1 _ _
  subst e1
  exact h1

set_option maxHeartbeats 8000000 in
set_option maxRecDepth 100000 in
theorem walk (a0 : Option Addr) (len0 cap0 : Nat) (bs : List Bl) (l0 : len0 ≤ maxLen) (m0 : UpTo maxLen bs) (n0 : Int) (al : Option Addr) (lenl capl : Nat) (ys : List Int) (ll : lenl ≤ maxLen) (cl : lenl ≤ capl) (ml : capl ≤ maxLen) (w : World) (w0 : RawsAt w a0 len0 bs) (wl : IntsAt w al lenl ys) :
    Calls Try.prog 5 #[.slice a0 len0 cap0, .int .i64 n0, .slice al lenl capl] w fun e w' => e = .returned (.bool true) ∧ Below w.heap.size w w' := by
  by_cases hlong : lenl ≤ 1048576
  · have hlo : (lenl : Int) ≤ 1048576 := by omega
    have HYL := Lib.hid wl.1
    have HTY := Lib.hid (fun W' (hb : Below w.heap.size w W') => toIntS_c al lenl capl ys (by omega) W' (wl.keep hb))
    have HEY := Lib.hid (fun a1 a2 c1 c2 W' (h1 : IntsAt W' a1 lenl ys) (h2 : IntsAt W' a2 lenl ys) => eqIntS_c a1 a2 lenl c1 c2 ys (by omega) W' h1 h2)
    have HLO := Lib.hid hlong
    clear wl ll cl ml hlong
    have HSZ := Lib.hid (szBlobS_c a0 len0 cap0 bs l0 m0 w w0)
    have HN := Lib.hid w0
    have HE := Lib.hid w0.1
    clear w0 l0 m0
    go_enter Try.func5, Try.ntmps5
    go_wp2_with fail
    refine HSZ.out.mono ?_
    rintro e S0 ⟨⟨z, rfl, hz⟩, hbz⟩
    have BS := Lib.hid hbz
    clear hbz
    by_cases hneg : z < 0
    · clear hz
      go_wp2
      go_ret
      exact ⟨rfl, BS.out⟩
    · obtain ⟨hl, hs, ht⟩ := hz (by omega)
      have HTB := Lib.hid ht
      have hzd : decide (z < 0) = false := decide_eq_false hneg
      have HL := Lib.hid (show bs.length ≤ 1048576 by have := HE.out; omega)
      have HS := Lib.hid hs
      have HU := Lib.hid (show UpTo 2097152 bs from fun b hb => ⟨Nat.le_trans (hs b hb).1 (by omega), Nat.le_trans (hs b hb).2 (by omega)⟩)
      have HSB := Lib.hid (show ShortB 2000000 bs from fun b hb => ⟨Nat.le_trans (hs b hb).1 (by omega), Nat.le_trans (hs b hb).2 (by omega)⟩)
      have HTO := Lib.hid (fun W' (hb : Below w.heap.size w W') => toBlobS_c a0 len0 cap0 bs (by omega) (fun b hb => ⟨Nat.le_trans (hs b hb).1 (by omega), Nat.le_trans (hs b hb).2 (by omega)⟩) W' (HN.out.keep hb))
      have hnl : (bs.length : Int) ≤ 1048576 := by have := HL.out; omega
      have HEQ := Lib.hid (fun d1 d2 k1 k2 W' (h1 : BlobsAt W' d1 bs.length bs) (h2 : BlobsAt W' d2 bs.length bs) => eqBlobS_c d1 d2 bs.length k1 k2 bs (by have := HL.out; omega) HU.out W' h1 h2)
      clear hneg hz hl hs ht
      obtain ⟨r, hr⟩ : ∃ r, diskWrite bs n0 ys = r := ⟨_, rfl⟩
      have HRV := Lib.hid (show ∀ o, r = some o → diskV o = true from fun o h => write_v o (hr.trans h))
      have HSP := Lib.hid (fun a c (y : Option Addr) (d : Nat) W' (h : BlobsAt W' a bs.length bs) (hy : LsAt W' (.slice y lenl d) ys) => show Calls Try.prog 20 #[.slice a bs.length c, .int .i64 n0, .slice y lenl d] W' (DiskPost r W') by rw [← hr]; exact specDiskWrite_c a bs.length c bs n0 y lenl d ys (by have := HL.out; omega) HU.out (by have := HYL.out; have := HLO.out; omega) W' h hy)
      have HIM := Lib.hid (fun a c (y : Option Addr) (d : Nat) W' (h : BlobsAt W' a bs.length bs) (hy : LsAt W' (.slice y lenl d) ys) => show Calls Try.prog 22 #[.slice a bs.length c, .int .i64 n0, .slice y lenl d] W' (DiskPostN W'.heap.size r W') by rw [← hr]; exact implDiskWrite_c a bs.length c bs n0 y lenl d ys (by have := HL.out; omega) HSB.out (by have := HYL.out; have := HLO.out; omega) W' h hy)
      clear hr
      go_wp2_with fail
      refine (HTO.out _ BS.out).mono ?_
      rintro e W1 ⟨s1, v1, rfl, hd1, hb1⟩
      obtain ⟨a1, c1, rfl, hB1, -, -, -⟩ := hd1.disk.at
      have D1 := Lib.hid hd1
      have N1 := Lib.hid hB1
      have B1 := Lib.hid (below_next BS.out hb1)
      have Z1 := Lib.hid hb1.size
      clear hd1 hB1 hb1
      go_wp2_with fail
      refine (HTY.out _ B1.out).mono ?_
      rintro e W2 ⟨⟨s2, rfl, ho2⟩, hb2⟩
      obtain ⟨y2, e2, rfl, hi2⟩ := ints_of_own ho2
      rw [HYL.out] at ho2 hi2 ⊢
      have O2 := Lib.hid ho2
      have I2 := Lib.hid hi2
      have L2 := Lib.hid (lsY HYL.out ho2)
      have B2 := Lib.hid (below_next B1.out hb2)
      have Z2 := Lib.hid hb2.size
      have N12 := Lib.hid (N1.out.keep hb2)
      clear ho2 hi2 hb2
      have HS1 := Lib.hid (HSP.out a1 c1 y2 e2 W2 N12.out L2.out)
      go_wp2_with fail
      refine HS1.out.mono ?_
      rintro e W3 ⟨a3, c3, out, ob, rfl, hr3, hB3, -, hb3⟩
      have N3 := Lib.hid hB3
      have R3 := Lib.hid hr3
      have B3 := Lib.hid (below_next B2.out hb3)
      have P3 := Lib.hid (Below.refl W3.heap.size W3)
      have FO := Lib.hid (fine_told (bs := bs) HRV.out hr3)
      have hol : (out.length : Int) ≤ 5 := by have := FO.out.1; omega
      have HEO := Lib.hid (fun d1 d2 k1 k2 W' (h1 : BlobsAt W' d1 out.length out) (h2 : BlobsAt W' d2 out.length out) => eqBlobS_c d1 d2 out.length k1 k2 out (by have := FO.out.1; omega) FO.out.long W' h1 h2)
      have hbb : (ob != ob) = false := by simp
      clear hr3 hB3 hb3
      go_wp2_with fail
      refine (HTO.out _ B3.out).mono ?_
      rintro e W4 ⟨s4, v4, rfl, hd4, hb4⟩
      obtain ⟨a4, c4, rfl, hB4, -, -, -⟩ := hd4.disk.at
      have D4 := Lib.hid hd4
      have N4 := Lib.hid hB4
      have B4 := Lib.hid (below_next B3.out hb4)
      have Z4 := Lib.hid hb4.size
      have P34 := Lib.hid (P3.out.trans (hb4.mono (Nat.le_refl _)))
      have Q4 := Lib.hid (Below.refl W4.heap.size W4)
      clear hd4 hB4 hb4
      go_wp2_with fail
      refine (HTY.out _ B4.out).mono ?_
      rintro e W5 ⟨⟨s5, rfl, ho5⟩, hb5⟩
      obtain ⟨y5, e5, rfl, hi5⟩ := ints_of_own ho5
      rw [HYL.out] at ho5 hi5 ⊢
      have O5 := Lib.hid ho5
      have I5 := Lib.hid hi5
      have L5 := Lib.hid (lsY HYL.out ho5)
      have B5 := Lib.hid (below_next B4.out hb5)
      have Z5 := Lib.hid hb5.size
      have N45 := Lib.hid (N4.out.keep hb5)
      have P35 := Lib.hid (P34.out.trans (hb5.mono Z4.out))
      have Q45 := Lib.hid (Q4.out.trans (hb5.mono (Nat.le_refl _)))
      clear ho5 hi5 hb5
      have HI4 := Lib.hid (HIM.out a4 c4 y5 e5 W5 N45.out L5.out)
      go_wp2_with fail
      refine HI4.out.mono ?_
      rintro e W6 ⟨s6, v6, out6, b6, rfl, hr6, hrow6, hin6, hb6⟩
      obtain ⟨rfl, rfl⟩ := told_same R3.out hr6
      have hd6 : DiskIn W6 W5.heap.size s6 out6 v6 := ⟨hrow6, hin6⟩
      obtain ⟨a6, c6, rfl, hB6, -, -, -⟩ := hd6.disk.at
      have D6 := Lib.hid hd6
      have B6 := Lib.hid (below_next B5.out hb6)
      have P6 := Lib.hid (P35.out.trans (hb6.mono (Nat.le_trans Z4.out Z5.out)))
      have Q6 := Lib.hid (Q45.out.trans (hb6.mono Z5.out))
      have G6 := Lib.hid (Below.refl W6.heap.size W6)
      have Z6 := Lib.hid hb6.size
      have Y6 := Lib.hid (own_below1 O5.out hb6)
      have HE6 := Lib.hid (HEO.out a6 a3 c6 c3 W6 hB6 (N3.out.keep P6.out))
      clear hr6 hrow6 hin6 hb6 hd6 hB6
      go_wp2_with fail
      refine (HE6.out).mono ?_
      rintro e W7 ⟨rfl, hb7⟩
      have B7 := Lib.hid (below_next B6.out hb7)
      have P7 := Lib.hid (P6.out.trans (hb7.mono (P6.out.size)))
      have Q7 := Lib.hid (Q6.out.trans (hb7.mono (Q6.out.size)))
      have G7 := Lib.hid (G6.out.trans (hb7.mono (G6.out.size)))
      have Y7 := Lib.hid (own_below1 Y6.out hb7)
      clear hb7
      go_wp2_with fail
      refine (HTO.out _ B7.out).mono ?_
      rintro e W8 ⟨s8, v8, rfl, hd8, hb8⟩
      obtain ⟨a8, c8, rfl, hB8, -, -, -⟩ := hd8.disk.at
      have D8 := Lib.hid hd8
      have N8 := Lib.hid hB8
      have B8 := Lib.hid (below_next B7.out hb8)
      have Z8 := Lib.hid hb8.size
      have P8 := Lib.hid (P7.out.trans (hb8.mono (P7.out.size)))
      have Q8 := Lib.hid (Q7.out.trans (hb8.mono (Q7.out.size)))
      have G8 := Lib.hid (G7.out.trans (hb8.mono (G7.out.size)))
      have Y8 := Lib.hid (own_below1 Y7.out hb8)
      clear hd8 hB8 hb8
      go_wp2_with fail
      refine (HEQ.out a4 a8 c4 c8 W8 ((D4.out.below Q8.out).disk.atB) N8.out).mono ?_
      rintro e W9 ⟨rfl, hb9⟩
      have B9 := Lib.hid (below_next B8.out hb9)
      have P9 := Lib.hid (P8.out.trans (hb9.mono (P8.out.size)))
      have Q9 := Lib.hid (Q8.out.trans (hb9.mono (Q8.out.size)))
      have G9 := Lib.hid (G8.out.trans (hb9.mono (G8.out.size)))
      have Y9 := Lib.hid (own_below1 Y8.out hb9)
      clear hb9
      go_wp2_with fail
      refine (HTY.out _ B9.out).mono ?_
      rintro e W10 ⟨⟨s10, rfl, ho10⟩, hb10⟩
      obtain ⟨y10, e10, rfl, hi10⟩ := ints_of_own ho10
      rw [HYL.out] at ho10 hi10 ⊢
      have O10 := Lib.hid ho10
      have I10 := Lib.hid hi10
      have L10 := Lib.hid (lsY HYL.out ho10)
      have B10 := Lib.hid (below_next B9.out hb10)
      have Z10 := Lib.hid hb10.size
      have P10 := Lib.hid (P9.out.trans (hb10.mono (P9.out.size)))
      have Q10 := Lib.hid (Q9.out.trans (hb10.mono (Q9.out.size)))
      have G10 := Lib.hid (G9.out.trans (hb10.mono (G9.out.size)))
      have Y10 := Lib.hid (own_below1 Y9.out hb10)
      clear ho10 hi10 hb10
      go_wp2_with fail
      refine (HEY.out y5 y10 e5 e10 W10 (ownY HYL.out Y10.out) I10.out).mono ?_
      rintro e W11 ⟨rfl, hb11⟩
      have B11 := Lib.hid (below_next B10.out hb11)
      have P11 := Lib.hid (P10.out.trans (hb11.mono (P10.out.size)))
      have Q11 := Lib.hid (Q10.out.trans (hb11.mono (Q10.out.size)))
      have G11 := Lib.hid (G10.out.trans (hb11.mono (G10.out.size)))
      have Y11 := Lib.hid (own_below1 Y10.out hb11)
      clear hb11
      have HMK := Lib.hid (markBlobS_any a4 c4 1 W3.heap.size bs v4 (by omega) (by have := HL.out; omega) HU.out (by have := HTB.out; omega) W4 W11 D4.out (D4.out.below Q11.out))
      go_wp2_with fail
      refine HMK.out.mono ?_
      rintro e W12 ⟨rfl, -, hA12⟩
      have B12 := Lib.hid (below_next0 B11.out (hA12.below (by have := Q11.out.size; have := Z4.out; omega)) B3.out.size)
      have P12 := Lib.hid (P11.out.trans (hA12.below (by have := Q11.out.size; have := Z4.out; omega)))
      have D612 := Lib.hid ((D6.out.below G11.out).amid hA12 Z5.out)
      have Y12 := Lib.hid (own_amid Y11.out hA12 (Nat.le_refl _))
      have SZ12 := Lib.hid (show W5.heap.size ≤ W12.heap.size from Nat.le_trans Z6.out (Nat.le_trans G11.out.size hA12.size))
      obtain ⟨kv, hkv⟩ : ∃ kv : Nat, endB 1 bs = kv := ⟨_, rfl⟩
      have HKV := Lib.hid (show kv ≤ 3000000 by have := endB_eq 1 bs; have := HTB.out; have := HL.out; omega)
      rw [hkv]
      clear hA12 hkv HMK
      have HMY := Lib.hid (markIntS_c (.slice y5 lenl e5) W4.heap.size lenl kv _ (by have := HLO.out; omega) (by have := HKV.out; omega) W12 Y12.out)
      go_wp2_with fail
      refine HMY.out.mono ?_
      rintro e W13 ⟨rfl, hg13, -⟩
      have hY13 := Y12.out
      have hA13 : Amid W4.heap.size W5.heap.size _ W13 := Amid.grown hg13 (fun j ej => ⟨(hY13.lt j ej).1, (O5.out.lt j ej).2⟩)
      have B13 := Lib.hid (below_next0 B12.out (hA13.below (Nat.le_trans Z5.out SZ12.out)) (Nat.le_trans B3.out.size Z4.out))
      have P13 := Lib.hid (P12.out.trans ((hA13.below (Nat.le_trans Z5.out SZ12.out)).mono Z4.out))
      have D613 := Lib.hid (D612.out.amid hA13 (Nat.le_refl _))
      have SZ13 := Lib.hid (Nat.le_trans SZ12.out hg13.size)
      obtain ⟨kw, hkw⟩ : ∃ kw : Int, ((kv + lenl : Nat) : Int) = kw := ⟨_, rfl⟩
      have hkd : decide (kw < 0) = false := decide_eq_false (by omega)
      try rw [hkw]
      try (rw [show (kv : Int) + (lenl : Int) = kw by rw [← hkw]; push_cast; rfl])
      clear hg13 hA13 hY13 hkw HMY
      have HE8 := Lib.hid (HEO.out a6 a3 c6 c3 W13 D613.out.disk.atB (N3.out.keep P13.out))
      go_wp2_with fail
      refine HE8.out.mono ?_
      rintro e W14 ⟨rfl, hb14⟩
      have B14 := Lib.hid (below_next B13.out hb14)
      have P14 := Lib.hid (P13.out.trans (hb14.mono P13.out.size))
      have D614 := Lib.hid (D613.out.below hb14)
      have HM9 := Lib.hid (markBlobS_any a6 c6 1 W5.heap.size out6 v6 (by omega) (by have := FO.out.1; omega) FO.out.long (by have h1 := totB_le FO.out.2; have h2 := FO.out.1; have : out6.length * (2 * 400) ≤ 5 * (2 * 400) := Nat.mul_le_mul_right _ h2; omega) W14 W14 D614.out D614.out)
      have SZ14 := Lib.hid (Nat.le_trans SZ13.out hb14.size)
      clear hb14
      go_wp2_with fail
      refine HM9.out.mono ?_
      rintro e W15 ⟨rfl, hm15, hA15⟩
      have B15 := Lib.hid (below_next0 B14.out (hA15.below SZ14.out) (by have := B3.out.size; have := (Nat.le_trans Z4.out Z5.out); omega))
      have P15 := Lib.hid (P14.out.trans ((hA15.below SZ14.out).mono (Nat.le_trans Z4.out Z5.out)))
      have M15 := Lib.hid hm15
      obtain ⟨q, hq⟩ : ∃ q : Int, ((endB 1 out6 : Nat) : Int) = q := ⟨_, rfl⟩
      have HH := Lib.hid (fun W' (h : DiskIn W' W5.heap.size (.slice a6 out6.length c6) (markB 1 out6) v6) => show Calls Try.prog 23 #[.slice a6 out6.length c6, .int .i64 1] W' (fun e W'' => e = .returned (.int .i64 q) ∧ W'' = W') by
        rw [← hq]
        refine heldBlobS_c a6 c6 1 out6 (by omega) (by have := FO.out.1; omega) FO.out.long (by have h1 := totB_le FO.out.2; have h2 := FO.out.1; have : out6.length * (2 * 400) ≤ 5 * (2 * 400) := Nat.mul_le_mul_right _ h2; omega) W' ?_
        have := h.disk.atB'
        rw [markB_length] at this
        exact this)
      rw [hq]
      have hqd : decide (q < 0) = false := decide_eq_false (by omega)
      have hqq : (q != q) = false := by simp
      clear hm15 hA15 hq HM9
      go_wp2_with fail
      refine (HH.out _ M15.out).mono ?_
      rintro e Wx ⟨rfl, rfl⟩
      go_wp2_with fail
      refine (HTO.out _ B15.out).mono ?_
      rintro e W16 ⟨s16, v16, rfl, hd16, hb16⟩
      obtain ⟨a16, c16, rfl, hB16, -, -, -⟩ := hd16.disk.at
      have D16 := Lib.hid hd16
      have N16 := Lib.hid hB16
      have B16 := Lib.hid (below_next B15.out hb16)
      have Z16 := Lib.hid hb16.size
      have P16 := Lib.hid (P15.out.trans (hb16.mono (P15.out.size)))
      have M16 := Lib.hid (M15.out.below hb16)
      clear hd16 hB16 hb16
      go_wp2_with fail
      refine (HTY.out _ B16.out).mono ?_
      rintro e W17 ⟨⟨s17, rfl, ho17⟩, hb17⟩
      obtain ⟨y17, e17, rfl, hi17⟩ := ints_of_own ho17
      rw [HYL.out] at ho17 hi17 ⊢
      have O17 := Lib.hid ho17
      have I17 := Lib.hid hi17
      have L17 := Lib.hid (lsY HYL.out ho17)
      have B17 := Lib.hid (below_next B16.out hb17)
      have Z17 := Lib.hid hb17.size
      have P17 := Lib.hid (P16.out.trans (hb17.mono (P16.out.size)))
      have M17 := Lib.hid (M16.out.below hb17)
      have NN17 := Lib.hid (N16.out.keep hb17)
      clear ho17 hi17 hb17
      have HIE := Lib.hid (HIM.out a16 c16 y17 e17 W17 NN17.out L17.out)
      go_wp2_with fail
      refine HIE.out.mono ?_
      rintro e W18 ⟨s18, v18, out18, b18, rfl, hr18, hrow18, hin18, hb18⟩
      obtain ⟨e1, e2⟩ := told_same R3.out hr18
      replace e1 := e1.symm
      replace e2 := e2.symm
      subst e1
      subst e2
      have hd18 : DiskIn W18 _ s18 _ v18 := ⟨hrow18, hin18⟩
      obtain ⟨a18, c18, rfl, hB18, -, -, -⟩ := hd18.disk.at
      have B18 := Lib.hid (below_next B17.out hb18)
      have P18 := Lib.hid (P17.out.trans (hb18.mono P17.out.size))
      have M18 := Lib.hid (M17.out.below hb18)
      have HEE := Lib.hid (HEO.out a18 a3 c18 c3 W18 hB18 (N3.out.keep P18.out))
      clear hr18 hrow18 hin18 hb18 hd18 hB18
      go_wp2_with fail
      refine (HEE.out).mono ?_
      rintro e W19 ⟨rfl, hb19⟩
      have B19 := Lib.hid (below_next B18.out hb19)
      have M19 := Lib.hid (M18.out.below hb19)
      clear hb19
      go_wp2_with fail
      refine (HH.out _ M19.out).mono ?_
      rintro e Wy ⟨rfl, rfl⟩
      go_wp2
      go_ret
      exact ⟨rfl, B19.out⟩
  · have hlo : (1048576 : Int) < lenl := by omega
    clear hlong wl w0
    go_enter Try.func5, Try.ntmps5
    go_wp2
    go_ret
    exact ⟨rfl, Below.refl _ _⟩


set_option maxRecDepth 100000 in
theorem lifted (os : Os) (started : os.Started) (H : Type) (enc : TypeId × Value → H) :
    ReturnsInHanded {} Try.checked os 5 .any (Rows.fnExactDiskWriteSpec.pre6 enc Try.prog Try.f5 Rows.fnExactDiskWriteRow.domain false) (Rows.fnExactDiskWriteSpec.post enc Try.prog Try.f5 false true false false) := by
  refine returnsInHanded_of_change (C := Try.checked) own started (by kernel_rfl) Try.func5
    (ChangeSpec.witness6 (enc := enc) (C := Try.checked) false ⟨#[], #[.slice none 0 0, .int .i64 0, .slice none 0 0], []⟩ 8 (by kernel_rfl) (by kernel_rfl) (by kernel_rfl) (by kernel_rfl)) ?_
  intro W base args ds gs before hval0 hW hcnd _
  have hval : ∀ (j : Nat) t v, Try.f5.params[j]? = some t → args[j]? = some v → Value.okWide Try.prog W .any base t v := hval0
  have hW' := hW
  obtain ⟨p, q, hA0, hV, rfl, hfz, hnd⟩ := hW
  have hA : DataW.TrodAll enc Try.prog W 0 (fun _ => true) true Try.f5.params.toList args.toList ds p := hA0
  rw [Try.params5] at hA hval
  obtain ⟨v0, vs0, d0, ds0, p0, q0, hargs, rfl, rfl, h0, r0⟩ := trodAll_cons hA
  obtain ⟨v1, vs1, d1, ds1, p1, q1, rfl, rfl, rfl, h1, r1⟩ := trodAll_cons r0
  obtain ⟨v2, vs2, d2, ds2, p2, q2, rfl, rfl, rfl, h2, r2⟩ := trodAll_cons r1
  obtain ⟨rfl, rfl, rfl⟩ := trodAll_nil r2
  obtain rfl : args = #[v0, v1, v2] := by cases args; simp_all
  obtain ⟨rfl, rfl⟩ := trodVars_none hV
  obtain ⟨a0, len0, cap0, rfl⟩ := okWide_slice Try.underlying22 (hval 0 22 v0 rfl rfl)
  have k0 := h0
  have lt0 : ∀ x ∈ p0, x.block < W.heap.size := by obtain ⟨m, hm⟩ := k0; exact DataW.trod_lt m _ _ _ hm
  obtain ⟨z0, w0, l0, m0⟩ : ∃ bs, RawsAt W a0 len0 bs ∧ len0 ≤ maxLen ∧ UpTo maxLen bs := by
    obtain ⟨fuel, hf⟩ := h0
    exact open_blobs hf
  obtain ⟨a1, rfl, rfl, rfl, w1⟩ := open_int Try.underlying3 (hval 1 3 v1 rfl rfl) h1
  obtain ⟨a2, len2, cap2, rfl⟩ := okWide_slice Try.underlying29 (hval 2 29 v2 rfl rfl)
  have k2 := h2
  have lt2 : ∀ x ∈ p2, x.block < W.heap.size := by obtain ⟨m, hm⟩ := k2; exact DataW.trod_lt m _ _ _ hm
  obtain ⟨z2, w2, l2, c2, m2⟩ : ∃ zs, IntsAt W a2 len2 zs ∧ len2 ≤ maxLen ∧ len2 ≤ cap2 ∧ cap2 ≤ maxLen := by
    obtain ⟨fuel, hf⟩ := h2
    exact open_ints hf
  clear hA0 hval0
  refine (walk a0 len0 cap0 z0 l0 m0 a1 a2 len2 cap2 z2 l2 c2 m2 W w0 w2).mono fun e W' ⟨he, bel⟩ => ?_
  subst he
  exact ⟨_, rfl, _, _, _, [], _, [], hW', trodAll_mk1 (shut_bool Try.underlying4 _), (trodAll_cons_mk (Below.trod laidOut (by kernel_rfl) (of_decide_eq_true (by kernel_rfl)) k0 bel lt0) (trodAll_cons_mk (shut_int Try.underlying3 w1) (trodAll_cons_mk (Below.trod laidOut (by kernel_rfl) (of_decide_eq_true (by kernel_rfl)) k2 bel lt2) trodAll_mk0))), rfl, bel.frame _, fun h => by cases h⟩

theorem over : Rows.fnExactDiskWriteRow.holds Try.pinned (OpenSpec.ofChange Rows.fnExactDiskWriteSpec) :=
  OpenClaim.holds_of_wide 5 Try.f5 rfl rfl rfl rfl rfl rfl rfl ⟨rfl, rfl, rfl, rfl, rfl⟩ rfl rfl rfl rfl rfl (by kernel_rfl) Try.func5 (by kernel_rfl)
    (of_decide_eq_true (by kernel_rfl)) (by unfold Func.isWrapper; first | (rw [if_pos (by decide +kernel)]; kernel_rfl) | (rw [if_neg (by decide +kernel)]; exact ⟨rfl, rfl⟩))
    (fun os started H enc _ => lifted os started H enc)

theorem proved : Rows.FnExactDiskWriteSaid := over
end Go.Proofs.Ytonbkmmddahlfaa.fnExactDiskWrite
