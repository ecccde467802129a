/-
  laws.FnCrash returns true for every input, and leaves its arguments as they were.
  Conditions: none.
-/
import Derived.Test.YtaehgdglbplomaaRows
import Derived.Test.YtaehgdglbplomaaJy
import Derived.Test.YtaehgdglbplomaaJn
import Derived.Test.YtaehgdglbplomaaJz
import Derived.WalkKit
import Derived.ProofKit
import Derived.OpenShut
import Derived.ShutString
import Derived.ChangeOld
import Derived.Below
namespace Go.Proofs.Ytaehgdglbplomaa.fnCrash
open Go.ChangeShapes Go.WideShapes Go.ChangeAt Go.RowKit
open Go.ChangeMaps (open_string shut_string)
set_option linter.unusedVariables false

theorem own : ownKnob Try.prog.godebug = none := by kernel_rfl
theorem laidOut : laidOutB Try.prog = true := by kernel_rfl

set_option maxHeartbeats 4000000 in
set_option maxRecDepth 100000 in
theorem walk (a0 : Option Addr) (len0 cap0 : Nat) (z0 : List Int) (w : World) (w0 : IsRow .u8 w a0 len0 cap0 z0) :
    Calls Try.prog 7 #[.slice a0 len0 cap0] w fun e w' => e = .returned (.bool true) ∧ Below w.heap.size w w' := by
  by_cases h : len0 ≤ 1048576
  · have hl : (len0 : Int) ≤ 1048576 := by omega
    have HD := Lib.hid (drawDiskCrash_c a0 len0 cap0 z0 w w0)
    clear h w0
    go_enter Try.func7, Try.ntmps7
    go_wp2_with fail
    refine HD.out.mono ?_
    rintro e W1 ⟨sl, bs, ks, keep, rfl, hk, hd⟩
    obtain ⟨a, ln, c, rfl, hN, hc, hb1⟩ := hd.at
    have HCC := Lib.hid hc
    have HN := Lib.hid hN
    have HB1 := Lib.hid hb1
    obtain ⟨ak, lk, ck, rfl, hk, hkl⟩ := hk.ints (by omega)
    have HK := Lib.hid hk
    have HKL := Lib.hid hkl
    clear hk hkl
    clear hd hN hc hb1
    obtain ⟨r, hr⟩ : ∃ r, diskCrash bs keep = r := ⟨_, rfl⟩
    have HR := Lib.hid hr
    have HI := Lib.hid (fun W' (hb : Below W1.heap.size W1 W') => show Calls Try.prog 27 #[.slice a ln c, .slice ak lk ck] W' (DkPost r W') from hr ▸ iCrash c ck HKL.out (HN.out.keep hb) (HK.out.keep hb))
    have HS := Lib.hid (fun W' (hb : Below W1.heap.size W1 W') => show Calls Try.prog 33 #[.slice a ln c, .slice ak lk ck] W' (DkPost r W') from hr ▸ sCrash c ck HKL.out (HN.out.keep hb) (HK.out.keep hb))
    clear hr
    go_wp2_with fail
    refine (HI.out _ (Below.refl _ _)).mono ?_
    rintro e W2 ⟨a2, l2, c2, out, b, rfl, hr2, hN2, hc2, hb2⟩
    have HC2 := Lib.hid hc2
    have HR2 := Lib.hid hr2
    have HN2 := Lib.hid hN2
    have HB2 := Lib.hid hb2
    clear hr2 hN2 hc2 hb2
    go_wp2_with fail
    refine (HS.out _ HB2.out).mono ?_
    rintro e W3 ⟨a3, l3, c3, out', b', rfl, hr3, hN3, -, hb3⟩
    obtain ⟨rfl, rfl⟩ := told_same HR2.out hr3
    have hll : l2 = l3 := by rw [← HN2.out.len, ← hN3.len]
    subst hll
    have HB3 := Lib.hid (below_next HB2.out hb3)
    have HO := Lib.hid (HN2.out.keep hb3)
    have HW := Lib.hid hN3
    have hbb : (b' != b') = false := by simp
    have hbe : (b' == b') = true := by simp
    clear hr3 hN3 hb3 HI HS
    go_wp2_with fail
    refine (dkSame c2 c3 HO.out HW.out).mono ?_
    rintro e W4 ⟨rfl, hb4⟩
    have HB4 := Lib.hid (below_next HB3.out hb4)
    have HO4 := Lib.hid (HO.out.keep hb4)
    have HW4 := Lib.hid (HW.out.keep hb4)
    clear hb4
    cases b' with
    | false =>
      go_wp2_with fail
      refine (dkSame c2 c3 HO4.out HW4.out).mono ?_
      rintro e W5 ⟨rfl, hb5⟩
      have HE := Lib.hid (below_next HB1.out (below_next HB4.out hb5))
      clear hb5
      go_wp2
      go_ret
      exact ⟨rfl, HE.out⟩
    | true =>
      have HT := Lib.hid (HR.out.trans (told_true HR2.out))
      have HBX := Lib.hid (below_next HB1.out HB4.out)
      have HN4 := Lib.hid (HN.out.keep HB4.out)
      obtain ⟨h6, h7, h8⟩ := crash_told HT.out
      have hvb : diskV bs = true := by
        have h9 := HT.out
        unfold diskCrash at h9
        by_cases hc : (diskV bs && keepOk keep) = true
        · simp only [Bool.and_eq_true] at hc; exact hc.1
        · rw [if_neg hc] at h9; cases h9
      have HVB := Lib.hid hvb
      have HKEEP := Lib.hid (show keep.all (fun k => decide (0 ≤ k ∧ k ≤ 400)) = true by unfold keepOk at h8; simp only [Bool.and_eq_true] at h8; exact h8.2)
      have HOUT := Lib.hid h6
      have HV := Lib.hid (fun W' (hb : Below W4.heap.size W4 W') => show Calls Try.prog 28 #[.slice a2 l2 c2] W' (BoolPost true W') from h7 ▸ iValid c2 (HO4.out.keep hb))
      have hll : l2 = ln := by rw [← HO4.out.len, ← HN4.out.len, h6, List.length_map]
      subst hll
      have HK4 := Lib.hid (HK.out.keep HB4.out)
      have HKE := Lib.hid HK.out.1
      have HNA := Lib.hid HN4.out.1
      have HOA := Lib.hid HO4.out.1
      have hk' : (lk : Int) ≤ 2097152 := by have := HKL.out; omega
      have hl5 : (l2 : Int) ≤ 5 := by have := HN4.out.2.1; omega
      clear h6 h7 h8 hvb
      go_wp2
      go_loopw [9, 10] (fun i _ wr => ∃ n : Nat, i = .int .i64 n ∧ n ≤ l2 ∧ Hid (Below W4.heap.size W4 wr)) (fun i _ _ => l2 - (intOf i).toNat)
      case atStart => exact ⟨0, rfl, Nat.zero_le _, Lib.hid (Below.refl _ _)⟩
      case round =>
        obtain ⟨i, rfl, hi, HB⟩ := hrel
        by_cases hlt : i < l2
        · obtain ⟨b, off, x, a5, c5, a6, c6, rfl, hx, e0, e1, e2, l1, l6⟩ := (HNA.out.keep HB.out).at2 hlt
          obtain ⟨b', off', y, a7, c7, a8, c8, rfl, hy, y0, y1, y2, m1, -⟩ := (HOA.out.keep HB.out).at2 hlt
          obtain rfl : y = ⟨x.n, x.s ++ x.f.take (keepK keep x.n), []⟩ := by
            rw [HOUT.out, List.getElem?_map, hx] at hy
            exact (Option.some.inj hy).symm
          simp only [List.length_nil] at y2
          have hok := valid_at HVB.out hx
          have hxn3 := ((blOk_iff _).1 (dvalid_low HVB.out x (List.mem_of_getElem? hx)).2).1
          have hlt' : (i : Int) < l2 := by omega
          have hi0 : (0 : Int) ≤ i := by omega
          have HLT := Lib.hid hlt
          obtain ⟨-, -, hfc, hfm, -⟩ := l6.ints
          have hfm' : c6 ≤ 9223372036854775807 := Nat.le_trans hfm (by unfold maxLen; omega)
          obtain ⟨m, hm⟩ : ∃ m, min (keepK keep x.n) x.f.length = m := ⟨_, rfl⟩
          have hml : m ≤ x.f.length := by omega
          have hlt2 := l6.take hml
          obtain ⟨tk, htk⟩ : ∃ t, x.f.take m = t := ⟨_, rfl⟩
          rw [htk] at hlt2
          have htl : tk.length = m := by rw [← htk, List.length_take]; omega
          obtain ⟨g, hg⟩ : ∃ g, x.s ++ tk = g := ⟨_, rfl⟩
          have HGG := Lib.hid hg
          have hge : x.s ++ x.f.take (keepK keep x.n) = g := by rw [← hg, ← htk, ← hm, take_min]
          rw [hge] at y1 m1
          obtain ⟨gl, hgl⟩ : ∃ n, g.length = n := ⟨_, rfl⟩
          rw [hgl] at y1 m1
          have HGL := Lib.hid hgl
          have HXL := Lib.hid (show x.s.length ≤ 400 ∧ x.s.length + tk.length ≤ 400 by omega)
          have HL1 := Lib.hid (And.intro l1 trivial)
          have HLT2 := Lib.hid hlt2
          have HM1 := Lib.hid m1
          have hmc : (m : Int) ≤ c6 := by omega
          have hm0 : (0 : Int) ≤ m := by omega
          have HKC := Lib.hid (HK4.out.keep HB.out)
          have HMM := Lib.hid hm
          generalize hxn : x.n = xn at e0 y0 hxn3 HMM
          generalize hxs : x.s.length = xs at e1 HL1
          generalize hxf : x.f.length = xf at e2 HMM hfc
          have hfc' : (xf : Int) ≤ c6 := by omega
          clear hx hy hok l1 l6 m1 hm hml htk htl hg hge hgl hxn hxs hxf hfm hfc hlt2 hlt hi
          by_cases hle : xn ≤ lk
          · obtain ⟨j, rfl⟩ : ∃ j : Nat, xn = (j : Int) + 1 := ⟨(xn - 1).toNat, by omega⟩
            have hjl : j < lk := by omega
            obtain ⟨bk, ofk, z, rfl, hz, z0⟩ := HKC.out.at hjl
            obtain ⟨hzk, hz4⟩ := keep_at HKEEP.out (n := (j : Int) + 1) (by omega) (by rw [show ((j : Int) + 1 - 1).toNat = j by omega]; exact hz)
            have hmin : min z (xf : Int) = m := by rw [hzk, ← HMM.out]; omega
            have hw : IntKind.i64.wrap ((j : Int) + 1 - 1) = j := (IntWalk.i64_in _ (by omega)).trans (by omega)
            have hj0 : (0 : Int) ≤ j := by omega
            have hjl' : (j : Int) < lk := by omega
            have hd : decide ((j : Int) + 1 ≤ lk) = true := decide_eq_true hle
            clear hz hzk hz4 hjl hxn3
            go_upto_region 13 with (fail)
            go_quiet (fail)
            have hq := drewN_below wr nq
            have HBQ := Lib.hid (HB.out.trans (hq.mono HB.out.size))
            replace e0 := cell_kept hq e0
            replace e1 := cell_kept hq e1
            replace e2 := cell_kept hq e2
            replace y0 := cell_kept hq y0
            replace y1 := cell_kept hq y1
            replace y2 := cell_kept hq y2
            replace HL1 := Lib.hid (And.intro (HL1.out.1.keep hq) trivial)
            replace HLT2 := Lib.hid (HLT2.out.keep hq)
            replace HM1 := Lib.hid (HM1.out.keep hq)
            clear hq z0
            generalize wr.drewN nq = Y at HBQ e0 e1 e2 y0 y1 y2 HL1 HLT2 HM1 ⊢
            have HSX := Lib.hid (fun W' (hb : Below Y.heap.size Y W') => HL1.out.1.keep hb)
            have HKX := Lib.hid (fun W' (hb : Below Y.heap.size Y W') => HLT2.out.keep hb)
            have HMX := Lib.hid (fun W' (hb : Below Y.heap.size Y W') => HM1.out.keep hb)
            have HS0 := Lib.hid (show Y.cell? ⟨b, off + i * 3, none⟩ = some (.int .i64 ((j : Int) + 1)) ∧ Y.cell? ⟨b, off + i * 3 + 1, none⟩ = some (.slice a5 xs c5) ∧ Y.cell? ⟨b, off + i * 3 + 2, none⟩ = some (.slice a6 xf c6) ∧ Y.cell? ⟨b', off' + i * 3, none⟩ = some (.int .i64 ((j : Int) + 1)) ∧ Y.cell? ⟨b', off' + i * 3 + 1, none⟩ = some (.slice a7 gl c7) ∧ Y.cell? ⟨b', off' + i * 3 + 2, none⟩ = some (.slice a8 0 c8) from ⟨e0, e1, e2, y0, y1, y2⟩)
            have HKP := Lib.hid (fun (u2 : World) (hb : Below Y.heap.size Y u2) => show u2.cell? ⟨b, off + i * 3, none⟩ = some (.int .i64 ((j : Int) + 1)) ∧ u2.cell? ⟨b, off + i * 3 + 1, none⟩ = some (.slice a5 xs c5) ∧ u2.cell? ⟨b, off + i * 3 + 2, none⟩ = some (.slice a6 xf c6) ∧ u2.cell? ⟨b', off' + i * 3, none⟩ = some (.int .i64 ((j : Int) + 1)) ∧ u2.cell? ⟨b', off' + i * 3 + 1, none⟩ = some (.slice a7 gl c7) ∧ u2.cell? ⟨b', off' + i * 3 + 2, none⟩ = some (.slice a8 0 c8) from ⟨cell_kept hb HS0.out.1, cell_kept hb HS0.out.2.1, cell_kept hb HS0.out.2.2.1, cell_kept hb HS0.out.2.2.2.1, cell_kept hb HS0.out.2.2.2.2.1, cell_kept hb HS0.out.2.2.2.2.2⟩)
            go_upto_region 14 with (fail)
            clear e0 e1 e2 y0 y1 y2
            go_region_held3 (fun w' => w'.cell? ⟨b, off + i * 3, none⟩ = some (.int .i64 ((j : Int) + 1)) ∧ w'.cell? ⟨b, off + i * 3 + 1, none⟩ = some (.slice a5 xs c5) ∧ w'.cell? ⟨b, off + i * 3 + 2, none⟩ = some (.slice a6 xf c6) ∧ w'.cell? ⟨b', off' + i * 3, none⟩ = some (.int .i64 ((j : Int) + 1)) ∧ w'.cell? ⟨b', off' + i * 3 + 1, none⟩ = some (.slice a7 gl c7) ∧ w'.cell? ⟨b', off' + i * 3 + 2, none⟩ = some (.slice a8 0 c8))
              (first | exact HKP.out _ (by (repeat (first | exact Below.refl _ _ | exact HB9.out | exact HB4z.out | exact HB3.out | apply Below.drew | refine below_al ?_ (Nat.le_refl _) _))))
              (first
                | (rw [if_pos (by rfl)]; refine wp_append_lit _ _ rfl Y.heap.size _ rfl a5 xs c5 x.s rfl (HSX.out _ (by (repeat (first | exact Below.refl _ _ | exact HB9.out | exact HB4z.out | exact HB3.out | apply Below.drew | refine below_al ?_ (Nat.le_refl _) _)))) (by have := HXL.out.1; omega) (Below.size (w := Y) (by (repeat (first | exact Below.refl Y.heap.size _ | apply Below.drew | refine below_al ?_ (Nat.le_refl _) _)))) ?_; intro v3 w3 hF3 hb3; have HB3 := Lib.hid (below_next (show Below Y.heap.size Y _ by (repeat (first | exact Below.refl _ _ | apply Below.drew | refine below_al ?_ (Nat.le_refl _) _))) hb3); have HF3 := Lib.hid hF3; obtain ⟨a3', c3', rfl⟩ := hF3.out; clear hF3 hb3)
                | (rw [if_pos (by rfl)]; refine wp_append_onto _ _ rfl Y.heap.size (.slice a3' x.s.length c3') x.s rfl (HF3.out.below (show Below w3.heap.size w3 _ by (repeat (first | exact Below.refl _ _ | apply Below.drew | refine below_al ?_ (Nat.le_refl _) _)))) a6 m c6 tk rfl (HKX.out _ (by (repeat (first | exact Below.refl _ _ | exact HB3.out | apply Below.drew | refine below_al ?_ (Nat.le_refl _) _)))) (by have := HXL.out.2; omega) (Below.size (w := Y) (by (repeat (first | exact Below.refl Y.heap.size _ | exact HB3.out | apply Below.drew | refine below_al ?_ (Nat.le_refl _) _)))) ?_; intro v4 w4 hF4 hb4; rw [HGG.out] at hF4; have HB4z := Lib.hid ((show Below Y.heap.size Y _ by (repeat (first | exact Below.refl _ _ | exact HB3.out | apply Below.drew | refine below_al ?_ (Nat.le_refl _) _))).trans hb4); have HF4 := Lib.hid hF4; obtain ⟨a4', c4', rfl⟩ := hF4.out; have HL4 := Lib.hid (show LsAt w4 (.slice a4' gl c4') g by have h := HF4.out.ls; rw [HGL.out] at h; exact h); clear hF4 hb4)
                | ((try rw [if_pos (by rfl)]); (try rw [HGL.out]); go_at_call 23; (with_reducible refine (lsSame c7 c4' (by have := HXL.out.2; have h1 := HGG.out; rw [← h1, List.length_append]; omega) (HMX.out _ (by (repeat (first | exact HB4z.out | apply Below.drew | refine below_al ?_ (Nat.le_refl _) _)))) (HL4.out.keep (show Below w4.heap.size w4 _ by (repeat (first | exact Below.refl _ _ | apply Below.drew | refine below_al ?_ (Nat.le_refl _) _))))).mono ?_); rintro e W9 ⟨rfl, hb9⟩; have HB9 := Lib.hid (below_next (show Below Y.heap.size Y _ by (repeat (first | exact HB4z.out | apply Below.drew | refine below_al ?_ (Nat.le_refl _) _))) hb9); clear hb9))
            all_goals
              have HBZ := Lib.hid (below_next HBQ.out HB9.out)
              go_wp2
              go_roundw
              case rel => exact ⟨i + 1, by go_num, HLT.out, HBZ⟩
              case measure => have := HLT.out; simp [intOf]; omega
          · have hd : decide (xn ≤ lk) = false := decide_eq_false hle
            have hle' : (lk : Int) < xn := by omega
            obtain rfl : m = 0 := by rw [← HMM.out, keep_none (by rw [HKE.out]; omega)]; exact Nat.zero_min _
            have HBQ := HB
            clear hle hxn3
            have HSX := Lib.hid (fun W' (hb : Below wr.heap.size wr W') => HL1.out.1.keep hb)
            have HKX := Lib.hid (fun W' (hb : Below wr.heap.size wr W') => HLT2.out.keep hb)
            have HMX := Lib.hid (fun W' (hb : Below wr.heap.size wr W') => HM1.out.keep hb)
            have HS0 := Lib.hid (show wr.cell? ⟨b, off + i * 3, none⟩ = some (.int .i64 xn) ∧ wr.cell? ⟨b, off + i * 3 + 1, none⟩ = some (.slice a5 xs c5) ∧ wr.cell? ⟨b, off + i * 3 + 2, none⟩ = some (.slice a6 xf c6) ∧ wr.cell? ⟨b', off' + i * 3, none⟩ = some (.int .i64 xn) ∧ wr.cell? ⟨b', off' + i * 3 + 1, none⟩ = some (.slice a7 gl c7) ∧ wr.cell? ⟨b', off' + i * 3 + 2, none⟩ = some (.slice a8 0 c8) from ⟨e0, e1, e2, y0, y1, y2⟩)
            have HKP := Lib.hid (fun (u2 : World) (hb : Below wr.heap.size wr u2) => show u2.cell? ⟨b, off + i * 3, none⟩ = some (.int .i64 xn) ∧ u2.cell? ⟨b, off + i * 3 + 1, none⟩ = some (.slice a5 xs c5) ∧ u2.cell? ⟨b, off + i * 3 + 2, none⟩ = some (.slice a6 xf c6) ∧ u2.cell? ⟨b', off' + i * 3, none⟩ = some (.int .i64 xn) ∧ u2.cell? ⟨b', off' + i * 3 + 1, none⟩ = some (.slice a7 gl c7) ∧ u2.cell? ⟨b', off' + i * 3 + 2, none⟩ = some (.slice a8 0 c8) from ⟨cell_kept hb HS0.out.1, cell_kept hb HS0.out.2.1, cell_kept hb HS0.out.2.2.1, cell_kept hb HS0.out.2.2.2.1, cell_kept hb HS0.out.2.2.2.2.1, cell_kept hb HS0.out.2.2.2.2.2⟩)
            go_upto_region 14 with (fail)
            clear e0 e1 e2 y0 y1 y2
            go_region_held3 (fun w' => w'.cell? ⟨b, off + i * 3, none⟩ = some (.int .i64 xn) ∧ w'.cell? ⟨b, off + i * 3 + 1, none⟩ = some (.slice a5 xs c5) ∧ w'.cell? ⟨b, off + i * 3 + 2, none⟩ = some (.slice a6 xf c6) ∧ w'.cell? ⟨b', off' + i * 3, none⟩ = some (.int .i64 xn) ∧ w'.cell? ⟨b', off' + i * 3 + 1, none⟩ = some (.slice a7 gl c7) ∧ w'.cell? ⟨b', off' + i * 3 + 2, none⟩ = some (.slice a8 0 c8))
              (first | exact HKP.out _ (by (repeat (first | exact Below.refl _ _ | exact HB9.out | exact HB4z.out | exact HB3.out | apply Below.drew | refine below_al ?_ (Nat.le_refl _) _))))
              (first
                | (rw [if_pos (by rfl)]; refine wp_append_lit _ _ rfl wr.heap.size _ rfl a5 xs c5 x.s rfl (HSX.out _ (by (repeat (first | exact Below.refl _ _ | exact HB9.out | exact HB4z.out | exact HB3.out | apply Below.drew | refine below_al ?_ (Nat.le_refl _) _)))) (by have := HXL.out.1; omega) (Below.size (w := wr) (by (repeat (first | exact Below.refl wr.heap.size _ | apply Below.drew | refine below_al ?_ (Nat.le_refl _) _)))) ?_; intro v3 w3 hF3 hb3; have HB3 := Lib.hid (below_next (show Below wr.heap.size wr _ by (repeat (first | exact Below.refl _ _ | apply Below.drew | refine below_al ?_ (Nat.le_refl _) _))) hb3); have HF3 := Lib.hid hF3; obtain ⟨a3', c3', rfl⟩ := hF3.out; clear hF3 hb3)
                | (rw [if_pos (by rfl)]; refine wp_append_onto _ _ rfl wr.heap.size (.slice a3' x.s.length c3') x.s rfl (HF3.out.below (show Below w3.heap.size w3 _ by (repeat (first | exact Below.refl _ _ | apply Below.drew | refine below_al ?_ (Nat.le_refl _) _)))) a6 0 c6 tk rfl (HKX.out _ (by (repeat (first | exact Below.refl _ _ | exact HB3.out | apply Below.drew | refine below_al ?_ (Nat.le_refl _) _)))) (by have := HXL.out.2; omega) (Below.size (w := wr) (by (repeat (first | exact Below.refl wr.heap.size _ | exact HB3.out | apply Below.drew | refine below_al ?_ (Nat.le_refl _) _)))) ?_; intro v4 w4 hF4 hb4; rw [HGG.out] at hF4; have HB4z := Lib.hid ((show Below wr.heap.size wr _ by (repeat (first | exact Below.refl _ _ | exact HB3.out | apply Below.drew | refine below_al ?_ (Nat.le_refl _) _))).trans hb4); have HF4 := Lib.hid hF4; obtain ⟨a4', c4', rfl⟩ := hF4.out; have HL4 := Lib.hid (show LsAt w4 (.slice a4' gl c4') g by have h := HF4.out.ls; rw [HGL.out] at h; exact h); clear hF4 hb4)
                | ((try rw [if_pos (by rfl)]); (try rw [HGL.out]); go_at_call 23; (with_reducible refine (lsSame c7 c4' (by have := HXL.out.2; have h1 := HGG.out; rw [← h1, List.length_append]; omega) (HMX.out _ (by (repeat (first | exact HB4z.out | apply Below.drew | refine below_al ?_ (Nat.le_refl _) _)))) (HL4.out.keep (show Below w4.heap.size w4 _ by (repeat (first | exact Below.refl _ _ | apply Below.drew | refine below_al ?_ (Nat.le_refl _) _))))).mono ?_); rintro e W9 ⟨rfl, hb9⟩; have HB9 := Lib.hid (below_next (show Below wr.heap.size wr _ by (repeat (first | exact HB4z.out | apply Below.drew | refine below_al ?_ (Nat.le_refl _) _))) hb9); clear hb9))
            all_goals
              have HBZ := Lib.hid (below_next HBQ.out HB9.out)
              go_wp2
              go_roundw
              case rel => exact ⟨i + 1, by go_num, HLT.out, HBZ⟩
              case measure => have := HLT.out; simp [intOf]; omega
        · have hge : (l2 : Int) ≤ i := by omega
          clear hlt hi
          go_wp2_with fail
          refine (HV.out _ HB.out).mono ?_
          rintro e Wb ⟨rfl, hbb⟩
          have HE := Lib.hid (below_next HBX.out (below_next HB.out hbb))
          clear hbb
          go_wp2
          go_ret
          exact ⟨rfl, HE.out⟩
  · have hl : (1048576 : Int) < len0 := by omega
    clear h w0
    go_enter Try.func7, Try.ntmps7
    go_wp2
    go_ret
    exact ⟨rfl, Below.refl _ _⟩


set_option maxRecDepth 100000 in
theorem lifted (os : Os) (started : os.Started) (H : Type) (enc : TypeId × Value → H) :
    ReturnsInHanded {} Try.checked os 7 .any (Rows.fnCrashSpec.pre6 enc Try.prog Try.f7 Rows.fnCrashRow.domain false) (Rows.fnCrashSpec.post enc Try.prog Try.f7 false true false false) := by
  refine returnsInHanded_of_change (C := Try.checked) own started (by kernel_rfl) Try.func7
    (ChangeSpec.witness6 (enc := enc) (C := Try.checked) false ⟨#[], #[.slice none 0 0], []⟩ 8 (by kernel_rfl) (by kernel_rfl) (by kernel_rfl) (by kernel_rfl)) ?_
  intro W base args ds gs before hval0 hW hcnd _
  have hval : ∀ (j : Nat) t v, Try.f7.params[j]? = some t → args[j]? = some v → Value.okWide Try.prog W .any base t v := hval0
  have hW' := hW
  obtain ⟨p, q, hA0, hV, rfl, hfz, hnd⟩ := hW
  have hA : DataW.TrodAll enc Try.prog W 0 (fun _ => true) true Try.f7.params.toList args.toList ds p := hA0
  rw [Try.params7] at hA hval
  obtain ⟨v0, vs0, d0, ds0, p0, q0, hargs, rfl, rfl, h0, r0⟩ := trodAll_cons hA
  obtain ⟨rfl, rfl, rfl⟩ := trodAll_nil r0
  obtain rfl : args = #[v0] := by cases args; simp_all
  obtain ⟨rfl, rfl⟩ := trodVars_none hV
  obtain ⟨a0, len0, cap0, rfl⟩ := okWide_slice Try.underlying22 (hval 0 22 v0 rfl rfl)
  have k0 := h0
  have lt0 : ∀ x ∈ p0, x.block < W.heap.size := by obtain ⟨m, hm⟩ := k0; exact DataW.trod_lt m _ _ _ hm
  obtain ⟨z0, w0⟩ : ∃ zs, IsRow .u8 W a0 len0 cap0 zs := by
    obtain ⟨fuel, hf⟩ := h0
    rcases open_ints Try.underlying22 Try.underlying5 (by kernel_rfl) hf with ⟨hcs, _⟩ | ⟨x, l, c, zs, hcs, _, hl, hm, hz, _, hcell, hwz⟩
    · simp [Value.cells] at hcs
      obtain ⟨rfl, rfl, rfl⟩ := hcs
      exact ⟨[], .inl ⟨rfl, rfl, rfl, rfl⟩⟩
    · simp [Value.cells] at hcs
      obtain ⟨rfl, rfl, rfl⟩ := hcs
      exact ⟨zs, .inr ⟨_, rfl, hl, hm, by simpa using hz, hcell, hwz⟩⟩
  clear hA0 hval0
  refine (walk a0 len0 cap0 z0 W w0).mono fun e W' ⟨he, bel⟩ => ?_
  subst he
  exact ⟨_, rfl, _, _, _, [], _, [], hW', trodAll_mk1 (shut_bool Try.underlying4 _), (trodAll_cons_mk (Below.trod laidOut (by kernel_rfl) (of_decide_eq_true (by kernel_rfl)) k0 bel lt0) trodAll_mk0), rfl, bel.frame _, fun h => by cases h⟩

theorem over : Rows.fnCrashRow.holds Try.pinned (OpenSpec.ofChange Rows.fnCrashSpec) :=
  OpenClaim.holds_of_wide 7 Try.f7 rfl rfl rfl rfl rfl rfl rfl ⟨rfl, rfl, rfl, rfl, rfl⟩ rfl rfl rfl rfl rfl (by kernel_rfl) Try.func7 (by unfold joinedFacts; rw [show Try.pinned.checked.prog = Try.prog from rfl, enter_ok, final_ok, make_ok]; kernel_rfl)
    (of_decide_eq_true (by kernel_rfl)) (by unfold Func.isWrapper; first | (rw [if_pos (by decide +kernel)]; kernel_rfl) | (rw [if_neg (by decide +kernel)]; exact ⟨rfl, rfl⟩))
    (fun os started H enc _ => lifted os started H enc)

theorem proved : Rows.FnCrashSaid := over
end Go.Proofs.Ytaehgdglbplomaa.fnCrash
