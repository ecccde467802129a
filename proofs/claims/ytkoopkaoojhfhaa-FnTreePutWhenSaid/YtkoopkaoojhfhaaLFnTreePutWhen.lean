/-
  laws.FnTreePutWhen returns true for every input, and leaves its arguments as they were.
  Conditions: none.
-/
import Derived.Test.YtkoopkaoojhfhaaRows
import Derived.Test.YtkoopkaoojhfhaaIu
import Derived.Test.YtkoopkaoojhfhaaLd
import Derived.Test.YtkoopkaoojhfhaaTt
import Derived.Test.YtkoopkaoojhfhaaSm
import Derived.WalkKit
import Derived.ProofKit
import Derived.OpenShut
import Derived.ShutString
import Derived.ChangeOld
import Derived.Below
namespace Go.Proofs.Ytkoopkaoojhfhaa.fnTreePutWhen
open Go.ChangeShapes Go.WideShapes Go.ChangeAt Go.RowKit
open Go.ChangeMaps (open_string shut_string)
set_option linter.unusedVariables false

theorem own : ownKnob Try.prog.godebug = none := by kernel_rfl
theorem laidOut : laidOutB Try.prog = true := by kernel_rfl

theorem cell_lt {W : World} {a : Addr} {v : Value} (h : W.cell? a = some v) : a.block < W.heap.size := World.block_lt_of_cell? W _ h

set_option maxHeartbeats 20000000 in
set_option maxRecDepth 100000 in
theorem walk (a0 : Option Addr) (len0 cap0 : Nat) (z0 : List Int) (w : World) (w0 : IsRow .u8 w a0 len0 cap0 z0) :
    Calls Try.prog 7 #[.slice a0 len0 cap0] w fun e w' => e = .returned (.bool true) ∧ Below w.heap.size w w' := by
  by_cases h : len0 ≤ 1048576
  · have hl : (len0 : Int) ≤ 1048576 := by omega
    have HD := Lib.hid (drawTreePut_c a0 len0 cap0 z0 w w0)
    clear h w0
    go_enter Try.func7, Try.ntmps7
    go_wp2_with fail
    refine HD.out.mono ?_
    rintro e W1 ⟨sl, ns, s, k, v, rfl, hs, hd⟩
    unfold con
    obtain ⟨a, cap, rfl, hn⟩ := nodes_of_own hd.1
    have HN := Lib.hid hn
    have hlen := hd.2.1
    have HL := Lib.hid hlen
    have hsh := hd.2.2.1.mono (show 64 ≤ 66 by omega)
    have HSH := Lib.hid hsh
    have HS := Lib.hid hs
    have HBL := Lib.hid hd.2.2.2
    obtain ⟨r, hr⟩ : ∃ r, treePut ns s k v = r := ⟨_, rfl⟩
    have HT := Lib.hid (fun W' (hb : Below W1.heap.size W1 W') => show Calls Try.prog 23 #[.slice a ns.length cap, .string s, .agg #[.int .i64 k, .int .i64 v]] W' (TPost r W'.heap.size W') by
      rw [← hr]; exact implTreePut_c a ns.length cap ns s k v (by omega) (hsh.mono (by omega)) (by omega) W' (hn.keep hb))
    have HT2 := Lib.hid (fun W' (hb : Below W1.heap.size W1 W') => show Calls Try.prog 24 #[.slice a ns.length cap, .string s, .agg #[.int .i64 k, .int .i64 v]] W' (TPost r W'.heap.size W') by
      rw [← hr]; exact specTreePut_c a ns.length cap ns s k v (by omega) (hsh.mono (by omega)) (by omega) W' (hn.keep hb))
    have HR := Lib.hid hr
    have HWH := Lib.hid (fun h1 h2 h3 => put_when (ns := ns) (p := s) (k := k) (v := v) h1 h2 h3)
    rw [hr] at HWH
    clear hn hd hr hsh
    go_wp2_with fail
    refine (HT.out _ (below_box _ _)).mono ?_
    rintro e W2 ⟨o1, out1, b1, rfl, hc1, ho1, hb2⟩
    have q0 := box_cell hb2 0
    have q1 := box_cell hb2 1
    simp at q0 q1
    have HB2 := Lib.hid (below_next (below_box _ _) hb2)
    have HBX := Lib.hid hb2
    go_wp2_with fail
    refine (HT2.out _ HB2.out).mono ?_
    rintro e W3 ⟨o2, out2, b2, rfl, hc2, ho2, hb3⟩
    have r0 := cell_kept hb3 q0
    have r1 := cell_kept hb3 q1
    have HB3 := Lib.hid (below_next HB2.out hb3)
    have hw1 : W1.heap.size < W3.heap.size := by have := cell_lt r0; simpa using this
    have ho1' := own_below ho1 hb3
    obtain ⟨x1, p1, rfl, hn1⟩ := nodes_of_own ho1'
    obtain ⟨x2, p2, rfl, hn2⟩ := nodes_of_own ho2
    have HO1 := Lib.hid ho1'
    clear q0 q1 ho1 ho2 hb2 hb3 ho1'
    obtain ⟨ok, hok⟩ : ∃ ok, ok = r.isSome := ⟨_, rfl⟩
    obtain ⟨rfl, rfl, rfl⟩ : b1 = ok ∧ b2 = b1 ∧ out2 = out1 := by
      rcases hc1 with ⟨h1, h⟩ | ⟨h1, h, h2⟩ <;> rcases hc2 with ⟨g1, g⟩ | ⟨g1, g, g2⟩
      · rw [h] at g; rw [h] at hok; exact ⟨by rw [h1, hok]; rfl, by rw [h1, g1], (Option.some.inj g).symm⟩
      · rw [h] at g; cases g
      · rw [h] at g; cases g
      · rw [h] at hok; exact ⟨by rw [h1, hok]; rfl, by rw [h1, g1], by rw [h2, g2]⟩
    have hol : out2.length ≤ 10 := by
      rcases hc1 with ⟨_, h⟩ | ⟨_, _, h2⟩
      · rw [h] at HR
        exact ((validT_iff _).1 (treePut_some HR.out).2.2.2.2).2.2
      · rw [h2]; simp
    have HSM := Lib.hid (fun W' (hb : Below W3.heap.size W3 W') => sameNodes_c x1 x2 out2.length p1 p2 out2 (by omega) W' (hn1.keep hb) (hn2.keep hb))
    have HOK := Lib.hid hok
    obtain ⟨vt, hvt⟩ : ∃ vt, validT ns = vt := ⟨_, rfl⟩
    have HV := Lib.hid (fun W' (hb : Below W1.heap.size W1 W') => show Calls Try.prog 19 #[.slice a ns.length cap] W' (BoolPost vt W') by
      rw [← hvt]; exact specTreeValid_c a ns.length cap ns (by omega) (HSH.out.mono (by omega)) W' (HN.out.keep hb))
    have HVT := Lib.hid hvt
    obtain ⟨d, hd⟩ : ∃ d, depB s = d := ⟨_, rfl⟩
    have HDD := Lib.hid (fun W' => show Calls Try.prog 27 #[.string s] W' (fun e w' => e = .returned (.int .i64 d) ∧ Below W'.heap.size W' w') by
      rw [← hd]; exact specDepth_c s (by omega) W')
    have HDE := Lib.hid hd
    obtain ⟨vb, hvb⟩ : ∃ vb, validB k v = vb := ⟨_, rfl⟩
    have HC := Lib.hid (fun W' => show Calls Try.prog 28 #[.agg #[.int .i64 k, .int .i64 v]] W' (BoolPost vb W') by
      rw [← hvb]; exact specConValid_c k v W')
    have HVB := Lib.hid hvb
    obtain ⟨ke, ve, hge⟩ : ∃ k v, treeGet ns s = (k, v) := ⟨_, _, rfl⟩
    have HG := Lib.hid (fun W' (hb : Below W1.heap.size W1 W') => show Calls Try.prog 17 #[.slice a ns.length cap, .string s] W' (ConRet ke ve W') by
      have := implTreeGet_c a ns.length cap ns s (by omega) (HSH.out.mono (by omega)) (by omega) W' (HN.out.keep hb)
      rwa [hge] at this)
    have HGE := Lib.hid hge
    have HPP := Lib.hid (fun W' => show Calls Try.prog 21 #[.string s] W' (fun e w' => e = .returned (.string (parB s)) ∧ Below W'.heap.size W' w') from pathParent_c s (by omega) W')
    obtain ⟨kp, vp, hgp⟩ : ∃ k v, treeGet ns (parB s) = (k, v) := ⟨_, _, rfl⟩
    have HG3 := Lib.hid (fun W' (hb : Below W1.heap.size W1 W') => show Calls Try.prog 17 #[.slice a ns.length cap, .string (parB s)] W' (ConRet kp vp W') by
      have := implTreeGet_c a ns.length cap ns (parB s) (by omega) (HSH.out.mono (by omega)) (by have := parentB_size s 66 hs (by omega); show (parentB s).size ≤ _; omega) W' (HN.out.keep hb)
      rwa [hgp] at this)
    have HGP := Lib.hid hgp
    obtain ⟨xs, hxs⟩ : ∃ xs, treeUnder ns s = xs := ⟨_, rfl⟩
    have HU := Lib.hid (fun W' (hb : Below W1.heap.size W1 W') => show Calls Try.prog 29 #[.slice a ns.length cap, .string s] W' (TextsPost xs W') by
      rw [← hxs]; exact implTreeUnder_c a ns.length cap ns s (by omega) (HSH.out.mono (by omega)) (by omega) W' (HN.out.keep hb))
    have HXS := Lib.hid hxs
    have hfk := fun k v W => field_kind k v W
    generalize parB s = ps at HPP HG3
    clear hc1 hc2 hn1 hn2 hok hvt hd hvb hge hgp hxs
    go_wp2_with fail
    refine (HSM.out _ (Below.refl _ _)).mono ?_
    rintro e W4 ⟨rfl, hb4⟩
    have H4 := Lib.hid hb4
    have t0 := cell_kept hb4 r0
    have t1 := cell_kept hb4 r1
    clear hb4 r0 r1
    go_wp2_with fail
    refine (HV.out _ (below_next HB3.out H4.out)).mono ?_
    rintro e W5 ⟨rfl, hb5⟩
    have H5 := Lib.hid (below_next H4.out hb5)
    have u0 := cell_kept hb5 t0
    have u1 := cell_kept hb5 t1
    clear hb5 t0 t1
    cases vt with
    | false =>
      clear u0 u1
      go_wp2_with fail
      refine (HSM.out _ H5.out).mono ?_
      rintro e W9 ⟨rfl, hb9⟩
      go_wp2
      go_ret
      exact ⟨rfl, below_next HBL.out (below_next HB3.out (below_next H5.out hb9))⟩
    | true =>
      go_wp2_with fail
      refine (HDD.out _).mono ?_
      rintro e W6 ⟨rfl, hb6⟩
      have H6 := Lib.hid (below_next H5.out hb6)
      have y0 := cell_kept hb6 u0
      have y1 := cell_kept hb6 u1
      clear hb6 u0 u1
      by_cases hd1 : d < 1
      · have hdd : decide (d < 1) = true := decide_eq_true hd1
        clear y0 y1
        go_wp2_with fail
        refine (HSM.out _ H6.out).mono ?_
        rintro e W9 ⟨rfl, hb9⟩
        go_wp2
        go_ret
        exact ⟨rfl, below_next HBL.out (below_next HB3.out (below_next H6.out hb9))⟩
      · have hdd : decide (d < 1) = false := decide_eq_false hd1
        have HD1 := Lib.hid (show 1 ≤ d by omega)
        clear hd1
        go_wp2_with fail
        refine (HC.out _).mono ?_
        rintro e W7 ⟨rfl, hb7⟩
        have H7 := Lib.hid (below_next H6.out hb7)
        have z0 := cell_kept hb7 y0
        have z1 := cell_kept hb7 y1
        clear hb7 y0 y1
        cases vb with
        | false =>
          clear z0 z1
          go_wp2_with fail
          refine (HSM.out _ H7.out).mono ?_
          rintro e W9 ⟨rfl, hb9⟩
          go_wp2
          go_ret
          exact ⟨rfl, below_next HBL.out (below_next HB3.out (below_next H7.out hb9))⟩
        | true =>
          have HWH2 := Lib.hid (HWH.out HVT.out (by rw [HDE.out]; exact HD1.out) HVB.out)
          rw [HGE.out, HGP.out, HXS.out, ← HOK.out] at HWH2
          clear HWH
          go_wp2_with fail
          refine (HG.out _ (below_next HB3.out H7.out)).mono ?_
          rintro e W8 ⟨rfl, hb8⟩
          have H8 := Lib.hid (below_next H7.out hb8)
          have g0 := cell_kept hb8 z0
          have g1 := cell_kept hb8 z1
          clear hb8 z0 z1
          unfold con
          by_cases hke : ke = 0
          · have hkeb : (ke == 0) = true := by rw [hke]; rfl
            by_cases hk0 : k = 0
            · have hkb : (k == 0) = true := by rw [hk0]; rfl
              have hkn : (k != 0) = false := by rw [hk0]; rfl
              have hk1b : (k == 1) = false := by rw [hk0]; rfl
              have hk1 : k ≠ 1 := by omega
              go_wp2_with fail
              refine (HPP.out _).mono ?_
              rintro e W9 ⟨rfl, hb9⟩
              have H9 := Lib.hid (below_next H8.out hb9)
              have i0 := cell_kept hb9 g0
              have i1 := cell_kept hb9 g1
              clear hb9 g0 g1
              go_wp2_with fail
              refine (HG3.out _ (below_next HB3.out H9.out)).mono ?_
              rintro e W10 ⟨rfl, hb10⟩
              have H10 := Lib.hid (below_next H9.out hb10)
              have j0 := cell_kept hb10 i0
              have j1 := cell_kept hb10 i1
              clear hb10 i0 i1
              unfold con
              by_cases hkp : kp = 1
              · have hkpb : (kp == 1) = true := by rw [hkp]; rfl
                go_wp2_with fail
                refine (HU.out _ (below_next HB3.out H10.out)).mono ?_
                rintro e W11 ⟨⟨sl, rfl, ho⟩, hb11⟩
                obtain ⟨a11, c11, rfl, -⟩ := texts_of_own ho
                have l0 := cell_kept hb11 j0
                have l1 := cell_kept hb11 j1
                have HE := Lib.hid (below_next HBL.out (below_next HB3.out (below_next H10.out hb11)))
                clear hb11 ho j0 j1
                by_cases hun : xs = []
                · have hz : ((xs.length : Int) == 0) = true := by rw [hun]; rfl
                  have hb : b2 = decide ((ns.length : Int) ≤ 10) := by
                    rw [Bool.eq_iff_iff, decide_eq_true_eq]
                    refine HWH2.out.trans ⟨fun h => ?_, fun h => ⟨.inl hkp, .inl hun, ?_⟩⟩
                    · have h3 := h.2.2; rw [if_neg (show ¬ ((ke, ve).1 = 0 ∧ k ≠ 0) from fun h => h.2 hk0)] at h3; omega
                    · rw [if_neg (show ¬ ((ke, ve).1 = 0 ∧ k ≠ 0) from fun h => h.2 hk0)]; omega
                  subst hb
                  clear hke hk0 hk1 hkp hun
                  go_wp2
                  go_ret
                  exact ⟨rfl, HE.out⟩
                · have hz : ((xs.length : Int) == 0) = false := by have : xs.length ≠ 0 := fun e => hun (List.length_eq_zero_iff.1 e); exact beq_eq_false_iff_ne.2 (by omega)
                  have hb : b2 = false := by
                    rw [Bool.eq_false_iff]; intro h
                    rcases (HWH2.out.1 h).2.1 with h | h
                    · exact hun h
                    · exact hk1 h
                  subst hb
                  clear hke hk0 hk1 hkp hun
                  go_wp2
                  go_ret
                  exact ⟨rfl, HE.out⟩

              · have hkpb : (kp == 1) = false := by simpa using hkp
                go_wp2_with fail
                refine (HU.out _ (below_next HB3.out H10.out)).mono ?_
                rintro e W11 ⟨⟨sl, rfl, ho⟩, hb11⟩
                obtain ⟨a11, c11, rfl, -⟩ := texts_of_own ho
                have l0 := cell_kept hb11 j0
                have l1 := cell_kept hb11 j1
                have HE := Lib.hid (below_next HBL.out (below_next HB3.out (below_next H10.out hb11)))
                clear hb11 ho j0 j1
                by_cases hun : xs = []
                · have hz : ((xs.length : Int) == 0) = true := by rw [hun]; rfl
                  have hb : b2 = decide ((ns.length : Int) ≤ 10) := by
                    rw [Bool.eq_iff_iff, decide_eq_true_eq]
                    refine HWH2.out.trans ⟨fun h => ?_, fun h => ⟨.inr hk0, .inl hun, ?_⟩⟩
                    · have h3 := h.2.2; rw [if_neg (show ¬ ((ke, ve).1 = 0 ∧ k ≠ 0) from fun h => h.2 hk0)] at h3; omega
                    · rw [if_neg (show ¬ ((ke, ve).1 = 0 ∧ k ≠ 0) from fun h => h.2 hk0)]; omega
                  subst hb
                  clear hke hk0 hk1 hkp hun
                  go_wp2
                  go_ret
                  exact ⟨rfl, HE.out⟩
                · have hz : ((xs.length : Int) == 0) = false := by have : xs.length ≠ 0 := fun e => hun (List.length_eq_zero_iff.1 e); exact beq_eq_false_iff_ne.2 (by omega)
                  have hb : b2 = false := by
                    rw [Bool.eq_false_iff]; intro h
                    rcases (HWH2.out.1 h).2.1 with h | h
                    · exact hun h
                    · exact hk1 h
                  subst hb
                  clear hke hk0 hk1 hkp hun
                  go_wp2
                  go_ret
                  exact ⟨rfl, HE.out⟩


            · have hkb : (k == 0) = false := by simpa using hk0
              have hkn : (k != 0) = true := by simpa using hk0
              by_cases hk1 : k = 1
              · have hk1b : (k == 1) = true := by rw [hk1]; rfl
                go_wp2_with fail
                refine (HPP.out _).mono ?_
                rintro e W9 ⟨rfl, hb9⟩
                have H9 := Lib.hid (below_next H8.out hb9)
                have i0 := cell_kept hb9 g0
                have i1 := cell_kept hb9 g1
                clear hb9 g0 g1
                go_wp2_with fail
                refine (HG3.out _ (below_next HB3.out H9.out)).mono ?_
                rintro e W10 ⟨rfl, hb10⟩
                have H10 := Lib.hid (below_next H9.out hb10)
                have j0 := cell_kept hb10 i0
                have j1 := cell_kept hb10 i1
                clear hb10 i0 i1
                unfold con
                by_cases hkp : kp = 1
                · have hkpb : (kp == 1) = true := by rw [hkp]; rfl
                  go_wp2_with fail
                  refine (HU.out _ (below_next HB3.out H10.out)).mono ?_
                  rintro e W11 ⟨⟨sl, rfl, ho⟩, hb11⟩
                  obtain ⟨a11, c11, rfl, -⟩ := texts_of_own ho
                  have l0 := cell_kept hb11 j0
                  have l1 := cell_kept hb11 j1
                  have HE := Lib.hid (below_next HBL.out (below_next HB3.out (below_next H10.out hb11)))
                  clear hb11 ho j0 j1
                  by_cases hun : xs = []
                  · have hz : ((xs.length : Int) == 0) = true := by rw [hun]; rfl
                    have hb : b2 = decide ((ns.length : Int) + 1 ≤ 10) := by
                      rw [Bool.eq_iff_iff, decide_eq_true_eq]
                      refine HWH2.out.trans ⟨fun h => ?_, fun h => ⟨.inl hkp, .inl hun, ?_⟩⟩
                      · have h3 := h.2.2; rw [if_pos (show (ke, ve).1 = 0 ∧ k ≠ 0 from ⟨hke, hk0⟩)] at h3; omega
                      · rw [if_pos (show (ke, ve).1 = 0 ∧ k ≠ 0 from ⟨hke, hk0⟩)]; omega
                    subst hb
                    clear hke hk0 hk1 hkp hun
                    go_wp2
                    go_ret
                    exact ⟨rfl, HE.out⟩
                  · have hz : ((xs.length : Int) == 0) = false := by have : xs.length ≠ 0 := fun e => hun (List.length_eq_zero_iff.1 e); exact beq_eq_false_iff_ne.2 (by omega)
                    have hb : b2 = decide ((ns.length : Int) + 1 ≤ 10) := by
                      rw [Bool.eq_iff_iff, decide_eq_true_eq]
                      refine HWH2.out.trans ⟨fun h => ?_, fun h => ⟨.inl hkp, .inr hk1, ?_⟩⟩
                      · have h3 := h.2.2; rw [if_pos (show (ke, ve).1 = 0 ∧ k ≠ 0 from ⟨hke, hk0⟩)] at h3; omega
                      · rw [if_pos (show (ke, ve).1 = 0 ∧ k ≠ 0 from ⟨hke, hk0⟩)]; omega
                    subst hb
                    clear hke hk0 hk1 hkp hun
                    go_wp2
                    go_ret
                    exact ⟨rfl, HE.out⟩

                · have hkpb : (kp == 1) = false := by simpa using hkp
                  go_wp2_with fail
                  refine (HU.out _ (below_next HB3.out H10.out)).mono ?_
                  rintro e W11 ⟨⟨sl, rfl, ho⟩, hb11⟩
                  obtain ⟨a11, c11, rfl, -⟩ := texts_of_own ho
                  have l0 := cell_kept hb11 j0
                  have l1 := cell_kept hb11 j1
                  have HE := Lib.hid (below_next HBL.out (below_next HB3.out (below_next H10.out hb11)))
                  clear hb11 ho j0 j1
                  by_cases hun : xs = []
                  · have hz : ((xs.length : Int) == 0) = true := by rw [hun]; rfl
                    have hb : b2 = false := by
                      rw [Bool.eq_false_iff]; intro h
                      rcases (HWH2.out.1 h).1 with h | h
                      · exact hkp h
                      · exact hk0 h
                    subst hb
                    clear hke hk0 hk1 hkp hun
                    go_wp2
                    go_ret
                    exact ⟨rfl, HE.out⟩
                  · have hz : ((xs.length : Int) == 0) = false := by have : xs.length ≠ 0 := fun e => hun (List.length_eq_zero_iff.1 e); exact beq_eq_false_iff_ne.2 (by omega)
                    have hb : b2 = false := by
                      rw [Bool.eq_false_iff]; intro h
                      rcases (HWH2.out.1 h).1 with h | h
                      · exact hkp h
                      · exact hk0 h
                    subst hb
                    clear hke hk0 hk1 hkp hun
                    go_wp2
                    go_ret
                    exact ⟨rfl, HE.out⟩


              · have hk1b : (k == 1) = false := by simpa using hk1
                go_wp2_with fail
                refine (HPP.out _).mono ?_
                rintro e W9 ⟨rfl, hb9⟩
                have H9 := Lib.hid (below_next H8.out hb9)
                have i0 := cell_kept hb9 g0
                have i1 := cell_kept hb9 g1
                clear hb9 g0 g1
                go_wp2_with fail
                refine (HG3.out _ (below_next HB3.out H9.out)).mono ?_
                rintro e W10 ⟨rfl, hb10⟩
                have H10 := Lib.hid (below_next H9.out hb10)
                have j0 := cell_kept hb10 i0
                have j1 := cell_kept hb10 i1
                clear hb10 i0 i1
                unfold con
                by_cases hkp : kp = 1
                · have hkpb : (kp == 1) = true := by rw [hkp]; rfl
                  go_wp2_with fail
                  refine (HU.out _ (below_next HB3.out H10.out)).mono ?_
                  rintro e W11 ⟨⟨sl, rfl, ho⟩, hb11⟩
                  obtain ⟨a11, c11, rfl, -⟩ := texts_of_own ho
                  have l0 := cell_kept hb11 j0
                  have l1 := cell_kept hb11 j1
                  have HE := Lib.hid (below_next HBL.out (below_next HB3.out (below_next H10.out hb11)))
                  clear hb11 ho j0 j1
                  by_cases hun : xs = []
                  · have hz : ((xs.length : Int) == 0) = true := by rw [hun]; rfl
                    have hb : b2 = decide ((ns.length : Int) + 1 ≤ 10) := by
                      rw [Bool.eq_iff_iff, decide_eq_true_eq]
                      refine HWH2.out.trans ⟨fun h => ?_, fun h => ⟨.inl hkp, .inl hun, ?_⟩⟩
                      · have h3 := h.2.2; rw [if_pos (show (ke, ve).1 = 0 ∧ k ≠ 0 from ⟨hke, hk0⟩)] at h3; omega
                      · rw [if_pos (show (ke, ve).1 = 0 ∧ k ≠ 0 from ⟨hke, hk0⟩)]; omega
                    subst hb
                    clear hke hk0 hk1 hkp hun
                    go_wp2
                    go_ret
                    exact ⟨rfl, HE.out⟩
                  · have hz : ((xs.length : Int) == 0) = false := by have : xs.length ≠ 0 := fun e => hun (List.length_eq_zero_iff.1 e); exact beq_eq_false_iff_ne.2 (by omega)
                    have hb : b2 = false := by
                      rw [Bool.eq_false_iff]; intro h
                      rcases (HWH2.out.1 h).2.1 with h | h
                      · exact hun h
                      · exact hk1 h
                    subst hb
                    clear hke hk0 hk1 hkp hun
                    go_wp2
                    go_ret
                    exact ⟨rfl, HE.out⟩

                · have hkpb : (kp == 1) = false := by simpa using hkp
                  go_wp2_with fail
                  refine (HU.out _ (below_next HB3.out H10.out)).mono ?_
                  rintro e W11 ⟨⟨sl, rfl, ho⟩, hb11⟩
                  obtain ⟨a11, c11, rfl, -⟩ := texts_of_own ho
                  have l0 := cell_kept hb11 j0
                  have l1 := cell_kept hb11 j1
                  have HE := Lib.hid (below_next HBL.out (below_next HB3.out (below_next H10.out hb11)))
                  clear hb11 ho j0 j1
                  by_cases hun : xs = []
                  · have hz : ((xs.length : Int) == 0) = true := by rw [hun]; rfl
                    have hb : b2 = false := by
                      rw [Bool.eq_false_iff]; intro h
                      rcases (HWH2.out.1 h).1 with h | h
                      · exact hkp h
                      · exact hk0 h
                    subst hb
                    clear hke hk0 hk1 hkp hun
                    go_wp2
                    go_ret
                    exact ⟨rfl, HE.out⟩
                  · have hz : ((xs.length : Int) == 0) = false := by have : xs.length ≠ 0 := fun e => hun (List.length_eq_zero_iff.1 e); exact beq_eq_false_iff_ne.2 (by omega)
                    have hb : b2 = false := by
                      rw [Bool.eq_false_iff]; intro h
                      rcases (HWH2.out.1 h).1 with h | h
                      · exact hkp h
                      · exact hk0 h
                    subst hb
                    clear hke hk0 hk1 hkp hun
                    go_wp2
                    go_ret
                    exact ⟨rfl, HE.out⟩



          · have hkeb : (ke == 0) = false := by simpa using hke
            by_cases hk0 : k = 0
            · have hkb : (k == 0) = true := by rw [hk0]; rfl
              have hkn : (k != 0) = false := by rw [hk0]; rfl
              have hk1b : (k == 1) = false := by rw [hk0]; rfl
              have hk1 : k ≠ 1 := by omega
              go_wp2_with fail
              refine (HPP.out _).mono ?_
              rintro e W9 ⟨rfl, hb9⟩
              have H9 := Lib.hid (below_next H8.out hb9)
              have i0 := cell_kept hb9 g0
              have i1 := cell_kept hb9 g1
              clear hb9 g0 g1
              go_wp2_with fail
              refine (HG3.out _ (below_next HB3.out H9.out)).mono ?_
              rintro e W10 ⟨rfl, hb10⟩
              have H10 := Lib.hid (below_next H9.out hb10)
              have j0 := cell_kept hb10 i0
              have j1 := cell_kept hb10 i1
              clear hb10 i0 i1
              unfold con
              by_cases hkp : kp = 1
              · have hkpb : (kp == 1) = true := by rw [hkp]; rfl
                go_wp2_with fail
                refine (HU.out _ (below_next HB3.out H10.out)).mono ?_
                rintro e W11 ⟨⟨sl, rfl, ho⟩, hb11⟩
                obtain ⟨a11, c11, rfl, -⟩ := texts_of_own ho
                have l0 := cell_kept hb11 j0
                have l1 := cell_kept hb11 j1
                have HE := Lib.hid (below_next HBL.out (below_next HB3.out (below_next H10.out hb11)))
                clear hb11 ho j0 j1
                by_cases hun : xs = []
                · have hz : ((xs.length : Int) == 0) = true := by rw [hun]; rfl
                  have hb : b2 = decide ((ns.length : Int) ≤ 10) := by
                    rw [Bool.eq_iff_iff, decide_eq_true_eq]
                    refine HWH2.out.trans ⟨fun h => ?_, fun h => ⟨.inl hkp, .inl hun, ?_⟩⟩
                    · have h3 := h.2.2; rw [if_neg (show ¬ ((ke, ve).1 = 0 ∧ k ≠ 0) from fun h => h.2 hk0)] at h3; omega
                    · rw [if_neg (show ¬ ((ke, ve).1 = 0 ∧ k ≠ 0) from fun h => h.2 hk0)]; omega
                  subst hb
                  clear hke hk0 hk1 hkp hun
                  go_wp2
                  go_ret
                  exact ⟨rfl, HE.out⟩
                · have hz : ((xs.length : Int) == 0) = false := by have : xs.length ≠ 0 := fun e => hun (List.length_eq_zero_iff.1 e); exact beq_eq_false_iff_ne.2 (by omega)
                  have hb : b2 = false := by
                    rw [Bool.eq_false_iff]; intro h
                    rcases (HWH2.out.1 h).2.1 with h | h
                    · exact hun h
                    · exact hk1 h
                  subst hb
                  clear hke hk0 hk1 hkp hun
                  go_wp2
                  go_ret
                  exact ⟨rfl, HE.out⟩

              · have hkpb : (kp == 1) = false := by simpa using hkp
                go_wp2_with fail
                refine (HU.out _ (below_next HB3.out H10.out)).mono ?_
                rintro e W11 ⟨⟨sl, rfl, ho⟩, hb11⟩
                obtain ⟨a11, c11, rfl, -⟩ := texts_of_own ho
                have l0 := cell_kept hb11 j0
                have l1 := cell_kept hb11 j1
                have HE := Lib.hid (below_next HBL.out (below_next HB3.out (below_next H10.out hb11)))
                clear hb11 ho j0 j1
                by_cases hun : xs = []
                · have hz : ((xs.length : Int) == 0) = true := by rw [hun]; rfl
                  have hb : b2 = decide ((ns.length : Int) ≤ 10) := by
                    rw [Bool.eq_iff_iff, decide_eq_true_eq]
                    refine HWH2.out.trans ⟨fun h => ?_, fun h => ⟨.inr hk0, .inl hun, ?_⟩⟩
                    · have h3 := h.2.2; rw [if_neg (show ¬ ((ke, ve).1 = 0 ∧ k ≠ 0) from fun h => h.2 hk0)] at h3; omega
                    · rw [if_neg (show ¬ ((ke, ve).1 = 0 ∧ k ≠ 0) from fun h => h.2 hk0)]; omega
                  subst hb
                  clear hke hk0 hk1 hkp hun
                  go_wp2
                  go_ret
                  exact ⟨rfl, HE.out⟩
                · have hz : ((xs.length : Int) == 0) = false := by have : xs.length ≠ 0 := fun e => hun (List.length_eq_zero_iff.1 e); exact beq_eq_false_iff_ne.2 (by omega)
                  have hb : b2 = false := by
                    rw [Bool.eq_false_iff]; intro h
                    rcases (HWH2.out.1 h).2.1 with h | h
                    · exact hun h
                    · exact hk1 h
                  subst hb
                  clear hke hk0 hk1 hkp hun
                  go_wp2
                  go_ret
                  exact ⟨rfl, HE.out⟩


            · have hkb : (k == 0) = false := by simpa using hk0
              have hkn : (k != 0) = true := by simpa using hk0
              by_cases hk1 : k = 1
              · have hk1b : (k == 1) = true := by rw [hk1]; rfl
                go_wp2_with fail
                refine (HPP.out _).mono ?_
                rintro e W9 ⟨rfl, hb9⟩
                have H9 := Lib.hid (below_next H8.out hb9)
                have i0 := cell_kept hb9 g0
                have i1 := cell_kept hb9 g1
                clear hb9 g0 g1
                go_wp2_with fail
                refine (HG3.out _ (below_next HB3.out H9.out)).mono ?_
                rintro e W10 ⟨rfl, hb10⟩
                have H10 := Lib.hid (below_next H9.out hb10)
                have j0 := cell_kept hb10 i0
                have j1 := cell_kept hb10 i1
                clear hb10 i0 i1
                unfold con
                by_cases hkp : kp = 1
                · have hkpb : (kp == 1) = true := by rw [hkp]; rfl
                  go_wp2_with fail
                  refine (HU.out _ (below_next HB3.out H10.out)).mono ?_
                  rintro e W11 ⟨⟨sl, rfl, ho⟩, hb11⟩
                  obtain ⟨a11, c11, rfl, -⟩ := texts_of_own ho
                  have l0 := cell_kept hb11 j0
                  have l1 := cell_kept hb11 j1
                  have HE := Lib.hid (below_next HBL.out (below_next HB3.out (below_next H10.out hb11)))
                  clear hb11 ho j0 j1
                  by_cases hun : xs = []
                  · have hz : ((xs.length : Int) == 0) = true := by rw [hun]; rfl
                    have hb : b2 = decide ((ns.length : Int) ≤ 10) := by
                      rw [Bool.eq_iff_iff, decide_eq_true_eq]
                      refine HWH2.out.trans ⟨fun h => ?_, fun h => ⟨.inl hkp, .inl hun, ?_⟩⟩
                      · have h3 := h.2.2; rw [if_neg (show ¬ ((ke, ve).1 = 0 ∧ k ≠ 0) from fun h => hke h.1)] at h3; omega
                      · rw [if_neg (show ¬ ((ke, ve).1 = 0 ∧ k ≠ 0) from fun h => hke h.1)]; omega
                    subst hb
                    clear hke hk0 hk1 hkp hun
                    go_wp2
                    go_ret
                    exact ⟨rfl, HE.out⟩
                  · have hz : ((xs.length : Int) == 0) = false := by have : xs.length ≠ 0 := fun e => hun (List.length_eq_zero_iff.1 e); exact beq_eq_false_iff_ne.2 (by omega)
                    have hb : b2 = decide ((ns.length : Int) ≤ 10) := by
                      rw [Bool.eq_iff_iff, decide_eq_true_eq]
                      refine HWH2.out.trans ⟨fun h => ?_, fun h => ⟨.inl hkp, .inr hk1, ?_⟩⟩
                      · have h3 := h.2.2; rw [if_neg (show ¬ ((ke, ve).1 = 0 ∧ k ≠ 0) from fun h => hke h.1)] at h3; omega
                      · rw [if_neg (show ¬ ((ke, ve).1 = 0 ∧ k ≠ 0) from fun h => hke h.1)]; omega
                    subst hb
                    clear hke hk0 hk1 hkp hun
                    go_wp2
                    go_ret
                    exact ⟨rfl, HE.out⟩

                · have hkpb : (kp == 1) = false := by simpa using hkp
                  go_wp2_with fail
                  refine (HU.out _ (below_next HB3.out H10.out)).mono ?_
                  rintro e W11 ⟨⟨sl, rfl, ho⟩, hb11⟩
                  obtain ⟨a11, c11, rfl, -⟩ := texts_of_own ho
                  have l0 := cell_kept hb11 j0
                  have l1 := cell_kept hb11 j1
                  have HE := Lib.hid (below_next HBL.out (below_next HB3.out (below_next H10.out hb11)))
                  clear hb11 ho j0 j1
                  by_cases hun : xs = []
                  · have hz : ((xs.length : Int) == 0) = true := by rw [hun]; rfl
                    have hb : b2 = false := by
                      rw [Bool.eq_false_iff]; intro h
                      rcases (HWH2.out.1 h).1 with h | h
                      · exact hkp h
                      · exact hk0 h
                    subst hb
                    clear hke hk0 hk1 hkp hun
                    go_wp2
                    go_ret
                    exact ⟨rfl, HE.out⟩
                  · have hz : ((xs.length : Int) == 0) = false := by have : xs.length ≠ 0 := fun e => hun (List.length_eq_zero_iff.1 e); exact beq_eq_false_iff_ne.2 (by omega)
                    have hb : b2 = false := by
                      rw [Bool.eq_false_iff]; intro h
                      rcases (HWH2.out.1 h).1 with h | h
                      · exact hkp h
                      · exact hk0 h
                    subst hb
                    clear hke hk0 hk1 hkp hun
                    go_wp2
                    go_ret
                    exact ⟨rfl, HE.out⟩


              · have hk1b : (k == 1) = false := by simpa using hk1
                go_wp2_with fail
                refine (HPP.out _).mono ?_
                rintro e W9 ⟨rfl, hb9⟩
                have H9 := Lib.hid (below_next H8.out hb9)
                have i0 := cell_kept hb9 g0
                have i1 := cell_kept hb9 g1
                clear hb9 g0 g1
                go_wp2_with fail
                refine (HG3.out _ (below_next HB3.out H9.out)).mono ?_
                rintro e W10 ⟨rfl, hb10⟩
                have H10 := Lib.hid (below_next H9.out hb10)
                have j0 := cell_kept hb10 i0
                have j1 := cell_kept hb10 i1
                clear hb10 i0 i1
                unfold con
                by_cases hkp : kp = 1
                · have hkpb : (kp == 1) = true := by rw [hkp]; rfl
                  go_wp2_with fail
                  refine (HU.out _ (below_next HB3.out H10.out)).mono ?_
                  rintro e W11 ⟨⟨sl, rfl, ho⟩, hb11⟩
                  obtain ⟨a11, c11, rfl, -⟩ := texts_of_own ho
                  have l0 := cell_kept hb11 j0
                  have l1 := cell_kept hb11 j1
                  have HE := Lib.hid (below_next HBL.out (below_next HB3.out (below_next H10.out hb11)))
                  clear hb11 ho j0 j1
                  by_cases hun : xs = []
                  · have hz : ((xs.length : Int) == 0) = true := by rw [hun]; rfl
                    have hb : b2 = decide ((ns.length : Int) ≤ 10) := by
                      rw [Bool.eq_iff_iff, decide_eq_true_eq]
                      refine HWH2.out.trans ⟨fun h => ?_, fun h => ⟨.inl hkp, .inl hun, ?_⟩⟩
                      · have h3 := h.2.2; rw [if_neg (show ¬ ((ke, ve).1 = 0 ∧ k ≠ 0) from fun h => hke h.1)] at h3; omega
                      · rw [if_neg (show ¬ ((ke, ve).1 = 0 ∧ k ≠ 0) from fun h => hke h.1)]; omega
                    subst hb
                    clear hke hk0 hk1 hkp hun
                    go_wp2
                    go_ret
                    exact ⟨rfl, HE.out⟩
                  · have hz : ((xs.length : Int) == 0) = false := by have : xs.length ≠ 0 := fun e => hun (List.length_eq_zero_iff.1 e); exact beq_eq_false_iff_ne.2 (by omega)
                    have hb : b2 = false := by
                      rw [Bool.eq_false_iff]; intro h
                      rcases (HWH2.out.1 h).2.1 with h | h
                      · exact hun h
                      · exact hk1 h
                    subst hb
                    clear hke hk0 hk1 hkp hun
                    go_wp2
                    go_ret
                    exact ⟨rfl, HE.out⟩

                · have hkpb : (kp == 1) = false := by simpa using hkp
                  go_wp2_with fail
                  refine (HU.out _ (below_next HB3.out H10.out)).mono ?_
                  rintro e W11 ⟨⟨sl, rfl, ho⟩, hb11⟩
                  obtain ⟨a11, c11, rfl, -⟩ := texts_of_own ho
                  have l0 := cell_kept hb11 j0
                  have l1 := cell_kept hb11 j1
                  have HE := Lib.hid (below_next HBL.out (below_next HB3.out (below_next H10.out hb11)))
                  clear hb11 ho j0 j1
                  by_cases hun : xs = []
                  · have hz : ((xs.length : Int) == 0) = true := by rw [hun]; rfl
                    have hb : b2 = false := by
                      rw [Bool.eq_false_iff]; intro h
                      rcases (HWH2.out.1 h).1 with h | h
                      · exact hkp h
                      · exact hk0 h
                    subst hb
                    clear hke hk0 hk1 hkp hun
                    go_wp2
                    go_ret
                    exact ⟨rfl, HE.out⟩
                  · have hz : ((xs.length : Int) == 0) = false := by have : xs.length ≠ 0 := fun e => hun (List.length_eq_zero_iff.1 e); exact beq_eq_false_iff_ne.2 (by omega)
                    have hb : b2 = false := by
                      rw [Bool.eq_false_iff]; intro h
                      rcases (HWH2.out.1 h).1 with h | h
                      · exact hkp h
                      · exact hk0 h
                    subst hb
                    clear hke hk0 hk1 hkp hun
                    go_wp2
                    go_ret
                    exact ⟨rfl, HE.out⟩



  · have hl : (1048576 : Int) < len0 := by omega
    clear h w0
    go_enter Try.func7, Try.ntmps7
    go_wp2
    go_ret
    exact ⟨rfl, Below.refl _ _⟩


set_option maxRecDepth 100000 in
theorem lifted (os : Os) (started : os.Started) (H : Type) (enc : TypeId × Value → H) :
    ReturnsInHanded {} Try.checked os 7 .any (Rows.fnTreePutWhenSpec.pre6 enc Try.prog Try.f7 Rows.fnTreePutWhenRow.domain false) (Rows.fnTreePutWhenSpec.post enc Try.prog Try.f7 false true false false) := by
  refine returnsInHanded_of_change (C := Try.checked) own started (by kernel_rfl) Try.func7
    (ChangeSpec.witness6 (enc := enc) (C := Try.checked) false ⟨#[], #[.slice none 0 0], []⟩ 8 (by kernel_rfl) (by kernel_rfl) (by kernel_rfl) (by kernel_rfl)) ?_
  intro W base args ds gs before hval0 hW hcnd _
  have hval : ∀ (j : Nat) t v, Try.f7.params[j]? = some t → args[j]? = some v → Value.okWide Try.prog W .any base t v := hval0
  have hW' := hW
  obtain ⟨p, q, hA0, hV, rfl, hfz, hnd⟩ := hW
  have hA : DataW.TrodAll enc Try.prog W 0 (fun _ => true) true Try.f7.params.toList args.toList ds p := hA0
  rw [Try.params7] at hA hval
  obtain ⟨v0, vs0, d0, ds0, p0, q0, hargs, rfl, rfl, h0, r0⟩ := trodAll_cons hA
  obtain ⟨rfl, rfl, rfl⟩ := trodAll_nil r0
  obtain rfl : args = #[v0] := by cases args; simp_all
  obtain ⟨rfl, rfl⟩ := trodVars_none hV
  obtain ⟨a0, len0, cap0, rfl⟩ := okWide_slice Try.underlying22 (hval 0 22 v0 rfl rfl)
  have k0 := h0
  have lt0 : ∀ x ∈ p0, x.block < W.heap.size := by obtain ⟨m, hm⟩ := k0; exact DataW.trod_lt m _ _ _ hm
  obtain ⟨z0, w0⟩ : ∃ zs, IsRow .u8 W a0 len0 cap0 zs := by
    obtain ⟨fuel, hf⟩ := h0
    rcases open_ints Try.underlying22 Try.underlying5 (by kernel_rfl) hf with ⟨hcs, _⟩ | ⟨x, l, c, zs, hcs, _, hl, hm, hz, _, hcell, hwz⟩
    · simp [Value.cells] at hcs
      obtain ⟨rfl, rfl, rfl⟩ := hcs
      exact ⟨[], .inl ⟨rfl, rfl, rfl, rfl⟩⟩
    · simp [Value.cells] at hcs
      obtain ⟨rfl, rfl, rfl⟩ := hcs
      exact ⟨zs, .inr ⟨_, rfl, hl, hm, by simpa using hz, hcell, hwz⟩⟩
  clear hA0 hval0
  refine (walk a0 len0 cap0 z0 W w0).mono fun e W' ⟨he, bel⟩ => ?_
  subst he
  exact ⟨_, rfl, _, _, _, [], _, [], hW', trodAll_mk1 (shut_bool Try.underlying4 _), (trodAll_cons_mk (Below.trod laidOut (by kernel_rfl) (of_decide_eq_true (by kernel_rfl)) k0 bel lt0) trodAll_mk0), rfl, bel.frame _, fun h => by cases h⟩

theorem over : Rows.fnTreePutWhenRow.holds Try.pinned (OpenSpec.ofChange Rows.fnTreePutWhenSpec) :=
  OpenClaim.holds_of_wide 7 Try.f7 rfl rfl rfl rfl rfl rfl rfl ⟨rfl, rfl, rfl, rfl, rfl⟩ rfl rfl rfl rfl rfl (by kernel_rfl) Try.func7 (by kernel_rfl)
    (of_decide_eq_true (by kernel_rfl)) (by unfold Func.isWrapper; first | (rw [if_pos (by decide +kernel)]; kernel_rfl) | (rw [if_neg (by decide +kernel)]; exact ⟨rfl, rfl⟩))
    (fun os started H enc _ => lifted os started H enc)

theorem proved : Rows.FnTreePutWhenSaid := over
end Go.Proofs.Ytkoopkaoojhfhaa.fnTreePutWhen
