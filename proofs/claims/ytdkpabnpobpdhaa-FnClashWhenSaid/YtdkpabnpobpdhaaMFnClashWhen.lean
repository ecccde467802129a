/-
  laws.FnClashWhen returns true for every input, and leaves its arguments as they were.
  Conditions: none.
-/
import Derived.Test.YtdkpabnpobpdhaaRows
import Derived.WalkKit
import Derived.ProofKit
import Derived.OpenShut
import Derived.ShutString
import Derived.ChangeOld
import Derived.Below
import Derived.Test.YtdkpabnpobpdhaaQ10
import Derived.Test.YtdkpabnpobpdhaaQ4
import Derived.Test.YtdkpabnpobpdhaaQ9
import Derived.Test.YtdkpabnpobpdhaaQ5
import Derived.Test.YtdkpabnpobpdhaaQ1
namespace Go.Proofs.Ytdkpabnpobpdhaa.fnClashWhen
open Go.ChangeShapes Go.WideShapes Go.ChangeAt Go.RowKit
open Go.ChangeMaps (open_string shut_string)
set_option linter.unusedVariables false

theorem own : ownKnob Try.prog.godebug = none := by kernel_rfl
theorem laidOut : laidOutB Try.prog = true := by kernel_rfl

set_option maxHeartbeats 4000000 in
set_option maxRecDepth 100000 in
theorem walk (a0 : Option Addr) (len0 cap0 : Nat) (z0 : List Int) (w : World) (w0 : IsRow .u8 w a0 len0 cap0 z0) :
    Calls Try.prog 4 #[.slice a0 len0 cap0] w fun e w' => e = .returned (.bool true) ∧ Below w.heap.size w w' := by
  by_cases h : len0 ≤ 1048576
  · have hl : (len0 : Int) ≤ 1048576 := by omega
    have HD := Lib.hid (drawCommandsClash_c a0 len0 cap0 z0 w w0)
    clear h w0
    go_enter Try.func4, Try.ntmps4
    go_wp2_with fail
    refine HD.out.mono ?_
    rintro e W1 ⟨c, d, rfl, hp, hq, hB⟩
    have HBL := Lib.hid hB
    have HPQ := Lib.hid (And.intro hp hq)
    obtain ⟨mm, hmm⟩ : ∃ mm, clashP c d = mm := ⟨_, rfl⟩
    have HI := Lib.hid (fun w => show Calls Try.prog 14 #[cmdV c, cmdV d] w (BoolPost mm w) by rw [← hmm]; exact implCommandsClash_c c d (by omega) (by omega) w)
    have HS := Lib.hid (fun w => show Calls Try.prog 15 #[cmdV c, cmdV d] w (BoolPost mm w) by rw [← hmm]; exact specCommandsClash_c c d (by omega) (by omega) w)
    have HMM := Lib.hid hmm
    have T0 := Lib.hid (twoC_new W1 c d)
    have B0 := Lib.hid (below_next (below_box W1 (.cells #[.string c.p, .int .i64 c.fk, .int .i64 c.fv, .int .i64 c.tk, .int .i64 c.tv] 26)) (below_box _ (.cells #[.string d.p, .int .i64 d.fk, .int .i64 d.fv, .int .i64 d.tk, .int .i64 d.tv] 26)))
    obtain ⟨r, hr⟩ : ∃ r, underB c.p d.p = r := ⟨_, rfl⟩
    obtain ⟨s, hs⟩ : ∃ s, underB d.p c.p = s := ⟨_, rfl⟩
    have HU := Lib.hid (fun w => show Calls Try.prog 17 #[.string c.p, .string d.p] w (fun e w' => e = .returned (.bool r) ∧ Below w.heap.size w w') by rw [← hr]; exact pathUnder_c c.p d.p (by omega) (by omega) w)
    have HV := Lib.hid (fun w => show Calls Try.prog 17 #[.string d.p, .string c.p] w (fun e w' => e = .returned (.bool s) ∧ Below w.heap.size w w') by rw [← hs]; exact pathUnder_c d.p c.p (by omega) (by omega) w)
    obtain ⟨u, hu⟩ : ∃ u, validC c = u := ⟨_, rfl⟩
    obtain ⟨v, hv⟩ : ∃ v, validC d = v := ⟨_, rfl⟩
    have HC := Lib.hid (fun w => show Calls Try.prog 16 #[cmdV c] w (BoolPost u w) by rw [← hu]; exact specCmdValid_c c (by omega) w)
    have HD := Lib.hid (fun w => show Calls Try.prog 16 #[cmdV d] w (BoolPost v w) by rw [← hv]; exact specCmdValid_c d (by omega) w)
    obtain ⟨x, hx⟩ : ∃ x, (c.tk == d.tk && c.tv == d.tv) = x := ⟨_, rfl⟩
    obtain ⟨y, hy⟩ : ∃ y, (c.p.toList == d.p.toList) = y := ⟨_, rfl⟩
    obtain ⟨k1, hk1⟩ : ∃ k, (c.tk == 1) = k := ⟨_, rfl⟩
    obtain ⟨z1, hz1⟩ : ∃ k, (d.tk == 0) = k := ⟨_, rfl⟩
    obtain ⟨k2, hk2⟩ : ∃ k, (d.tk == 1) = k := ⟨_, rfl⟩
    obtain ⟨z2, hz2⟩ : ∃ k, (c.tk == 0) = k := ⟨_, rfl⟩
    have hyd : decide (c.p = d.p) = y := by
      rw [← hy]
      by_cases h : c.p = d.p
      · rw [h]; simp
      · rw [toList_ne h]; exact decide_eq_false h
    have HM := Lib.hid (show u = true → v = true → mm = ((y && !x) || (r && !k1 && !z1) || (s && !k2 && !z2)) by intro h1 h2; rw [← hmm, clash_when (hu.trans h1) (hv.trans h2), hyd, hx, hk1, hz1, hk2, hz2, ← hr, ← hs]; rfl)
    clear hr hs hu hv hyd
    clear hB hp hq hmm
    obtain ⟨p, fk, fv, tk, tv⟩ := c
    obtain ⟨p', fk', fv', tk', tv'⟩ := d
    unfold cmdV at HI HS HC HD ⊢
    simp only at HI HS HC HD T0 B0 HU HV HM hx hy hk1 hz1 hk2 hz2
    obtain ⟨a0, a1, a2, a3, a4, b0, b1, b2, b3, b4⟩ := T0.out
    simp only at a0 a1 a2 a3 a4 b0 b1 b2 b3 b4
    go_wp2_with fail
    refine (HI.out _).mono ?_
    rintro e W2 ⟨rfl, hb2⟩
    have T2 := Lib.hid (T0.out.keep hb2)
    have B2 := Lib.hid (below_next B0.out hb2)
    clear a0 a1 a2 a3 a4 b0 b1 b2 b3 b4 hb2
    obtain ⟨a0, a1, a2, a3, a4, b0, b1, b2, b3, b4⟩ := T2.out
    go_wp2_with fail
    refine (HS.out _).mono ?_
    rintro e W3 ⟨rfl, hb3⟩
    have T3 := Lib.hid (T2.out.keep hb3)
    have B3 := Lib.hid (below_next B2.out hb3)
    clear a0 a1 a2 a3 a4 b0 b1 b2 b3 b4 hb3
    obtain ⟨a0, a1, a2, a3, a4, b0, b1, b2, b3, b4⟩ := T3.out
    have hbb : (mm != mm) = false := by simp
    have hmmt : (mm == mm) = true := by simp
    have hne := fun w => (conNeQ tk tv tk' tv' w).trans (show _ = Result.ok (Value.bool (!x)) w by rw [hx])
    have hk1n : (tk != 1) = !k1 := by rw [bne, hk1]
    have hz1n : (tk' != 0) = !z1 := by rw [bne, hz1]
    have hk2n : (tk' != 1) = !k2 := by rw [bne, hk2]
    have hz2n : (tk != 0) = !z2 := by rw [bne, hz2]
    clear hx hk1 hz1 hk2 hz2
    go_wp2_with fail
    refine (HC.out _).mono ?_
    rintro e W4 ⟨rfl, hb4⟩
    have T4 := Lib.hid (T3.out.keep hb4)
    have B4 := Lib.hid (below_next B3.out hb4)
    clear a0 a1 a2 a3 a4 b0 b1 b2 b3 b4 hb4
    obtain ⟨a0, a1, a2, a3, a4, b0, b1, b2, b3, b4⟩ := T4.out
    cases u with
    | false =>
      clear HM
      go_wp2
      go_ret
      exact ⟨rfl, below_next HBL.out B4.out⟩
    | true =>
      replace HM := Lib.hid (HM.out rfl)
      go_wp2_with fail
      refine (HD.out _).mono ?_
      rintro e W5 ⟨rfl, hb5⟩
      have T5 := Lib.hid (T4.out.keep hb5)
      have B5 := Lib.hid (below_next B4.out hb5)
      clear a0 a1 a2 a3 a4 b0 b1 b2 b3 b4 hb5
      obtain ⟨a0, a1, a2, a3, a4, b0, b1, b2, b3, b4⟩ := T5.out
      cases v with
      | false =>
        clear HM
        go_wp2
        go_ret
        exact ⟨rfl, below_next HBL.out B5.out⟩
      | true =>
        have HMY := Lib.hid (HM.out rfl)
        clear HM
        cases y with
        | false =>
          go_wp2_with fail
          refine (HU.out _).mono ?_
          rintro e W6 ⟨rfl, hb6⟩
          have T6 := Lib.hid (T5.out.keep hb6)
          have B6 := Lib.hid (below_next B5.out hb6)
          clear a0 a1 a2 a3 a4 b0 b1 b2 b3 b4 hb6
          obtain ⟨a0, a1, a2, a3, a4, b0, b1, b2, b3, b4⟩ := T6.out
          cases r with
          | false =>
            go_wp2_with fail
            refine (HV.out _).mono ?_
            rintro e W7 ⟨rfl, hb7⟩
            have T7 := Lib.hid (T6.out.keep hb7)
            have B7 := Lib.hid (below_next B6.out hb7)
            clear a0 a1 a2 a3 a4 b0 b1 b2 b3 b4 hb7
            obtain ⟨a0, a1, a2, a3, a4, b0, b1, b2, b3, b4⟩ := T7.out
            cases s with
            | false =>
              obtain rfl : mm = false := HMY.out
              clear HMY
              go_wp2
              go_ret
              exact ⟨rfl, below_next HBL.out B7.out⟩
            | true =>
              cases k2 with
              | true =>
                obtain rfl : mm = false := HMY.out
                clear HMY
                go_wp2
                go_ret
                exact ⟨rfl, below_next HBL.out B7.out⟩
              | false =>
                cases z2 with
                | true =>
                  obtain rfl : mm = false := HMY.out
                  clear HMY
                  go_wp2
                  go_ret
                  exact ⟨rfl, below_next HBL.out B7.out⟩
                | false =>
                  obtain rfl : mm = true := HMY.out
                  clear HMY
                  go_wp2
                  go_ret
                  exact ⟨rfl, below_next HBL.out B7.out⟩
          | true =>
            cases k1 with
            | true =>
              go_wp2_with fail
              refine (HV.out _).mono ?_
              rintro e W7 ⟨rfl, hb7⟩
              have T7 := Lib.hid (T6.out.keep hb7)
              have B7 := Lib.hid (below_next B6.out hb7)
              clear a0 a1 a2 a3 a4 b0 b1 b2 b3 b4 hb7
              obtain ⟨a0, a1, a2, a3, a4, b0, b1, b2, b3, b4⟩ := T7.out
              cases s with
              | false =>
                obtain rfl : mm = false := HMY.out
                clear HMY
                go_wp2
                go_ret
                exact ⟨rfl, below_next HBL.out B7.out⟩
              | true =>
                cases k2 with
                | true =>
                  obtain rfl : mm = false := HMY.out
                  clear HMY
                  go_wp2
                  go_ret
                  exact ⟨rfl, below_next HBL.out B7.out⟩
                | false =>
                  cases z2 with
                  | true =>
                    obtain rfl : mm = false := HMY.out
                    clear HMY
                    go_wp2
                    go_ret
                    exact ⟨rfl, below_next HBL.out B7.out⟩
                  | false =>
                    obtain rfl : mm = true := HMY.out
                    clear HMY
                    go_wp2
                    go_ret
                    exact ⟨rfl, below_next HBL.out B7.out⟩
            | false =>
              cases z1 with
              | true =>
                go_wp2_with fail
                refine (HV.out _).mono ?_
                rintro e W7 ⟨rfl, hb7⟩
                have T7 := Lib.hid (T6.out.keep hb7)
                have B7 := Lib.hid (below_next B6.out hb7)
                clear a0 a1 a2 a3 a4 b0 b1 b2 b3 b4 hb7
                obtain ⟨a0, a1, a2, a3, a4, b0, b1, b2, b3, b4⟩ := T7.out
                cases s with
                | false =>
                  obtain rfl : mm = false := HMY.out
                  clear HMY
                  go_wp2
                  go_ret
                  exact ⟨rfl, below_next HBL.out B7.out⟩
                | true =>
                  cases k2 with
                  | true =>
                    obtain rfl : mm = false := HMY.out
                    clear HMY
                    go_wp2
                    go_ret
                    exact ⟨rfl, below_next HBL.out B7.out⟩
                  | false =>
                    cases z2 with
                    | true =>
                      obtain rfl : mm = false := HMY.out
                      clear HMY
                      go_wp2
                      go_ret
                      exact ⟨rfl, below_next HBL.out B7.out⟩
                    | false =>
                      obtain rfl : mm = true := HMY.out
                      clear HMY
                      go_wp2
                      go_ret
                      exact ⟨rfl, below_next HBL.out B7.out⟩
              | false =>
                go_wp2_with fail
                refine (HV.out _).mono ?_
                rintro e W7 ⟨rfl, hb7⟩
                have T7 := Lib.hid (T6.out.keep hb7)
                have B7 := Lib.hid (below_next B6.out hb7)
                clear a0 a1 a2 a3 a4 b0 b1 b2 b3 b4 hb7
                obtain ⟨a0, a1, a2, a3, a4, b0, b1, b2, b3, b4⟩ := T7.out
                cases s with
                | false =>
                  obtain rfl : mm = true := HMY.out
                  clear HMY
                  go_wp2
                  go_ret
                  exact ⟨rfl, below_next HBL.out B7.out⟩
                | true =>
                  cases k2 with
                  | true =>
                    obtain rfl : mm = true := HMY.out
                    clear HMY
                    go_wp2
                    go_ret
                    exact ⟨rfl, below_next HBL.out B7.out⟩
                  | false =>
                    cases z2 with
                    | true =>
                      obtain rfl : mm = true := HMY.out
                      clear HMY
                      go_wp2
                      go_ret
                      exact ⟨rfl, below_next HBL.out B7.out⟩
                    | false =>
                      obtain rfl : mm = true := HMY.out
                      clear HMY
                      go_wp2
                      go_ret
                      exact ⟨rfl, below_next HBL.out B7.out⟩
        | true =>
          cases x with
          | true =>
            go_wp2_with fail
            refine (HU.out _).mono ?_
            rintro e W6 ⟨rfl, hb6⟩
            have T6 := Lib.hid (T5.out.keep hb6)
            have B6 := Lib.hid (below_next B5.out hb6)
            clear a0 a1 a2 a3 a4 b0 b1 b2 b3 b4 hb6
            obtain ⟨a0, a1, a2, a3, a4, b0, b1, b2, b3, b4⟩ := T6.out
            cases r with
            | false =>
              go_wp2_with fail
              refine (HV.out _).mono ?_
              rintro e W7 ⟨rfl, hb7⟩
              have T7 := Lib.hid (T6.out.keep hb7)
              have B7 := Lib.hid (below_next B6.out hb7)
              clear a0 a1 a2 a3 a4 b0 b1 b2 b3 b4 hb7
              obtain ⟨a0, a1, a2, a3, a4, b0, b1, b2, b3, b4⟩ := T7.out
              cases s with
              | false =>
                obtain rfl : mm = false := HMY.out
                clear HMY
                go_wp2
                go_ret
                exact ⟨rfl, below_next HBL.out B7.out⟩
              | true =>
                cases k2 with
                | true =>
                  obtain rfl : mm = false := HMY.out
                  clear HMY
                  go_wp2
                  go_ret
                  exact ⟨rfl, below_next HBL.out B7.out⟩
                | false =>
                  cases z2 with
                  | true =>
                    obtain rfl : mm = false := HMY.out
                    clear HMY
                    go_wp2
                    go_ret
                    exact ⟨rfl, below_next HBL.out B7.out⟩
                  | false =>
                    obtain rfl : mm = true := HMY.out
                    clear HMY
                    go_wp2
                    go_ret
                    exact ⟨rfl, below_next HBL.out B7.out⟩
            | true =>
              cases k1 with
              | true =>
                go_wp2_with fail
                refine (HV.out _).mono ?_
                rintro e W7 ⟨rfl, hb7⟩
                have T7 := Lib.hid (T6.out.keep hb7)
                have B7 := Lib.hid (below_next B6.out hb7)
                clear a0 a1 a2 a3 a4 b0 b1 b2 b3 b4 hb7
                obtain ⟨a0, a1, a2, a3, a4, b0, b1, b2, b3, b4⟩ := T7.out
                cases s with
                | false =>
                  obtain rfl : mm = false := HMY.out
                  clear HMY
                  go_wp2
                  go_ret
                  exact ⟨rfl, below_next HBL.out B7.out⟩
                | true =>
                  cases k2 with
                  | true =>
                    obtain rfl : mm = false := HMY.out
                    clear HMY
                    go_wp2
                    go_ret
                    exact ⟨rfl, below_next HBL.out B7.out⟩
                  | false =>
                    cases z2 with
                    | true =>
                      obtain rfl : mm = false := HMY.out
                      clear HMY
                      go_wp2
                      go_ret
                      exact ⟨rfl, below_next HBL.out B7.out⟩
                    | false =>
                      obtain rfl : mm = true := HMY.out
                      clear HMY
                      go_wp2
                      go_ret
                      exact ⟨rfl, below_next HBL.out B7.out⟩
              | false =>
                cases z1 with
                | true =>
                  go_wp2_with fail
                  refine (HV.out _).mono ?_
                  rintro e W7 ⟨rfl, hb7⟩
                  have T7 := Lib.hid (T6.out.keep hb7)
                  have B7 := Lib.hid (below_next B6.out hb7)
                  clear a0 a1 a2 a3 a4 b0 b1 b2 b3 b4 hb7
                  obtain ⟨a0, a1, a2, a3, a4, b0, b1, b2, b3, b4⟩ := T7.out
                  cases s with
                  | false =>
                    obtain rfl : mm = false := HMY.out
                    clear HMY
                    go_wp2
                    go_ret
                    exact ⟨rfl, below_next HBL.out B7.out⟩
                  | true =>
                    cases k2 with
                    | true =>
                      obtain rfl : mm = false := HMY.out
                      clear HMY
                      go_wp2
                      go_ret
                      exact ⟨rfl, below_next HBL.out B7.out⟩
                    | false =>
                      cases z2 with
                      | true =>
                        obtain rfl : mm = false := HMY.out
                        clear HMY
                        go_wp2
                        go_ret
                        exact ⟨rfl, below_next HBL.out B7.out⟩
                      | false =>
                        obtain rfl : mm = true := HMY.out
                        clear HMY
                        go_wp2
                        go_ret
                        exact ⟨rfl, below_next HBL.out B7.out⟩
                | false =>
                  go_wp2_with fail
                  refine (HV.out _).mono ?_
                  rintro e W7 ⟨rfl, hb7⟩
                  have T7 := Lib.hid (T6.out.keep hb7)
                  have B7 := Lib.hid (below_next B6.out hb7)
                  clear a0 a1 a2 a3 a4 b0 b1 b2 b3 b4 hb7
                  obtain ⟨a0, a1, a2, a3, a4, b0, b1, b2, b3, b4⟩ := T7.out
                  cases s with
                  | false =>
                    obtain rfl : mm = true := HMY.out
                    clear HMY
                    go_wp2
                    go_ret
                    exact ⟨rfl, below_next HBL.out B7.out⟩
                  | true =>
                    cases k2 with
                    | true =>
                      obtain rfl : mm = true := HMY.out
                      clear HMY
                      go_wp2
                      go_ret
                      exact ⟨rfl, below_next HBL.out B7.out⟩
                    | false =>
                      cases z2 with
                      | true =>
                        obtain rfl : mm = true := HMY.out
                        clear HMY
                        go_wp2
                        go_ret
                        exact ⟨rfl, below_next HBL.out B7.out⟩
                      | false =>
                        obtain rfl : mm = true := HMY.out
                        clear HMY
                        go_wp2
                        go_ret
                        exact ⟨rfl, below_next HBL.out B7.out⟩
          | false =>
            go_wp2_with fail
            refine (HU.out _).mono ?_
            rintro e W6 ⟨rfl, hb6⟩
            have T6 := Lib.hid (T5.out.keep hb6)
            have B6 := Lib.hid (below_next B5.out hb6)
            clear a0 a1 a2 a3 a4 b0 b1 b2 b3 b4 hb6
            obtain ⟨a0, a1, a2, a3, a4, b0, b1, b2, b3, b4⟩ := T6.out
            cases r with
            | false =>
              go_wp2_with fail
              refine (HV.out _).mono ?_
              rintro e W7 ⟨rfl, hb7⟩
              have T7 := Lib.hid (T6.out.keep hb7)
              have B7 := Lib.hid (below_next B6.out hb7)
              clear a0 a1 a2 a3 a4 b0 b1 b2 b3 b4 hb7
              obtain ⟨a0, a1, a2, a3, a4, b0, b1, b2, b3, b4⟩ := T7.out
              cases s with
              | false =>
                obtain rfl : mm = true := HMY.out
                clear HMY
                go_wp2
                go_ret
                exact ⟨rfl, below_next HBL.out B7.out⟩
              | true =>
                cases k2 with
                | true =>
                  obtain rfl : mm = true := HMY.out
                  clear HMY
                  go_wp2
                  go_ret
                  exact ⟨rfl, below_next HBL.out B7.out⟩
                | false =>
                  cases z2 with
                  | true =>
                    obtain rfl : mm = true := HMY.out
                    clear HMY
                    go_wp2
                    go_ret
                    exact ⟨rfl, below_next HBL.out B7.out⟩
                  | false =>
                    obtain rfl : mm = true := HMY.out
                    clear HMY
                    go_wp2
                    go_ret
                    exact ⟨rfl, below_next HBL.out B7.out⟩
            | true =>
              cases k1 with
              | true =>
                go_wp2_with fail
                refine (HV.out _).mono ?_
                rintro e W7 ⟨rfl, hb7⟩
                have T7 := Lib.hid (T6.out.keep hb7)
                have B7 := Lib.hid (below_next B6.out hb7)
                clear a0 a1 a2 a3 a4 b0 b1 b2 b3 b4 hb7
                obtain ⟨a0, a1, a2, a3, a4, b0, b1, b2, b3, b4⟩ := T7.out
                cases s with
                | false =>
                  obtain rfl : mm = true := HMY.out
                  clear HMY
                  go_wp2
                  go_ret
                  exact ⟨rfl, below_next HBL.out B7.out⟩
                | true =>
                  cases k2 with
                  | true =>
                    obtain rfl : mm = true := HMY.out
                    clear HMY
                    go_wp2
                    go_ret
                    exact ⟨rfl, below_next HBL.out B7.out⟩
                  | false =>
                    cases z2 with
                    | true =>
                      obtain rfl : mm = true := HMY.out
                      clear HMY
                      go_wp2
                      go_ret
                      exact ⟨rfl, below_next HBL.out B7.out⟩
                    | false =>
                      obtain rfl : mm = true := HMY.out
                      clear HMY
                      go_wp2
                      go_ret
                      exact ⟨rfl, below_next HBL.out B7.out⟩
              | false =>
                cases z1 with
                | true =>
                  go_wp2_with fail
                  refine (HV.out _).mono ?_
                  rintro e W7 ⟨rfl, hb7⟩
                  have T7 := Lib.hid (T6.out.keep hb7)
                  have B7 := Lib.hid (below_next B6.out hb7)
                  clear a0 a1 a2 a3 a4 b0 b1 b2 b3 b4 hb7
                  obtain ⟨a0, a1, a2, a3, a4, b0, b1, b2, b3, b4⟩ := T7.out
                  cases s with
                  | false =>
                    obtain rfl : mm = true := HMY.out
                    clear HMY
                    go_wp2
                    go_ret
                    exact ⟨rfl, below_next HBL.out B7.out⟩
                  | true =>
                    cases k2 with
                    | true =>
                      obtain rfl : mm = true := HMY.out
                      clear HMY
                      go_wp2
                      go_ret
                      exact ⟨rfl, below_next HBL.out B7.out⟩
                    | false =>
                      cases z2 with
                      | true =>
                        obtain rfl : mm = true := HMY.out
                        clear HMY
                        go_wp2
                        go_ret
                        exact ⟨rfl, below_next HBL.out B7.out⟩
                      | false =>
                        obtain rfl : mm = true := HMY.out
                        clear HMY
                        go_wp2
                        go_ret
                        exact ⟨rfl, below_next HBL.out B7.out⟩
                | false =>
                  go_wp2_with fail
                  refine (HV.out _).mono ?_
                  rintro e W7 ⟨rfl, hb7⟩
                  have T7 := Lib.hid (T6.out.keep hb7)
                  have B7 := Lib.hid (below_next B6.out hb7)
                  clear a0 a1 a2 a3 a4 b0 b1 b2 b3 b4 hb7
                  obtain ⟨a0, a1, a2, a3, a4, b0, b1, b2, b3, b4⟩ := T7.out
                  cases s with
                  | false =>
                    obtain rfl : mm = true := HMY.out
                    clear HMY
                    go_wp2
                    go_ret
                    exact ⟨rfl, below_next HBL.out B7.out⟩
                  | true =>
                    cases k2 with
                    | true =>
                      obtain rfl : mm = true := HMY.out
                      clear HMY
                      go_wp2
                      go_ret
                      exact ⟨rfl, below_next HBL.out B7.out⟩
                    | false =>
                      cases z2 with
                      | true =>
                        obtain rfl : mm = true := HMY.out
                        clear HMY
                        go_wp2
                        go_ret
                        exact ⟨rfl, below_next HBL.out B7.out⟩
                      | false =>
                        obtain rfl : mm = true := HMY.out
                        clear HMY
                        go_wp2
                        go_ret
                        exact ⟨rfl, below_next HBL.out B7.out⟩
  · have hl : (1048576 : Int) < len0 := by omega
    clear h w0
    go_enter Try.func4, Try.ntmps4
    go_wp2
    go_ret
    exact ⟨rfl, Below.refl _ _⟩


set_option maxRecDepth 100000 in
theorem lifted (os : Os) (started : os.Started) (H : Type) (enc : TypeId × Value → H) :
    ReturnsInHanded {} Try.checked os 4 .any (Rows.fnClashWhenSpec.pre6 enc Try.prog Try.f4 Rows.fnClashWhenRow.domain false) (Rows.fnClashWhenSpec.post enc Try.prog Try.f4 false true false false) := by
  refine returnsInHanded_of_change (C := Try.checked) own started (by kernel_rfl) Try.func4
    (ChangeSpec.witness6 (enc := enc) (C := Try.checked) false ⟨#[], #[.slice none 0 0], []⟩ 8 (by kernel_rfl) (by kernel_rfl) (by kernel_rfl) (by kernel_rfl)) ?_
  intro W base args ds gs before hval0 hW hcnd _
  have hval : ∀ (j : Nat) t v, Try.f4.params[j]? = some t → args[j]? = some v → Value.okWide Try.prog W .any base t v := hval0
  have hW' := hW
  obtain ⟨p, q, hA0, hV, rfl, hfz, hnd⟩ := hW
  have hA : DataW.TrodAll enc Try.prog W 0 (fun _ => true) true Try.f4.params.toList args.toList ds p := hA0
  rw [Try.params4] at hA hval
  obtain ⟨v0, vs0, d0, ds0, p0, q0, hargs, rfl, rfl, h0, r0⟩ := trodAll_cons hA
  obtain ⟨rfl, rfl, rfl⟩ := trodAll_nil r0
  obtain rfl : args = #[v0] := by cases args; simp_all
  obtain ⟨rfl, rfl⟩ := trodVars_none hV
  obtain ⟨a0, len0, cap0, rfl⟩ := okWide_slice Try.underlying22 (hval 0 22 v0 rfl rfl)
  have k0 := h0
  have lt0 : ∀ x ∈ p0, x.block < W.heap.size := by obtain ⟨m, hm⟩ := k0; exact DataW.trod_lt m _ _ _ hm
  obtain ⟨z0, w0⟩ : ∃ zs, IsRow .u8 W a0 len0 cap0 zs := by
    obtain ⟨fuel, hf⟩ := h0
    rcases open_ints Try.underlying22 Try.underlying5 (by kernel_rfl) hf with ⟨hcs, _⟩ | ⟨x, l, c, zs, hcs, _, hl, hm, hz, _, hcell, hwz⟩
    · simp [Value.cells] at hcs
      obtain ⟨rfl, rfl, rfl⟩ := hcs
      exact ⟨[], .inl ⟨rfl, rfl, rfl, rfl⟩⟩
    · simp [Value.cells] at hcs
      obtain ⟨rfl, rfl, rfl⟩ := hcs
      exact ⟨zs, .inr ⟨_, rfl, hl, hm, by simpa using hz, hcell, hwz⟩⟩
  clear hA0 hval0
  refine (walk a0 len0 cap0 z0 W w0).mono fun e W' ⟨he, bel⟩ => ?_
  subst he
  exact ⟨_, rfl, _, _, _, [], _, [], hW', trodAll_mk1 (shut_bool Try.underlying4 _), (trodAll_cons_mk (Below.trod laidOut (by kernel_rfl) (of_decide_eq_true (by kernel_rfl)) k0 bel lt0) trodAll_mk0), rfl, bel.frame _, fun h => by cases h⟩

theorem over : Rows.fnClashWhenRow.holds Try.pinned (OpenSpec.ofChange Rows.fnClashWhenSpec) :=
  OpenClaim.holds_of_wide 4 Try.f4 rfl rfl rfl rfl rfl rfl rfl ⟨rfl, rfl, rfl, rfl, rfl⟩ rfl rfl rfl rfl rfl (by kernel_rfl) Try.func4 (by kernel_rfl)
    (of_decide_eq_true (by kernel_rfl)) (by unfold Func.isWrapper; first | (rw [if_pos (by decide +kernel)]; kernel_rfl) | (rw [if_neg (by decide +kernel)]; exact ⟨rfl, rfl⟩))
    (fun os started H enc _ => lifted os started H enc)

theorem proved : Rows.FnClashWhenSaid := over
end Go.Proofs.Ytdkpabnpobpdhaa.fnClashWhen
