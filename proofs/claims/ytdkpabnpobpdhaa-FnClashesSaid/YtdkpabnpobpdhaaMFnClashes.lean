/-
  laws.FnClashes returns true for every input, and leaves its arguments as they were.
  Conditions: none.
-/
import Derived.Test.YtdkpabnpobpdhaaRows
import Derived.WalkKit
import Derived.ProofKit
import Derived.OpenShut
import Derived.ShutString
import Derived.ChangeOld
import Derived.Below
import Derived.Test.YtdkpabnpobpdhaaQ10
import Derived.Test.YtdkpabnpobpdhaaQ9
namespace Go.Proofs.Ytdkpabnpobpdhaa.fnClashes
open Go.ChangeShapes Go.WideShapes Go.ChangeAt Go.RowKit
open Go.ChangeMaps (open_string shut_string)
set_option linter.unusedVariables false

theorem own : ownKnob Try.prog.godebug = none := by kernel_rfl
theorem laidOut : laidOutB Try.prog = true := by kernel_rfl

theorem rowL_append (c : Cmd) (i : Nat) : ∀ (xs ys : List Cmd) (k : Nat), rowL c i (xs ++ ys) k = rowL c i xs k ++ rowL c i ys (k + xs.length)
  | [], ys, k => by simp [rowL]
  | d :: r, ys, k => by
    have ih := rowL_append c i r ys (k + 1)
    rw [show k + 1 + r.length = k + (d :: r).length by simp; omega] at ih
    show (if clashC c d = true then (i, k) :: rowL c i (r ++ ys) (k + 1) else rowL c i (r ++ ys) (k + 1)) = (if clashC c d = true then (i, k) :: rowL c i r (k + 1) else rowL c i r (k + 1)) ++ _
    rw [ih]
    split <;> simp
theorem rowsL_append (b : List Cmd) : ∀ (xs ys : List Cmd) (i : Nat), rowsL b (xs ++ ys) i = rowsL b xs i ++ rowsL b ys (i + xs.length)
  | [], ys, i => by simp [rowsL]
  | c :: r, ys, i => by
    have ih := rowsL_append b r ys (i + 1)
    rw [show i + 1 + r.length = i + (c :: r).length by simp; omega] at ih
    show rowL c i b 0 ++ rowsL b (r ++ ys) (i + 1) = (rowL c i b 0 ++ rowsL b r (i + 1)) ++ _
    rw [ih, List.append_assoc]
/-- How many conflicts a law has seen: those of the rows so far and of this row so far. -/
def seenL (us bs : List Cmd) (c : Cmd) (n m : Nat) : List Pr2 := rowsL bs (us.take n) 0 ++ rowL c n (bs.take m) 0
theorem seen_at {us bs : List Cmd} {c d : Cmd} {n m : Nat} (hc : us[n]? = some c) (hd : bs[m]? = some d) (hk : clashC c d = true) : (rowsL bs us 0)[(seenL us bs c n m).length]? = some (n, m) := by
  have e : rowsL bs us 0 = rowsL bs (us.take (n + 1)) 0 ++ rowsL bs (us.drop (n + 1)) (0 + (us.take (n + 1)).length) := by
    conv => lhs; rw [← List.take_append_drop (n + 1) us]
    exact rowsL_append bs _ _ 0
  have e2 : rowL c n bs 0 = rowL c n (bs.take (m + 1)) 0 ++ rowL c n (bs.drop (m + 1)) (0 + (bs.take (m + 1)).length) := by
    conv => lhs; rw [← List.take_append_drop (m + 1) bs]
    exact rowL_append c n _ _ 0
  rw [e, rows_take hc, e2, row_take hd, if_pos hk]
  unfold seenL
  rw [← List.append_assoc, ← List.append_assoc, List.append_assoc _ _ (rowsL bs _ _), List.append_assoc _ [(n, m)] _, List.getElem?_append_right (Nat.le_refl _), Nat.sub_self]
  rfl
theorem seen_in {us bs : List Cmd} {c d : Cmd} {n m : Nat} (hd : bs[m]? = some d) (hk : clashC c d = true) : (seenL us bs c n (m + 1)).length = (seenL us bs c n m).length + 1 := by
  unfold seenL
  rw [row_take hd, if_pos hk, List.length_append, List.length_append, List.length_append]
  simp only [List.length_singleton]
  omega
theorem seen_out {us bs : List Cmd} {c d : Cmd} {n m : Nat} (hd : bs[m]? = some d) (hk : clashC c d = false) : (seenL us bs c n (m + 1)).length = (seenL us bs c n m).length := by
  unfold seenL
  rw [row_take hd, if_neg (by rw [hk]; exact Bool.false_ne_true), List.append_nil]
theorem seen_zero {us bs : List Cmd} {c : Cmd} {n : Nat} : (seenL us bs c n 0).length = (rowsL bs (us.take n) 0).length := by
  unfold seenL
  rw [List.take_zero]
  simp [rowL]
theorem seen_row {us bs : List Cmd} {c : Cmd} {n m : Nat} (hc : us[n]? = some c) (hm : bs.length ≤ m) : (seenL us bs c n m).length = (rowsL bs (us.take (n + 1)) 0).length := by
  unfold seenL
  rw [List.take_of_length_le hm, rows_take hc]
theorem canon_valid {cs : List Cmd} (h : canonV cs = true) {c : Cmd} (hc : c ∈ cs) : validC c = true :=
  ((validL_iff cs).1 (canonV_iff.1 h).2.2).1 c hc

theorem clash_len (a b : List Cmd) (h1 : a.length ≤ 21) (h2 : b.length ≤ 21) : (clashesL a b).length ≤ 441 := by
  unfold clashesL
  split
  · have h := rowsL_le b a 0
    have k : a.length * b.length ≤ 21 * 21 := Nat.mul_le_mul h1 h2
    omega
  · simp

set_option maxHeartbeats 4000000 in
set_option maxRecDepth 100000 in
theorem walk (a0 : Option Addr) (len0 cap0 : Nat) (z0 : List Int) (w : World) (w0 : IsRow .u8 w a0 len0 cap0 z0) :
    Calls Try.prog 6 #[.slice a0 len0 cap0] w fun e w' => e = .returned (.bool true) ∧ Below w.heap.size w w' := by
  by_cases h : len0 ≤ 1048576
  · have hl : (len0 : Int) ≤ 1048576 := by omega
    have HD := Lib.hid (drawClashesOf_c a0 len0 cap0 z0 w w0)
    clear h w0
    go_enter Try.func6, Try.ntmps6
    go_wp2_with fail
    refine HD.out.mono ?_
    rintro e W1 ⟨v1, us, v2, bs, rfl, o1, l1, s1, o2, l2, s2, hB⟩
    obtain ⟨a, c1, rfl, hA⟩ := cmds_of_own o1
    obtain ⟨b, c2, rfl, hBB⟩ := cmds_of_own o2
    have HBL := Lib.hid hB
    obtain ⟨cl, hcl⟩ : ∃ cl, clashesL us bs = cl := ⟨_, rfl⟩
    obtain ⟨u, hu⟩ : ∃ u, canonV us = u := ⟨_, rfl⟩
    obtain ⟨v, hv⟩ : ∃ v, canonV bs = v := ⟨_, rfl⟩
    have HI := Lib.hid (show Calls Try.prog 21 #[.slice a us.length c1, .slice b bs.length c2] W1 (ClashPost cl W1) by rw [← hcl]; exact implClashes_c a us.length c1 us b bs.length c2 bs (by omega) (by omega) (s1.mono (by omega)) (s2.mono (by omega)) W1 hA hBB)
    have HS := Lib.hid (fun W' (hb : Below W1.heap.size W1 W') => show Calls Try.prog 22 #[.slice a us.length c1, .slice b bs.length c2] W' (ClashPost cl W') by rw [← hcl]; exact specClashes_c a us.length c1 us b bs.length c2 bs (by omega) (by omega) (s1.mono (by omega)) (s2.mono (by omega)) W' (hA.keep hb) (hBB.keep hb))
    have HU := Lib.hid (fun W' (hb : Below W1.heap.size W1 W') => show Calls Try.prog 24 #[.slice a us.length c1] W' (BoolPost u W') by rw [← hu]; exact specCanonValid_c a us.length c1 us (by omega) (s1.mono (by omega)) W' (hA.keep hb))
    have HV := Lib.hid (fun W' (hb : Below W1.heap.size W1 W') => show Calls Try.prog 24 #[.slice b bs.length c2] W' (BoolPost v W') by rw [← hv]; exact specCanonValid_c b bs.length c2 bs (by omega) (s2.mono (by omega)) W' (hBB.keep hb))
    have HNS := Lib.hid (show u = true → v = true → cl = rowsL bs us 0 ∧ ∀ c d : Cmd, c ∈ us → d ∈ bs → clashP c d = clashC c d by
      intro h1 h2
      have hok : okL us bs = true := by unfold okL; rw [hu, hv, h1, h2]; rfl
      refine ⟨by rw [← hcl]; unfold clashesL; rw [if_pos hok], fun c d hc hd => ?_⟩
      unfold clashP
      rw [canon_valid (hu.trans h1) hc, canon_valid (hv.trans h2) hd]
      rfl)
    have HAS := Lib.hid hA
    have HBS := Lib.hid hBB
    have HS1 := Lib.hid s1
    have HS2 := Lib.hid s2
    have HL := Lib.hid (show cl.length ≤ 441 by rw [← hcl]; exact clash_len us bs l1 l2)
    have HLL := Lib.hid (And.intro l1 l2)
    clear o1 l1 s1 o2 l2 s2 hB hA hBB hcl hu hv
    go_wp2_with fail
    refine HI.out.mono ?_
    rintro e W2 ⟨⟨v3, rfl, o3⟩, hb2⟩
    obtain ⟨a3, c3, rfl, h3⟩ := clash_of_own o3
    have B2 := Lib.hid hb2
    have HN2 := Lib.hid h3
    clear o3 h3 hb2
    go_wp2_with fail
    refine (HS.out _ B2.out).mono ?_
    rintro e W3 ⟨⟨v4, rfl, o4⟩, hb3⟩
    obtain ⟨a4, c4, rfl, h4⟩ := clash_of_own o4
    have B3 := Lib.hid (below_next B2.out hb3)
    have HN3 := Lib.hid (HN2.out.keep hb3)
    have HSL := Lib.hid (fun W' (hb : Below W3.heap.size W3 W') => sameClashes_c a3 a4 cl.length c3 c4 cl (by have := HL.out; omega) W' ((HN2.out.keep hb3).keep hb) (h4.keep hb))
    have hL : (cl.length : Int) ≤ 441 := by have := HL.out; omega
    clear o4
    go_wp2_with fail
    refine (HSL.out _ (Below.refl _ _)).mono ?_
    rintro e W4 ⟨rfl, hb4⟩
    have X4 := Lib.hid hb4
    clear hb4
    go_wp2_with fail
    refine (HU.out _ (below_next B3.out X4.out)).mono ?_
    rintro e W5 ⟨rfl, hb5⟩
    have X5 := Lib.hid (below_next X4.out hb5)
    clear hb5
    cases u with
    | false =>
      go_wp2_with fail
      refine (HSL.out _ X5.out).mono ?_
      rintro e W6 ⟨rfl, hb6⟩
      have X6 := Lib.hid (below_next X5.out hb6)
      clear hb6
      go_wp2
      go_ret
      exact ⟨rfl, below_next HBL.out (below_next B3.out X6.out)⟩
    | true =>
      go_wp2_with fail
      refine (HV.out _ (below_next B3.out X5.out)).mono ?_
      rintro e W6 ⟨rfl, hb6⟩
      have X6 := Lib.hid (below_next X5.out hb6)
      clear hb6
      cases v with
      | false =>
        go_wp2_with fail
        refine (HSL.out _ X6.out).mono ?_
        rintro e W7 ⟨rfl, hb7⟩
        have X7 := Lib.hid (below_next X6.out hb7)
        clear hb7
        go_wp2
        go_ret
        exact ⟨rfl, below_next HBL.out (below_next B3.out X7.out)⟩
      | true =>
        have HF := Lib.hid (HNS.out (by first | rfl | trivial) (by first | rfl | trivial))
        have N3 := Lib.hid (HN3.out.keep X6.out)
        have NA := Lib.hid (HAS.out.keep (below_next B3.out X6.out))
        have NB := Lib.hid (HBS.out.keep (below_next B3.out X6.out))
        have hal : (us.length : Int) ≤ 21 := by have := HLL.out; omega
        have hbl : (bs.length : Int) ≤ 21 := by have := HLL.out; omega
        go_wp2_with fail
        go_loopw [7, 8, 9] (fun o i _ wr => ∃ n : Nat, i = .int .i64 n ∧ n ≤ us.length ∧ o = .int .i64 ((rowsL bs (us.take n) 0).length : Nat) ∧ Hid (Below W6.heap.size W6 wr)) (fun _ i _ _ => us.length - (intOf i).toNat)
        case atStart => exact ⟨0, rfl, Nat.zero_le _, rfl, Lib.hid (Below.refl _ _)⟩
        case round =>
          obtain ⟨n, rfl, hn, rfl, HB⟩ := hrel
          by_cases hlt : n < us.length
          · have hlt' : (n : Int) < us.length := by omega
            have hw1 : IntKind.i64.wrap ((n : Int) + 1) = (n : Int) + 1 := IntWalk.i64_in _ (by omega)
            have HW := Lib.hid hw1
            have HLT := Lib.hid hlt
            obtain ⟨c, hc⟩ : ∃ c, us[n]? = some c := ⟨_, List.getElem?_eq_getElem hlt⟩
            have HC := Lib.hid hc
            have HZ := Lib.hid (seen_zero (us := us) (bs := bs) (c := c) (n := n))
            clear hn hlt hc
            go_wp2_with fail
            go_loopw [7, 9] (fun o k wr => ∃ m : Nat, k = .int .i64 m ∧ m ≤ bs.length ∧ o = .int .i64 ((seenL us bs c n m).length : Nat) ∧ Hid (Below W6.heap.size W6 wr)) (fun _ k _ => bs.length - (intOf k).toNat)
            case atStart => exact ⟨0, rfl, Nat.zero_le _, by rw [HZ.out], HB⟩
            case round =>
              obtain ⟨m, rfl, hm, rfl, HBI⟩ := hrel
              by_cases hmt : m < bs.length
              · have hmt' : (m : Int) < bs.length := by omega
                have hwm : IntKind.i64.wrap ((m : Int) + 1) = (m : Int) + 1 := IntWalk.i64_in _ (by omega)
                have HWM := Lib.hid hwm
                have HMT := Lib.hid hmt
                obtain ⟨g, off, c2, rfl, hc2, c0, c1', c2', c3', c4'⟩ := (NA.out.keep HBI.out).node (i := n) HLT.out
                obtain ⟨g2, off2, d, rfl, hd, e0, e1, e2, e3, e4⟩ := (NB.out.keep HBI.out).node hmt
                obtain rfl := Option.some.inj (HC.out.symm.trans hc2)
                have HD := Lib.hid hd
                obtain ⟨mm, hmm⟩ : ∃ mm, clashC c d = mm := ⟨_, rfl⟩
                have HMM := Lib.hid hmm
                have HMC := Lib.hid (fun w => show Calls Try.prog 14 #[cmdV c, cmdV d] w (BoolPost mm w) by
                  rw [← hmm, ← HF.out.2 c d (List.mem_of_getElem? hc2) (List.mem_of_getElem? hd)]
                  exact implCommandsClash_c c d (by have := HS1.out c (List.mem_of_getElem? hc2); omega) (by have := HS2.out d (List.mem_of_getElem? hd); omega) w)
                obtain ⟨cc, hcc⟩ : ∃ x, c = x := ⟨_, rfl⟩
                obtain ⟨dd, hdd⟩ : ∃ x, d = x := ⟨_, rfl⟩
                have HCC := Lib.hid hcc
                have HDD := Lib.hid hdd
                obtain ⟨ct, hct⟩ : ∃ ct, (seenL us bs c n m).length = ct := ⟨_, rfl⟩
                have HCT := Lib.hid hct
                rw [hct]
                have HSI := Lib.hid (fun (h : mm = true) => seen_in (us := us) (bs := bs) (c := c) (n := n) hd (hmm.trans h))
                have HSO := Lib.hid (fun (h : mm = false) => seen_out (us := us) (bs := bs) (c := c) (n := n) hd (hmm.trans h))
                have HAT := Lib.hid (fun (h : mm = true) => seen_at hc2 hd (hmm.trans h))
                obtain ⟨p, fk, fv, tk, tv⟩ := c
                obtain ⟨p2, gk, gv, uk, uv⟩ := d
                unfold cmdV at HMC
                simp only at c0 c1' c2' c3' c4' e0 e1 e2 e3 e4 HMC
                clear hm hmt hc2 hd hmm hcc hdd hct
                have HS0 := Lib.hid (show wr.drew.cell? ⟨g, off + n * 5, none⟩ = some (.string p) ∧ wr.drew.cell? ⟨g, off + n * 5 + 1, none⟩ = some (.int .i64 fk) ∧ wr.drew.cell? ⟨g, off + n * 5 + 2, none⟩ = some (.int .i64 fv) ∧ wr.drew.cell? ⟨g, off + n * 5 + 3, none⟩ = some (.int .i64 tk) ∧ wr.drew.cell? ⟨g, off + n * 5 + 4, none⟩ = some (.int .i64 tv) ∧ wr.drew.cell? ⟨g2, off2 + m * 5, none⟩ = some (.string p2) ∧ wr.drew.cell? ⟨g2, off2 + m * 5 + 1, none⟩ = some (.int .i64 gk) ∧ wr.drew.cell? ⟨g2, off2 + m * 5 + 2, none⟩ = some (.int .i64 gv) ∧ wr.drew.cell? ⟨g2, off2 + m * 5 + 3, none⟩ = some (.int .i64 uk) ∧ wr.drew.cell? ⟨g2, off2 + m * 5 + 4, none⟩ = some (.int .i64 uv) ∧ Below W6.heap.size W6 wr.drew from ⟨c0, c1', c2', c3', c4', e0, e1, e2, e3, e4, HBI.out.drew⟩)
                have HKP := Lib.hid (fun (u1 u2 : World) (h : u1.cell? ⟨g, off + n * 5, none⟩ = some (.string p) ∧ u1.cell? ⟨g, off + n * 5 + 1, none⟩ = some (.int .i64 fk) ∧ u1.cell? ⟨g, off + n * 5 + 2, none⟩ = some (.int .i64 fv) ∧ u1.cell? ⟨g, off + n * 5 + 3, none⟩ = some (.int .i64 tk) ∧ u1.cell? ⟨g, off + n * 5 + 4, none⟩ = some (.int .i64 tv) ∧ u1.cell? ⟨g2, off2 + m * 5, none⟩ = some (.string p2) ∧ u1.cell? ⟨g2, off2 + m * 5 + 1, none⟩ = some (.int .i64 gk) ∧ u1.cell? ⟨g2, off2 + m * 5 + 2, none⟩ = some (.int .i64 gv) ∧ u1.cell? ⟨g2, off2 + m * 5 + 3, none⟩ = some (.int .i64 uk) ∧ u1.cell? ⟨g2, off2 + m * 5 + 4, none⟩ = some (.int .i64 uv) ∧ Below W6.heap.size W6 u1) (hb : Below u1.heap.size u1 u2) => show u2.cell? ⟨g, off + n * 5, none⟩ = some (.string p) ∧ u2.cell? ⟨g, off + n * 5 + 1, none⟩ = some (.int .i64 fk) ∧ u2.cell? ⟨g, off + n * 5 + 2, none⟩ = some (.int .i64 fv) ∧ u2.cell? ⟨g, off + n * 5 + 3, none⟩ = some (.int .i64 tk) ∧ u2.cell? ⟨g, off + n * 5 + 4, none⟩ = some (.int .i64 tv) ∧ u2.cell? ⟨g2, off2 + m * 5, none⟩ = some (.string p2) ∧ u2.cell? ⟨g2, off2 + m * 5 + 1, none⟩ = some (.int .i64 gk) ∧ u2.cell? ⟨g2, off2 + m * 5 + 2, none⟩ = some (.int .i64 gv) ∧ u2.cell? ⟨g2, off2 + m * 5 + 3, none⟩ = some (.int .i64 uk) ∧ u2.cell? ⟨g2, off2 + m * 5 + 4, none⟩ = some (.int .i64 uv) ∧ Below W6.heap.size W6 u2 from ⟨cell_kept hb h.1, cell_kept hb h.2.1, cell_kept hb h.2.2.1, cell_kept hb h.2.2.2.1, cell_kept hb h.2.2.2.2.1, cell_kept hb h.2.2.2.2.2.1, cell_kept hb h.2.2.2.2.2.2.1, cell_kept hb h.2.2.2.2.2.2.2.1, cell_kept hb h.2.2.2.2.2.2.2.2.1, cell_kept hb h.2.2.2.2.2.2.2.2.2.1, below_next h.2.2.2.2.2.2.2.2.2.2 hb⟩)
                clear c0 c1' c2' c3' c4' e0 e1 e2 e3 e4
                go_upto_region 14 with (fail)
                go_region_held3 (fun w' => w'.cell? ⟨g, off + n * 5, none⟩ = some (.string p) ∧ w'.cell? ⟨g, off + n * 5 + 1, none⟩ = some (.int .i64 fk) ∧ w'.cell? ⟨g, off + n * 5 + 2, none⟩ = some (.int .i64 fv) ∧ w'.cell? ⟨g, off + n * 5 + 3, none⟩ = some (.int .i64 tk) ∧ w'.cell? ⟨g, off + n * 5 + 4, none⟩ = some (.int .i64 tv) ∧ w'.cell? ⟨g2, off2 + m * 5, none⟩ = some (.string p2) ∧ w'.cell? ⟨g2, off2 + m * 5 + 1, none⟩ = some (.int .i64 gk) ∧ w'.cell? ⟨g2, off2 + m * 5 + 2, none⟩ = some (.int .i64 gv) ∧ w'.cell? ⟨g2, off2 + m * 5 + 3, none⟩ = some (.int .i64 uk) ∧ w'.cell? ⟨g2, off2 + m * 5 + 4, none⟩ = some (.int .i64 uv) ∧ Below W6.heap.size W6 w')
                  (first | exact HS0.out | exact HKP.out _ _ HS0.out hb7)
                  (first | (go_at_call 14; (with_reducible refine (HMC.out _).mono ?_); rintro e W7 ⟨rfl, hb7⟩))
                rename_i hS
                have HB9 := Lib.hid hS.2.2.2.2.2.2.2.2.2.2
                clear hS
                cases mm with
                | false =>
                  have HSQ := Lib.hid (HSO.out (by first | rfl | trivial))
                  clear HSO HSI HAT
                  go_wp2
                  go_roundw
                  case rel => exact ⟨m + 1, by go_num, HMT.out, by rw [HSQ.out, HCT.out], HB9⟩
                  case measure => have := HMT.out; simp [intOf]; omega
                | true =>
                  have HSQ := Lib.hid (HSI.out (by first | rfl | trivial))
                  have hat := HAT.out (by first | rfl | trivial)
                  rw [HCT.out, ← HF.out.1] at hat
                  clear HSO HSI HAT
                  have hcl : ct < cl.length := (List.getElem?_eq_some_iff.1 hat).1
                  have hcl' : (ct : Int) < cl.length := by omega
                  have hL2 : (cl.length : Int) ≤ 441 := by have := HL.out; omega
                  have hwc : IntKind.i64.wrap ((ct : Int) + 1) = (ct : Int) + 1 := IntWalk.i64_in _ (by omega)
                  obtain ⟨g3, off3, x, hv, hx, d0, d1⟩ := (N3.out.keep HB9.out).node hcl
                  subst hv
                  obtain rfl := Option.some.inj (hat.symm.trans hx)
                  simp only at d0 d1
                  have hnge : ¬ ((cl.length : Int) ≤ (ct : Int)) := by omega
                  have hdec : decide ((cl.length : Int) ≤ (ct : Int)) = false := decide_eq_false hnge
                  have hct0 : (0 : Int) ≤ ct := by omega
                  have hnn : ((n : Int) != (n : Int)) = false := by simp
                  have hmm2 : ((m : Int) != (m : Int)) = false := by simp
                  clear hx hat hcl
                  go_wp2
                  go_roundw
                  case rel => exact ⟨m + 1, by go_num, HMT.out, by rw [HSQ.out, HCT.out]; go_num, HB9⟩
                  case measure => have := HMT.out; simp [intOf]; omega
              · have hge : (bs.length : Int) ≤ m := by omega
                have HSR := Lib.hid (seen_row (us := us) (bs := bs) (c := c) (n := n) HC.out (show bs.length ≤ m by omega))
                have hw1 := HW.out
                clear hm hmt
                go_wp2
                go_roundw
                case rel => exact ⟨n + 1, by go_num, HLT.out, by rw [HSR.out], HBI⟩
                case measure => have := HLT.out; simp [intOf]; omega
          · have hge : (us.length : Int) ≤ n := by omega
            have hcnt : (rowsL bs (us.take n) 0).length = cl.length := by rw [HF.out.1, List.take_of_length_le (by omega)]
            rw [hcnt]
            have hbe : ((cl.length : Int) == (cl.length : Int)) = true := by simp
            clear hn hlt hcnt
            go_wp2
            go_ret
            exact ⟨rfl, below_next HBL.out (below_next (below_next B3.out X6.out) HB.out)⟩
  · have hl : (1048576 : Int) < len0 := by omega
    clear h w0
    go_enter Try.func6, Try.ntmps6
    go_wp2
    go_ret
    exact ⟨rfl, Below.refl _ _⟩




set_option maxRecDepth 100000 in
theorem lifted (os : Os) (started : os.Started) (H : Type) (enc : TypeId × Value → H) :
    ReturnsInHanded {} Try.checked os 6 .any (Rows.fnClashesSpec.pre6 enc Try.prog Try.f6 Rows.fnClashesRow.domain false) (Rows.fnClashesSpec.post enc Try.prog Try.f6 false true false false) := by
  refine returnsInHanded_of_change (C := Try.checked) own started (by kernel_rfl) Try.func6
    (ChangeSpec.witness6 (enc := enc) (C := Try.checked) false ⟨#[], #[.slice none 0 0], []⟩ 8 (by kernel_rfl) (by kernel_rfl) (by kernel_rfl) (by kernel_rfl)) ?_
  intro W base args ds gs before hval0 hW hcnd _
  have hval : ∀ (j : Nat) t v, Try.f6.params[j]? = some t → args[j]? = some v → Value.okWide Try.prog W .any base t v := hval0
  have hW' := hW
  obtain ⟨p, q, hA0, hV, rfl, hfz, hnd⟩ := hW
  have hA : DataW.TrodAll enc Try.prog W 0 (fun _ => true) true Try.f6.params.toList args.toList ds p := hA0
  rw [Try.params6] at hA hval
  obtain ⟨v0, vs0, d0, ds0, p0, q0, hargs, rfl, rfl, h0, r0⟩ := trodAll_cons hA
  obtain ⟨rfl, rfl, rfl⟩ := trodAll_nil r0
  obtain rfl : args = #[v0] := by cases args; simp_all
  obtain ⟨rfl, rfl⟩ := trodVars_none hV
  obtain ⟨a0, len0, cap0, rfl⟩ := okWide_slice Try.underlying22 (hval 0 22 v0 rfl rfl)
  have k0 := h0
  have lt0 : ∀ x ∈ p0, x.block < W.heap.size := by obtain ⟨m, hm⟩ := k0; exact DataW.trod_lt m _ _ _ hm
  obtain ⟨z0, w0⟩ : ∃ zs, IsRow .u8 W a0 len0 cap0 zs := by
    obtain ⟨fuel, hf⟩ := h0
    rcases open_ints Try.underlying22 Try.underlying5 (by kernel_rfl) hf with ⟨hcs, _⟩ | ⟨x, l, c, zs, hcs, _, hl, hm, hz, _, hcell, hwz⟩
    · simp [Value.cells] at hcs
      obtain ⟨rfl, rfl, rfl⟩ := hcs
      exact ⟨[], .inl ⟨rfl, rfl, rfl, rfl⟩⟩
    · simp [Value.cells] at hcs
      obtain ⟨rfl, rfl, rfl⟩ := hcs
      exact ⟨zs, .inr ⟨_, rfl, hl, hm, by simpa using hz, hcell, hwz⟩⟩
  clear hA0 hval0
  refine (walk a0 len0 cap0 z0 W w0).mono fun e W' ⟨he, bel⟩ => ?_
  subst he
  exact ⟨_, rfl, _, _, _, [], _, [], hW', trodAll_mk1 (shut_bool Try.underlying4 _), (trodAll_cons_mk (Below.trod laidOut (by kernel_rfl) (of_decide_eq_true (by kernel_rfl)) k0 bel lt0) trodAll_mk0), rfl, bel.frame _, fun h => by cases h⟩

theorem over : Rows.fnClashesRow.holds Try.pinned (OpenSpec.ofChange Rows.fnClashesSpec) :=
  OpenClaim.holds_of_wide 6 Try.f6 rfl rfl rfl rfl rfl rfl rfl ⟨rfl, rfl, rfl, rfl, rfl⟩ rfl rfl rfl rfl rfl (by kernel_rfl) Try.func6 (by kernel_rfl)
    (of_decide_eq_true (by kernel_rfl)) (by unfold Func.isWrapper; first | (rw [if_pos (by decide +kernel)]; kernel_rfl) | (rw [if_neg (by decide +kernel)]; exact ⟨rfl, rfl⟩))
    (fun os started H enc _ => lifted os started H enc)

theorem proved : Rows.FnClashesSaid := over
end Go.Proofs.Ytdkpabnpobpdhaa.fnClashes
