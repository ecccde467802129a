/-
  laws.FnSafe returns true for every input, and leaves its arguments as they were.
  Conditions: none.
-/
import Derived.Test.YtdkpabnpobpdhaaGreatRows
import Derived.Deep.RegionHeld3
import Derived.Laws.StructEq
import Derived.Deep.QuietTactic
import Derived.WalkKit
import Derived.ProofKit
import Derived.OpenShut
import Derived.ShutString
import Derived.ChangeOld
import Derived.Below
import Derived.Test.YtdkpabnpobpdhaaGreatQ10
import Derived.Test.YtdkpabnpobpdhaaGreatQ7
import Derived.Test.YtdkpabnpobpdhaaGreatQ8
import Derived.Test.YtdkpabnpobpdhaaGreatQ9
namespace Go.Proofs.YtdkpabnpobpdhaaGreat.fnSafe
open Go.ChangeShapes Go.WideShapes Go.ChangeAt Go.RowKit
open Go.ChangeMaps (open_string shut_string)
set_option linter.unusedVariables false

theorem own : ownKnob Tryz.prog.godebug = none := by kernel_rfl
theorem laidOut : laidOutB Tryz.prog = true := by kernel_rfl

theorem safe_len (a b : List Cmd) : (safeL a b).length ≤ b.length := by
  unfold safeL
  split
  · exact List.length_filter_le _ _
  · simp
/-- Whether one of the first m commands of a log is in conflict with a command. -/
def anyS (us : List Cmd) (m : Nat) (d : Cmd) : Bool := (us.take m).any (fun c => clashC c d)
theorem any_stepS {us : List Cmd} {m : Nat} {c d : Cmd} (h : us[m]? = some c) : anyS us (m + 1) d = (anyS us m d || clashC c d) := by
  unfold anyS
  rw [List.take_add_one, h, List.any_append]
  simp
theorem any_endS {us : List Cmd} {m : Nat} (d : Cmd) (hm : us.length ≤ m) : anyS us m d = someC us d := by
  unfold anyS
  rw [List.take_of_length_le hm]
  rfl
theorem filter_at {f : Cmd → Bool} {cs : List Cmd} {m : Nat} {d : Cmd} (h : cs[m]? = some d) (hf : f d = true) : (cs.filter f)[((cs.take m).filter f).length]? = some d := by
  have e : cs = cs.take m ++ (d :: cs.drop (m + 1)) := by
    have hk := (List.getElem?_eq_some_iff.1 h)
    conv => lhs; rw [← List.take_append_drop m cs]
    rw [List.drop_eq_getElem_cons hk.1, hk.2]
  have e2 : cs.filter f = (cs.take m).filter f ++ (d :: (cs.drop (m + 1)).filter f) := by
    conv => lhs; rw [e]
    rw [List.filter_append, List.filter_cons, if_pos hf]
  rw [e2, List.getElem?_append_right (Nat.le_refl _), Nat.sub_self]
  rfl
theorem canon_valid {cs : List Cmd} (h : canonV cs = true) {c : Cmd} (hc : c ∈ cs) : validC c = true :=
  ((validL_iff cs).1 (canonV_iff.1 h).2.2).1 c hc
theorem filter_all {f : Cmd → Bool} {cs : List Cmd} {m : Nat} (h : cs.length ≤ m) : (cs.take m).filter f = cs.filter f := by rw [List.take_of_length_le h]

set_option maxHeartbeats 4000000 in
set_option maxRecDepth 100000 in
theorem walk (a0 : Option Addr) (len0 cap0 : Nat) (z0 : List Int) (w : World) (w0 : IsRow .u8 w a0 len0 cap0 z0) :
    Calls Tryz.prog 3 #[.slice a0 len0 cap0] w fun e w' => e = .returned (.bool true) ∧ Below w.heap.size w w' := by
  by_cases h : len0 ≤ 1048576
  · have hl : (len0 : Int) ≤ 1048576 := by omega
    have HD := Lib.hid (drawSafeOf_c a0 len0 cap0 z0 w w0)
    clear h w0
    go_enter Tryz.func3, Tryz.ntmps3
    go_wp2_with fail
    refine HD.out.mono ?_
    rintro e W1 ⟨v1, us, v2, bs, rfl, o1, l1, s1, o2, l2, s2, hB⟩
    obtain ⟨a, c1, rfl, hA⟩ := cmds_of_own o1
    obtain ⟨b, c2, rfl, hBB⟩ := cmds_of_own o2
    have HBL := Lib.hid hB
    obtain ⟨cl, hcl⟩ : ∃ cl, safeL us bs = cl := ⟨_, rfl⟩
    obtain ⟨u, hu⟩ : ∃ u, canonV us = u := ⟨_, rfl⟩
    obtain ⟨v, hv⟩ : ∃ v, canonV bs = v := ⟨_, rfl⟩
    have HI := Lib.hid (show Calls Tryz.prog 9 #[.slice a us.length c1, .slice b bs.length c2] W1 (CmdsPost cl W1) by rw [← hcl]; exact implSafe_c a us.length c1 us b bs.length c2 bs (by omega) (by omega) (s1.mono (by omega)) (s2.mono (by omega)) W1 hA hBB)
    have HS := Lib.hid (fun W' (hb : Below W1.heap.size W1 W') => show Calls Tryz.prog 10 #[.slice a us.length c1, .slice b bs.length c2] W' (CmdsPost cl W') by rw [← hcl]; exact specSafe_c a us.length c1 us b bs.length c2 bs (by omega) (by omega) (s1.mono (by omega)) (s2.mono (by omega)) W' (hA.keep hb) (hBB.keep hb))
    have HU := Lib.hid (fun W' (hb : Below W1.heap.size W1 W') => show Calls Tryz.prog 12 #[.slice a us.length c1] W' (BoolPost u W') by rw [← hu]; exact specCanonValid_c a us.length c1 us (by omega) (s1.mono (by omega)) W' (hA.keep hb))
    have HV := Lib.hid (fun W' (hb : Below W1.heap.size W1 W') => show Calls Tryz.prog 12 #[.slice b bs.length c2] W' (BoolPost v W') by rw [← hv]; exact specCanonValid_c b bs.length c2 bs (by omega) (s2.mono (by omega)) W' (hBB.keep hb))
    obtain ⟨f, hf⟩ : ∃ f : Cmd → Bool, f = (fun d => !someC us d && !hasC us d) := ⟨_, rfl⟩
    have HFD := Lib.hid (fun d => congrFun hf d)
    have HNS := Lib.hid (show u = true → v = true → cl = bs.filter f ∧ ∀ c d : Cmd, c ∈ us → d ∈ bs → clashP c d = clashC c d by
      intro h1 h2
      have hok : okL us bs = true := by unfold okL; rw [hu, hv, h1, h2]; rfl
      rw [← hcl, hf]
      refine ⟨by unfold safeL; rw [if_pos hok], fun c d hc hd => ?_⟩
      unfold clashP
      rw [canon_valid (hu.trans h1) hc, canon_valid (hv.trans h2) hd]
      rfl)
    have HL := Lib.hid (show cl.length ≤ 21 by
      rw [← hcl]
      have k1 := safe_len us bs
      omega)
    have HCV := Lib.hid (show canonV cl = true by rw [← hcl]; exact safe_canon us bs)
    have HSS := Lib.hid (show ShortC 66 cl from fun x hx => by
      rw [← hcl] at hx
      unfold safeL at hx
      split at hx
      · exact s2 x (List.mem_filter.1 hx).1
      · cases hx)
    have HAS := Lib.hid hA
    have HBS := Lib.hid hBB
    have HS1 := Lib.hid s1
    have HS2 := Lib.hid s2
    clear hf
    have HLL := Lib.hid (And.intro l1 l2)
    clear o1 l1 s1 o2 l2 s2 hB hA hBB hcl hu hv
    go_wp2_with fail
    refine HI.out.mono ?_
    rintro e W2 ⟨⟨v3, rfl, o3⟩, hb2⟩
    obtain ⟨a3, c3, rfl, h3⟩ := cmds_of_own o3
    have B2 := Lib.hid hb2
    have HN2 := Lib.hid h3
    clear o3 h3 hb2
    go_wp2_with fail
    refine (HS.out _ B2.out).mono ?_
    rintro e W3 ⟨⟨v4, rfl, o4⟩, hb3⟩
    obtain ⟨a4, c4, rfl, h4⟩ := cmds_of_own o4
    have B3 := Lib.hid (below_next B2.out hb3)
    have HN3 := Lib.hid (HN2.out.keep hb3)
    have HSL := Lib.hid (fun W' (hb : Below W3.heap.size W3 W') => sameLog_c a3 a4 cl.length c3 c4 cl (by have := HL.out; omega) W' ((HN2.out.keep hb3).keep hb) (h4.keep hb))
    have hL : (cl.length : Int) ≤ 441 := by have := HL.out; omega
    clear o4
    go_wp2_with fail
    refine (HSL.out _ (Below.refl _ _)).mono ?_
    rintro e W4 ⟨rfl, hb4⟩
    have X4 := Lib.hid hb4
    clear hb4
    go_wp2_with fail
    refine (HU.out _ (below_next B3.out X4.out)).mono ?_
    rintro e W5 ⟨rfl, hb5⟩
    have X5 := Lib.hid (below_next X4.out hb5)
    clear hb5
    cases u with
    | false =>
      go_wp2_with fail
      refine (HSL.out _ X5.out).mono ?_
      rintro e W6 ⟨rfl, hb6⟩
      have X6 := Lib.hid (below_next X5.out hb6)
      clear hb6
      go_wp2
      go_ret
      exact ⟨rfl, below_next HBL.out (below_next B3.out X6.out)⟩
    | true =>
      go_wp2_with fail
      refine (HV.out _ (below_next B3.out X5.out)).mono ?_
      rintro e W6 ⟨rfl, hb6⟩
      have X6 := Lib.hid (below_next X5.out hb6)
      clear hb6
      cases v with
      | false =>
        go_wp2_with fail
        refine (HSL.out _ X6.out).mono ?_
        rintro e W7 ⟨rfl, hb7⟩
        have X7 := Lib.hid (below_next X6.out hb7)
        clear hb7
        go_wp2
        go_ret
        exact ⟨rfl, below_next HBL.out (below_next B3.out X7.out)⟩
      | true =>
        have HF := Lib.hid (HNS.out (by first | rfl | trivial) (by first | rfl | trivial))
        have N3 := Lib.hid (HN3.out.keep X6.out)
        have NA := Lib.hid (HAS.out.keep (below_next B3.out X6.out))
        have NB := Lib.hid (HBS.out.keep (below_next B3.out X6.out))
        have hal : (us.length : Int) ≤ 21 := by have := HLL.out; omega
        have hbl : (bs.length : Int) ≤ 21 := by have := HLL.out; omega
        have hL2 : (cl.length : Int) ≤ 21 := by have := HL.out; omega
        go_wp2_with fail
        go_loopw [7, 8, 9, 10] (fun o k _ _ wr => ∃ m : Nat, k = .int .i64 m ∧ m ≤ bs.length ∧ o = .int .i64 (((bs.take m).filter f).length : Nat) ∧ Hid (Below W6.heap.size W6 wr)) (fun _ k _ _ _ => bs.length - (intOf k).toNat)
        case atStart => exact ⟨0, rfl, Nat.zero_le _, rfl, Lib.hid (Below.refl _ _)⟩
        case round =>
          obtain ⟨m, rfl, hm, rfl, HB⟩ := hrel
          by_cases hmt : m < bs.length
          · have hmt' : (m : Int) < bs.length := by omega
            have hwm : IntKind.i64.wrap ((m : Int) + 1) = (m : Int) + 1 := IntWalk.i64_in _ (by omega)
            have HWM := Lib.hid hwm
            have HMT := Lib.hid hmt
            obtain ⟨g2, off2, d, rfl, hd, d0, d1, d2, d3, d4⟩ := (NB.out.keep HB.out).node hmt
            have HD := Lib.hid hd
            obtain ⟨t, ht⟩ : ∃ t, hasC us d = t := ⟨_, rfl⟩
            have HT := Lib.hid ht
            have HH := Lib.hid (fun W' (hb : Below W6.heap.size W6 W') => show Calls Tryz.prog 13 #[.slice a us.length c1, cmdV d] W' (BoolPost t W') by rw [← ht]; exact lawHas_c a us.length c1 us d (by have := HLL.out; omega) W' (NA.out.keep hb))
            obtain ⟨ct, hct⟩ : ∃ ct, ((bs.take m).filter f).length = ct := ⟨_, rfl⟩
            have HCT := Lib.hid hct
            have hctl : ct ≤ m := by rw [← hct]; exact pick_len f bs m
            have HCTL := Lib.hid hctl
            rw [hct]
            obtain ⟨dd, hdd⟩ : ∃ x, d = x := ⟨_, rfl⟩
            have HDD := Lib.hid hdd
            obtain ⟨p2, gk, gv, uk, uv⟩ := d
            unfold cmdV at HH
            simp only at d0 d1 d2 d3 d4 HH
            clear hm hmt hd ht hct hdd hctl
            go_wp2_with fail
            refine (HH.out _ HB.out).mono ?_
            rintro e W7 ⟨rfl, hb7⟩
            have HB7 := Lib.hid (below_next HB.out hb7)
            clear hb7 d0 d1 d2 d3 d4
            go_wp2_with fail
            go_loopw [9, 10] (fun s i wr => ∃ n : Nat, i = .int .i64 n ∧ n ≤ us.length ∧ s = .bool (!t && !anyS us n dd) ∧ Hid (Below W6.heap.size W6 wr)) (fun _ i _ => us.length - (intOf i).toNat)
            case atStart => exact ⟨0, rfl, Nat.zero_le _, (by simp [anyS]), HB7⟩
            case round =>
              obtain ⟨i, rfl, hi, rfl, HBI⟩ := hrel
              obtain ⟨q, hq⟩ : ∃ q, (!t && !anyS us i dd) = q := ⟨_, rfl⟩
              have HQ := Lib.hid hq
              rw [hq]
              clear hq
              by_cases hit : i < us.length
              · have hit' : (i : Int) < us.length := by omega
                have hwi : IntKind.i64.wrap ((i : Int) + 1) = (i : Int) + 1 := IntWalk.i64_in _ (by omega)
                have HIT := Lib.hid hit
                obtain ⟨g, off, c, hv, hc, c0, c1', c2', c3', c4'⟩ := (NA.out.keep HBI.out).node hit
                obtain ⟨g2', off2', d', hv2, hd', e0, e1, e2, e3, e4⟩ := (NB.out.keep HBI.out).node HMT.out
                subst hv
                cases hv2
                obtain rfl := Option.some.inj (HD.out.symm.trans hd')
                have HST := Lib.hid (any_stepS (d := dd) hc)
                obtain ⟨mm, hmm⟩ : ∃ mm, clashC c dd = mm := ⟨_, rfl⟩
                have HMC := Lib.hid (fun w => show Calls Tryz.prog 14 #[cmdV c, cmdV dd] w (BoolPost mm w) by
                  rw [← hmm, ← HF.out.2 c dd (List.mem_of_getElem? hc) (by rw [← HDD.out]; exact List.mem_of_getElem? HD.out)]
                  exact implCommandsClash_c c dd (by have := HS1.out c (List.mem_of_getElem? hc); omega) (by have := HS2.out dd (by rw [← HDD.out]; exact List.mem_of_getElem? HD.out); omega) w)
                rw [hmm] at HST
                rw [← HDD.out] at HMC
                obtain ⟨p, fk, fv, tk, tv⟩ := c
                unfold cmdV at HMC
                simp only at c0 c1' c2' c3' c4' e0 e1 e2 e3 e4 HMC
                clear hi hit hc hd' hmm
                cases q with
                | false =>
                  go_upto_region 16 with (fail)
                  go_quiet (fail)
                  have HB2 := Lib.hid (rb_drewN HBI.out nq)
                  go_wp2
                  go_roundw
                  case rel => exact ⟨i + 1, by go_num, HIT.out, (by have h := HQ.out; rw [HST.out]; congr 1; revert h; cases t <;> cases anyS us i dd <;> simp), HB2⟩
                  case measure => have := HIT.out; simp [intOf]; omega
                | true =>
                  have HS0 := Lib.hid (show wr.drew.cell? ⟨g, off + i * 5, none⟩ = some (.string p) ∧ wr.drew.cell? ⟨g, off + i * 5 + 1, none⟩ = some (.int .i64 fk) ∧ wr.drew.cell? ⟨g, off + i * 5 + 2, none⟩ = some (.int .i64 fv) ∧ wr.drew.cell? ⟨g, off + i * 5 + 3, none⟩ = some (.int .i64 tk) ∧ wr.drew.cell? ⟨g, off + i * 5 + 4, none⟩ = some (.int .i64 tv) ∧ wr.drew.cell? ⟨g2, off2 + m * 5, none⟩ = some (.string p2) ∧ wr.drew.cell? ⟨g2, off2 + m * 5 + 1, none⟩ = some (.int .i64 gk) ∧ wr.drew.cell? ⟨g2, off2 + m * 5 + 2, none⟩ = some (.int .i64 gv) ∧ wr.drew.cell? ⟨g2, off2 + m * 5 + 3, none⟩ = some (.int .i64 uk) ∧ wr.drew.cell? ⟨g2, off2 + m * 5 + 4, none⟩ = some (.int .i64 uv) ∧ Below wr.heap.size wr wr.drew from ⟨c0, c1', c2', c3', c4', e0, e1, e2, e3, e4, (Below.refl _ _).drew⟩)
                  have HKP := Lib.hid (fun (u1 u2 : World) (h : u1.cell? ⟨g, off + i * 5, none⟩ = some (.string p) ∧ u1.cell? ⟨g, off + i * 5 + 1, none⟩ = some (.int .i64 fk) ∧ u1.cell? ⟨g, off + i * 5 + 2, none⟩ = some (.int .i64 fv) ∧ u1.cell? ⟨g, off + i * 5 + 3, none⟩ = some (.int .i64 tk) ∧ u1.cell? ⟨g, off + i * 5 + 4, none⟩ = some (.int .i64 tv) ∧ u1.cell? ⟨g2, off2 + m * 5, none⟩ = some (.string p2) ∧ u1.cell? ⟨g2, off2 + m * 5 + 1, none⟩ = some (.int .i64 gk) ∧ u1.cell? ⟨g2, off2 + m * 5 + 2, none⟩ = some (.int .i64 gv) ∧ u1.cell? ⟨g2, off2 + m * 5 + 3, none⟩ = some (.int .i64 uk) ∧ u1.cell? ⟨g2, off2 + m * 5 + 4, none⟩ = some (.int .i64 uv) ∧ Below wr.heap.size wr u1) (hb : Below u1.heap.size u1 u2) => show u2.cell? ⟨g, off + i * 5, none⟩ = some (.string p) ∧ u2.cell? ⟨g, off + i * 5 + 1, none⟩ = some (.int .i64 fk) ∧ u2.cell? ⟨g, off + i * 5 + 2, none⟩ = some (.int .i64 fv) ∧ u2.cell? ⟨g, off + i * 5 + 3, none⟩ = some (.int .i64 tk) ∧ u2.cell? ⟨g, off + i * 5 + 4, none⟩ = some (.int .i64 tv) ∧ u2.cell? ⟨g2, off2 + m * 5, none⟩ = some (.string p2) ∧ u2.cell? ⟨g2, off2 + m * 5 + 1, none⟩ = some (.int .i64 gk) ∧ u2.cell? ⟨g2, off2 + m * 5 + 2, none⟩ = some (.int .i64 gv) ∧ u2.cell? ⟨g2, off2 + m * 5 + 3, none⟩ = some (.int .i64 uk) ∧ u2.cell? ⟨g2, off2 + m * 5 + 4, none⟩ = some (.int .i64 uv) ∧ Below wr.heap.size wr u2 from ⟨cell_kept hb h.1, cell_kept hb h.2.1, cell_kept hb h.2.2.1, cell_kept hb h.2.2.2.1, cell_kept hb h.2.2.2.2.1, cell_kept hb h.2.2.2.2.2.1, cell_kept hb h.2.2.2.2.2.2.1, cell_kept hb h.2.2.2.2.2.2.2.1, cell_kept hb h.2.2.2.2.2.2.2.2.1, cell_kept hb h.2.2.2.2.2.2.2.2.2.1, below_next h.2.2.2.2.2.2.2.2.2.2 hb⟩)
                  clear c0 c1' c2' c3' c4' e0 e1 e2 e3 e4
                  go_upto_region 16 with (fail)
                  go_region_held3 (fun w' => w'.cell? ⟨g, off + i * 5, none⟩ = some (.string p) ∧ w'.cell? ⟨g, off + i * 5 + 1, none⟩ = some (.int .i64 fk) ∧ w'.cell? ⟨g, off + i * 5 + 2, none⟩ = some (.int .i64 fv) ∧ w'.cell? ⟨g, off + i * 5 + 3, none⟩ = some (.int .i64 tk) ∧ w'.cell? ⟨g, off + i * 5 + 4, none⟩ = some (.int .i64 tv) ∧ w'.cell? ⟨g2, off2 + m * 5, none⟩ = some (.string p2) ∧ w'.cell? ⟨g2, off2 + m * 5 + 1, none⟩ = some (.int .i64 gk) ∧ w'.cell? ⟨g2, off2 + m * 5 + 2, none⟩ = some (.int .i64 gv) ∧ w'.cell? ⟨g2, off2 + m * 5 + 3, none⟩ = some (.int .i64 uk) ∧ w'.cell? ⟨g2, off2 + m * 5 + 4, none⟩ = some (.int .i64 uv) ∧ Below wr.heap.size wr w')
                    (first | exact HS0.out | exact HKP.out _ _ HS0.out hb7)
                    (first | (go_at_call 14; (with_reducible refine (HMC.out _).mono ?_); rintro e W7 ⟨rfl, hb7⟩))
                  rename_i hS
                  have HB9 := Lib.hid (below_next HBI.out hS.2.2.2.2.2.2.2.2.2.2)
                  clear hS
                  go_wp2
                  go_roundw
                  case rel => exact ⟨i + 1, by go_num, HIT.out, (by have h := HQ.out; rw [HST.out]; congr 1; revert h; cases t <;> cases anyS us i dd <;> cases mm <;> simp), HB9⟩
                  case measure => have := HIT.out; simp [intOf]; omega
              · have hge : (us.length : Int) ≤ i := by omega
                have hwm := HWM.out
                have HEN := Lib.hid (show f dd = q by rw [HFD.out dd, ← HQ.out, any_endS dd (by omega), ← HT.out, HDD.out]; cases someC us dd <;> cases hasC us dd <;> rfl)
                clear hi hit
                cases q with
                | false =>
                  have hst := pick_out HD.out (f := f) (by rw [HDD.out]; exact HEN.out)
                  go_wp2
                  go_roundw
                  case rel => exact ⟨m + 1, by go_num, HMT.out, by rw [hst, HCT.out], HBI⟩
                  case measure => have := HMT.out; simp [intOf]; omega
                | true =>
                  have hst := pick_in HD.out (f := f) (by rw [HDD.out]; exact HEN.out)
                  have hat := filter_at HD.out (f := f) (by rw [HDD.out]; exact HEN.out)
                  rw [HCT.out, ← HF.out.1] at hat
                  have hcl : ct < cl.length := (List.getElem?_eq_some_iff.1 hat).1
                  have hcl' : (ct : Int) < cl.length := by omega
                  have hwc : IntKind.i64.wrap ((ct : Int) + 1) = (ct : Int) + 1 := IntWalk.i64_in _ (by have := HCTL.out; omega)
                  obtain ⟨g3, off3, c, hv, hc, c0, c1', c2', c3', c4'⟩ := (N3.out.keep HBI.out).node hcl
                  obtain ⟨g2', off2', d', hv2, hd', e0, e1, e2, e3, e4⟩ := (NB.out.keep HBI.out).node HMT.out
                  subst hv
                  cases hv2
                  obtain rfl := Option.some.inj (HD.out.symm.trans hd')
                  obtain rfl := Option.some.inj (hat.symm.trans hc)
                  simp only at c0 c1' c2' c3' c4' e0 e1 e2 e3 e4
                  have hne := fun w => cmdNeS p2 gk gv uk uv w
                  have hnge : ¬ ((cl.length : Int) ≤ (ct : Int)) := by omega
                  have hdec : decide ((cl.length : Int) ≤ (ct : Int)) = false := decide_eq_false hnge
                  have hct0 : (0 : Int) ≤ ct := by omega
                  have hm0 : (0 : Int) ≤ m := by omega
                  have hmt9 : (m : Int) < bs.length := by have := HMT.out; omega
                  have HSTL := Lib.hid (show ((bs.take (m + 1)).filter f).length = ct + 1 by rw [hst, List.length_append, HCT.out]; rfl)
                  clear hc hd' hat hst hcl
                  have HS0 := Lib.hid (show wr.drew.cell? ⟨g3, off3 + ct * 5, none⟩ = some (.string p2) ∧ wr.drew.cell? ⟨g3, off3 + ct * 5 + 1, none⟩ = some (.int .i64 gk) ∧ wr.drew.cell? ⟨g3, off3 + ct * 5 + 2, none⟩ = some (.int .i64 gv) ∧ wr.drew.cell? ⟨g3, off3 + ct * 5 + 3, none⟩ = some (.int .i64 uk) ∧ wr.drew.cell? ⟨g3, off3 + ct * 5 + 4, none⟩ = some (.int .i64 uv) ∧ wr.drew.cell? ⟨g2, off2 + m * 5, none⟩ = some (.string p2) ∧ wr.drew.cell? ⟨g2, off2 + m * 5 + 1, none⟩ = some (.int .i64 gk) ∧ wr.drew.cell? ⟨g2, off2 + m * 5 + 2, none⟩ = some (.int .i64 gv) ∧ wr.drew.cell? ⟨g2, off2 + m * 5 + 3, none⟩ = some (.int .i64 uk) ∧ wr.drew.cell? ⟨g2, off2 + m * 5 + 4, none⟩ = some (.int .i64 uv) ∧ Below W6.heap.size W6 wr.drew from ⟨c0, c1', c2', c3', c4', e0, e1, e2, e3, e4, HBI.out.drew⟩)
                  clear c0 c1' c2' c3' c4' e0 e1 e2 e3 e4
                  go_upto_region 18 with (fail)
                  refine wp_region_held_drew (S := fun w' => w'.cell? ⟨g3, off3 + ct * 5, none⟩ = some (.string p2) ∧ w'.cell? ⟨g3, off3 + ct * 5 + 1, none⟩ = some (.int .i64 gk) ∧ w'.cell? ⟨g3, off3 + ct * 5 + 2, none⟩ = some (.int .i64 gv) ∧ w'.cell? ⟨g3, off3 + ct * 5 + 3, none⟩ = some (.int .i64 uk) ∧ w'.cell? ⟨g3, off3 + ct * 5 + 4, none⟩ = some (.int .i64 uv) ∧ w'.cell? ⟨g2, off2 + m * 5, none⟩ = some (.string p2) ∧ w'.cell? ⟨g2, off2 + m * 5 + 1, none⟩ = some (.int .i64 gk) ∧ w'.cell? ⟨g2, off2 + m * 5 + 2, none⟩ = some (.int .i64 gv) ∧ w'.cell? ⟨g2, off2 + m * 5 + 3, none⟩ = some (.int .i64 uk) ∧ w'.cell? ⟨g2, off2 + m * 5 + 4, none⟩ = some (.int .i64 uv) ∧ Below W6.heap.size W6 w') (by kernel_rfl) HS0.out (fun hH => ?_)
                  refine wpAnyH_take (i := 0) (oi := _) (v := ?_) rfl (by kernel_rfl) (by kernel_rfl) (by kernel_rfl) (fun _ _ _ h => h) (Or.inl ⟨by rfl, ?_⟩) (by assumption) ?_
                  rotate_left
                  · (intro w hSw; (try dsimp only at hSw); go_simp; try with_reducible rfl)
                  try simp only [Act.put, List.getElem_toArray, List.getElem_cons_zero, List.setIfInBounds_toArray, List.set_cons_zero, List.set_cons_succ]
                  refine wpAnyH_take (i := 1) (oi := _) (v := ?_) rfl (by kernel_rfl) (by kernel_rfl) (by kernel_rfl) (fun _ _ _ h => h) (Or.inl ⟨by rfl, ?_⟩) (by assumption) ?_
                  rotate_left
                  · (intro w hSw; (try dsimp only at hSw); go_simp; try with_reducible rfl)
                  try simp only [Act.put, List.getElem_toArray, List.getElem_cons_zero, List.getElem_cons_succ, List.setIfInBounds_toArray, List.set_cons_zero, List.set_cons_succ]
                  refine wpAnyH_take (i := 2) (oi := _) (v := ?_) rfl (by kernel_rfl) (by kernel_rfl) (by kernel_rfl) (fun _ _ _ h => h) (Or.inl ⟨by rfl, ?_⟩) (by assumption) ?_
                  rotate_left
                  · (intro w hSw; (try dsimp only at hSw); go_simp; try with_reducible rfl)
                  try simp only [Act.put, List.getElem_toArray, List.getElem_cons_zero, List.getElem_cons_succ, List.setIfInBounds_toArray, List.set_cons_zero, List.set_cons_succ]
                  refine wpAnyH_take (i := 3) (oi := _) (v := ?_) rfl (by kernel_rfl) (by kernel_rfl) (by kernel_rfl) (fun _ _ _ h => h) (Or.inl ⟨by rfl, ?_⟩) (by assumption) ?_
                  rotate_left
                  · (intro w hSw; (try dsimp only at hSw); go_simp; try with_reducible rfl)
                  try simp only [Act.put, List.getElem_toArray, List.getElem_cons_zero, List.getElem_cons_succ, List.setIfInBounds_toArray, List.set_cons_zero, List.set_cons_succ]
                  refine wpAnyH_take (i := 4) (oi := _) (v := ?_) rfl (by kernel_rfl) (by kernel_rfl) (by kernel_rfl) (fun _ _ _ h => h) (Or.inl ⟨by rfl, ?_⟩) (by assumption) ?_
                  rotate_left
                  · (intro w hSw; (try dsimp only at hSw); go_simp; try with_reducible rfl)
                  try simp only [Act.put, List.getElem_toArray, List.getElem_cons_zero, List.getElem_cons_succ, List.setIfInBounds_toArray, List.set_cons_zero, List.set_cons_succ]
                  refine wpAnyH_take (i := 5) (oi := _) (v := ?_) rfl (by kernel_rfl) (by kernel_rfl) (by kernel_rfl) (fun _ _ _ h => h) (Or.inl ⟨by rfl, ?_⟩) (by assumption) ?_
                  rotate_left
                  · (intro w hSw; (try dsimp only at hSw); go_simp; try with_reducible rfl)
                  try simp only [Act.put, List.getElem_toArray, List.getElem_cons_zero, List.getElem_cons_succ, List.setIfInBounds_toArray, List.set_cons_zero, List.set_cons_succ]
                  refine wpAnyH_take (i := 6) (oi := _) (v := ?_) rfl (by kernel_rfl) (by kernel_rfl) (by kernel_rfl) (fun _ _ _ h => h) (Or.inl ⟨by rfl, ?_⟩) (by assumption) ?_
                  rotate_left
                  · (intro w hSw; (try dsimp only at hSw); go_simp; try with_reducible rfl)
                  try simp only [Act.put, List.getElem_toArray, List.getElem_cons_zero, List.getElem_cons_succ, List.setIfInBounds_toArray, List.set_cons_zero, List.set_cons_succ]
                  refine wpAnyH_take (i := 7) (oi := _) (v := ?_) rfl (by kernel_rfl) (by kernel_rfl) (by kernel_rfl) (fun _ _ _ h => h) (Or.inl ⟨by rfl, ?_⟩) (by assumption) ?_
                  rotate_left
                  · (intro w hSw; (try dsimp only at hSw); go_simp; try with_reducible rfl)
                  try simp only [Act.put, List.getElem_toArray, List.getElem_cons_zero, List.getElem_cons_succ, List.setIfInBounds_toArray, List.set_cons_zero, List.set_cons_succ]
                  refine wpAnyH_take (i := 8) (oi := _) (v := ?_) rfl (by kernel_rfl) (by kernel_rfl) (by kernel_rfl) (fun _ _ _ h => h) (Or.inl ⟨by rfl, ?_⟩) (by assumption) ?_
                  rotate_left
                  · (intro w hSw; (try dsimp only at hSw); go_simp; try with_reducible rfl)
                  try simp only [Act.put, List.getElem_toArray, List.getElem_cons_zero, List.getElem_cons_succ, List.setIfInBounds_toArray, List.set_cons_zero, List.set_cons_succ]
                  refine wpAnyH_take (i := 9) (oi := _) (v := ?_) rfl (by kernel_rfl) (by kernel_rfl) (by kernel_rfl) (fun _ _ _ h => h) (Or.inl ⟨by rfl, ?_⟩) (by assumption) ?_
                  rotate_left
                  · (intro w hSw; (try dsimp only at hSw); go_simp; try with_reducible rfl)
                  try simp only [Act.put, List.getElem_toArray, List.getElem_cons_zero, List.getElem_cons_succ, List.setIfInBounds_toArray, List.set_cons_zero, List.set_cons_succ]
                  refine wpAnyH_take (i := 10) (oi := _) (v := ?_) rfl (by kernel_rfl) (by kernel_rfl) (by kernel_rfl) (fun _ _ _ h => h) (Or.inl ⟨by rfl, ?_⟩) (by assumption) ?_
                  rotate_left
                  · (intro w hSw; (try dsimp only at hSw); go_simp; try with_reducible rfl)
                  try simp only [Act.put, List.getElem_toArray, List.getElem_cons_zero, List.getElem_cons_succ, List.setIfInBounds_toArray, List.set_cons_zero, List.set_cons_succ]
                  refine wpAnyH_take (i := 11) (oi := _) (v := ?_) rfl (by kernel_rfl) (by kernel_rfl) (by kernel_rfl) (fun _ _ _ h => h) (Or.inl ⟨by rfl, ?_⟩) (by assumption) ?_
                  rotate_left
                  · (intro w hSw; (try dsimp only at hSw); go_simp; try with_reducible rfl)
                  try simp only [Act.put, List.getElem_toArray, List.getElem_cons_zero, List.getElem_cons_succ, List.setIfInBounds_toArray, List.set_cons_zero, List.set_cons_succ]
                  refine wpAnyH_take (i := 12) (oi := _) (v := ?_) rfl (by kernel_rfl) (by kernel_rfl) (by kernel_rfl) (fun _ _ _ h => h) (Or.inl ⟨by rfl, ?_⟩) (by assumption) ?_
                  rotate_left
                  · (intro w hSw; (try dsimp only at hSw); go_simp; try with_reducible rfl)
                  try simp only [Act.put, List.getElem_toArray, List.getElem_cons_zero, List.getElem_cons_succ, List.setIfInBounds_toArray, List.set_cons_zero, List.set_cons_succ]
                  refine wpAnyH_take (i := 13) (oi := _) (v := ?_) rfl (by kernel_rfl) (by kernel_rfl) (by kernel_rfl) (fun _ _ _ h => h) (Or.inl ⟨by rfl, ?_⟩) (by assumption) ?_
                  rotate_left
                  · (intro w hSw; (try dsimp only at hSw); go_simp; try with_reducible rfl)
                  try simp only [Act.put, List.getElem_toArray, List.getElem_cons_zero, List.getElem_cons_succ, List.setIfInBounds_toArray, List.set_cons_zero, List.set_cons_succ]
                  refine wpAnyH_take (i := 14) (oi := _) (v := ?_) rfl (by kernel_rfl) (by kernel_rfl) (by kernel_rfl) (fun _ _ _ h => h) (Or.inl ⟨by rfl, ?_⟩) (by assumption) ?_
                  rotate_left
                  · (intro w hSw; (try dsimp only at hSw); go_simp; try with_reducible rfl)
                  try simp only [Act.put, List.getElem_toArray, List.getElem_cons_zero, List.getElem_cons_succ, List.setIfInBounds_toArray, List.set_cons_zero, List.set_cons_succ]
                  refine wpAnyH_done (by kernel_rfl) ?_ _
                  have HB2 := Lib.hid hH.2.2.2.2.2.2.2.2.2.2
                  go_wp2
                  go_roundw
                  case rel => exact ⟨m + 1, by go_num, HMT.out, by rw [HSTL.out]; go_num, HB2⟩
                  case measure => have := HMT.out; simp [intOf]; omega
          · have hge : (bs.length : Int) ≤ m := by omega
            have hcnt : ((bs.take m).filter f).length = cl.length := by rw [HF.out.1, filter_all (by omega)]
            rw [hcnt]
            have hbe : ((cl.length : Int) == (cl.length : Int)) = true := by simp
            have HC := Lib.hid (show Calls Tryz.prog 15 #[.slice a3 cl.length c3] wr (BoolPost true wr) by rw [← HCV.out]; exact implCanonValid_c a3 cl.length c3 cl (by have := HL.out; omega) (HSS.out.mono (by omega)) wr (N3.out.keep HB.out))
            clear hm hmt hcnt
            go_wp2_with fail
            refine HC.out.mono ?_
            rintro e W7 ⟨rfl, hb7⟩
            have B7 := Lib.hid (below_next HB.out hb7)
            clear hb7
            go_wp2
            go_ret
            exact ⟨rfl, below_next HBL.out (below_next (below_next B3.out X6.out) B7.out)⟩
  · have hl : (1048576 : Int) < len0 := by omega
    clear h w0
    go_enter Tryz.func3, Tryz.ntmps3
    go_wp2
    go_ret
    exact ⟨rfl, Below.refl _ _⟩


set_option maxRecDepth 100000 in
theorem lifted (os : Os) (started : os.Started) (H : Type) (enc : TypeId × Value → H) :
    ReturnsInHanded {} Tryz.checked os 3 .any (Rows.fnSafeSpec.pre6 enc Tryz.prog Tryz.f3 Rows.fnSafeRow.domain false) (Rows.fnSafeSpec.post enc Tryz.prog Tryz.f3 false true false false) := by
  refine returnsInHanded_of_change (C := Tryz.checked) own started (by kernel_rfl) Tryz.func3
    (ChangeSpec.witness6 (enc := enc) (C := Tryz.checked) false ⟨#[], #[.slice none 0 0], []⟩ 8 (by kernel_rfl) (by kernel_rfl) (by kernel_rfl) (by kernel_rfl)) ?_
  intro W base args ds gs before hval0 hW hcnd _
  have hval : ∀ (j : Nat) t v, Tryz.f3.params[j]? = some t → args[j]? = some v → Value.okWide Tryz.prog W .any base t v := hval0
  have hW' := hW
  obtain ⟨p, q, hA0, hV, rfl, hfz, hnd⟩ := hW
  have hA : DataW.TrodAll enc Tryz.prog W 0 (fun _ => true) true Tryz.f3.params.toList args.toList ds p := hA0
  rw [Tryz.params3] at hA hval
  obtain ⟨v0, vs0, d0, ds0, p0, q0, hargs, rfl, rfl, h0, r0⟩ := trodAll_cons hA
  obtain ⟨rfl, rfl, rfl⟩ := trodAll_nil r0
  obtain rfl : args = #[v0] := by cases args; simp_all
  obtain ⟨rfl, rfl⟩ := trodVars_none hV
  obtain ⟨a0, len0, cap0, rfl⟩ := okWide_slice Tryz.underlying22 (hval 0 22 v0 rfl rfl)
  have k0 := h0
  have lt0 : ∀ x ∈ p0, x.block < W.heap.size := by obtain ⟨m, hm⟩ := k0; exact DataW.trod_lt m _ _ _ hm
  obtain ⟨z0, w0⟩ : ∃ zs, IsRow .u8 W a0 len0 cap0 zs := by
    obtain ⟨fuel, hf⟩ := h0
    rcases open_ints Tryz.underlying22 Tryz.underlying5 (by kernel_rfl) hf with ⟨hcs, _⟩ | ⟨x, l, c, zs, hcs, _, hl, hm, hz, _, hcell, hwz⟩
    · simp [Value.cells] at hcs
      obtain ⟨rfl, rfl, rfl⟩ := hcs
      exact ⟨[], .inl ⟨rfl, rfl, rfl, rfl⟩⟩
    · simp [Value.cells] at hcs
      obtain ⟨rfl, rfl, rfl⟩ := hcs
      exact ⟨zs, .inr ⟨_, rfl, hl, hm, by simpa using hz, hcell, hwz⟩⟩
  clear hA0 hval0
  refine (walk a0 len0 cap0 z0 W w0).mono fun e W' ⟨he, bel⟩ => ?_
  subst he
  exact ⟨_, rfl, _, _, _, [], _, [], hW', trodAll_mk1 (shut_bool Tryz.underlying4 _), (trodAll_cons_mk (Below.trod laidOut (by kernel_rfl) (of_decide_eq_true (by kernel_rfl)) k0 bel lt0) trodAll_mk0), rfl, bel.frame _, fun h => by cases h⟩

theorem over : Rows.fnSafeRow.holds Tryz.pinned (OpenSpec.ofChange Rows.fnSafeSpec) :=
  OpenClaim.holds_of_wide 3 Tryz.f3 rfl rfl rfl rfl rfl rfl rfl ⟨rfl, rfl, rfl, rfl, rfl⟩ rfl rfl rfl rfl rfl (by kernel_rfl) Tryz.func3 (by kernel_rfl)
    (of_decide_eq_true (by kernel_rfl)) (by unfold Func.isWrapper; first | (rw [if_pos (by decide +kernel)]; kernel_rfl) | (rw [if_neg (by decide +kernel)]; exact ⟨rfl, rfl⟩))
    (fun os started H enc _ => lifted os started H enc)

theorem proved : Rows.FnSafeSaid := over
end Go.Proofs.YtdkpabnpobpdhaaGreat.fnSafe
