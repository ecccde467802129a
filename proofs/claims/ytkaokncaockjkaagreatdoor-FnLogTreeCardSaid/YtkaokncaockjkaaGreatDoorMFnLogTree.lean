/-
  laws.FnLogTree returns true for every input, and leaves its arguments as they were.
  Conditions: none of ours; the package-level variables that its row lists hold what the program's text lays (the given tie).
-/
import Derived.Test.YtkaokncaockjkaaGreatDoorRows
import Derived.Test.YtkaokncaockjkaaGreatDoorCards
import Derived.Test.YtkaokncaockjkaaGreatDoorTie
import Derived.WalkKit
import Derived.ProofKit
import Derived.OpenShut
import Derived.ShutString
import Derived.ChangeOld
import Derived.Below
import Derived.Deep.DeepHandedRow
import Derived.Deep.DeepWitnessRowRef
import Derived.Lib.LaidTab
import Derived.LaidMore
import Derived.OpenVars
import Derived.Lay
import Derived.Test.YtkaokncaockjkaaGreatDoorK5
namespace Go.Proofs.YtkaokncaockjkaaGreatDoor.fnLogTree
open Go.ChangeShapes Go.WideShapes Go.ChangeAt Go.RowKit
open Go.ChangeMaps (open_string shut_string)
set_option linter.unusedVariables false

theorem own : ownKnob Tryz.prog.godebug = none := by kernel_rfl
theorem laidOut : laidOutB Tryz.prog = true := by kernel_rfl

/-- What LogApply tells, its two parts named. -/
def LPost (out : List Nd) (n : Int) (W : World) (e : Ending) (w' : World) : Prop :=
  ∃ sl, e = .returned (.tuple #[sl, .int .i64 n]) ∧ w'.ownsRow W.heap.size 47 3 sl out.length (flatN out) ∧ Below W.heap.size W w'

theorem log_named {ns out : List Nd} {cs : List Cmd} {n : Int} {W : World} {f : Nat} {args : Array Value} (hr : logApply ns cs = (out, n)) (h : Calls Tryz.prog f args W (LogPost (logApply ns cs) W)) : Calls Tryz.prog f args W (LPost out n W) := by
  rw [hr] at h
  exact h

theorem run_shortL {m : Nat} : ∀ (cs : List Cmd) (ns : List Nd), Short m ns → ShortC m cs → Short m (runL ns cs).1
  | [], ns, h, _ => h
  | c :: cs, ns, h, hc => by
    cases ha : applyC ns c with
    | mk out b =>
      cases b with
      | false => rw [runL_cons_no (by rw [ha])]; exact h
      | true =>
        rw [runL_cons_yes ha]
        exact run_shortL cs out (apply_short2 ha h (hc c (by simp))).1 (fun x hx => hc x (List.mem_cons_of_mem _ hx))

theorem log_facts {ns out : List Nd} {cs : List Cmd} {n : Int} {m : Nat} (hr : logApply ns cs = (out, n)) (hs : Short m ns) (hc : ShortC m cs) : out.length ≤ 10 ∧ Short m out ∧ -1 ≤ n ∧ n ≤ cs.length := by
  have hl := logApply_len (ns := ns) (cs := cs)
  rw [hr] at hl
  refine ⟨hl, ?_⟩
  unfold logApply at hr
  split at hr
  · have e1 := congrArg Prod.fst hr
    have e2 := congrArg Prod.snd hr
    simp only at e1 e2
    have := runL_le cs ns
    exact ⟨by rw [← e1]; exact run_shortL cs ns hs hc, by omega, by omega⟩
  · have e1 := congrArg Prod.fst hr
    have e2 := congrArg Prod.snd hr
    simp only at e1 e2
    exact ⟨(by rw [← e1]; intro x hx; cases hx), by omega, by omega⟩

theorem found_no {cs : List Cmd} {m : Nat} {x p : ByteArray} {fk fv tk tv : Int} (h : false = true ↔ ∃ j c, j < m ∧ cs[j]? = some c ∧ c.p = x) (hc : cs[m]? = some ⟨p, fk, fv, tk, tv⟩) :
    (p.toList == x.toList) = true ↔ ∃ j c, j < m + 1 ∧ cs[j]? = some c ∧ c.p = x := by
  constructor
  · intro hq
    have e : p = x := by
      by_cases h : p = x
      · exact h
      · rw [toList_ne h] at hq; cases hq
    exact ⟨m, _, by omega, hc, e⟩
  · rintro ⟨j, c, hj, hcj, he⟩
    by_cases hjm : j < m
    · exact absurd (h.2 ⟨j, c, hjm, hcj, he⟩) (by decide)
    · obtain rfl : j = m := by omega
      rw [hc] at hcj
      obtain rfl := Option.some.inj hcj
      simp only at he
      rw [he]; simp

theorem found_yes {cs : List Cmd} {m : Nat} {x : ByteArray} (h : true = true ↔ ∃ j c, j < m ∧ cs[j]? = some c ∧ c.p = x) : true = true ↔ ∃ j c, j < m + 1 ∧ cs[j]? = some c ∧ c.p = x :=
  ⟨fun _ => by obtain ⟨j, c, hj, h1, h2⟩ := h.1 rfl; exact ⟨j, c, by omega, h1, h2⟩, fun _ => rfl⟩

set_option maxHeartbeats 4000000 in
set_option maxRecDepth 100000 in
theorem walk (a0 : Option Addr) (len0 cap0 : Nat) (z0 : List Int) (w : World) (w0 : IsRow .u8 w a0 len0 cap0 z0) (hE : CmdVars w) :
    Calls Tryz.prog 3 #[.slice a0 len0 cap0] w fun e w' => e = .returned (.bool true) ∧ Below w.heap.size w w' := by
  have HE := Lib.hid hE
  clear hE
  by_cases h : len0 ≤ 1048576
  · have hl : (len0 : Int) ≤ 1048576 := by omega
    have HD := Lib.hid (drawLogApply_c a0 len0 cap0 z0 w w0)
    clear h w0
    go_enter Tryz.func3, Tryz.ntmps3
    go_wp2_with fail
    refine HD.out.mono ?_
    rintro e W1 ⟨sl, ns, sv, cs, rfl, hd, hoc, hcl, hcs⟩
    obtain ⟨a, cap, rfl, hn⟩ := nodes_of_own hd.1
    obtain ⟨ac, cc, rfl, hc⟩ := cmds_of_own hoc
    have HN := Lib.hid hn
    have HC := Lib.hid hc
    have hlen := hd.2.1
    have HL := Lib.hid hlen
    have hsh := hd.2.2.1.mono (show 64 ≤ 66 by omega)
    have HSH := Lib.hid hsh
    have HBL := Lib.hid hd.2.2.2
    have HE1 := Lib.hid (HE.out.keep hd.2.2.2)
    have HCL := Lib.hid hcl
    have HCS := Lib.hid hcs
    obtain ⟨⟨out, n⟩, hr⟩ : ∃ r, logApply ns cs = r := ⟨_, rfl⟩
    have HR := Lib.hid hr
    have HF := Lib.hid (log_facts hr hsh hcs)
    have HI := Lib.hid (fun W' (hb : Below W1.heap.size W1 W') => log_named hr (implLogApply_c a ns.length cap ns ac cs.length cc cs (by omega) (by omega) (hsh.mono (by omega)) (hcs.mono (by omega)) W' (hn.keep hb) (hc.keep hb) (HE1.out.keep hb)))
    have HS := Lib.hid (fun W' (hb : Below W1.heap.size W1 W') => log_named hr (specLogApply_c a ns.length cap ns ac cs.length cc cs (by omega) (by omega) (hsh.mono (by omega)) (hcs.mono (by omega)) W' (hn.keep hb) (hc.keep hb)))
    clear hn hc hd hoc hr hsh hcs hcl hlen
    go_wp2_with fail
    refine (HI.out _ (Below.refl _ _)).mono ?_
    rintro e W2 ⟨o1, rfl, ho1, hb2⟩
    have B2 := Lib.hid hb2
    clear hb2
    go_wp2_with fail
    refine (HS.out _ B2.out).mono ?_
    rintro e W3 ⟨o2, rfl, ho2, hb3⟩
    have B3 := Lib.hid (below_next B2.out hb3)
    have ho1' := own_below ho1 hb3
    obtain ⟨x1, p1, rfl, hn1⟩ := nodes_of_own ho1'
    obtain ⟨x2, p2, rfl, hn2⟩ := nodes_of_own ho2
    have HSM := Lib.hid (fun W' (hb : Below W3.heap.size W3 W') => sameNodes_c x1 x2 out.length p1 p2 out (by have := HF.out.1; omega) W' (hn1.keep hb) (hn2.keep hb))
    have HN1 := Lib.hid hn1
    clear ho1 ho2 hb3 ho1' hn1 hn2
    go_wp2_with fail
    refine (HSM.out _ (Below.refl _ _)).mono ?_
    rintro e W4 ⟨rfl, hb4⟩
    have X4 := Lib.hid hb4
    clear hb4
    by_cases hneg : n < 0
    · go_wp2_with fail
      refine (HSM.out _ X4.out).mono ?_
      rintro e W5 ⟨rfl, hb5⟩
      go_wp2
      go_ret
      exact ⟨rfl, below_next HBL.out (below_next B3.out (below_next X4.out hb5))⟩
    · have hpos : 0 ≤ n := by omega
      have HLT := Lib.hid (log_tree HR.out hpos)
      have hnl := HF.out.2.2.2
      obtain ⟨N, rfl⟩ : ∃ N : Nat, n = (N : Int) := ⟨n.toNat, by omega⟩
      have HNL := Lib.hid (show N ≤ cs.length by omega)
      obtain ⟨xs, hxs⟩ : ∃ xs, chgL ns out = xs := ⟨_, rfl⟩
      have HXL := Lib.hid (show xs.length ≤ 20 by rw [← hxs]; exact chg_len _ _)
      have HXS := Lib.hid hxs
      have HCH := Lib.hid (show Calls Tryz.prog 8 #[.slice a ns.length cap, .slice x1 out.length p1] W4 (TextsPost xs W4) by
        rw [← hxs]
        exact implTreeChanged_c a ns.length cap ns x1 out.length p1 out (by have := HL.out; omega) (by have := HF.out.1; omega) (HSH.out.mono (by omega)) (HF.out.2.1.mono (by omega)) W4 (HN.out.keep (below_next B3.out X4.out)) (HN1.out.keep X4.out))
      have HTV := Lib.hid (fun W' (hb : Below W3.heap.size W3 W') => show Calls Tryz.prog 9 #[.slice x1 out.length p1] W' (BoolPost true W') by
        rw [← HLT.out.1]
        exact implTreeValid_c x1 out.length p1 out (by have := HF.out.1; omega) (HF.out.2.1.mono (by omega)) W' (HN1.out.keep hb))
      have hnn : decide ((N : Int) < 0) = false := decide_eq_false hneg
      clear hneg hnl hxs
      go_wp2_with fail
      refine HCH.out.mono ?_
      rintro e W5 ⟨⟨s5, rfl, ho5⟩, hb5⟩
      obtain ⟨ax, cx, rfl, hx5⟩ := texts_of_own ho5
      have HX := Lib.hid hx5
      have X5 := Lib.hid (below_next X4.out hb5)
      have HCM := Lib.hid (HC.out.keep (below_next B3.out X5.out))
      clear ho5 hx5 hb5
      have hxl : (xs.length : Int) ≤ 20 := by have := HXL.out; omega
      go_wp2_with fail
      go_loopw [10] (fun i wr => ∃ k : Nat, i = .int .i64 k ∧ k ≤ xs.length ∧ Hid (Below W5.heap.size W5 wr)) (fun i _ => xs.length - (intOf i).toNat)
      case atStart => exact ⟨0, rfl, by omega, Below.refl _ _⟩
      case round =>
        obtain ⟨i, rfl, hi, HB⟩ := hrel
        by_cases hlt : i < xs.length
        · have hlt' : (i : Int) < xs.length := by omega
          have hil : (i : Int) ≤ 20 := by omega
          have HLI := Lib.hid hlt
          obtain ⟨b2, off2, x, rfl, hx, x0⟩ := (HX.out.keep HB.out).node hlt
          obtain ⟨j0, cz, hj0, hc0, hp0⟩ := HLT.out.2 x (by rw [HXS.out]; exact List.mem_of_getElem? hx)
          have HJ := Lib.hid (show ∃ j c, j < N ∧ cs[j]? = some c ∧ c.p = x from ⟨j0, cz, by omega, hc0, hp0⟩)
          obtain ⟨W8, hW8⟩ : ∃ W8, W8 = wr := ⟨_, rfl⟩
          have HB8 := Lib.hid (show Below W5.heap.size W5 W8 by rw [hW8]; exact HB.out)
          have HX0 := Lib.hid (show W8.cell? ⟨b2, off2 + i, none⟩ = some (.string x) by rw [hW8]; exact x0)
          rw [← hW8]
          clear hi hlt hx x0 hj0 hc0 hp0 hW8
          go_wp2_with fail
          go_loopw [11, 12] (fun s k wk => ∃ (m : Nat) (b : Bool), k = .int .i64 m ∧ s = .bool b ∧ m ≤ N ∧ Hid (b = true ↔ ∃ j c, j < m ∧ cs[j]? = some c ∧ c.p = x) ∧ Hid (Below W8.heap.size W8 wk)) (fun _ k _ => N - (intOf k).toNat)
          case atStart => exact ⟨0, false, rfl, rfl, by omega, Lib.hid (show false = true ↔ ∃ j c, j < 0 ∧ cs[j]? = some c ∧ c.p = x from ⟨fun h => absurd h (by decide), fun ⟨j, c, h, _⟩ => absurd h (by omega)⟩), Below.refl _ _⟩
          case round =>
            obtain ⟨m, b, rfl, rfl, hm, HBB, HB9⟩ := hrel
            by_cases hltm : m < N
            · have hltm' : (m : Int) < N := by omega
              have HLM := Lib.hid hltm
              obtain ⟨b1, off1, c, rfl, hcm, c0, -, -, -, -⟩ := (HCM.out.keep (below_next HB8.out HB9.out)).node (i := m) (by have := HNL.out; omega)
              have hm20 : (m : Int) < cs.length := by have := HNL.out; omega
              have hm21 : (m : Int) ≤ 21 := by have := HCL.out; omega
              have HCMM := Lib.hid hcm
              obtain ⟨p, fk, fv, tk, tv⟩ := c
              simp only at c0
              have HS0 := Lib.hid (show wr.drew.cell? ⟨b1, off1 + m * 5, none⟩ = some (.string p) ∧ wr.drew.cell? ⟨b2, off2 + i, none⟩ = some (.string x) from ⟨c0, cell_kept HB9.out.drew HX0.out⟩)
              clear hm hltm hcm c0
              cases b with
              | false =>
                have HQ := Lib.hid (show (p.toList == x.toList) = true ↔ ∃ j c, j < m + 1 ∧ cs[j]? = some c ∧ c.p = x from found_no HBB.out HCMM.out)
                go_upto_region 16 with (fail)
                refine wp_region_held_drew (S := (fun w' => w'.cell? ⟨b1, off1 + m * 5, none⟩ = some (.string p) ∧ w'.cell? ⟨b2, off2 + i, none⟩ = some (.string x))) (by kernel_rfl) HS0.out (fun hH => ?_)
                refine wpAnyH_take (i := 0) (oi := _) (v := ?_) rfl (by kernel_rfl) (by kernel_rfl) (by kernel_rfl) (fun _ _ _ h => h) (Or.inl ⟨by rfl, ?_⟩) (by assumption) ?_
                rotate_left
                · (intro w hSw; (try dsimp only at hSw); go_simp; try with_reducible rfl)
                try simp only [Act.put, List.getElem_toArray, List.getElem_cons_zero, List.setIfInBounds_toArray, List.set_cons_zero, List.set_cons_succ]
                refine wpAnyH_take (i := 1) (oi := _) (v := ?_) rfl (by kernel_rfl) (by kernel_rfl) (by kernel_rfl) (fun _ _ _ h => h) (Or.inl ⟨by rfl, ?_⟩) (by assumption) ?_
                rotate_left
                · (intro w hSw; (try dsimp only at hSw); go_simp; try with_reducible rfl)
                try simp only [Act.put, List.getElem_toArray, List.getElem_cons_zero, List.getElem_cons_succ, List.setIfInBounds_toArray, List.set_cons_zero, List.set_cons_succ]
                refine wpAnyH_take (i := 2) (oi := _) (v := ?_) rfl (by kernel_rfl) (by kernel_rfl) (by kernel_rfl) (fun _ _ _ h => h) (Or.inl ⟨by rfl, ?_⟩) (by assumption) ?_
                rotate_left
                · (intro w hSw; (try dsimp only at hSw); go_simp; try with_reducible rfl)
                try simp only [Act.put, List.getElem_toArray, List.getElem_cons_zero, List.getElem_cons_succ, List.setIfInBounds_toArray, List.set_cons_zero, List.set_cons_succ]
                refine wpAnyH_take (i := 3) (oi := _) (v := ?_) rfl (by kernel_rfl) (by kernel_rfl) (by kernel_rfl) (fun _ _ _ h => h) (Or.inl ⟨by rfl, ?_⟩) (by assumption) ?_
                rotate_left
                · (intro w hSw; (try dsimp only at hSw); go_simp; try with_reducible rfl)
                try simp only [Act.put, List.getElem_toArray, List.getElem_cons_zero, List.getElem_cons_succ, List.setIfInBounds_toArray, List.set_cons_zero, List.set_cons_succ]
                refine wpAnyH_take (i := 4) (oi := _) (v := ?_) rfl (by kernel_rfl) (by kernel_rfl) (by kernel_rfl) (fun _ _ _ h => h) (Or.inl ⟨by rfl, ?_⟩) (by assumption) ?_
                rotate_left
                · (intro w hSw; (try dsimp only at hSw); go_simp; try with_reducible rfl)
                try simp only [Act.put, List.getElem_toArray, List.getElem_cons_zero, List.getElem_cons_succ, List.setIfInBounds_toArray, List.set_cons_zero, List.set_cons_succ]
                refine wpAnyH_take (i := 5) (oi := _) (v := ?_) rfl (by kernel_rfl) (by kernel_rfl) (by kernel_rfl) (fun _ _ _ h => h) (Or.inl ⟨by rfl, ?_⟩) (by assumption) ?_
                rotate_left
                · (intro w hSw; (try dsimp only at hSw); go_simp; try with_reducible rfl)
                try simp only [Act.put, List.getElem_toArray, List.getElem_cons_zero, List.getElem_cons_succ, List.setIfInBounds_toArray, List.set_cons_zero, List.set_cons_succ]
                refine wpAnyH_take (i := 6) (oi := _) (v := ?_) rfl (by kernel_rfl) (by kernel_rfl) (by kernel_rfl) (fun _ _ _ h => h) (Or.inl ⟨by rfl, ?_⟩) (by assumption) ?_
                rotate_left
                · (intro w hSw; (try dsimp only at hSw); go_simp; try with_reducible rfl)
                try simp only [Act.put, List.getElem_toArray, List.getElem_cons_zero, List.getElem_cons_succ, List.setIfInBounds_toArray, List.set_cons_zero, List.set_cons_succ]
                refine wpAnyH_take (i := 7) (oi := _) (v := ?_) rfl (by kernel_rfl) (by kernel_rfl) (by kernel_rfl) (fun _ _ _ h => h) (Or.inl ⟨by rfl, ?_⟩) (by assumption) ?_
                rotate_left
                · (intro w hSw; (try dsimp only at hSw); go_simp; try with_reducible rfl)
                try simp only [Act.put, List.getElem_toArray, List.getElem_cons_zero, List.getElem_cons_succ, List.setIfInBounds_toArray, List.set_cons_zero, List.set_cons_succ]
                refine wpAnyH_take (i := 8) (oi := _) (v := ?_) rfl (by kernel_rfl) (by kernel_rfl) (by kernel_rfl) (fun _ _ _ h => h) (Or.inl ⟨by rfl, ?_⟩) (by assumption) ?_
                rotate_left
                · (intro w hSw; (try dsimp only at hSw); go_simp; try with_reducible rfl)
                try simp only [Act.put, List.getElem_toArray, List.getElem_cons_zero, List.getElem_cons_succ, List.setIfInBounds_toArray, List.set_cons_zero, List.set_cons_succ]
                refine wpAnyH_take (i := 9) (oi := _) (v := ?_) rfl (by kernel_rfl) (by kernel_rfl) (by kernel_rfl) (fun _ _ _ h => h) (Or.inl ⟨by rfl, ?_⟩) (by assumption) ?_
                rotate_left
                · (intro w hSw; (try dsimp only at hSw); go_simp; try with_reducible rfl)
                try simp only [Act.put, List.getElem_toArray, List.getElem_cons_zero, List.getElem_cons_succ, List.setIfInBounds_toArray, List.set_cons_zero, List.set_cons_succ]
                refine wpAnyH_take (i := 10) (oi := _) (v := ?_) rfl (by kernel_rfl) (by kernel_rfl) (by kernel_rfl) (fun _ _ _ h => h) (Or.inl ⟨by rfl, ?_⟩) (by assumption) ?_
                rotate_left
                · (intro w hSw; (try dsimp only at hSw); go_simp; try with_reducible rfl)
                try simp only [Act.put, List.getElem_toArray, List.getElem_cons_zero, List.getElem_cons_succ, List.setIfInBounds_toArray, List.set_cons_zero, List.set_cons_succ]
                refine wpAnyH_take (i := 11) (oi := _) (v := ?_) rfl (by kernel_rfl) (by kernel_rfl) (by kernel_rfl) (fun _ _ _ h => h) (Or.inl ⟨by rfl, ?_⟩) (by assumption) ?_
                rotate_left
                · (intro w hSw; (try dsimp only at hSw); go_simp; try with_reducible rfl)
                try simp only [Act.put, List.getElem_toArray, List.getElem_cons_zero, List.getElem_cons_succ, List.setIfInBounds_toArray, List.set_cons_zero, List.set_cons_succ]
                refine wpAnyH_take (i := 12) (oi := _) (v := ?_) rfl (by kernel_rfl) (by kernel_rfl) (by kernel_rfl) (fun _ _ _ h => h) (Or.inl ⟨by rfl, ?_⟩) (by assumption) ?_
                rotate_left
                · (intro w hSw; (try dsimp only at hSw); go_simp; try with_reducible rfl)
                try simp only [Act.put, List.getElem_toArray, List.getElem_cons_zero, List.getElem_cons_succ, List.setIfInBounds_toArray, List.set_cons_zero, List.set_cons_succ]
                refine wpAnyH_take (i := 13) (oi := _) (v := ?_) rfl (by kernel_rfl) (by kernel_rfl) (by kernel_rfl) (fun _ _ _ h => h) (Or.inl ⟨by rfl, ?_⟩) (by assumption) ?_
                rotate_left
                · (intro w hSw; (try dsimp only at hSw); go_simp; try with_reducible rfl)
                try simp only [Act.put, List.getElem_toArray, List.getElem_cons_zero, List.getElem_cons_succ, List.setIfInBounds_toArray, List.set_cons_zero, List.set_cons_succ]
                refine wpAnyH_done (by kernel_rfl) ?_ _
                go_wp2_with fail
                go_roundw
                case rel => exact ⟨m + 1, p.toList == x.toList, by push_cast; rfl, rfl, by have := HLM.out; omega, HQ, show Below W8.heap.size W8 wr.drew from HB9.out.drew⟩
                case measure => have := HLM.out; simp [intOf]; omega
              | true =>
                have HQ := Lib.hid (show true = true ↔ ∃ j c, j < m + 1 ∧ cs[j]? = some c ∧ c.p = x from found_yes HBB.out)
                go_upto_region 16 with (fail)
                refine wp_region_held_drew (S := (fun w' => w'.cell? ⟨b1, off1 + m * 5, none⟩ = some (.string p) ∧ w'.cell? ⟨b2, off2 + i, none⟩ = some (.string x))) (by kernel_rfl) HS0.out (fun hH => ?_)
                refine wpAnyH_take (i := 0) (oi := _) (v := ?_) rfl (by kernel_rfl) (by kernel_rfl) (by kernel_rfl) (fun _ _ _ h => h) (Or.inl ⟨by rfl, ?_⟩) (by assumption) ?_
                rotate_left
                · (intro w hSw; (try dsimp only at hSw); go_simp; try with_reducible rfl)
                try simp only [Act.put, List.getElem_toArray, List.getElem_cons_zero, List.setIfInBounds_toArray, List.set_cons_zero, List.set_cons_succ]
                refine wpAnyH_take (i := 1) (oi := _) (v := ?_) rfl (by kernel_rfl) (by kernel_rfl) (by kernel_rfl) (fun _ _ _ h => h) (Or.inl ⟨by rfl, ?_⟩) (by assumption) ?_
                rotate_left
                · (intro w hSw; (try dsimp only at hSw); go_simp; try with_reducible rfl)
                try simp only [Act.put, List.getElem_toArray, List.getElem_cons_zero, List.getElem_cons_succ, List.setIfInBounds_toArray, List.set_cons_zero, List.set_cons_succ]
                first | refine wpAnyH_take (i := 2) (oi := _) (v := undef) rfl (by kernel_rfl) (by kernel_rfl) (by kernel_rfl) (fun _ _ _ h => h) (Or.inr ⟨by rfl, rfl⟩) (by assumption) ?_ | (refine wpAnyH_ready (rs := [2]) (by kernel_rfl) (by simp) ?_; refine AllReadyH.cons rfl (fun K hK => ?_) (AllReadyH.nil); rw [if_neg (by decide)]; refine hK.out _ _ (by assumption) (fun hHeld => ?_))
                try simp only [Act.put, List.getElem_toArray, List.getElem_cons_zero, List.getElem_cons_succ, List.setIfInBounds_toArray, List.set_cons_zero, List.set_cons_succ]
                first | refine wpAnyH_take (i := 3) (oi := _) (v := undef) rfl (by kernel_rfl) (by kernel_rfl) (by kernel_rfl) (fun _ _ _ h => h) (Or.inr ⟨by rfl, rfl⟩) (by assumption) ?_ | (refine wpAnyH_ready (rs := [3]) (by kernel_rfl) (by simp) ?_; refine AllReadyH.cons rfl (fun K hK => ?_) (AllReadyH.nil); rw [if_neg (by decide)]; refine hK.out _ _ (by assumption) (fun hHeld => ?_))
                try simp only [Act.put, List.getElem_toArray, List.getElem_cons_zero, List.getElem_cons_succ, List.setIfInBounds_toArray, List.set_cons_zero, List.set_cons_succ]
                first | refine wpAnyH_take (i := 4) (oi := _) (v := undef) rfl (by kernel_rfl) (by kernel_rfl) (by kernel_rfl) (fun _ _ _ h => h) (Or.inr ⟨by rfl, rfl⟩) (by assumption) ?_ | (refine wpAnyH_ready (rs := [4]) (by kernel_rfl) (by simp) ?_; refine AllReadyH.cons rfl (fun K hK => ?_) (AllReadyH.nil); rw [if_neg (by decide)]; refine hK.out _ _ (by assumption) (fun hHeld => ?_))
                try simp only [Act.put, List.getElem_toArray, List.getElem_cons_zero, List.getElem_cons_succ, List.setIfInBounds_toArray, List.set_cons_zero, List.set_cons_succ]
                first | refine wpAnyH_take (i := 5) (oi := _) (v := undef) rfl (by kernel_rfl) (by kernel_rfl) (by kernel_rfl) (fun _ _ _ h => h) (Or.inr ⟨by rfl, rfl⟩) (by assumption) ?_ | (refine wpAnyH_ready (rs := [5]) (by kernel_rfl) (by simp) ?_; refine AllReadyH.cons rfl (fun K hK => ?_) (AllReadyH.nil); rw [if_neg (by decide)]; refine hK.out _ _ (by assumption) (fun hHeld => ?_))
                try simp only [Act.put, List.getElem_toArray, List.getElem_cons_zero, List.getElem_cons_succ, List.setIfInBounds_toArray, List.set_cons_zero, List.set_cons_succ]
                first | refine wpAnyH_take (i := 6) (oi := _) (v := undef) rfl (by kernel_rfl) (by kernel_rfl) (by kernel_rfl) (fun _ _ _ h => h) (Or.inr ⟨by rfl, rfl⟩) (by assumption) ?_ | (refine wpAnyH_ready (rs := [6]) (by kernel_rfl) (by simp) ?_; refine AllReadyH.cons rfl (fun K hK => ?_) (AllReadyH.nil); rw [if_neg (by decide)]; refine hK.out _ _ (by assumption) (fun hHeld => ?_))
                try simp only [Act.put, List.getElem_toArray, List.getElem_cons_zero, List.getElem_cons_succ, List.setIfInBounds_toArray, List.set_cons_zero, List.set_cons_succ]
                first | refine wpAnyH_take (i := 7) (oi := _) (v := undef) rfl (by kernel_rfl) (by kernel_rfl) (by kernel_rfl) (fun _ _ _ h => h) (Or.inr ⟨by rfl, rfl⟩) (by assumption) ?_ | (refine wpAnyH_ready (rs := [7]) (by kernel_rfl) (by simp) ?_; refine AllReadyH.cons rfl (fun K hK => ?_) (AllReadyH.nil); rw [if_neg (by decide)]; refine hK.out _ _ (by assumption) (fun hHeld => ?_))
                try simp only [Act.put, List.getElem_toArray, List.getElem_cons_zero, List.getElem_cons_succ, List.setIfInBounds_toArray, List.set_cons_zero, List.set_cons_succ]
                first | refine wpAnyH_take (i := 8) (oi := _) (v := undef) rfl (by kernel_rfl) (by kernel_rfl) (by kernel_rfl) (fun _ _ _ h => h) (Or.inr ⟨by rfl, rfl⟩) (by assumption) ?_ | (refine wpAnyH_ready (rs := [8]) (by kernel_rfl) (by simp) ?_; refine AllReadyH.cons rfl (fun K hK => ?_) (AllReadyH.nil); rw [if_neg (by decide)]; refine hK.out _ _ (by assumption) (fun hHeld => ?_))
                try simp only [Act.put, List.getElem_toArray, List.getElem_cons_zero, List.getElem_cons_succ, List.setIfInBounds_toArray, List.set_cons_zero, List.set_cons_succ]
                first | refine wpAnyH_take (i := 9) (oi := _) (v := undef) rfl (by kernel_rfl) (by kernel_rfl) (by kernel_rfl) (fun _ _ _ h => h) (Or.inr ⟨by rfl, rfl⟩) (by assumption) ?_ | (refine wpAnyH_ready (rs := [9]) (by kernel_rfl) (by simp) ?_; refine AllReadyH.cons rfl (fun K hK => ?_) (AllReadyH.nil); rw [if_neg (by decide)]; refine hK.out _ _ (by assumption) (fun hHeld => ?_))
                try simp only [Act.put, List.getElem_toArray, List.getElem_cons_zero, List.getElem_cons_succ, List.setIfInBounds_toArray, List.set_cons_zero, List.set_cons_succ]
                first | refine wpAnyH_take (i := 10) (oi := _) (v := undef) rfl (by kernel_rfl) (by kernel_rfl) (by kernel_rfl) (fun _ _ _ h => h) (Or.inr ⟨by rfl, rfl⟩) (by assumption) ?_ | (refine wpAnyH_ready (rs := [10]) (by kernel_rfl) (by simp) ?_; refine AllReadyH.cons rfl (fun K hK => ?_) (AllReadyH.nil); rw [if_neg (by decide)]; refine hK.out _ _ (by assumption) (fun hHeld => ?_))
                try simp only [Act.put, List.getElem_toArray, List.getElem_cons_zero, List.getElem_cons_succ, List.setIfInBounds_toArray, List.set_cons_zero, List.set_cons_succ]
                first | refine wpAnyH_take (i := 11) (oi := _) (v := undef) rfl (by kernel_rfl) (by kernel_rfl) (by kernel_rfl) (fun _ _ _ h => h) (Or.inr ⟨by rfl, rfl⟩) (by assumption) ?_ | (refine wpAnyH_ready (rs := [11]) (by kernel_rfl) (by simp) ?_; refine AllReadyH.cons rfl (fun K hK => ?_) (AllReadyH.nil); rw [if_neg (by decide)]; refine hK.out _ _ (by assumption) (fun hHeld => ?_))
                try simp only [Act.put, List.getElem_toArray, List.getElem_cons_zero, List.getElem_cons_succ, List.setIfInBounds_toArray, List.set_cons_zero, List.set_cons_succ]
                refine wpAnyH_take (i := 12) (oi := _) (v := ?_) rfl (by kernel_rfl) (by kernel_rfl) (by kernel_rfl) (fun _ _ _ h => h) (Or.inl ⟨by rfl, ?_⟩) (by assumption) ?_
                rotate_left
                · (intro w hSw; (try dsimp only at hSw); go_simp; try with_reducible rfl)
                try simp only [Act.put, List.getElem_toArray, List.getElem_cons_zero, List.getElem_cons_succ, List.setIfInBounds_toArray, List.set_cons_zero, List.set_cons_succ]
                refine wpAnyH_take (i := 13) (oi := _) (v := ?_) rfl (by kernel_rfl) (by kernel_rfl) (by kernel_rfl) (fun _ _ _ h => h) (Or.inl ⟨by rfl, ?_⟩) (by assumption) ?_
                rotate_left
                · (intro w hSw; (try dsimp only at hSw); go_simp; try with_reducible rfl)
                try simp only [Act.put, List.getElem_toArray, List.getElem_cons_zero, List.getElem_cons_succ, List.setIfInBounds_toArray, List.set_cons_zero, List.set_cons_succ]
                refine wpAnyH_done (by kernel_rfl) ?_ _
                go_wp2_with fail
                go_roundw
                case rel => exact ⟨m + 1, true, by push_cast; rfl, rfl, by have := HLM.out; omega, HQ, show Below W8.heap.size W8 wr.drew from HB9.out.drew⟩
                case measure => have := HLM.out; simp [intOf]; omega
            · have hgem : (N : Int) ≤ m := by omega
              have hmN : m = N := by omega
              subst hmN
              have hb : b = true := HBB.out.2 HJ.out
              subst hb
              clear hm hltm
              go_wp2_with fail
              go_roundw
              case rel => exact ⟨i + 1, by push_cast; rfl, by have := HLI.out; omega, below_next HB8.out HB9.out⟩
              case measure => have := HLI.out; simp [intOf]; omega
        · have hge : (xs.length : Int) ≤ i := by omega
          have X6 := Lib.hid (below_next X5.out HB.out)
          clear hi hlt
          go_wp2_with fail
          refine (HTV.out _ X6.out).mono ?_
          rintro e W9 ⟨rfl, hb9⟩
          go_wp2
          go_ret
          exact ⟨rfl, below_next HBL.out (below_next B3.out (below_next X6.out hb9))⟩
  · have hl : (1048576 : Int) < len0 := by omega
    clear h w0
    go_enter Tryz.func3, Tryz.ntmps3
    go_wp2
    go_ret
    exact ⟨rfl, Below.refl _ _⟩


set_option maxRecDepth 100000 in
/-- What the walk gives, for every argument and every world that holds the listed variables. -/
theorem contract (H : Type) (enc : TypeId × Value → H) (W : World) (base : Nat) (args : Array Value) (ds gs : List (DataW H)) (before : List MemPlace)
    (hval0 : ∀ (j : Nat) t v, Tryz.f3.params[j]? = some t → args[j]? = some v → Value.okWide Tryz.prog W .any base t v)
    (hW : DataW.Whole enc Tryz.prog Tryz.f3.params.toList Rows.fnLogTreeSpec.vars false W args.toList ds gs before) (hL : laidMetH Tryz.prog Rows.fnLogTreeRow.laid W) (hsh : W.ShapedOpen Tryz.prog) :
    Calls Tryz.prog 3 args W fun e W' => ∃ v, e = .returned v ∧ Rows.fnLogTreeSpec.post enc Tryz.prog Tryz.f3 false true false false W args v W' := by
  have hval : ∀ (j : Nat) t v, Tryz.f3.params[j]? = some t → args[j]? = some v → Value.okWide Tryz.prog W .any base t v := hval0
  have hW' := hW
  obtain ⟨p, q, hA0, hV, rfl, hfz, hnd⟩ := hW
  have hA : DataW.TrodAll enc Tryz.prog W 0 (fun _ => true) true Tryz.f3.params.toList args.toList ds p := hA0
  rw [Tryz.params3] at hA hval
  obtain ⟨v0, vs0, d0, ds0, p0, q0, hargs, rfl, rfl, h0, r0⟩ := trodAll_cons hA
  obtain ⟨rfl, rfl, rfl⟩ := trodAll_nil r0
  obtain rfl : args = #[v0] := by cases args; simp_all
  obtain ⟨_, _, _, _, e0, _, _, _, _, _, e1, _, rfl, -⟩ := trodVars_two hV
  obtain ⟨a0, len0, cap0, rfl⟩ := okWide_slice Tryz.underlying22 (hval 0 22 v0 rfl rfl)
  have k0 := h0
  have lt0 : ∀ x ∈ p0, x.block < W.heap.size := by obtain ⟨m, hm⟩ := k0; exact DataW.trod_lt m _ _ _ hm
  obtain ⟨z0, w0⟩ : ∃ zs, IsRow .u8 W a0 len0 cap0 zs := by
    obtain ⟨fuel, hf⟩ := h0
    rcases open_ints Tryz.underlying22 Tryz.underlying5 (by kernel_rfl) hf with ⟨hcs, _⟩ | ⟨x, l, c, zs, hcs, _, hl, hm, hz, _, hcell, hwz⟩
    · simp [Value.cells] at hcs
      obtain ⟨rfl, rfl, rfl⟩ := hcs
      exact ⟨[], .inl ⟨rfl, rfl, rfl, rfl⟩⟩
    · simp [Value.cells] at hcs
      obtain ⟨rfl, rfl, rfl⟩ := hcs
      exact ⟨zs, .inr ⟨_, rfl, hl, hm, by simpa using hz, hcell, hwz⟩⟩
  clear hA0 hval0
  refine (walk a0 len0 cap0 z0 W w0 (cmdVars_of hL (by kernel_rfl) (by kernel_rfl) (by kernel_rfl))).mono fun e W' ⟨he, bel⟩ => ?_
  subst he
  exact ⟨_, rfl, _, _, _, [], _, _, hW', trodAll_mk1 (shut_bool Tryz.underlying4 _), (trodAll_cons_mk (Below.trod laidOut (by kernel_rfl) (of_decide_eq_true (by kernel_rfl)) k0 bel lt0) trodAll_mk0), Below.trodVars laidOut bel (by kernel_rfl) hV, bel.frame _, fun h => by cases h⟩

theorem laid_met (os : Os) : laidMet Tryz.prog Rows.fnLogTreeRow.laid ((World.laidAll Tryz.prog os Rows.fnLogTreeRow.laid).forCall (fun _ _ => 0) ⟨#[], #[.slice none 0 0], []⟩).memory :=
  laidMet_laidAll _ (by kernel_rfl) (by kernel_rfl)
theorem reads (os : Os) {H : Type} (enc : TypeId × Value → H) : ∃ x, DataW.whole enc Tryz.prog ((World.laidAll Tryz.prog os Rows.fnLogTreeRow.laid).forCall (fun _ _ => 0) ⟨#[], #[.slice none 0 0], []⟩).memory Tryz.f3.params.toList Rows.fnLogTreeSpec.vars false #[Value.slice none 0 0].toList 8 = some x :=
  Option.isSome_iff_exists.1 (by kernel_rfl)

set_option maxRecDepth 100000 in
theorem lifted (os : Os) (started : os.Started) (H : Type) (enc : TypeId × Value → H) (F : Stop.Interp) :
    ReturnsInHanded {} Tryz.checked os 3 .any ((OpenSpec.ofChange Rows.fnLogTreeSpec).preRow enc Tryz.prog Tryz.f3 Rows.fnLogTreeRow.domain false Rows.fnLogTreeRow.laid) (((OpenSpec.ofChange Rows.fnLogTreeSpec).at F).post enc Tryz.prog Tryz.f3 false true false false) := by
  obtain ⟨x, hx⟩ := reads os enc
  refine returnsInHanded_of_row (C := Tryz.checked) (s := OpenSpec.ofChange Rows.fnLogTreeSpec) own started (by kernel_rfl) Tryz.func3
    (witness_row_atRef (enc := enc) (C := Tryz.checked) false (World.laidAll Tryz.prog os Rows.fnLogTreeRow.laid) #[.slice none 0 0] rfl (by kernel_rfl) (by kernel_rfl) (by kernel_rfl)
      (OpenSpec.preRow_of_cond 8 hx (by kernel_rfl) (fun k hk => by cases hk) (by kernel_rfl) (laid_met os))) ?_
  intro W base args ds gs before hval hW _ _ _ hL hsh _
  exact contract H enc W base args ds gs before hval hW hL hsh

theorem said : Rows.FnLogTreeSaid :=
  OpenClaim.holds_of_cond 3 Tryz.f3 rfl rfl rfl rfl rfl rfl rfl ⟨rfl, rfl, rfl, rfl, rfl⟩ rfl rfl rfl rfl rfl (by kernel_rfl) Tryz.func3 (by kernel_rfl)
    (of_decide_eq_true (by kernel_rfl)) (by unfold Func.isWrapper; first | (rw [if_pos (by decide +kernel)]; kernel_rfl) | (rw [if_neg (by decide +kernel)]; exact ⟨rfl, rfl⟩))
    (fun os started H enc _ F => by rw [OpenClaim.pre_eq_preRow]; exact lifted os started H enc F)

/-- No parameter wants a stand-in; the program's own looks: what the card asks. -/
theorem plain (f : FuncId) (fn : Func) (hf : Tryz.pinned.checked.prog.funcNamed Rows.fnLogTreeRow.func = some f) (hfn : Tryz.pinned.checked.prog.funcs[f]? = some fn) :
    true = Tryz.pinned.checked.prog.looks [] ∧ ∀ (j : Nat) t, fn.params[j]? = some t → Tryz.pinned.checked.prog.wantsStandIn t = false := by
  obtain rfl : f = 3 := Option.some.inj ((show Tryz.prog.funcNamed Rows.fnLogTreeRow.func = some 3 by kernel_rfl).symm.trans hf) |>.symm
  obtain rfl : fn = Tryz.f3 := (Option.some.inj (Tryz.func3.symm.trans hfn)).symm
  refine ⟨by kernel_rfl, fun j t ht => ?_⟩
  rw [Tryz.params3] at ht
  have hm := Array.mem_of_getElem? ht
  simp at hm
  rcases hm with rfl
  · exact (show Tryz.prog.wantsStandIn 22 = false by kernel_rfl)

/-- THE CARD. -/
theorem card : Rows.FnLogTreeCardSaid :=
  Claim7.holds_tied_plain_at .later [] _ _ _ _ said (fun _ h => by cases h) (by kernel_rfl) (fun _ h => by cases h) fnLogTree_row_tie rfl ⟨rfl, rfl⟩ (by kernel_rfl) rfl plain (by kernel_rfl)
end Go.Proofs.YtkaokncaockjkaaGreatDoor.fnLogTree
