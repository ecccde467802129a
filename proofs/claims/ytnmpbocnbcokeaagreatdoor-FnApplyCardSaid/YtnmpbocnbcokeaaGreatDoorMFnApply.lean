/-
  laws.FnApply returns true for every input, and leaves its arguments as they were.
  Conditions: none of ours; the package-level variables that its row lists hold what the program's text lays (the given tie).
-/
import Derived.Test.YtnmpbocnbcokeaaGreatDoorRows
import Derived.Test.YtnmpbocnbcokeaaGreatDoorCards
import Derived.Test.YtnmpbocnbcokeaaGreatDoorTie
import Derived.WalkKit
import Derived.ProofKit
import Derived.OpenShut
import Derived.ShutString
import Derived.ChangeOld
import Derived.Below
import Derived.Deep.DeepHandedRow
import Derived.Deep.DeepWitnessRowRef
import Derived.Lib.LaidTab
import Derived.LaidMore
import Derived.OpenVars
import Derived.Lay
import Derived.Test.YtnmpbocnbcokeaaGreatDoorK4
namespace Go.Proofs.YtnmpbocnbcokeaaGreatDoor.fnApply
open Go.ChangeShapes Go.WideShapes Go.ChangeAt Go.RowKit
open Go.ChangeMaps (open_string shut_string)
set_option linter.unusedVariables false

theorem own : ownKnob Tryz.prog.godebug = none := by kernel_rfl
theorem laidOut : laidOutB Tryz.prog = true := by kernel_rfl

/-- What CommandApply tells, its two parts named. -/
def APost (out : List Nd) (b : Bool) (W : World) (e : Ending) (w' : World) : Prop :=
  ∃ sl, e = .returned (.tuple #[sl, .bool b]) ∧ w'.ownsRow W.heap.size 49 3 sl out.length (flatN out) ∧ Below W.heap.size W w'

theorem apply_named {ns out : List Nd} {c : Cmd} {b : Bool} {W : World} {f : Nat} {args : Array Value} (hr : applyC ns c = (out, b)) (h : Calls Tryz.prog f args W (ApplyPost (applyC ns c) W.heap.size W)) : Calls Tryz.prog f args W (APost out b W) := by
  rw [hr] at h
  exact h

theorem applyC_le {ns : List Nd} {c : Cmd} {m : Nat} (h : ns.length ≤ m) (hm : 10 ≤ m) : (applyC ns c).1.length ≤ m := by
  cases hb : applyC ns c with
  | mk out b =>
    cases b with
    | true => exact Nat.le_trans ((validT_iff out).1 (applyC_valid hb)).2.2 hm
    | false =>
      unfold applyC at hb
      split at hb
      · rename_i hc
        rw [Bool.and_eq_true] at hc
        have := (apply_break (by rw [applyC_ok hc.1 hc.2]; exact hb) hc.1 hc.2).1
        rw [this]; exact h
      · simp at hb
        rw [hb]; simp

theorem apply_short {ns out : List Nd} {c : Cmd} {b : Bool} (h : applyC ns c = (out, b)) (hs : Short 66 ns) (hp : c.p.size ≤ 66) : Short 66 out := by
  cases b with
  | true =>
    obtain ⟨_, _, _, h4⟩ := applyC_some h
    obtain ⟨_, _, _, h5, _⟩ := treePut_some h4
    rw [h5]
    exact short_put hs hp
  | false =>
    unfold applyC at h
    split at h
    · rename_i hc
      rw [Bool.and_eq_true] at hc
      have := (apply_break (by rw [applyC_ok hc.1 hc.2]; exact h) hc.1 hc.2).1
      rw [this]; exact hs
    · simp at h
      rw [h]
      intro n hn
      cases hn

theorem texts_lit (W : World) (s : ByteArray) : TextsAt (W.alloc (.cells #[.string s] 9)) (some ⟨W.heap.size, 0, none⟩) 1 [s] := by
  refine ⟨rfl, .inr ⟨W.heap.size, 0, rfl, fun i z hz => ?_⟩⟩
  match i, hz with
  | 0, hz => simp at hz; subst hz; simp
  | i + 1, hz => simp at hz

set_option maxHeartbeats 4000000 in
set_option maxRecDepth 100000 in
theorem walk (a0 : Option Addr) (len0 cap0 : Nat) (z0 : List Int) (w : World) (w0 : IsRow .u8 w a0 len0 cap0 z0) (hE : CmdVars w) :
    Calls Tryz.prog 3 #[.slice a0 len0 cap0] w fun e w' => e = .returned (.bool true) ∧ Below w.heap.size w w' := by
  have HE := Lib.hid hE
  clear hE
  by_cases h : len0 ≤ 1048576
  · have hl : (len0 : Int) ≤ 1048576 := by omega
    have HD := Lib.hid (drawCmdApply_c a0 len0 cap0 z0 w w0)
    clear h w0
    go_enter Tryz.func3, Tryz.ntmps3
    go_wp2_with fail
    refine HD.out.mono ?_
    rintro e W1 ⟨sl, ns, c, rfl, hp, hd⟩
    obtain ⟨a, cap, rfl, hn⟩ := nodes_of_own hd.1
    have HN := Lib.hid hn
    have hlen := hd.2.1
    have HL := Lib.hid hlen
    have hsh := hd.2.2.1.mono (show 64 ≤ 66 by omega)
    have HSH := Lib.hid hsh
    have HBL := Lib.hid hd.2.2.2
    have HE1 := Lib.hid (HE.out.keep hd.2.2.2)
    obtain ⟨⟨out, b⟩, hr⟩ : ∃ r, applyC ns c = r := ⟨_, rfl⟩
    have HR := Lib.hid hr
    have HOL := Lib.hid (show out.length ≤ 11 by have := applyC_le (c := c) hlen (by omega); rw [hr] at this; exact this)
    have HOS := Lib.hid (apply_short hr hsh hp)
    have HP := Lib.hid hp
    have HI := Lib.hid (fun W' (hb : Below W1.heap.size W1 W') => apply_named hr (implCmdApply_c a ns.length cap ns c (by omega) (hsh.mono (by omega)) (by omega) W' (hn.keep hb) (HE1.out.keep hb)))
    have HS := Lib.hid (fun W' (hb : Below W1.heap.size W1 W') => apply_named hr (specCmdApply_c a ns.length cap ns c (by omega) (hsh.mono (by omega)) (by omega) W' (hn.keep hb)))
    clear hn hd hr hp hsh
    obtain ⟨p, fk, fv, tk, tv⟩ := c
    unfold cmdV at HI HS ⊢
    simp only at HI HS HR HP ⊢
    go_wp2_with fail
    refine (HI.out _ (below_box _ _)).mono ?_
    rintro e W2 ⟨o1, rfl, ho1, hb2⟩
    have C2 := Lib.hid ((five_new W1 (.string p) (.int .i64 fk) (.int .i64 fv) (.int .i64 tk) (.int .i64 tv) 27).below hb2)
    have HB2 := Lib.hid (below_next (below_box W1 _) hb2)
    clear hb2
    obtain ⟨c0, c1, c2, c3, c4, -⟩ := C2.out
    go_wp2_with fail
    refine (HS.out _ HB2.out).mono ?_
    rintro e W3 ⟨o2, rfl, ho2, hb3⟩
    have C3 := Lib.hid (C2.out.below hb3)
    have HB3 := Lib.hid (below_next HB2.out hb3)
    have ho1' := own_below ho1 hb3
    obtain ⟨x1, p1, rfl, hn1⟩ := nodes_of_own ho1'
    obtain ⟨x2, p2, rfl, hn2⟩ := nodes_of_own ho2
    have HSM := Lib.hid (fun W' (hb : Below W3.heap.size W3 W') => sameNodes_c x1 x2 out.length p1 p2 out (by have := HOL.out; omega) W' (hn1.keep hb) (hn2.keep hb))
    have HN1 := Lib.hid hn1
    clear ho1 ho2 hb3 ho1' hn1 hn2 c0 c1 c2 c3 c4 C2
    cases b with
    | false =>
      go_wp2_with fail
      refine (HSM.out _ (Below.refl _ _)).mono ?_
      rintro e W4 ⟨rfl, hb4⟩
      have H4 := Lib.hid hb4
      clear hb4
      go_wp2_with fail
      refine (HSM.out _ H4.out).mono ?_
      rintro e W5 ⟨rfl, hb5⟩
      go_wp2
      go_ret
      exact ⟨rfl, below_next HBL.out (below_next HB3.out (below_next H4.out hb5))⟩
    | true =>
      go_wp2_with fail
      refine (HSM.out _ (Below.refl _ _)).mono ?_
      rintro e W4 ⟨rfl, hb4⟩
      have H4 := Lib.hid (below_next HB3.out hb4)
      have C4 := Lib.hid (C3.out.below hb4)
      have HN4 := Lib.hid (HN1.out.keep hb4)
      clear hb4
      obtain ⟨g1, g2, g3⟩ := apply_one HR.out
      simp only at g1 g2 g3
      have HG1 := Lib.hid (fun W' (hb : Below W1.heap.size W1 W') => show Calls Tryz.prog 8 #[.slice a ns.length cap, .string p] W' (fun e w' => e = .returned (.agg #[.int .i64 fk, .int .i64 fv]) ∧ Below W'.heap.size W' w') by
        have := implTreeGet_c a ns.length cap ns p (by have := HL.out; omega) (HSH.out.mono (by omega)) (by have := HP.out; omega) W' (HN.out.keep hb)
        rw [g1] at this; exact this)
      have HG2 := Lib.hid (fun W' (h : NodesAt W' x1 out.length out) => show Calls Tryz.prog 8 #[.slice x1 out.length p1, .string p] W' (fun e w' => e = .returned (.agg #[.int .i64 tk, .int .i64 tv]) ∧ Below W'.heap.size W' w') by
        have := implTreeGet_c x1 out.length p1 out p (by have := HOL.out; omega) (HOS.out.mono (by omega)) (by have := HP.out; omega) W' h
        rw [g2] at this; exact this)
      have HTC := Lib.hid (fun W' (hb : Below W1.heap.size W1 W') (h : NodesAt W' x1 out.length out) => show Calls Tryz.prog 10 #[.slice a ns.length cap, .slice x1 out.length p1] W' (TextsPost [p] W') by
        rw [← g3]; exact implTreeChanged_c a ns.length cap ns x1 out.length p1 out (by have := HL.out; omega) (by have := HOL.out; omega) (HSH.out.mono (by omega)) (HOS.out.mono (by omega)) W' (HN.out.keep hb) h)
      have he1 := fun w' => (conEqQ fk fv fk fv w').trans (show _ = Result.ok (Value.bool true) w' by simp)
      have he2 := fun w' => (conEqQ tk tv tk tv w').trans (show _ = Result.ok (Value.bool true) w' by simp)
      have HX4 := Lib.hid H4.out
      have HKP := Lib.hid (fun (u1 u2 : World) (h : u1.cell? ⟨W1.heap.size, 0, none⟩ = some (.string p) ∧ u1.cell? ⟨W1.heap.size, 1, none⟩ = some (.int .i64 fk) ∧ u1.cell? ⟨W1.heap.size, 2, none⟩ = some (.int .i64 fv) ∧ u1.cell? ⟨W1.heap.size, 3, none⟩ = some (.int .i64 tk) ∧ u1.cell? ⟨W1.heap.size, 4, none⟩ = some (.int .i64 tv) ∧ Below W1.heap.size W1 u1) (hb : Below u1.heap.size u1 u2) => show u2.cell? ⟨W1.heap.size, 0, none⟩ = some (.string p) ∧ u2.cell? ⟨W1.heap.size, 1, none⟩ = some (.int .i64 fk) ∧ u2.cell? ⟨W1.heap.size, 2, none⟩ = some (.int .i64 fv) ∧ u2.cell? ⟨W1.heap.size, 3, none⟩ = some (.int .i64 tk) ∧ u2.cell? ⟨W1.heap.size, 4, none⟩ = some (.int .i64 tv) ∧ Below W1.heap.size W1 u2 from ⟨cell_kept hb h.1, cell_kept hb h.2.1, cell_kept hb h.2.2.1, cell_kept hb h.2.2.2.1, cell_kept hb h.2.2.2.2.1, below_next h.2.2.2.2.2 hb⟩)
      have HS0 : Hid (W4.drew.cell? ⟨W1.heap.size, 0, none⟩ = some (.string p) ∧ W4.drew.cell? ⟨W1.heap.size, 1, none⟩ = some (.int .i64 fk) ∧ W4.drew.cell? ⟨W1.heap.size, 2, none⟩ = some (.int .i64 fv) ∧ W4.drew.cell? ⟨W1.heap.size, 3, none⟩ = some (.int .i64 tk) ∧ W4.drew.cell? ⟨W1.heap.size, 4, none⟩ = some (.int .i64 tv) ∧ Below W1.heap.size W1 W4.drew) := ⟨C4.out.1, C4.out.2.1, C4.out.2.2.1, C4.out.2.2.2.1, C4.out.2.2.2.2.1, HX4.out.drew⟩
      clear g1 g2 g3
      go_upto_region 8 with (fail)
      refine wp_region_held_drew (S := (fun w' => w'.cell? ⟨W1.heap.size, 0, none⟩ = some (.string p) ∧ w'.cell? ⟨W1.heap.size, 1, none⟩ = some (.int .i64 fk) ∧ w'.cell? ⟨W1.heap.size, 2, none⟩ = some (.int .i64 fv) ∧ w'.cell? ⟨W1.heap.size, 3, none⟩ = some (.int .i64 tk) ∧ w'.cell? ⟨W1.heap.size, 4, none⟩ = some (.int .i64 tv) ∧ Below W1.heap.size W1 w')) (by kernel_rfl) HS0.out (fun hH => ?_)
      refine wpAnyH_take (i := 0) (oi := _) (v := ?_) rfl (by kernel_rfl) (by kernel_rfl) (by kernel_rfl) (fun _ _ _ h => h) (Or.inl ⟨by rfl, ?_⟩) (by assumption) ?_
      rotate_left
      · (intro w hSw; (try dsimp only at hSw); go_simp; try with_reducible rfl)
      try simp only [Act.put, List.getElem_toArray, List.getElem_cons_zero, List.setIfInBounds_toArray, List.set_cons_zero, List.set_cons_succ]
      refine wpAnyH_take (i := 1) (oi := _) (v := ?_) rfl (by kernel_rfl) (by kernel_rfl) (by kernel_rfl) (fun _ _ _ h => h) (Or.inl ⟨by rfl, ?_⟩) (by assumption) ?_
      rotate_left
      · (intro w hSw; (try dsimp only at hSw); go_simp; try with_reducible rfl)
      try simp only [Act.put, List.getElem_toArray, List.getElem_cons_zero, List.getElem_cons_succ, List.setIfInBounds_toArray, List.set_cons_zero, List.set_cons_succ]
      refine wpAnyH_take (i := 2) (oi := _) (v := ?_) rfl (by kernel_rfl) (by kernel_rfl) (by kernel_rfl) (fun _ _ _ h => h) (Or.inl ⟨by rfl, ?_⟩) (by assumption) ?_
      rotate_left
      · (intro w hSw; (try dsimp only at hSw); go_simp; try with_reducible rfl)
      try simp only [Act.put, List.getElem_toArray, List.getElem_cons_zero, List.getElem_cons_succ, List.setIfInBounds_toArray, List.set_cons_zero, List.set_cons_succ]
      refine wpAnyH_take (i := 4) (oi := _) (v := ?_) rfl (by kernel_rfl) (by kernel_rfl) (by kernel_rfl) (fun _ _ _ h => h) (Or.inl ⟨by rfl, ?_⟩) (by assumption) ?_
      rotate_left
      · (intro w hSw; (try dsimp only at hSw); go_simp; try with_reducible rfl)
      try simp only [Act.put, List.getElem_toArray, List.getElem_cons_zero, List.getElem_cons_succ, List.setIfInBounds_toArray, List.set_cons_zero, List.set_cons_succ]
      refine wpAnyH_take (i := 5) (oi := _) (v := ?_) rfl (by kernel_rfl) (by kernel_rfl) (by kernel_rfl) (fun _ _ _ h => h) (Or.inl ⟨by rfl, ?_⟩) (by assumption) ?_
      rotate_left
      · (intro w hSw; (try dsimp only at hSw); go_simp; try with_reducible rfl)
      try simp only [Act.put, List.getElem_toArray, List.getElem_cons_zero, List.getElem_cons_succ, List.setIfInBounds_toArray, List.set_cons_zero, List.set_cons_succ]
      refine wpAnyH_ready (rs := [3]) (by kernel_rfl) (by simp) ?_
      refine AllReadyH.cons rfl (fun K hK => ?_) (AllReadyH.nil)
      go_simp
      go_at_call 8; (with_reducible refine (HG1.out _ HX4.out.drew).mono ?_); rintro e W5 ⟨rfl, hb5⟩
      refine hK.out _ _ (HKP.out _ _ HS0.out hb5) (fun hHeld => ?_)
      try simp only [Act.put, List.getElem_toArray, List.getElem_cons_zero, List.getElem_cons_succ, List.setIfInBounds_toArray, List.set_cons_zero, List.set_cons_succ]
      have HX5 := Lib.hid (below_next HX4.out.drew hb5)
      have HN5 := Lib.hid ((show NodesAt W4.drew x1 out.length out from HN4.out).keep hb5)
      refine wpAnyH_take (i := 6) (oi := _) (v := ?_) rfl (by kernel_rfl) (by kernel_rfl) (by kernel_rfl) (fun _ _ _ h => h) (Or.inl ⟨by rfl, ?_⟩) (by assumption) ?_
      rotate_left
      · (intro w hSw; (try dsimp only at hSw); go_simp; try with_reducible rfl)
      try simp only [Act.put, List.getElem_toArray, List.getElem_cons_zero, List.getElem_cons_succ, List.setIfInBounds_toArray, List.set_cons_zero, List.set_cons_succ]
      refine wpAnyH_take (i := 7) (oi := _) (v := ?_) rfl (by kernel_rfl) (by kernel_rfl) (by kernel_rfl) (fun _ _ _ h => h) (Or.inl ⟨by rfl, ?_⟩) (by assumption) ?_
      rotate_left
      · (intro w hSw; (try dsimp only at hSw); go_simp; try with_reducible rfl)
      try simp only [Act.put, List.getElem_toArray, List.getElem_cons_zero, List.getElem_cons_succ, List.setIfInBounds_toArray, List.set_cons_zero, List.set_cons_succ]
      refine wpAnyH_take (i := 8) (oi := _) (v := ?_) rfl (by kernel_rfl) (by kernel_rfl) (by kernel_rfl) (fun _ _ _ h => h) (Or.inl ⟨by rfl, ?_⟩) (by assumption) ?_
      rotate_left
      · (intro w hSw; (try dsimp only at hSw); go_simp; try with_reducible rfl)
      try simp only [Act.put, List.getElem_toArray, List.getElem_cons_zero, List.getElem_cons_succ, List.setIfInBounds_toArray, List.set_cons_zero, List.set_cons_succ]
      refine wpAnyH_take (i := 9) (oi := _) (v := ?_) rfl (by kernel_rfl) (by kernel_rfl) (by kernel_rfl) (fun _ _ _ h => h) (Or.inl ⟨by rfl, ?_⟩) (by assumption) ?_
      rotate_left
      · (intro w hSw; (try dsimp only at hSw); go_simp; try with_reducible rfl)
      try simp only [Act.put, List.getElem_toArray, List.getElem_cons_zero, List.getElem_cons_succ, List.setIfInBounds_toArray, List.set_cons_zero, List.set_cons_succ]
      refine wpAnyH_take (i := 10) (oi := _) (v := ?_) rfl (by kernel_rfl) (by kernel_rfl) (by kernel_rfl) (fun _ _ _ h => h) (Or.inl ⟨by rfl, ?_⟩) (by assumption) ?_
      rotate_left
      · (intro w hSw; (try dsimp only at hSw); go_simp; try with_reducible rfl)
      try simp only [Act.put, List.getElem_toArray, List.getElem_cons_zero, List.getElem_cons_succ, List.setIfInBounds_toArray, List.set_cons_zero, List.set_cons_succ]
      refine wpAnyH_take (i := 12) (oi := _) (v := ?_) rfl (by kernel_rfl) (by kernel_rfl) (by kernel_rfl) (fun _ _ _ h => h) (Or.inl ⟨by rfl, ?_⟩) (by assumption) ?_
      rotate_left
      · (intro w hSw; (try dsimp only at hSw); go_simp; try with_reducible rfl)
      try simp only [Act.put, List.getElem_toArray, List.getElem_cons_zero, List.getElem_cons_succ, List.setIfInBounds_toArray, List.set_cons_zero, List.set_cons_succ]
      refine wpAnyH_take (i := 13) (oi := _) (v := ?_) rfl (by kernel_rfl) (by kernel_rfl) (by kernel_rfl) (fun _ _ _ h => h) (Or.inl ⟨by rfl, ?_⟩) (by assumption) ?_
      rotate_left
      · (intro w hSw; (try dsimp only at hSw); go_simp; try with_reducible rfl)
      try simp only [Act.put, List.getElem_toArray, List.getElem_cons_zero, List.getElem_cons_succ, List.setIfInBounds_toArray, List.set_cons_zero, List.set_cons_succ]
      refine wpAnyH_ready (rs := [11]) (by kernel_rfl) (by simp) ?_
      refine AllReadyH.cons rfl (fun K hK => ?_) (AllReadyH.nil)
      go_simp
      go_at_call 8; (with_reducible refine (HG2.out _ HN5.out).mono ?_); rintro e W6 ⟨rfl, hb6⟩
      refine hK.out _ _ (HKP.out _ _ (HKP.out _ _ HS0.out hb5) hb6) (fun hHeld => ?_)
      try simp only [Act.put, List.getElem_toArray, List.getElem_cons_zero, List.getElem_cons_succ, List.setIfInBounds_toArray, List.set_cons_zero, List.set_cons_succ]
      have HX6 := Lib.hid (below_next HX5.out hb6)
      have HN6 := Lib.hid (HN5.out.keep hb6)
      have HS6 := Lib.hid (HKP.out _ _ (HKP.out _ _ HS0.out hb5) hb6)
      refine wpAnyH_take (i := 14) (oi := _) (v := ?_) rfl (by kernel_rfl) (by kernel_rfl) (by kernel_rfl) (fun _ _ _ h => h) (Or.inl ⟨by rfl, ?_⟩) (by assumption) ?_
      rotate_left
      · (intro w hSw; (try dsimp only at hSw); go_simp; try with_reducible rfl)
      try simp only [Act.put, List.getElem_toArray, List.getElem_cons_zero, List.getElem_cons_succ, List.setIfInBounds_toArray, List.set_cons_zero, List.set_cons_succ]
      refine wpAnyH_take (i := 15) (oi := _) (v := ?_) rfl (by kernel_rfl) (by kernel_rfl) (by kernel_rfl) (fun _ _ _ h => h) (Or.inl ⟨by rfl, ?_⟩) (by assumption) ?_
      rotate_left
      · (intro w hSw; (try dsimp only at hSw); go_simp; try with_reducible rfl)
      try simp only [Act.put, List.getElem_toArray, List.getElem_cons_zero, List.getElem_cons_succ, List.setIfInBounds_toArray, List.set_cons_zero, List.set_cons_succ]
      refine wpAnyH_take (i := 16) (oi := _) (v := ?_) rfl (by kernel_rfl) (by kernel_rfl) (by kernel_rfl) (fun _ _ _ h => h) (Or.inl ⟨by rfl, ?_⟩) (by assumption) ?_
      rotate_left
      · (intro w hSw; (try dsimp only at hSw); go_simp; try with_reducible rfl)
      try simp only [Act.put, List.getElem_toArray, List.getElem_cons_zero, List.getElem_cons_succ, List.setIfInBounds_toArray, List.set_cons_zero, List.set_cons_succ]
      refine wpAnyH_take (i := 17) (oi := _) (v := ?_) rfl (by kernel_rfl) (by kernel_rfl) (by kernel_rfl) (fun _ _ _ h => h) (Or.inl ⟨by rfl, ?_⟩) (by assumption) ?_
      rotate_left
      · (intro w hSw; (try dsimp only at hSw); go_simp; try with_reducible rfl)
      try simp only [Act.put, List.getElem_toArray, List.getElem_cons_zero, List.getElem_cons_succ, List.setIfInBounds_toArray, List.set_cons_zero, List.set_cons_succ]
      refine wpAnyH_take (i := 18) (oi := _) (v := ?_) rfl (by kernel_rfl) (by kernel_rfl) (by kernel_rfl) (fun _ _ _ h => h) (Or.inl ⟨by rfl, ?_⟩) (by assumption) ?_
      rotate_left
      · (intro w hSw; (try dsimp only at hSw); go_simp; try with_reducible rfl)
      try simp only [Act.put, List.getElem_toArray, List.getElem_cons_zero, List.getElem_cons_succ, List.setIfInBounds_toArray, List.set_cons_zero, List.set_cons_succ]
      refine wpAnyH_take (i := 20) (oi := _) (v := ?_) rfl (by kernel_rfl) (by kernel_rfl) (by kernel_rfl) (fun _ _ _ h => h) (Or.inl ⟨by rfl, ?_⟩) (by assumption) ?_
      rotate_left
      · (intro w hSw; (try dsimp only at hSw); go_simp; try with_reducible rfl)
      try simp only [Act.put, List.getElem_toArray, List.getElem_cons_zero, List.getElem_cons_succ, List.setIfInBounds_toArray, List.set_cons_zero, List.set_cons_succ]
      refine wpAnyH_take (i := 21) (oi := _) (v := ?_) rfl (by kernel_rfl) (by kernel_rfl) (by kernel_rfl) (fun _ _ _ h => h) (Or.inl ⟨by rfl, ?_⟩) (by assumption) ?_
      rotate_left
      · (intro w hSw; (try dsimp only at hSw); go_simp; try with_reducible rfl)
      try simp only [Act.put, List.getElem_toArray, List.getElem_cons_zero, List.getElem_cons_succ, List.setIfInBounds_toArray, List.set_cons_zero, List.set_cons_succ]
      refine wpAnyH_ready (rs := [19, 22]) (by kernel_rfl) (by simp) ?_
      refine AllReadyH.cons rfl (fun K hK => ?_) (AllReadyH.cons rfl (fun K hK => ?_) AllReadyH.nil)
      · go_simp
        go_at_call 10; (with_reducible refine (HTC.out _ HX6.out HN6.out).mono ?_); rintro e W7 ⟨⟨x7, rfl, ho7⟩, hb7⟩
        refine hK.out _ _ (HKP.out _ _ HS6.out hb7) (fun hHeld => ?_)
        try simp only [Act.put, List.getElem_toArray, List.getElem_cons_zero, List.getElem_cons_succ, List.setIfInBounds_toArray, List.set_cons_zero, List.set_cons_succ]
        obtain ⟨a7, c7, rfl, ht7⟩ := texts_of_own ho7
        have HX7 := Lib.hid (below_next (below_next HX6.out hb7) (below_box W7 (.cells #[.string p] 9)))
        have HSM2 := Lib.hid (sameTexts_c a7 (some ⟨W7.heap.size, 0, none⟩) 1 c7 1 [p] (by omega) (W7.alloc (.cells #[.string p] 9)) (ht7.keep (below_box _ _)) (texts_lit W7 p))
        clear ho7 ht7
        refine wpAnyH_ready (rs := [22]) (by kernel_rfl) (by simp) ?_
        refine AllReadyH.cons rfl (fun K hK => ?_) AllReadyH.nil
        go_simp
        refine hK.out _ _ (HKP.out _ _ (HKP.out _ _ HS6.out hb7) (below_box _ _)) (fun hHeld => ?_)
        try simp only [Act.put, List.getElem_toArray, List.getElem_cons_zero, List.getElem_cons_succ, List.setIfInBounds_toArray, List.set_cons_zero, List.set_cons_succ]
        refine wpAnyH_ready (rs := [23]) (by kernel_rfl) (by simp) ?_
        refine AllReadyH.cons rfl (fun K hK => ?_) (AllReadyH.nil)
        go_simp
        go_at_call 9; (with_reducible refine (HSM2.out).mono ?_); rintro e W8 ⟨rfl, hb8⟩
        refine hK.out _ _ (HKP.out _ _ (HKP.out _ _ (HKP.out _ _ HS6.out hb7) (below_box _ _)) hb8) (fun hHeld => ?_)
        try simp only [Act.put, List.getElem_toArray, List.getElem_cons_zero, List.getElem_cons_succ, List.setIfInBounds_toArray, List.set_cons_zero, List.set_cons_succ]
        refine wpAnyH_take (i := 24) (oi := _) (v := ?_) rfl (by kernel_rfl) (by kernel_rfl) (by kernel_rfl) (fun _ _ _ h => h) (Or.inl ⟨by rfl, ?_⟩) (by assumption) ?_
        rotate_left
        · (intro w hSw; (try dsimp only at hSw); go_simp; try with_reducible rfl)
        try simp only [Act.put, List.getElem_toArray, List.getElem_cons_zero, List.getElem_cons_succ, List.setIfInBounds_toArray, List.set_cons_zero, List.set_cons_succ]
        refine wpAnyH_take (i := 25) (oi := _) (v := ?_) rfl (by kernel_rfl) (by kernel_rfl) (by kernel_rfl) (fun _ _ _ h => h) (Or.inl ⟨by rfl, ?_⟩) (by assumption) ?_
        rotate_left
        · (intro w hSw; (try dsimp only at hSw); go_simp; try with_reducible rfl)
        try simp only [Act.put, List.getElem_toArray, List.getElem_cons_zero, List.getElem_cons_succ, List.setIfInBounds_toArray, List.set_cons_zero, List.set_cons_succ]
        refine wpAnyH_done (by kernel_rfl) ?_ _
        go_wp2
        go_ret
        exact ⟨rfl, below_next HBL.out (below_next HX7.out hb8)⟩
      · go_simp
        refine hK.out _ _ (HKP.out _ _ HS6.out (below_box _ _)) (fun hHeld => ?_)
        try simp only [Act.put, List.getElem_toArray, List.getElem_cons_zero, List.getElem_cons_succ, List.setIfInBounds_toArray, List.set_cons_zero, List.set_cons_succ]
        refine wpAnyH_ready (rs := [19]) (by kernel_rfl) (by simp) ?_
        refine AllReadyH.cons rfl (fun K hK => ?_) (AllReadyH.nil)
        go_simp
        go_at_call 10; (with_reducible refine (HTC.out _ (below_next HX6.out (below_box _ _)) (HN6.out.keep (below_box _ _))).mono ?_); rintro e W7 ⟨⟨x7, rfl, ho7⟩, hb7⟩
        refine hK.out _ _ (HKP.out _ _ (HKP.out _ _ HS6.out (below_box _ _)) hb7) (fun hHeld => ?_)
        try simp only [Act.put, List.getElem_toArray, List.getElem_cons_zero, List.getElem_cons_succ, List.setIfInBounds_toArray, List.set_cons_zero, List.set_cons_succ]
        obtain ⟨a7, c7, rfl, ht7⟩ := texts_of_own ho7
        have HX7 := Lib.hid (below_next (below_next HX6.out (below_box W6 (.cells #[.string p] 9))) hb7)
        have HSM2 := Lib.hid (sameTexts_c a7 (some ⟨W6.heap.size, 0, none⟩) 1 c7 1 [p] (by omega) W7 ht7 ((texts_lit W6 p).keep hb7))
        clear ho7 ht7
        refine wpAnyH_ready (rs := [23]) (by kernel_rfl) (by simp) ?_
        refine AllReadyH.cons rfl (fun K hK => ?_) (AllReadyH.nil)
        go_simp
        go_at_call 9; (with_reducible refine (HSM2.out).mono ?_); rintro e W8 ⟨rfl, hb8⟩
        refine hK.out _ _ (HKP.out _ _ (HKP.out _ _ (HKP.out _ _ HS6.out (below_box _ _)) hb7) hb8) (fun hHeld => ?_)
        try simp only [Act.put, List.getElem_toArray, List.getElem_cons_zero, List.getElem_cons_succ, List.setIfInBounds_toArray, List.set_cons_zero, List.set_cons_succ]
        refine wpAnyH_take (i := 24) (oi := _) (v := ?_) rfl (by kernel_rfl) (by kernel_rfl) (by kernel_rfl) (fun _ _ _ h => h) (Or.inl ⟨by rfl, ?_⟩) (by assumption) ?_
        rotate_left
        · (intro w hSw; (try dsimp only at hSw); go_simp; try with_reducible rfl)
        try simp only [Act.put, List.getElem_toArray, List.getElem_cons_zero, List.getElem_cons_succ, List.setIfInBounds_toArray, List.set_cons_zero, List.set_cons_succ]
        refine wpAnyH_take (i := 25) (oi := _) (v := ?_) rfl (by kernel_rfl) (by kernel_rfl) (by kernel_rfl) (fun _ _ _ h => h) (Or.inl ⟨by rfl, ?_⟩) (by assumption) ?_
        rotate_left
        · (intro w hSw; (try dsimp only at hSw); go_simp; try with_reducible rfl)
        try simp only [Act.put, List.getElem_toArray, List.getElem_cons_zero, List.getElem_cons_succ, List.setIfInBounds_toArray, List.set_cons_zero, List.set_cons_succ]
        refine wpAnyH_done (by kernel_rfl) ?_ _
        go_wp2
        go_ret
        exact ⟨rfl, below_next HBL.out (below_next HX7.out hb8)⟩
  · have hl : (1048576 : Int) < len0 := by omega
    clear h w0
    go_enter Tryz.func3, Tryz.ntmps3
    go_wp2
    go_ret
    exact ⟨rfl, Below.refl _ _⟩


set_option maxRecDepth 100000 in
/-- What the walk gives, for every argument and every world that holds the listed variables. -/
theorem contract (H : Type) (enc : TypeId × Value → H) (W : World) (base : Nat) (args : Array Value) (ds gs : List (DataW H)) (before : List MemPlace)
    (hval0 : ∀ (j : Nat) t v, Tryz.f3.params[j]? = some t → args[j]? = some v → Value.okWide Tryz.prog W .any base t v)
    (hW : DataW.Whole enc Tryz.prog Tryz.f3.params.toList Rows.fnApplySpec.vars false W args.toList ds gs before) (hL : laidMetH Tryz.prog Rows.fnApplyRow.laid W) (hsh : W.ShapedOpen Tryz.prog) :
    Calls Tryz.prog 3 args W fun e W' => ∃ v, e = .returned v ∧ Rows.fnApplySpec.post enc Tryz.prog Tryz.f3 false true false false W args v W' := by
  have hval : ∀ (j : Nat) t v, Tryz.f3.params[j]? = some t → args[j]? = some v → Value.okWide Tryz.prog W .any base t v := hval0
  have hW' := hW
  obtain ⟨p, q, hA0, hV, rfl, hfz, hnd⟩ := hW
  have hA : DataW.TrodAll enc Tryz.prog W 0 (fun _ => true) true Tryz.f3.params.toList args.toList ds p := hA0
  rw [Tryz.params3] at hA hval
  obtain ⟨v0, vs0, d0, ds0, p0, q0, hargs, rfl, rfl, h0, r0⟩ := trodAll_cons hA
  obtain ⟨rfl, rfl, rfl⟩ := trodAll_nil r0
  obtain rfl : args = #[v0] := by cases args; simp_all
  obtain ⟨_, _, _, _, e0, _, _, _, _, _, e1, _, rfl, -⟩ := trodVars_two hV
  obtain ⟨a0, len0, cap0, rfl⟩ := okWide_slice Tryz.underlying22 (hval 0 22 v0 rfl rfl)
  have k0 := h0
  have lt0 : ∀ x ∈ p0, x.block < W.heap.size := by obtain ⟨m, hm⟩ := k0; exact DataW.trod_lt m _ _ _ hm
  obtain ⟨z0, w0⟩ : ∃ zs, IsRow .u8 W a0 len0 cap0 zs := by
    obtain ⟨fuel, hf⟩ := h0
    rcases open_ints Tryz.underlying22 Tryz.underlying5 (by kernel_rfl) hf with ⟨hcs, _⟩ | ⟨x, l, c, zs, hcs, _, hl, hm, hz, _, hcell, hwz⟩
    · simp [Value.cells] at hcs
      obtain ⟨rfl, rfl, rfl⟩ := hcs
      exact ⟨[], .inl ⟨rfl, rfl, rfl, rfl⟩⟩
    · simp [Value.cells] at hcs
      obtain ⟨rfl, rfl, rfl⟩ := hcs
      exact ⟨zs, .inr ⟨_, rfl, hl, hm, by simpa using hz, hcell, hwz⟩⟩
  clear hA0 hval0
  refine (walk a0 len0 cap0 z0 W w0 (cmdVars_of hL (by kernel_rfl) (by kernel_rfl) (by kernel_rfl))).mono fun e W' ⟨he, bel⟩ => ?_
  subst he
  exact ⟨_, rfl, _, _, _, [], _, _, hW', trodAll_mk1 (shut_bool Tryz.underlying4 _), (trodAll_cons_mk (Below.trod laidOut (by kernel_rfl) (of_decide_eq_true (by kernel_rfl)) k0 bel lt0) trodAll_mk0), Below.trodVars laidOut bel (by kernel_rfl) hV, bel.frame _, fun h => by cases h⟩

theorem laid_met (os : Os) : laidMet Tryz.prog Rows.fnApplyRow.laid ((World.laidAll Tryz.prog os Rows.fnApplyRow.laid).forCall (fun _ _ => 0) ⟨#[], #[.slice none 0 0], []⟩).memory :=
  laidMet_laidAll _ (by kernel_rfl) (by kernel_rfl)
theorem reads (os : Os) {H : Type} (enc : TypeId × Value → H) : ∃ x, DataW.whole enc Tryz.prog ((World.laidAll Tryz.prog os Rows.fnApplyRow.laid).forCall (fun _ _ => 0) ⟨#[], #[.slice none 0 0], []⟩).memory Tryz.f3.params.toList Rows.fnApplySpec.vars false #[Value.slice none 0 0].toList 8 = some x :=
  Option.isSome_iff_exists.1 (by kernel_rfl)

set_option maxRecDepth 100000 in
theorem lifted (os : Os) (started : os.Started) (H : Type) (enc : TypeId × Value → H) (F : Stop.Interp) :
    ReturnsInHanded {} Tryz.checked os 3 .any ((OpenSpec.ofChange Rows.fnApplySpec).preRow enc Tryz.prog Tryz.f3 Rows.fnApplyRow.domain false Rows.fnApplyRow.laid) (((OpenSpec.ofChange Rows.fnApplySpec).at F).post enc Tryz.prog Tryz.f3 false true false false) := by
  obtain ⟨x, hx⟩ := reads os enc
  refine returnsInHanded_of_row (C := Tryz.checked) (s := OpenSpec.ofChange Rows.fnApplySpec) own started (by kernel_rfl) Tryz.func3
    (witness_row_atRef (enc := enc) (C := Tryz.checked) false (World.laidAll Tryz.prog os Rows.fnApplyRow.laid) #[.slice none 0 0] rfl (by kernel_rfl) (by kernel_rfl) (by kernel_rfl)
      (OpenSpec.preRow_of_cond 8 hx (by kernel_rfl) (fun k hk => by cases hk) (by kernel_rfl) (laid_met os))) ?_
  intro W base args ds gs before hval hW _ _ _ hL hsh _
  exact contract H enc W base args ds gs before hval hW hL hsh

theorem said : Rows.FnApplySaid :=
  OpenClaim.holds_of_cond 3 Tryz.f3 rfl rfl rfl rfl rfl rfl rfl ⟨rfl, rfl, rfl, rfl, rfl⟩ rfl rfl rfl rfl rfl (by kernel_rfl) Tryz.func3 (by kernel_rfl)
    (of_decide_eq_true (by kernel_rfl)) (by unfold Func.isWrapper; first | (rw [if_pos (by decide +kernel)]; kernel_rfl) | (rw [if_neg (by decide +kernel)]; exact ⟨rfl, rfl⟩))
    (fun os started H enc _ F => by rw [OpenClaim.pre_eq_preRow]; exact lifted os started H enc F)

/-- No parameter wants a stand-in; the program's own looks: what the card asks. -/
theorem plain (f : FuncId) (fn : Func) (hf : Tryz.pinned.checked.prog.funcNamed Rows.fnApplyRow.func = some f) (hfn : Tryz.pinned.checked.prog.funcs[f]? = some fn) :
    true = Tryz.pinned.checked.prog.looks [] ∧ ∀ (j : Nat) t, fn.params[j]? = some t → Tryz.pinned.checked.prog.wantsStandIn t = false := by
  obtain rfl : f = 3 := Option.some.inj ((show Tryz.prog.funcNamed Rows.fnApplyRow.func = some 3 by kernel_rfl).symm.trans hf) |>.symm
  obtain rfl : fn = Tryz.f3 := (Option.some.inj (Tryz.func3.symm.trans hfn)).symm
  refine ⟨by kernel_rfl, fun j t ht => ?_⟩
  rw [Tryz.params3] at ht
  have hm := Array.mem_of_getElem? ht
  simp at hm
  rcases hm with rfl
  · exact (show Tryz.prog.wantsStandIn 22 = false by kernel_rfl)

/-- THE CARD. -/
theorem card : Rows.FnApplyCardSaid :=
  Claim7.holds_tied_plain_at .later [] _ _ _ _ said (fun _ h => by cases h) (by kernel_rfl) (fun _ h => by cases h) fnApply_row_tie rfl ⟨rfl, rfl⟩ (by kernel_rfl) rfl plain (by kernel_rfl)
end Go.Proofs.YtnmpbocnbcokeaaGreatDoor.fnApply
