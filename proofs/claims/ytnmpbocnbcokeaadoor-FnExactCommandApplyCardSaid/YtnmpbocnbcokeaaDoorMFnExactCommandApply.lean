/-
  laws.FnExactCommandApply returns true for every input, and leaves its arguments as they were.
  Conditions: none of ours; the package-level variables that its row lists hold what the program's text lays (the given tie).
-/
import Derived.Test.YtnmpbocnbcokeaaDoorRows
import Derived.Test.YtnmpbocnbcokeaaDoorCards
import Derived.Test.YtnmpbocnbcokeaaDoorTie
import Derived.WalkKit
import Derived.ProofKit
import Derived.OpenShut
import Derived.ShutString
import Derived.ChangeOld
import Derived.Below
import Derived.Deep.DeepHandedRow
import Derived.Deep.DeepWitnessRowRef
import Derived.Lib.LaidTab
import Derived.LaidMore
import Derived.OpenVars
import Derived.Lay
import Derived.Test.YtnmpbocnbcokeaaDoorK4
namespace Go.Proofs.YtnmpbocnbcokeaaDoor.fnExactCommandApply
open Go.ChangeShapes Go.WideShapes Go.ChangeAt Go.RowKit
open Go.ChangeMaps (open_string shut_string)
set_option linter.unusedVariables false

theorem own : ownKnob Tryd.prog.godebug = none := by kernel_rfl
theorem laidOut : laidOutB Tryd.prog = true := by kernel_rfl

theorem cell_lt {W : World} {a : Addr} {v : Value} (h : W.cell? a = some v) : a.block < W.heap.size := World.block_lt_of_cell? W _ h

theorem own_far {W W' : World} {b : Nat} {e : TypeId} {size n : Nat} {v : Value} {xs : List Value} (h : W.ownsRow b e size v n xs) {row : Value} (hg : W.grownBy W' row.ownBlock) (hd : ∀ k, v.ownBlock = some k → row.ownBlock ≠ some k) : W'.ownsRow b e size v n xs := by
  refine h.kept hg ?_
  cases hv : v.ownBlock with
  | none => exact .inl rfl
  | some k => right; exact fun e => hd k hv e.symm

theorem grown_cell {W W' : World} {row : Option Nat} (hg : W.grownBy W' row) {B i : Nat} {v : Value} (h : W.cell? ⟨B, i, none⟩ = some v) (hr : row ≠ some B) : W'.cell? ⟨B, i, none⟩ = some v := by
  have := hg.block B (cell_lt h) (fun e => hr e.symm)
  unfold World.cell? at h ⊢
  rw [this]; exact h

/-- What CommandApply tells, its two parts named. -/
def APost (out : List Nd) (b : Bool) (W : World) (e : Ending) (w' : World) : Prop :=
  ∃ sl, e = .returned (.tuple #[sl, .bool b]) ∧ w'.ownsRow W.heap.size 65 3 sl out.length (flatN out) ∧ Below W.heap.size W w'

theorem apply_named {ns out : List Nd} {c : Cmd} {b : Bool} {W : World} {f : Nat} {args : Array Value} (hr : applyC ns c = (out, b)) (h : Calls Tryd.prog f args W (ApplyPost (applyC ns c) W.heap.size W)) : Calls Tryd.prog f args W (APost out b W) := by
  rw [hr] at h
  exact h

theorem applyC_ten (ns : List Nd) (c : Cmd) : (applyC ns c).1.length ≤ 10 := by
  cases h : validT ns with
  | true => exact applyC_len ((validT_iff ns).1 h).2.2
  | false => rw [applyC_bad (.inl h)]; simp

theorem keep5 {W1 W2 : World} {B : Nat} {p : ByteArray} {fk fv tk tv : Int} (h : W1.cell? ⟨B, 0, none⟩ = some (.string p) ∧ W1.cell? ⟨B, 1, none⟩ = some (.int .i64 fk) ∧ W1.cell? ⟨B, 2, none⟩ = some (.int .i64 fv) ∧ W1.cell? ⟨B, 3, none⟩ = some (.int .i64 tk) ∧ W1.cell? ⟨B, 4, none⟩ = some (.int .i64 tv)) (hb : Below W1.heap.size W1 W2) : W2.cell? ⟨B, 0, none⟩ = some (.string p) ∧ W2.cell? ⟨B, 1, none⟩ = some (.int .i64 fk) ∧ W2.cell? ⟨B, 2, none⟩ = some (.int .i64 fv) ∧ W2.cell? ⟨B, 3, none⟩ = some (.int .i64 tk) ∧ W2.cell? ⟨B, 4, none⟩ = some (.int .i64 tv) :=
  ⟨cell_kept hb h.1, cell_kept hb h.2.1, cell_kept hb h.2.2.1, cell_kept hb h.2.2.2.1, cell_kept hb h.2.2.2.2⟩

theorem grown5 {W1 W2 : World} {row : Option Nat} {B : Nat} {p : ByteArray} {fk fv tk tv : Int} (hg : W1.grownBy W2 row) (h : W1.cell? ⟨B, 0, none⟩ = some (.string p) ∧ W1.cell? ⟨B, 1, none⟩ = some (.int .i64 fk) ∧ W1.cell? ⟨B, 2, none⟩ = some (.int .i64 fv) ∧ W1.cell? ⟨B, 3, none⟩ = some (.int .i64 tk) ∧ W1.cell? ⟨B, 4, none⟩ = some (.int .i64 tv)) (hr : row ≠ some B) : W2.cell? ⟨B, 0, none⟩ = some (.string p) ∧ W2.cell? ⟨B, 1, none⟩ = some (.int .i64 fk) ∧ W2.cell? ⟨B, 2, none⟩ = some (.int .i64 fv) ∧ W2.cell? ⟨B, 3, none⟩ = some (.int .i64 tk) ∧ W2.cell? ⟨B, 4, none⟩ = some (.int .i64 tv) :=
  ⟨grown_cell hg h.1 hr, grown_cell hg h.2.1 hr, grown_cell hg h.2.2.1 hr, grown_cell hg h.2.2.2.1 hr, grown_cell hg h.2.2.2.2 hr⟩

theorem nodes_own {W : World} {base : Nat} {e : TypeId} {a : Option Addr} {cap : Nat} {ns : List Nd} (h : W.ownsRow base e 3 (.slice a ns.length cap) ns.length (flatN ns)) : NodesAt W a ns.length ns := by
  obtain ⟨_, _, e, h⟩ := nodes_of_own h
  simp at e; rw [e.1]; exact h

set_option maxHeartbeats 4000000 in
set_option maxRecDepth 100000 in
theorem walk (a0 : Option Addr) (len0 cap0 : Nat) (ns : List Nd) (l0 : len0 ≤ maxLen) (m0 : Short maxLen ns) (c : Cmd) (hm : c.p.size ≤ maxLen) (w : World) (w0 : NodesAt w a0 len0 ns) (hE : CmdVars w) :
    Calls Tryd.prog 8 #[.slice a0 len0 cap0, cmdV c] w fun e w' => e = .returned (.bool true) ∧ Below w.heap.size w w' := by
  have HE := Lib.hid (fun W' (hb : Below w.heap.size w W') => hE.keep hb)
  have HSZ := Lib.hid (fun W' (hb : Below w.heap.size w W') => szNodeSG_c 1048576 (by omega) (by omega) a0 len0 cap0 ns l0 m0 W' (w0.keep hb))
  have HN := Lib.hid w0
  have HZC := Lib.hid (fun l h0 h1 w => szCommand_c c l h0 h1 hm w)
  have HTC := Lib.hid (fun w => toCommand_c c w)
  obtain ⟨⟨out, ok⟩, hr⟩ : ∃ r, applyC ns c = r := ⟨_, rfl⟩
  have HOL := Lib.hid (show out.length ≤ 10 by have := applyC_ten ns c; rw [hr] at this; exact this)
  have hol : (out.length : Int) ≤ 10 := by have := HOL.out; omega
  have HSPEC0 := Lib.hid (fun (hl : ns.length ≤ 1048576) (hs : Short 2097152 ns) (hp : c.p.size ≤ 1048576) x (p : Nat) W' (h : NodesAt W' x ns.length ns) => apply_named hr (specCmdApply_c x ns.length p ns c (by omega) hs (by omega) W' h))
  have HIMPL0 := Lib.hid (fun (hl : ns.length ≤ 1048576) (hs : Short 2097152 ns) (hp : c.p.size ≤ 1048576) x (p : Nat) W' (h : NodesAt W' x ns.length ns) (hE : CmdVars W') => apply_named hr (implCmdApply_c x ns.length p ns c (by omega) hs (by omega) W' h hE))
  clear w0 l0 m0 hm hE hr
  obtain ⟨p, fk, fv, tk, tv⟩ := c
  unfold SzCmd at HZC
  unfold CmdPost at HTC
  unfold cmdV at HZC HTC HSPEC0 HIMPL0 ⊢
  simp only at HZC HTC HSPEC0 HIMPL0 ⊢
  go_enter Tryd.func8, Tryd.ntmps8
  go_wp2_with fail
  refine (HSZ.out _ (below_box _ _)).mono ?_
  rintro e Wz ⟨z, rfl, hz1, hz, hbz⟩
  have HBz := Lib.hid (below_next (below_box _ _) hbz)
  have c0 := box_cell hbz 0
  have c1 := box_cell hbz 1
  have c2 := box_cell hbz 2
  have c3 := box_cell hbz 3
  have c4 := box_cell hbz 4
  simp at c0 c1 c2 c3 c4
  have HCz : Hid (Wz.cell? ⟨w.heap.size, 0, none⟩ = some (.string p) ∧ Wz.cell? ⟨w.heap.size, 1, none⟩ = some (.int .i64 fk) ∧ Wz.cell? ⟨w.heap.size, 2, none⟩ = some (.int .i64 fv) ∧ Wz.cell? ⟨w.heap.size, 3, none⟩ = some (.int .i64 tk) ∧ Wz.cell? ⟨w.heap.size, 4, none⟩ = some (.int .i64 tv)) := ⟨c0, c1, c2, c3, c4⟩
  clear hbz
  by_cases h0 : z < 0
  · clear c0 c1 c2 c3 c4
    go_wp2
    go_ret
    exact ⟨rfl, HBz.out⟩
  · obtain ⟨hl, hs⟩ := hz (by omega)
    have hz0 : 0 ≤ z := by omega
    have hzd : decide (z < 0) = false := decide_eq_false h0
    have HZ1 := Lib.hid (HZC.out z hz0 hz1)
    have HTO := Lib.hid (fun W' (hb : Below w.heap.size w W') => toNodeS_c a0 len0 cap0 ns (by omega) W' (HN.out.keep hb))
    have HLE := Lib.hid HN.out.1
    have HLL := Lib.hid (show ns.length ≤ 1048576 by have := HLE.out; omega)
    have hnl : (ns.length : Int) ≤ 1048576 := by have := HLL.out; omega
    have HS2 := Lib.hid (hs.mono (show 1048576 ≤ 2097152 by omega))
    clear h0 hz hs hl hz1
    go_wp2_with fail
    refine (HZ1.out _).mono ?_
    rintro e W1 ⟨z2, rfl, -, -, hzc, hb1⟩
    have HB1 := Lib.hid (below_next HBz.out hb1)
    have HC1 := Lib.hid (keep5 HCz.out hb1)
    clear hb1 c0 c1 c2 c3 c4
    by_cases h2 : z2 < 0
    · go_wp2
      go_ret
      exact ⟨rfl, HB1.out⟩
    · have HPZ := Lib.hid (hzc (by omega))
      have hz20 : 0 ≤ z2 := by omega
      have hzd2 : decide (z2 < 0) = false := decide_eq_false h2
      have HSPEC := Lib.hid (HSPEC0.out HLL.out HS2.out HPZ.out)
      have HIMPL := Lib.hid (HIMPL0.out HLL.out HS2.out HPZ.out)
      have HTO1 := Lib.hid (HTO.out W1.drew HB1.out.drew)
      have HS1 := Lib.hid (show W1.drew.cell? ⟨w.heap.size, 0, none⟩ = some (.string p) ∧ W1.drew.cell? ⟨w.heap.size, 1, none⟩ = some (.int .i64 fk) ∧ W1.drew.cell? ⟨w.heap.size, 2, none⟩ = some (.int .i64 fv) ∧ W1.drew.cell? ⟨w.heap.size, 3, none⟩ = some (.int .i64 tk) ∧ W1.drew.cell? ⟨w.heap.size, 4, none⟩ = some (.int .i64 tv) from HC1.out)
      clear h2 hzc HSPEC0 HIMPL0
      go_upto_region 8 with (fail)
      refine wp_region_held_drew (S := (fun w' => w'.cell? ⟨w.heap.size, 0, none⟩ = some (.string p) ∧ w'.cell? ⟨w.heap.size, 1, none⟩ = some (.int .i64 fk) ∧ w'.cell? ⟨w.heap.size, 2, none⟩ = some (.int .i64 fv) ∧ w'.cell? ⟨w.heap.size, 3, none⟩ = some (.int .i64 tk) ∧ w'.cell? ⟨w.heap.size, 4, none⟩ = some (.int .i64 tv))) (by kernel_rfl) HS1.out (fun hH => ?_)
      refine wpAnyH_take (i := 0) (oi := _) (v := ?_) rfl (by kernel_rfl) (by kernel_rfl) (by kernel_rfl) (fun _ _ _ h => h) (Or.inl ⟨by rfl, ?_⟩) (by assumption) ?_
      rotate_left
      · (intro w hSw; (try dsimp only at hSw); go_simp; try with_reducible rfl)
      try simp only [Act.put, List.getElem_toArray, List.getElem_cons_zero, List.setIfInBounds_toArray, List.set_cons_zero, List.set_cons_succ]
      refine wpAnyH_take (i := 2) (oi := _) (v := ?_) rfl (by kernel_rfl) (by kernel_rfl) (by kernel_rfl) (fun _ _ _ h => h) (Or.inl ⟨by rfl, ?_⟩) (by assumption) ?_
      rotate_left
      · (intro w hSw; (try dsimp only at hSw); go_simp; try with_reducible rfl)
      try simp only [Act.put, List.getElem_toArray, List.getElem_cons_zero, List.getElem_cons_succ, List.setIfInBounds_toArray, List.set_cons_zero, List.set_cons_succ]
      refine wpAnyH_ready (rs := [1]) (by kernel_rfl) (by simp) ?_
      refine AllReadyH.cons rfl (fun K hK => ?_) (AllReadyH.nil)
      go_simp
      go_at_call 27; (with_reducible refine (HTO1.out).mono ?_); rintro e W2 ⟨⟨s2, rfl, ho2⟩, hb2⟩
      refine hK.out _ _ (keep5 HS1.out hb2) (fun hHeld => ?_)
      try simp only [Act.put, List.getElem_toArray, List.getElem_cons_zero, List.getElem_cons_succ, List.setIfInBounds_toArray, List.set_cons_zero, List.set_cons_succ]
      have HC2 := Lib.hid (keep5 HS1.out hb2)
      obtain ⟨x2, p2, rfl, hn2⟩ := nodes_of_own ho2
      have HB2 := Lib.hid (below_next HB1.out.drew hb2)
      have HN2 := Lib.hid hn2
      clear ho2 hn2
      refine wpAnyH_ready (rs := [3]) (by kernel_rfl) (by simp) ?_
      refine AllReadyH.cons rfl (fun K hK => ?_) (AllReadyH.nil)
      go_simp
      go_at_call 28; (with_reducible refine (HTC.out _).mono ?_); rintro e W3 ⟨rfl, hb3⟩
      refine hK.out _ _ (keep5 HC2.out hb3) (fun hHeld => ?_)
      try simp only [Act.put, List.getElem_toArray, List.getElem_cons_zero, List.getElem_cons_succ, List.setIfInBounds_toArray, List.set_cons_zero, List.set_cons_succ]
      have HC3 := Lib.hid (keep5 HC2.out hb3)
      have HB3 := Lib.hid (below_next HB2.out hb3)
      have HSP := Lib.hid (HSPEC.out x2 p2 W3 (HN2.out.keep hb3))
      refine wpAnyH_ready (rs := [4]) (by kernel_rfl) (by simp) ?_
      refine AllReadyH.cons rfl (fun K hK => ?_) (AllReadyH.nil)
      go_simp
      go_at_call 11; (with_reducible refine (HSP.out).mono ?_); rintro e W4 ⟨s4, rfl, ho4, hb4⟩
      refine hK.out _ _ (keep5 HC3.out hb4) (fun hHeld => ?_)
      try simp only [Act.put, List.getElem_toArray, List.getElem_cons_zero, List.getElem_cons_succ, List.setIfInBounds_toArray, List.set_cons_zero, List.set_cons_succ]
      have HC4 := Lib.hid (keep5 HC3.out hb4)
      have HB4 := Lib.hid (below_next HB3.out hb4)
      refine wpAnyH_take (i := 5) (oi := _) (v := ?_) rfl (by kernel_rfl) (by kernel_rfl) (by kernel_rfl) (fun _ _ _ h => h) (Or.inl ⟨by rfl, ?_⟩) (by assumption) ?_
      rotate_left
      · (intro w hSw; (try dsimp only at hSw); go_simp; try with_reducible rfl)
      try simp only [Act.put, List.getElem_toArray, List.getElem_cons_zero, List.getElem_cons_succ, List.setIfInBounds_toArray, List.set_cons_zero, List.set_cons_succ]
      refine wpAnyH_take (i := 6) (oi := _) (v := ?_) rfl (by kernel_rfl) (by kernel_rfl) (by kernel_rfl) (fun _ _ _ h => h) (Or.inl ⟨by rfl, ?_⟩) (by assumption) ?_
      rotate_left
      · (intro w hSw; (try dsimp only at hSw); go_simp; try with_reducible rfl)
      try simp only [Act.put, List.getElem_toArray, List.getElem_cons_zero, List.getElem_cons_succ, List.setIfInBounds_toArray, List.set_cons_zero, List.set_cons_succ]
      refine wpAnyH_take (i := 7) (oi := _) (v := ?_) rfl (by kernel_rfl) (by kernel_rfl) (by kernel_rfl) (fun _ _ _ h => h) (Or.inl ⟨by rfl, ?_⟩) (by assumption) ?_
      rotate_left
      · (intro w hSw; (try dsimp only at hSw); go_simp; try with_reducible rfl)
      try simp only [Act.put, List.getElem_toArray, List.getElem_cons_zero, List.getElem_cons_succ, List.setIfInBounds_toArray, List.set_cons_zero, List.set_cons_succ]
      refine wpAnyH_take (i := 8) (oi := _) (v := ?_) rfl (by kernel_rfl) (by kernel_rfl) (by kernel_rfl) (fun _ _ _ h => h) (Or.inl ⟨by rfl, ?_⟩) (by assumption) ?_
      rotate_left
      · (intro w hSw; (try dsimp only at hSw); go_simp; try with_reducible rfl)
      try simp only [Act.put, List.getElem_toArray, List.getElem_cons_zero, List.getElem_cons_succ, List.setIfInBounds_toArray, List.set_cons_zero, List.set_cons_succ]
      refine wpAnyH_take (i := 9) (oi := _) (v := ?_) rfl (by kernel_rfl) (by kernel_rfl) (by kernel_rfl) (fun _ _ _ h => h) (Or.inl ⟨by rfl, ?_⟩) (by assumption) ?_
      rotate_left
      · (intro w hSw; (try dsimp only at hSw); go_simp; try with_reducible rfl)
      try simp only [Act.put, List.getElem_toArray, List.getElem_cons_zero, List.getElem_cons_succ, List.setIfInBounds_toArray, List.set_cons_zero, List.set_cons_succ]
      refine wpAnyH_done (by kernel_rfl) ?_ _
      obtain ⟨x4, p4, rfl, -⟩ := nodes_of_own ho4
      have HO4 := Lib.hid ho4
      have HW4 := Lib.hid (fun k (e : (Value.slice x4 out.length p4).ownBlock = some k) => (ho4.lt k e).2)
      clear ho4 hb2 hb3 hb4
      go_wp2_with fail
      refine (HTO.out _ HB4.out).mono ?_
      rintro e W5 ⟨⟨s5, rfl, ho5⟩, hb5⟩
      obtain ⟨x5, p5, rfl, hn5⟩ := nodes_of_own ho5
      have HB5 := Lib.hid (below_next HB4.out hb5)
      have HO45 := Lib.hid (own_below HO4.out hb5)
      have HO5 := Lib.hid ho5
      have HN5 := Lib.hid hn5
      have HX5 := Lib.hid (fun k (e : (Value.slice x5 ns.length p5).ownBlock = some k) => ho5.lt k e)
      have HC5 := Lib.hid (keep5 HC4.out hb5)
      obtain ⟨d0, d1, d2, d3, d4⟩ := HC5.out
      have hb5z := hb5.size
      clear ho5 hn5 hb5
      go_wp2_with fail
      refine (HTC.out _).mono ?_
      rintro e W6 ⟨rfl, hb6⟩
      have HB6 := Lib.hid (below_next HB5.out hb6)
      have HO46 := Lib.hid (own_below HO45.out hb6)
      have HO56 := Lib.hid (own_below HO5.out hb6)
      have HC6 := Lib.hid (keep5 HC5.out hb6)
      have HZ56 := Lib.hid hb6.size
      have HZ46 := Lib.hid (show W4.heap.size ≤ W6.heap.size by exact Nat.le_trans hb5z hb6.size)
      have HIV := Lib.hid (HIMPL.out x5 p5 W6 (HN5.out.keep hb6) (HE.out _ HB6.out))
      clear hb6 d0 d1 d2 d3 d4
      go_wp2_with fail
      refine HIV.out.mono ?_
      rintro e W7 ⟨s7, rfl, ho7, hb7⟩
      obtain ⟨x7, p7, rfl, hn7⟩ := nodes_of_own ho7
      have HB7 := Lib.hid (below_next HB6.out hb7)
      have HO47 := Lib.hid (own_below HO46.out hb7)
      have HO57 := Lib.hid (own_below HO56.out hb7)
      have HO7 := Lib.hid ho7
      have HC7 := Lib.hid (keep5 HC6.out hb7)
      have HX7 := Lib.hid (fun k (e : (Value.slice x7 out.length p7).ownBlock = some k) => (ho7.lt k e).1)
      have HE1 := Lib.hid (eqNodeS_c x7 x4 out.length p7 p4 out (by have := HOL.out; omega) W7 hn7 (nodes_own HO47.out))
      clear ho7 hn7 hb7
      go_wp2_with fail
      refine HE1.out.mono ?_
      rintro e W8 ⟨rfl, hb8⟩
      have HB8 := Lib.hid (below_next HB7.out hb8)
      have H8 := Lib.hid hb8
      clear hb8
      go_wp2_with fail
      refine (HTO.out _ HB8.out).mono ?_
      rintro e W9 ⟨⟨s9, rfl, ho9⟩, hb9⟩
      obtain ⟨x9, p9, rfl, hn9⟩ := nodes_of_own ho9
      have HB9 := Lib.hid (below_next HB8.out hb9)
      have H9 := Lib.hid (below_next H8.out hb9)
      have HE2 := Lib.hid (eqNodeS_c x5 x9 ns.length p5 p9 ns (by have := HLL.out; omega) W9 (nodes_own (own_below HO57.out H9.out)) hn9)
      clear ho9 hn9 hb9
      go_wp2_with fail
      refine HE2.out.mono ?_
      rintro e W10 ⟨rfl, hb10⟩
      have HB10 := Lib.hid (below_next HB9.out hb10)
      have H10 := Lib.hid (below_next H9.out hb10)
      have HMK := Lib.hid (markNodeS_c (.slice x5 ns.length p5) W4.heap.size ns.length (flatN ns) (by have := HLL.out; omega) W10 (own_below HO57.out H10.out))
      clear hb10
      go_wp2_with fail
      refine HMK.out.mono ?_
      rintro e W11 ⟨rfl, hg11, -⟩
      have HB11 := Lib.hid (HB10.out.grown hg11 HB10.out.size (fun k e => by have := (HX5.out k e).1; have := HB4.out.size; omega))
      have HO4a := Lib.hid (own_far (own_below HO47.out H10.out) hg11 (fun k e1 e2 => by have := HW4.out k e1; have := (HX5.out k e2).1; omega))
      have HO7a := Lib.hid (own_far (own_below HO7.out H10.out) hg11 (fun k e1 e2 => by have := HX7.out k e1; have := (HX5.out k e2).2; have := HZ56.out; omega))
      have hw4 : w.heap.size < W4.heap.size := by have := cell_lt HC4.out.1; simpa using this
      have HC11 := Lib.hid (grown5 hg11 (keep5 HC7.out H10.out) (fun e => by have := (HX5.out _ e).1; omega))
      have HE3 := Lib.hid (eqNodeS_c x7 x4 out.length p7 p4 out (by have := HOL.out; omega) W11 (nodes_own HO7a.out) (nodes_own HO4a.out))
      clear hg11
      go_wp2_with fail
      refine HE3.out.mono ?_
      rintro e W11b ⟨rfl, hb11b⟩
      have HB11b := Lib.hid (below_next HB11.out hb11b)
      have HO4b := Lib.hid (own_below HO4a.out hb11b)
      have HC11b := Lib.hid (keep5 HC11.out hb11b)
      have HMK2 := Lib.hid (markNodeS_c (.slice x7 out.length p7) W6.heap.size out.length (flatN out) (by have := HOL.out; omega) W11b (own_below HO7a.out hb11b))
      clear hb11b
      go_wp2_with fail
      refine HMK2.out.mono ?_
      rintro e W11c ⟨rfl, hg11c, ho11c⟩
      have hw6 := HB6.out.size
      have hz46 : W4.heap.size ≤ W6.heap.size := by have := HZ46.out; omega
      have HB11c := Lib.hid (HB11b.out.grown hg11c HB11b.out.size (fun k e => by have := HX7.out k e; omega))
      have HO4c := Lib.hid (own_far HO4b.out hg11c (fun k e1 e2 => by have := HW4.out k e1; have := HX7.out k e2; omega))
      have HC11c := Lib.hid (grown5 hg11c HC11b.out (fun e => by have := HX7.out _ e; omega))
      have HM11 := Lib.hid (show NodesAt W11c x7 out.length (markN out.length) by
        have h2 : W11c.ownsRow W6.heap.size 65 3 (.slice x7 out.length p7) (markN out.length).length (flatN (markN out.length)) := by rw [markN_len]; exact ho11c
        obtain ⟨_, _, e, h⟩ := nodes_of_own h2
        rw [markN_len] at e h
        simp at e; rw [e.1]; exact h)
      have HH := Lib.hid (fun W' (hb : Below W11c.heap.size W11c W') => heldNodeS_c x7 out.length p7 (by have := HOL.out; omega) W' (HM11.out.keep hb))
      clear hg11c ho11c hw4 hz46 hw6
      go_wp2_with fail
      refine (HH.out _ (Below.refl _ _)).mono ?_
      rintro e W12 ⟨rfl, hb12⟩
      have HB12 := Lib.hid (below_next HB11c.out hb12)
      have H12 := Lib.hid hb12
      have HTO3 := Lib.hid (HTO.out W12.drew HB12.out.drew)
      have HS2b := Lib.hid (show W12.drew.cell? ⟨w.heap.size, 0, none⟩ = some (.string p) ∧ W12.drew.cell? ⟨w.heap.size, 1, none⟩ = some (.int .i64 fk) ∧ W12.drew.cell? ⟨w.heap.size, 2, none⟩ = some (.int .i64 fv) ∧ W12.drew.cell? ⟨w.heap.size, 3, none⟩ = some (.int .i64 tk) ∧ W12.drew.cell? ⟨w.heap.size, 4, none⟩ = some (.int .i64 tv) from keep5 HC11c.out hb12.drew)
      clear hb12
      go_upto_region 27 with (fail)
      refine wp_region_held_drew (S := (fun w' => w'.cell? ⟨w.heap.size, 0, none⟩ = some (.string p) ∧ w'.cell? ⟨w.heap.size, 1, none⟩ = some (.int .i64 fk) ∧ w'.cell? ⟨w.heap.size, 2, none⟩ = some (.int .i64 fv) ∧ w'.cell? ⟨w.heap.size, 3, none⟩ = some (.int .i64 tk) ∧ w'.cell? ⟨w.heap.size, 4, none⟩ = some (.int .i64 tv))) (by kernel_rfl) HS2b.out (fun hH => ?_)
      refine wpAnyH_take (i := 0) (oi := _) (v := ?_) rfl (by kernel_rfl) (by kernel_rfl) (by kernel_rfl) (fun _ _ _ h => h) (Or.inl ⟨by rfl, ?_⟩) (by assumption) ?_
      rotate_left
      · (intro w hSw; (try dsimp only at hSw); go_simp; try with_reducible rfl)
      try simp only [Act.put, List.getElem_toArray, List.getElem_cons_zero, List.setIfInBounds_toArray, List.set_cons_zero, List.set_cons_succ]
      refine wpAnyH_take (i := 2) (oi := _) (v := ?_) rfl (by kernel_rfl) (by kernel_rfl) (by kernel_rfl) (fun _ _ _ h => h) (Or.inl ⟨by rfl, ?_⟩) (by assumption) ?_
      rotate_left
      · (intro w hSw; (try dsimp only at hSw); go_simp; try with_reducible rfl)
      try simp only [Act.put, List.getElem_toArray, List.getElem_cons_zero, List.getElem_cons_succ, List.setIfInBounds_toArray, List.set_cons_zero, List.set_cons_succ]
      refine wpAnyH_ready (rs := [1]) (by kernel_rfl) (by simp) ?_
      refine AllReadyH.cons rfl (fun K hK => ?_) (AllReadyH.nil)
      go_simp
      go_at_call 27; (with_reducible refine (HTO3.out).mono ?_); rintro e W13 ⟨⟨s13, rfl, ho13⟩, hb13⟩
      refine hK.out _ _ (keep5 HS2b.out hb13) (fun hHeld => ?_)
      try simp only [Act.put, List.getElem_toArray, List.getElem_cons_zero, List.getElem_cons_succ, List.setIfInBounds_toArray, List.set_cons_zero, List.set_cons_succ]
      have HC13 := Lib.hid (keep5 HS2b.out hb13)
      obtain ⟨x13, p13, rfl, hn13⟩ := nodes_of_own ho13
      have HB13 := Lib.hid (below_next HB12.out.drew hb13)
      have H13 := Lib.hid (below_next H12.out.drew hb13)
      have HN13 := Lib.hid hn13
      clear ho13 hn13
      refine wpAnyH_ready (rs := [3]) (by kernel_rfl) (by simp) ?_
      refine AllReadyH.cons rfl (fun K hK => ?_) (AllReadyH.nil)
      go_simp
      go_at_call 28; (with_reducible refine (HTC.out _).mono ?_); rintro e W14 ⟨rfl, hb14⟩
      refine hK.out _ _ (keep5 HC13.out hb14) (fun hHeld => ?_)
      try simp only [Act.put, List.getElem_toArray, List.getElem_cons_zero, List.getElem_cons_succ, List.setIfInBounds_toArray, List.set_cons_zero, List.set_cons_succ]
      have HC14 := Lib.hid (keep5 HC13.out hb14)
      have HB14 := Lib.hid (below_next HB13.out hb14)
      have H14 := Lib.hid (below_next H13.out hb14)
      have HIV2 := Lib.hid (HIMPL.out x13 p13 W14 (HN13.out.keep hb14) (HE.out _ HB14.out))
      refine wpAnyH_ready (rs := [4]) (by kernel_rfl) (by simp) ?_
      refine AllReadyH.cons rfl (fun K hK => ?_) (AllReadyH.nil)
      go_simp
      go_at_call 10; (with_reducible refine (HIV2.out).mono ?_); rintro e W15 ⟨s15, rfl, ho15, hb15⟩
      refine hK.out _ _ (keep5 HC14.out hb15) (fun hHeld => ?_)
      try simp only [Act.put, List.getElem_toArray, List.getElem_cons_zero, List.getElem_cons_succ, List.setIfInBounds_toArray, List.set_cons_zero, List.set_cons_succ]
      have HC15 := Lib.hid (keep5 HC14.out hb15)
      have HB15 := Lib.hid (below_next HB14.out hb15)
      have H15 := Lib.hid (below_next H14.out hb15)
      refine wpAnyH_take (i := 5) (oi := _) (v := ?_) rfl (by kernel_rfl) (by kernel_rfl) (by kernel_rfl) (fun _ _ _ h => h) (Or.inl ⟨by rfl, ?_⟩) (by assumption) ?_
      rotate_left
      · (intro w hSw; (try dsimp only at hSw); go_simp; try with_reducible rfl)
      try simp only [Act.put, List.getElem_toArray, List.getElem_cons_zero, List.getElem_cons_succ, List.setIfInBounds_toArray, List.set_cons_zero, List.set_cons_succ]
      refine wpAnyH_take (i := 6) (oi := _) (v := ?_) rfl (by kernel_rfl) (by kernel_rfl) (by kernel_rfl) (fun _ _ _ h => h) (Or.inl ⟨by rfl, ?_⟩) (by assumption) ?_
      rotate_left
      · (intro w hSw; (try dsimp only at hSw); go_simp; try with_reducible rfl)
      try simp only [Act.put, List.getElem_toArray, List.getElem_cons_zero, List.getElem_cons_succ, List.setIfInBounds_toArray, List.set_cons_zero, List.set_cons_succ]
      refine wpAnyH_take (i := 7) (oi := _) (v := ?_) rfl (by kernel_rfl) (by kernel_rfl) (by kernel_rfl) (fun _ _ _ h => h) (Or.inl ⟨by rfl, ?_⟩) (by assumption) ?_
      rotate_left
      · (intro w hSw; (try dsimp only at hSw); go_simp; try with_reducible rfl)
      try simp only [Act.put, List.getElem_toArray, List.getElem_cons_zero, List.getElem_cons_succ, List.setIfInBounds_toArray, List.set_cons_zero, List.set_cons_succ]
      refine wpAnyH_take (i := 8) (oi := _) (v := ?_) rfl (by kernel_rfl) (by kernel_rfl) (by kernel_rfl) (fun _ _ _ h => h) (Or.inl ⟨by rfl, ?_⟩) (by assumption) ?_
      rotate_left
      · (intro w hSw; (try dsimp only at hSw); go_simp; try with_reducible rfl)
      try simp only [Act.put, List.getElem_toArray, List.getElem_cons_zero, List.getElem_cons_succ, List.setIfInBounds_toArray, List.set_cons_zero, List.set_cons_succ]
      refine wpAnyH_take (i := 9) (oi := _) (v := ?_) rfl (by kernel_rfl) (by kernel_rfl) (by kernel_rfl) (fun _ _ _ h => h) (Or.inl ⟨by rfl, ?_⟩) (by assumption) ?_
      rotate_left
      · (intro w hSw; (try dsimp only at hSw); go_simp; try with_reducible rfl)
      try simp only [Act.put, List.getElem_toArray, List.getElem_cons_zero, List.getElem_cons_succ, List.setIfInBounds_toArray, List.set_cons_zero, List.set_cons_succ]
      refine wpAnyH_done (by kernel_rfl) ?_ _
      obtain ⟨x15, p15, rfl, hn15⟩ := nodes_of_own ho15
      have HE4 := Lib.hid (eqNodeS_c x15 x4 out.length p15 p4 out (by have := HOL.out; omega) W15 hn15 (nodes_own (own_below HO4c.out H15.out)))
      clear ho15 hn15 hb13 hb14 hb15
      go_wp2_with fail
      refine HE4.out.mono ?_
      rintro e W16 ⟨rfl, hb16⟩
      have HB16 := Lib.hid (below_next HB15.out hb16)
      have H16 := Lib.hid (below_next H15.out hb16)
      clear hb16
      go_wp2_with fail
      refine (HH.out _ H16.out).mono ?_
      rintro e W17 ⟨rfl, hb17⟩
      have HB17 := Lib.hid (below_next HB16.out hb17)
      clear hb17
      go_wp2
      go_ret
      exact ⟨rfl, HB17.out⟩


set_option maxRecDepth 100000 in
/-- What the walk gives, for every argument and every world that holds the listed variables. -/
theorem contract (H : Type) (enc : TypeId × Value → H) (W : World) (base : Nat) (args : Array Value) (ds gs : List (DataW H)) (before : List MemPlace)
    (hval0 : ∀ (j : Nat) t v, Tryd.f8.params[j]? = some t → args[j]? = some v → Value.okWide Tryd.prog W .any base t v)
    (hW : DataW.Whole enc Tryd.prog Tryd.f8.params.toList Rows.fnExactCommandApplySpec.vars false W args.toList ds gs before) (hL : laidMetH Tryd.prog Rows.fnExactCommandApplyRow.laid W) (hsh : W.ShapedOpen Tryd.prog) :
    Calls Tryd.prog 8 args W fun e W' => ∃ v, e = .returned v ∧ Rows.fnExactCommandApplySpec.post enc Tryd.prog Tryd.f8 false true false false W args v W' := by
  have hval : ∀ (j : Nat) t v, Tryd.f8.params[j]? = some t → args[j]? = some v → Value.okWide Tryd.prog W .any base t v := hval0
  have hW' := hW
  obtain ⟨p, q, hA0, hV, rfl, hfz, hnd⟩ := hW
  have hA : DataW.TrodAll enc Tryd.prog W 0 (fun _ => true) true Tryd.f8.params.toList args.toList ds p := hA0
  rw [Tryd.params8] at hA hval
  obtain ⟨v0, vs0, d0, ds0, p0, q0, hargs, rfl, rfl, h0, r0⟩ := trodAll_cons hA
  obtain ⟨v1, vs1, d1, ds1, p1, q1, rfl, rfl, rfl, h1, r1⟩ := trodAll_cons r0
  obtain ⟨rfl, rfl, rfl⟩ := trodAll_nil r1
  obtain rfl : args = #[v0, v1] := by cases args; simp_all
  obtain ⟨_, _, _, _, e0, _, _, _, _, _, e1, _, rfl, -⟩ := trodVars_two hV
  obtain ⟨a0, len0, cap0, rfl⟩ := okWide_slice Tryd.underlying44 (hval 0 44 v0 rfl rfl)
  have k0 := h0
  have lt0 : ∀ x ∈ p0, x.block < W.heap.size := by obtain ⟨m, hm⟩ := k0; exact DataW.trod_lt m _ _ _ hm
  obtain ⟨z0, w0, l0, m0⟩ : ∃ ns, NodesAt W a0 len0 ns ∧ len0 ≤ maxLen ∧ Short maxLen ns := by
    obtain ⟨fuel, hf⟩ := h0
    exact open_nodes hf
  have k1 := h1
  have lt1 : ∀ x ∈ p1, x.block < W.heap.size := by obtain ⟨m, hm⟩ := k1; exact DataW.trod_lt m _ _ _ hm
  obtain ⟨a1, rfl, m1⟩ := open_command (hval 1 47 v1 rfl rfl) h1
  clear hA0 hval0
  refine (walk a0 len0 cap0 z0 l0 m0 a1 m1 W w0 (cmdVars_of hL (by kernel_rfl) (by kernel_rfl) (by kernel_rfl))).mono fun e W' ⟨he, bel⟩ => ?_
  subst he
  exact ⟨_, rfl, _, _, _, [], _, _, hW', trodAll_mk1 (shut_bool Tryd.underlying4 _), (trodAll_cons_mk (Below.trod laidOut (by kernel_rfl) (of_decide_eq_true (by kernel_rfl)) k0 bel lt0) (trodAll_cons_mk (Below.trod laidOut (by kernel_rfl) (of_decide_eq_true (by kernel_rfl)) k1 bel lt1) trodAll_mk0)), Below.trodVars laidOut bel (by kernel_rfl) hV, bel.frame _, fun h => by cases h⟩

theorem laid_met (os : Os) : laidMet Tryd.prog Rows.fnExactCommandApplyRow.laid ((World.laidAll Tryd.prog os Rows.fnExactCommandApplyRow.laid).forCall (fun _ _ => 0) ⟨#[], #[.slice none 0 0, .agg #[.string ⟨#[]⟩, .int .i64 0, .int .i64 0, .int .i64 0, .int .i64 0]], []⟩).memory :=
  laidMet_laidAll _ (by kernel_rfl) (by kernel_rfl)
theorem reads (os : Os) {H : Type} (enc : TypeId × Value → H) : ∃ x, DataW.whole enc Tryd.prog ((World.laidAll Tryd.prog os Rows.fnExactCommandApplyRow.laid).forCall (fun _ _ => 0) ⟨#[], #[.slice none 0 0, .agg #[.string ⟨#[]⟩, .int .i64 0, .int .i64 0, .int .i64 0, .int .i64 0]], []⟩).memory Tryd.f8.params.toList Rows.fnExactCommandApplySpec.vars false #[Value.slice none 0 0, Value.agg #[.string ⟨#[]⟩, .int .i64 0, .int .i64 0, .int .i64 0, .int .i64 0]].toList 8 = some x :=
  Option.isSome_iff_exists.1 (by kernel_rfl)

set_option maxRecDepth 100000 in
theorem lifted (os : Os) (started : os.Started) (H : Type) (enc : TypeId × Value → H) (F : Stop.Interp) :
    ReturnsInHanded {} Tryd.checked os 8 .any ((OpenSpec.ofChange Rows.fnExactCommandApplySpec).preRow enc Tryd.prog Tryd.f8 Rows.fnExactCommandApplyRow.domain false Rows.fnExactCommandApplyRow.laid) (((OpenSpec.ofChange Rows.fnExactCommandApplySpec).at F).post enc Tryd.prog Tryd.f8 false true false false) := by
  obtain ⟨x, hx⟩ := reads os enc
  refine returnsInHanded_of_row (C := Tryd.checked) (s := OpenSpec.ofChange Rows.fnExactCommandApplySpec) own started (by kernel_rfl) Tryd.func8
    (witness_row_atRef (enc := enc) (C := Tryd.checked) false (World.laidAll Tryd.prog os Rows.fnExactCommandApplyRow.laid) #[.slice none 0 0, .agg #[.string ⟨#[]⟩, .int .i64 0, .int .i64 0, .int .i64 0, .int .i64 0]] rfl (by kernel_rfl) (by kernel_rfl) (by kernel_rfl)
      (OpenSpec.preRow_of_cond 8 hx (by kernel_rfl) (fun k hk => by cases hk) (by kernel_rfl) (laid_met os))) ?_
  intro W base args ds gs before hval hW _ _ _ hL hsh _
  exact contract H enc W base args ds gs before hval hW hL hsh

theorem said : Rows.FnExactCommandApplySaid :=
  OpenClaim.holds_of_cond 8 Tryd.f8 rfl rfl rfl rfl rfl rfl rfl ⟨rfl, rfl, rfl, rfl, rfl⟩ rfl rfl rfl rfl rfl (by kernel_rfl) Tryd.func8 (by kernel_rfl)
    (of_decide_eq_true (by kernel_rfl)) (by unfold Func.isWrapper; first | (rw [if_pos (by decide +kernel)]; kernel_rfl) | (rw [if_neg (by decide +kernel)]; exact ⟨rfl, rfl⟩))
    (fun os started H enc _ F => by rw [OpenClaim.pre_eq_preRow]; exact lifted os started H enc F)

/-- No parameter wants a stand-in; the program's own looks: what the card asks. -/
theorem plain (f : FuncId) (fn : Func) (hf : Tryd.pinned.checked.prog.funcNamed Rows.fnExactCommandApplyRow.func = some f) (hfn : Tryd.pinned.checked.prog.funcs[f]? = some fn) :
    true = Tryd.pinned.checked.prog.looks [] ∧ ∀ (j : Nat) t, fn.params[j]? = some t → Tryd.pinned.checked.prog.wantsStandIn t = false := by
  obtain rfl : f = 8 := Option.some.inj ((show Tryd.prog.funcNamed Rows.fnExactCommandApplyRow.func = some 8 by kernel_rfl).symm.trans hf) |>.symm
  obtain rfl : fn = Tryd.f8 := (Option.some.inj (Tryd.func8.symm.trans hfn)).symm
  refine ⟨by kernel_rfl, fun j t ht => ?_⟩
  rw [Tryd.params8] at ht
  have hm := Array.mem_of_getElem? ht
  simp at hm
  rcases hm with rfl | rfl
  · exact (show Tryd.prog.wantsStandIn 44 = false by kernel_rfl)
  · exact (show Tryd.prog.wantsStandIn 47 = false by kernel_rfl)

/-- THE CARD. -/
theorem card : Rows.FnExactCommandApplyCardSaid :=
  Claim7.holds_tied_plain_at .later [] _ _ _ _ said (fun _ h => by cases h) (by kernel_rfl) (fun _ h => by cases h) fnExactCommandApply_row_tie rfl ⟨rfl, rfl⟩ (by kernel_rfl) rfl plain (by kernel_rfl)
end Go.Proofs.YtnmpbocnbcokeaaDoor.fnExactCommandApply
