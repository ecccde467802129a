/-
  laws.FnExactTreePut returns true for every input, and leaves its arguments as they were.
  Conditions: none.
-/
import Derived.Test.YtkoopkaoojhfhaaRows
import Derived.Test.YtkoopkaoojhfhaaIu
import Derived.Test.YtkoopkaoojhfhaaOn
import Derived.Test.YtkoopkaoojhfhaaSz
import Derived.Test.YtkoopkaoojhfhaaMk
import Derived.Test.YtkoopkaoojhfhaaTt
import Derived.Lib.SmallJoins
import Derived.WalkKit
import Derived.ProofKit
import Derived.OpenShut
import Derived.ShutString
import Derived.ChangeOld
import Derived.Below
namespace Go.Proofs.Ytkoopkaoojhfhaa.fnExactTreePut
open Go.ChangeShapes Go.WideShapes Go.ChangeAt Go.RowKit
open Go.ChangeMaps (open_string shut_string)
open Go.Joins (open_agg2)
set_option linter.unusedVariables false

theorem own : ownKnob Try.prog.godebug = none := by kernel_rfl
theorem laidOut : laidOutB Try.prog = true := by kernel_rfl

theorem cell_lt {W : World} {a : Addr} {v : Value} (h : W.cell? a = some v) : a.block < W.heap.size := World.block_lt_of_cell? W _ h

theorem own_far {W W' : World} {b : Nat} {e : TypeId} {size n : Nat} {v : Value} {xs : List Value} (h : W.ownsRow b e size v n xs) {row : Value} (hg : W.grownBy W' row.ownBlock) (hd : ∀ k, v.ownBlock = some k → row.ownBlock ≠ some k) : W'.ownsRow b e size v n xs := by
  refine h.kept hg ?_
  cases hv : v.ownBlock with
  | none => exact .inl rfl
  | some k => right; exact fun e => hd k hv e.symm

theorem grown_cell {W W' : World} {row : Option Nat} (hg : W.grownBy W' row) {B i : Nat} {v : Value} (h : W.cell? ⟨B, i, none⟩ = some v) (hr : row ≠ some B) : W'.cell? ⟨B, i, none⟩ = some v := by
  have := hg.block B (cell_lt h) (fun e => hr e.symm)
  unfold World.cell? at h ⊢
  rw [this]; exact h

theorem tpost_norm {r : Option (List Nd)} {base : Nat} {W w' : World} {e : Ending} (h : TPost r base W e w') :
    ∃ sl, e = .returned (.tuple #[sl, .bool r.isSome]) ∧ w'.ownsRow base 32 3 sl (r.getD []).length (flatN (r.getD [])) ∧ Below W.heap.size W w' := by
  obtain ⟨sl, out, b, rfl, hc, ho, hb⟩ := h
  rcases hc with ⟨rfl, rfl⟩ | ⟨rfl, rfl, rfl⟩
  · exact ⟨sl, rfl, ho, hb⟩
  · exact ⟨sl, rfl, ho, hb⟩

theorem nodes_own {W : World} {base : Nat} {e : TypeId} {a : Option Addr} {cap : Nat} {ns : List Nd} (h : W.ownsRow base e 3 (.slice a ns.length cap) ns.length (flatN ns)) : NodesAt W a ns.length ns := by
  obtain ⟨_, _, e, h⟩ := nodes_of_own h
  simp at e; rw [e.1]; exact h

set_option maxHeartbeats 4000000 in
set_option maxRecDepth 100000 in
theorem walk (a0 : Option Addr) (len0 cap0 : Nat) (ns : List Nd) (l0 : len0 ≤ maxLen) (m0 : Short maxLen ns) (s : ByteArray) (w1 : s.size ≤ maxLen) (k v : Int) (w : World) (w0 : NodesAt w a0 len0 ns) :
    Calls Try.prog 14 #[.slice a0 len0 cap0, .string s, .agg #[.int .i64 k, .int .i64 v]] w fun e w' => e = .returned (.bool true) ∧ Below w.heap.size w w' := by
  by_cases hss : s.size ≤ 1048576
  · have hss' : (s.size : Int) ≤ 1048576 := by omega
    have HSS := Lib.hid hss
    have HSZ := Lib.hid (fun W' (hb : Below w.heap.size w W') => szNodeS_c a0 len0 cap0 ns l0 m0 W' (w0.keep hb))
    have HN := Lib.hid w0
    clear w0 l0 m0 w1 hss
    go_enter Try.func14, Try.ntmps14
    go_wp2_with fail
    refine (HSZ.out _ (below_box _ _)).mono ?_
    rintro e W1 ⟨z, rfl, hz, hb1⟩
    have HB1 := Lib.hid (below_next (below_box _ _) hb1)
    have c0 := box_cell hb1 0
    have c1 := box_cell hb1 1
    simp at c0 c1
    clear hb1
    by_cases h0 : z < 0
    · go_wp2
      go_ret
      exact ⟨rfl, HB1.out⟩
    · obtain ⟨hl, hs⟩ := hz (by omega)
      have hz0 : 0 ≤ z := by omega
      have hzd : decide (z < 0) = false := decide_eq_false h0
      have HTO := Lib.hid (fun W' (hb : Below w.heap.size w W') => toNodeS_c a0 len0 cap0 ns (by omega) W' (HN.out.keep hb))
      have HLE := Lib.hid HN.out.1
      have HLL := Lib.hid (show ns.length ≤ 1048576 by have := HLE.out; omega)
      have hnl : (ns.length : Int) ≤ 1048576 := by have := HLL.out; omega
      have HS2 := Lib.hid (hs.mono (show 1048576 ≤ 2097152 by omega))
      have HTC := Lib.hid (fun w => toContent_c k v w)
      unfold con at HTC
      obtain ⟨r, hr⟩ : ∃ r, treePut ns s k v = r := ⟨_, rfl⟩
      have HSPEC := Lib.hid (fun x (p : Nat) W' (h : NodesAt W' x ns.length ns) => show Calls Try.prog 24 #[.slice x ns.length p, .string s, .agg #[.int .i64 k, .int .i64 v]] W' (TPost r W'.heap.size W') by
        rw [← hr]; exact specTreePut_c x ns.length p ns s k v (by have := HLL.out; omega) HS2.out (by have := HSS.out; omega) W' h)
      have HIMPL := Lib.hid (fun x (p : Nat) W' (h : NodesAt W' x ns.length ns) => show Calls Try.prog 23 #[.slice x ns.length p, .string s, .agg #[.int .i64 k, .int .i64 v]] W' (TPost r W'.heap.size W') by
        rw [← hr]; exact implTreePut_c x ns.length p ns s k v (by have := HLL.out; omega) HS2.out (by have := HSS.out; omega) W' h)
      obtain ⟨out, hout⟩ : ∃ out, out = r.getD [] := ⟨_, rfl⟩
      obtain ⟨ok, hok⟩ : ∃ ok, ok = r.isSome := ⟨_, rfl⟩
      have HOL := Lib.hid (show out.length ≤ 10 by
        rw [hout]
        cases r with
        | none => simp
        | some o => exact ((validT_iff _).1 (treePut_some hr).2.2.2.2).2.2)
      have hol : (out.length : Int) ≤ 10 := by have := HOL.out; omega
      have HOUT := Lib.hid hout
      have HOK := Lib.hid hok
      have HTO1 := Lib.hid (HTO.out W1.drew HB1.out.drew)
      have HS1 := Lib.hid (show W1.drew.cell? ⟨w.heap.size, 0, none⟩ = some (.int .i64 k) ∧ W1.drew.cell? ⟨w.heap.size, 1, none⟩ = some (.int .i64 v) from ⟨c0, c1⟩)
      clear h0 hz hs hr hl hout hok
      go_upto_region 7 with (fail)
      refine wp_region_held_drew (S := (fun w' => w'.cell? ⟨w.heap.size, 0, none⟩ = some (.int .i64 k) ∧ w'.cell? ⟨w.heap.size, 1, none⟩ = some (.int .i64 v))) (by kernel_rfl) HS1.out (fun hH => ?_)
      refine wpAnyH_take (i := 0) (oi := _) (v := ?_) rfl (by kernel_rfl) (by kernel_rfl) (by kernel_rfl) (fun _ _ _ h => h) (Or.inl ⟨by rfl, ?_⟩) (by assumption) ?_
      rotate_left
      · (intro w hSw; (try dsimp only at hSw); go_simp; try with_reducible rfl)
      try simp only [Act.put, List.getElem_toArray, List.getElem_cons_zero, List.setIfInBounds_toArray, List.set_cons_zero, List.set_cons_succ]
      refine wpAnyH_take (i := 2) (oi := _) (v := ?_) rfl (by kernel_rfl) (by kernel_rfl) (by kernel_rfl) (fun _ _ _ h => h) (Or.inl ⟨by rfl, ?_⟩) (by assumption) ?_
      rotate_left
      · (intro w hSw; (try dsimp only at hSw); go_simp; try with_reducible rfl)
      try simp only [Act.put, List.getElem_toArray, List.getElem_cons_zero, List.getElem_cons_succ, List.setIfInBounds_toArray, List.set_cons_zero, List.set_cons_succ]
      refine wpAnyH_take (i := 3) (oi := _) (v := ?_) rfl (by kernel_rfl) (by kernel_rfl) (by kernel_rfl) (fun _ _ _ h => h) (Or.inl ⟨by rfl, ?_⟩) (by assumption) ?_
      rotate_left
      · (intro w hSw; (try dsimp only at hSw); go_simp; try with_reducible rfl)
      try simp only [Act.put, List.getElem_toArray, List.getElem_cons_zero, List.getElem_cons_succ, List.setIfInBounds_toArray, List.set_cons_zero, List.set_cons_succ]
      refine wpAnyH_ready (rs := [1]) (by kernel_rfl) (by simp) ?_
      refine AllReadyH.cons rfl (fun K hK => ?_) (AllReadyH.nil)
      go_simp
      go_at_call 36; (with_reducible refine (HTO1.out).mono ?_); rintro e W2 ⟨⟨s2, rfl, ho2⟩, hb2⟩
      refine hK.out _ _ ⟨cell_kept hb2 HS1.out.1, cell_kept hb2 HS1.out.2⟩ (fun hHeld => ?_)
      try simp only [Act.put, List.getElem_toArray, List.getElem_cons_zero, List.getElem_cons_succ, List.setIfInBounds_toArray, List.set_cons_zero, List.set_cons_succ]
      have HC2 := Lib.hid (And.intro (cell_kept hb2 HS1.out.1) (cell_kept hb2 HS1.out.2))
      obtain ⟨x2, p2, rfl, hn2⟩ := nodes_of_own ho2
      have HB2 := Lib.hid (below_next HB1.out.drew hb2)
      have HN2 := Lib.hid hn2
      clear ho2 hn2
      refine wpAnyH_ready (rs := [4]) (by kernel_rfl) (by simp) ?_
      refine AllReadyH.cons rfl (fun K hK => ?_) (AllReadyH.nil)
      go_simp
      go_at_call 39; (with_reducible refine (HTC.out _).mono ?_); rintro e W3 ⟨rfl, hb3⟩
      refine hK.out _ _ ⟨cell_kept hb3 HC2.out.1, cell_kept hb3 HC2.out.2⟩ (fun hHeld => ?_)
      try simp only [Act.put, List.getElem_toArray, List.getElem_cons_zero, List.getElem_cons_succ, List.setIfInBounds_toArray, List.set_cons_zero, List.set_cons_succ]
      have HC3 := Lib.hid (And.intro (cell_kept hb3 HC2.out.1) (cell_kept hb3 HC2.out.2))
      have HB3 := Lib.hid (below_next HB2.out hb3)
      have HSP := Lib.hid (HSPEC.out x2 p2 W3 (HN2.out.keep hb3))
      unfold con
      refine wpAnyH_ready (rs := [5]) (by kernel_rfl) (by simp) ?_
      refine AllReadyH.cons rfl (fun K hK => ?_) (AllReadyH.nil)
      go_simp
      go_at_call 24; (with_reducible refine (HSP.out).mono ?_); intro e W4 hp4; obtain ⟨s4, rfl, ho4, hb4⟩ := tpost_norm hp4; clear hp4
      refine hK.out _ _ ⟨cell_kept hb4 HC3.out.1, cell_kept hb4 HC3.out.2⟩ (fun hHeld => ?_)
      try simp only [Act.put, List.getElem_toArray, List.getElem_cons_zero, List.getElem_cons_succ, List.setIfInBounds_toArray, List.set_cons_zero, List.set_cons_succ]
      have HC4 := Lib.hid (And.intro (cell_kept hb4 HC3.out.1) (cell_kept hb4 HC3.out.2))
      have HB4 := Lib.hid (below_next HB3.out hb4)
      refine wpAnyH_take (i := 6) (oi := _) (v := ?_) rfl (by kernel_rfl) (by kernel_rfl) (by kernel_rfl) (fun _ _ _ h => h) (Or.inl ⟨by rfl, ?_⟩) (by assumption) ?_
      rotate_left
      · (intro w hSw; (try dsimp only at hSw); go_simp; try with_reducible rfl)
      try simp only [Act.put, List.getElem_toArray, List.getElem_cons_zero, List.getElem_cons_succ, List.setIfInBounds_toArray, List.set_cons_zero, List.set_cons_succ]
      refine wpAnyH_take (i := 7) (oi := _) (v := ?_) rfl (by kernel_rfl) (by kernel_rfl) (by kernel_rfl) (fun _ _ _ h => h) (Or.inl ⟨by rfl, ?_⟩) (by assumption) ?_
      rotate_left
      · (intro w hSw; (try dsimp only at hSw); go_simp; try with_reducible rfl)
      try simp only [Act.put, List.getElem_toArray, List.getElem_cons_zero, List.getElem_cons_succ, List.setIfInBounds_toArray, List.set_cons_zero, List.set_cons_succ]
      refine wpAnyH_take (i := 8) (oi := _) (v := ?_) rfl (by kernel_rfl) (by kernel_rfl) (by kernel_rfl) (fun _ _ _ h => h) (Or.inl ⟨by rfl, ?_⟩) (by assumption) ?_
      rotate_left
      · (intro w hSw; (try dsimp only at hSw); go_simp; try with_reducible rfl)
      try simp only [Act.put, List.getElem_toArray, List.getElem_cons_zero, List.getElem_cons_succ, List.setIfInBounds_toArray, List.set_cons_zero, List.set_cons_succ]
      refine wpAnyH_take (i := 9) (oi := _) (v := ?_) rfl (by kernel_rfl) (by kernel_rfl) (by kernel_rfl) (fun _ _ _ h => h) (Or.inl ⟨by rfl, ?_⟩) (by assumption) ?_
      rotate_left
      · (intro w hSw; (try dsimp only at hSw); go_simp; try with_reducible rfl)
      try simp only [Act.put, List.getElem_toArray, List.getElem_cons_zero, List.getElem_cons_succ, List.setIfInBounds_toArray, List.set_cons_zero, List.set_cons_succ]
      refine wpAnyH_take (i := 10) (oi := _) (v := ?_) rfl (by kernel_rfl) (by kernel_rfl) (by kernel_rfl) (fun _ _ _ h => h) (Or.inl ⟨by rfl, ?_⟩) (by assumption) ?_
      rotate_left
      · (intro w hSw; (try dsimp only at hSw); go_simp; try with_reducible rfl)
      try simp only [Act.put, List.getElem_toArray, List.getElem_cons_zero, List.getElem_cons_succ, List.setIfInBounds_toArray, List.set_cons_zero, List.set_cons_succ]
      refine wpAnyH_done (by kernel_rfl) ?_ _
      rw [← HOUT.out] at ho4
      rw [← HOK.out]
      obtain ⟨x4, p4, rfl, -⟩ := nodes_of_own ho4
      have HO4 := Lib.hid ho4
      have HW4 := Lib.hid (fun k (e : (Value.slice x4 out.length p4).ownBlock = some k) => (ho4.lt k e).2)
      clear ho4 hb2 hb3 hb4 c0 c1
      go_wp2_with fail
      refine (HTO.out _ HB4.out).mono ?_
      rintro e W5 ⟨⟨s5, rfl, ho5⟩, hb5⟩
      obtain ⟨x5, p5, rfl, hn5⟩ := nodes_of_own ho5
      have HB5 := Lib.hid (below_next HB4.out hb5)
      have HO45 := Lib.hid (own_below HO4.out hb5)
      have HO5 := Lib.hid ho5
      have HN5 := Lib.hid hn5
      have HX5 := Lib.hid (fun k (e : (Value.slice x5 ns.length p5).ownBlock = some k) => ho5.lt k e)
      have d0 := cell_kept hb5 HC4.out.1
      have d1 := cell_kept hb5 HC4.out.2
      have hb5z := hb5.size
      clear ho5 hn5 hb5
      go_wp2_with fail
      refine (HTC.out _).mono ?_
      rintro e W6 ⟨rfl, hb6⟩
      have HB6 := Lib.hid (below_next HB5.out hb6)
      have HO46 := Lib.hid (own_below HO45.out hb6)
      have HO56 := Lib.hid (own_below HO5.out hb6)
      have HC6 := Lib.hid (And.intro (cell_kept hb6 d0) (cell_kept hb6 d1))
      have HZ56 := Lib.hid hb6.size
      have HZ46 := Lib.hid (show W4.heap.size ≤ W6.heap.size by exact Nat.le_trans hb5z hb6.size)
      have HIV := Lib.hid (HIMPL.out x5 p5 W6 (HN5.out.keep hb6))
      unfold con
      clear hb6 d0 d1
      go_wp2_with fail
      refine HIV.out.mono ?_
      intro e W7 hp7
      obtain ⟨s7, rfl, ho7, hb7⟩ := tpost_norm hp7
      clear hp7
      rw [← HOUT.out] at ho7
      rw [← HOK.out]
      obtain ⟨x7, p7, rfl, hn7⟩ := nodes_of_own ho7
      have HB7 := Lib.hid (below_next HB6.out hb7)
      have HO47 := Lib.hid (own_below HO46.out hb7)
      have HO57 := Lib.hid (own_below HO56.out hb7)
      have HO7 := Lib.hid ho7
      have HC7 := Lib.hid (And.intro (cell_kept hb7 HC6.out.1) (cell_kept hb7 HC6.out.2))
      have HX7 := Lib.hid (fun k (e : (Value.slice x7 out.length p7).ownBlock = some k) => (ho7.lt k e).1)
      have HE1 := Lib.hid (eqNodeS_c x7 x4 out.length p7 p4 out (by have := HOL.out; omega) W7 hn7 (nodes_own HO47.out))
      clear ho7 hn7 hb7
      go_wp2_with fail
      refine HE1.out.mono ?_
      rintro e W8 ⟨rfl, hb8⟩
      have HB8 := Lib.hid (below_next HB7.out hb8)
      have H8 := Lib.hid hb8
      clear hb8
      go_wp2_with fail
      refine (HTO.out _ HB8.out).mono ?_
      rintro e W9 ⟨⟨s9, rfl, ho9⟩, hb9⟩
      obtain ⟨x9, p9, rfl, hn9⟩ := nodes_of_own ho9
      have HB9 := Lib.hid (below_next HB8.out hb9)
      have H9 := Lib.hid (below_next H8.out hb9)
      have HE2 := Lib.hid (eqNodeS_c x5 x9 ns.length p5 p9 ns (by have := HLL.out; omega) W9 (nodes_own (own_below HO57.out H9.out)) hn9)
      clear ho9 hn9 hb9
      go_wp2_with fail
      refine HE2.out.mono ?_
      rintro e W10 ⟨rfl, hb10⟩
      have HB10 := Lib.hid (below_next HB9.out hb10)
      have H10 := Lib.hid (below_next H9.out hb10)
      have HMK := Lib.hid (markNodeS_c (.slice x5 ns.length p5) W4.heap.size ns.length (flatN ns) (by have := HLL.out; omega) W10 (own_below HO57.out H10.out))
      clear hb10
      go_wp2_with fail
      refine HMK.out.mono ?_
      rintro e W11 ⟨rfl, hg11, -⟩
      have HB11 := Lib.hid (HB10.out.grown hg11 HB10.out.size (fun k e => by have := (HX5.out k e).1; have := HB4.out.size; omega))
      have HO4a := Lib.hid (own_far (own_below HO47.out H10.out) hg11 (fun k e1 e2 => by have := HW4.out k e1; have := (HX5.out k e2).1; omega))
      have HO7a := Lib.hid (own_far (own_below HO7.out H10.out) hg11 (fun k e1 e2 => by have := HX7.out k e1; have := (HX5.out k e2).2; have := HZ56.out; omega))
      have hw4 : w.heap.size < W4.heap.size := by have := cell_lt HC4.out.1; simpa using this
      have HC11 := Lib.hid (And.intro (grown_cell hg11 (cell_kept H10.out HC7.out.1) (fun e => by have := (HX5.out _ e).1; omega)) (grown_cell hg11 (cell_kept H10.out HC7.out.2) (fun e => by have := (HX5.out _ e).1; omega)))
      have HE3 := Lib.hid (eqNodeS_c x7 x4 out.length p7 p4 out (by have := HOL.out; omega) W11 (nodes_own HO7a.out) (nodes_own HO4a.out))
      clear hg11
      go_wp2_with fail
      refine HE3.out.mono ?_
      rintro e W11b ⟨rfl, hb11b⟩
      have HB11b := Lib.hid (below_next HB11.out hb11b)
      have HO4b := Lib.hid (own_below HO4a.out hb11b)
      have HC11b := Lib.hid (And.intro (cell_kept hb11b HC11.out.1) (cell_kept hb11b HC11.out.2))
      have HMK2 := Lib.hid (markNodeS_c (.slice x7 out.length p7) W6.heap.size out.length (flatN out) (by have := HOL.out; omega) W11b (own_below HO7a.out hb11b))
      clear hb11b
      go_wp2_with fail
      refine HMK2.out.mono ?_
      rintro e W11c ⟨rfl, hg11c, ho11c⟩
      have hw6 := HB6.out.size
      have hz46 : W4.heap.size ≤ W6.heap.size := by have := HZ46.out; omega
      have HB11c := Lib.hid (HB11b.out.grown hg11c HB11b.out.size (fun k e => by have := HX7.out k e; omega))
      have HO4c := Lib.hid (own_far HO4b.out hg11c (fun k e1 e2 => by have := HW4.out k e1; have := HX7.out k e2; omega))
      have HC11c := Lib.hid (And.intro (grown_cell hg11c HC11b.out.1 (fun e => by have := HX7.out _ e; omega)) (grown_cell hg11c HC11b.out.2 (fun e => by have := HX7.out _ e; omega)))
      have HM11 := Lib.hid (show NodesAt W11c x7 out.length (markN out.length) by
        have h2 : W11c.ownsRow W6.heap.size 32 3 (.slice x7 out.length p7) (markN out.length).length (flatN (markN out.length)) := by rw [markN_len]; exact ho11c
        obtain ⟨_, _, e, h⟩ := nodes_of_own h2
        rw [markN_len] at e h
        simp at e; rw [e.1]; exact h)
      have HH := Lib.hid (fun W' (hb : Below W11c.heap.size W11c W') => heldNodeS_c x7 out.length p7 (by have := HOL.out; omega) W' (HM11.out.keep hb))
      clear hg11c ho11c hw4 hz46 hw6
      go_wp2_with fail
      refine (HH.out _ (Below.refl _ _)).mono ?_
      rintro e W12 ⟨rfl, hb12⟩
      have HB12 := Lib.hid (below_next HB11c.out hb12)
      have H12 := Lib.hid hb12
      have e0 := cell_kept hb12 HC11c.out.1
      have e1 := cell_kept hb12 HC11c.out.2
      have HTO3 := Lib.hid (HTO.out W12.drew HB12.out.drew)
      have HS2b := Lib.hid (show W12.drew.cell? ⟨w.heap.size, 0, none⟩ = some (.int .i64 k) ∧ W12.drew.cell? ⟨w.heap.size, 1, none⟩ = some (.int .i64 v) from ⟨e0, e1⟩)
      clear hb12
      go_upto_region 26 with (fail)
      refine wp_region_held_drew (S := (fun w' => w'.cell? ⟨w.heap.size, 0, none⟩ = some (.int .i64 k) ∧ w'.cell? ⟨w.heap.size, 1, none⟩ = some (.int .i64 v))) (by kernel_rfl) HS2b.out (fun hH => ?_)
      refine wpAnyH_take (i := 0) (oi := _) (v := ?_) rfl (by kernel_rfl) (by kernel_rfl) (by kernel_rfl) (fun _ _ _ h => h) (Or.inl ⟨by rfl, ?_⟩) (by assumption) ?_
      rotate_left
      · (intro w hSw; (try dsimp only at hSw); go_simp; try with_reducible rfl)
      try simp only [Act.put, List.getElem_toArray, List.getElem_cons_zero, List.setIfInBounds_toArray, List.set_cons_zero, List.set_cons_succ]
      refine wpAnyH_take (i := 2) (oi := _) (v := ?_) rfl (by kernel_rfl) (by kernel_rfl) (by kernel_rfl) (fun _ _ _ h => h) (Or.inl ⟨by rfl, ?_⟩) (by assumption) ?_
      rotate_left
      · (intro w hSw; (try dsimp only at hSw); go_simp; try with_reducible rfl)
      try simp only [Act.put, List.getElem_toArray, List.getElem_cons_zero, List.getElem_cons_succ, List.setIfInBounds_toArray, List.set_cons_zero, List.set_cons_succ]
      refine wpAnyH_take (i := 3) (oi := _) (v := ?_) rfl (by kernel_rfl) (by kernel_rfl) (by kernel_rfl) (fun _ _ _ h => h) (Or.inl ⟨by rfl, ?_⟩) (by assumption) ?_
      rotate_left
      · (intro w hSw; (try dsimp only at hSw); go_simp; try with_reducible rfl)
      try simp only [Act.put, List.getElem_toArray, List.getElem_cons_zero, List.getElem_cons_succ, List.setIfInBounds_toArray, List.set_cons_zero, List.set_cons_succ]
      refine wpAnyH_ready (rs := [1]) (by kernel_rfl) (by simp) ?_
      refine AllReadyH.cons rfl (fun K hK => ?_) (AllReadyH.nil)
      go_simp
      go_at_call 36; (with_reducible refine (HTO3.out).mono ?_); rintro e W13 ⟨⟨s13, rfl, ho13⟩, hb13⟩
      refine hK.out _ _ ⟨cell_kept hb13 HS2b.out.1, cell_kept hb13 HS2b.out.2⟩ (fun hHeld => ?_)
      try simp only [Act.put, List.getElem_toArray, List.getElem_cons_zero, List.getElem_cons_succ, List.setIfInBounds_toArray, List.set_cons_zero, List.set_cons_succ]
      have HC13 := Lib.hid (And.intro (cell_kept hb13 HS2b.out.1) (cell_kept hb13 HS2b.out.2))
      obtain ⟨x13, p13, rfl, hn13⟩ := nodes_of_own ho13
      have HB13 := Lib.hid (below_next HB12.out.drew hb13)
      have H13 := Lib.hid (below_next H12.out.drew hb13)
      have HN13 := Lib.hid hn13
      clear ho13 hn13
      refine wpAnyH_ready (rs := [4]) (by kernel_rfl) (by simp) ?_
      refine AllReadyH.cons rfl (fun K hK => ?_) (AllReadyH.nil)
      go_simp
      go_at_call 39; (with_reducible refine (HTC.out _).mono ?_); rintro e W14 ⟨rfl, hb14⟩
      refine hK.out _ _ ⟨cell_kept hb14 HC13.out.1, cell_kept hb14 HC13.out.2⟩ (fun hHeld => ?_)
      try simp only [Act.put, List.getElem_toArray, List.getElem_cons_zero, List.getElem_cons_succ, List.setIfInBounds_toArray, List.set_cons_zero, List.set_cons_succ]
      have HC14 := Lib.hid (And.intro (cell_kept hb14 HC13.out.1) (cell_kept hb14 HC13.out.2))
      have HB14 := Lib.hid (below_next HB13.out hb14)
      have H14 := Lib.hid (below_next H13.out hb14)
      have HIV2 := Lib.hid (HIMPL.out x13 p13 W14 (HN13.out.keep hb14))
      unfold con
      refine wpAnyH_ready (rs := [5]) (by kernel_rfl) (by simp) ?_
      refine AllReadyH.cons rfl (fun K hK => ?_) (AllReadyH.nil)
      go_simp
      go_at_call 23; (with_reducible refine (HIV2.out).mono ?_); intro e W15 hp15; obtain ⟨s15, rfl, ho15, hb15⟩ := tpost_norm hp15; clear hp15
      refine hK.out _ _ ⟨cell_kept hb15 HC14.out.1, cell_kept hb15 HC14.out.2⟩ (fun hHeld => ?_)
      try simp only [Act.put, List.getElem_toArray, List.getElem_cons_zero, List.getElem_cons_succ, List.setIfInBounds_toArray, List.set_cons_zero, List.set_cons_succ]
      have HC15 := Lib.hid (And.intro (cell_kept hb15 HC14.out.1) (cell_kept hb15 HC14.out.2))
      have HB15 := Lib.hid (below_next HB14.out hb15)
      have H15 := Lib.hid (below_next H14.out hb15)
      refine wpAnyH_take (i := 6) (oi := _) (v := ?_) rfl (by kernel_rfl) (by kernel_rfl) (by kernel_rfl) (fun _ _ _ h => h) (Or.inl ⟨by rfl, ?_⟩) (by assumption) ?_
      rotate_left
      · (intro w hSw; (try dsimp only at hSw); go_simp; try with_reducible rfl)
      try simp only [Act.put, List.getElem_toArray, List.getElem_cons_zero, List.getElem_cons_succ, List.setIfInBounds_toArray, List.set_cons_zero, List.set_cons_succ]
      refine wpAnyH_take (i := 7) (oi := _) (v := ?_) rfl (by kernel_rfl) (by kernel_rfl) (by kernel_rfl) (fun _ _ _ h => h) (Or.inl ⟨by rfl, ?_⟩) (by assumption) ?_
      rotate_left
      · (intro w hSw; (try dsimp only at hSw); go_simp; try with_reducible rfl)
      try simp only [Act.put, List.getElem_toArray, List.getElem_cons_zero, List.getElem_cons_succ, List.setIfInBounds_toArray, List.set_cons_zero, List.set_cons_succ]
      refine wpAnyH_take (i := 8) (oi := _) (v := ?_) rfl (by kernel_rfl) (by kernel_rfl) (by kernel_rfl) (fun _ _ _ h => h) (Or.inl ⟨by rfl, ?_⟩) (by assumption) ?_
      rotate_left
      · (intro w hSw; (try dsimp only at hSw); go_simp; try with_reducible rfl)
      try simp only [Act.put, List.getElem_toArray, List.getElem_cons_zero, List.getElem_cons_succ, List.setIfInBounds_toArray, List.set_cons_zero, List.set_cons_succ]
      refine wpAnyH_take (i := 9) (oi := _) (v := ?_) rfl (by kernel_rfl) (by kernel_rfl) (by kernel_rfl) (fun _ _ _ h => h) (Or.inl ⟨by rfl, ?_⟩) (by assumption) ?_
      rotate_left
      · (intro w hSw; (try dsimp only at hSw); go_simp; try with_reducible rfl)
      try simp only [Act.put, List.getElem_toArray, List.getElem_cons_zero, List.getElem_cons_succ, List.setIfInBounds_toArray, List.set_cons_zero, List.set_cons_succ]
      refine wpAnyH_take (i := 10) (oi := _) (v := ?_) rfl (by kernel_rfl) (by kernel_rfl) (by kernel_rfl) (fun _ _ _ h => h) (Or.inl ⟨by rfl, ?_⟩) (by assumption) ?_
      rotate_left
      · (intro w hSw; (try dsimp only at hSw); go_simp; try with_reducible rfl)
      try simp only [Act.put, List.getElem_toArray, List.getElem_cons_zero, List.getElem_cons_succ, List.setIfInBounds_toArray, List.set_cons_zero, List.set_cons_succ]
      refine wpAnyH_done (by kernel_rfl) ?_ _
      rw [← HOUT.out] at ho15
      rw [← HOK.out]
      obtain ⟨x15, p15, rfl, hn15⟩ := nodes_of_own ho15
      have HE4 := Lib.hid (eqNodeS_c x15 x4 out.length p15 p4 out (by have := HOL.out; omega) W15 hn15 (nodes_own (own_below HO4c.out H15.out)))
      clear ho15 hn15 hb13 hb14 hb15 e0 e1
      go_wp2_with fail
      refine HE4.out.mono ?_
      rintro e W16 ⟨rfl, hb16⟩
      have HB16 := Lib.hid (below_next HB15.out hb16)
      have H16 := Lib.hid (below_next H15.out hb16)
      clear hb16
      go_wp2_with fail
      refine (HH.out _ H16.out).mono ?_
      rintro e W17 ⟨rfl, hb17⟩
      have HB17 := Lib.hid (below_next HB16.out hb17)
      clear hb17
      go_wp2
      go_ret
      exact ⟨rfl, HB17.out⟩
  · have hss' : (1048576 : Int) < s.size := by omega
    clear hss w0 l0 m0
    have w1' : s.size ≤ 9223372036854775807 := Nat.le_trans w1 (by unfold maxLen; omega)
    go_enter Try.func14, Try.ntmps14
    go_wp2
    go_ret
    exact ⟨rfl, below_box _ _⟩


set_option maxRecDepth 100000 in
theorem lifted (os : Os) (started : os.Started) (H : Type) (enc : TypeId × Value → H) :
    ReturnsInHanded {} Try.checked os 14 .any (Rows.fnExactTreePutSpec.pre6 enc Try.prog Try.f14 Rows.fnExactTreePutRow.domain false) (Rows.fnExactTreePutSpec.post enc Try.prog Try.f14 false true false false) := by
  refine returnsInHanded_of_change (C := Try.checked) own started (by kernel_rfl) Try.func14
    (ChangeSpec.witness6 (enc := enc) (C := Try.checked) false ⟨#[], #[.slice none 0 0, .string ⟨#[]⟩, .agg #[.int .i64 0, .int .i64 0]], []⟩ 8 (by kernel_rfl) (by kernel_rfl) (by kernel_rfl) (by kernel_rfl)) ?_
  intro W base args ds gs before hval0 hW hcnd _
  have hval : ∀ (j : Nat) t v, Try.f14.params[j]? = some t → args[j]? = some v → Value.okWide Try.prog W .any base t v := hval0
  have hW' := hW
  obtain ⟨p, q, hA0, hV, rfl, hfz, hnd⟩ := hW
  have hA : DataW.TrodAll enc Try.prog W 0 (fun _ => true) true Try.f14.params.toList args.toList ds p := hA0
  rw [Try.params14] at hA hval
  obtain ⟨v0, vs0, d0, ds0, p0, q0, hargs, rfl, rfl, h0, r0⟩ := trodAll_cons hA
  obtain ⟨v1, vs1, d1, ds1, p1, q1, rfl, rfl, rfl, h1, r1⟩ := trodAll_cons r0
  obtain ⟨v2, vs2, d2, ds2, p2, q2, rfl, rfl, rfl, h2, r2⟩ := trodAll_cons r1
  obtain ⟨rfl, rfl, rfl⟩ := trodAll_nil r2
  obtain rfl : args = #[v0, v1, v2] := by cases args; simp_all
  obtain ⟨rfl, rfl⟩ := trodVars_none hV
  obtain ⟨a0, len0, cap0, rfl⟩ := okWide_slice Try.underlying48 (hval 0 48 v0 rfl rfl)
  have k0 := h0
  have lt0 : ∀ x ∈ p0, x.block < W.heap.size := by obtain ⟨m, hm⟩ := k0; exact DataW.trod_lt m _ _ _ hm
  obtain ⟨z0, w0, l0, m0⟩ : ∃ ns, NodesAt W a0 len0 ns ∧ len0 ≤ maxLen ∧ Short maxLen ns := by
    obtain ⟨fuel, hf⟩ := h0
    exact open_nodes hf
  obtain ⟨a1, rfl, rfl, rfl, w1⟩ := open_string Try.underlying9 (hval 1 9 v1 rfl rfl) h1
  have k2 := h2
  have lt2 : ∀ x ∈ p2, x.block < W.heap.size := by obtain ⟨m, hm⟩ := k2; exact DataW.trod_lt m _ _ _ hm
  obtain ⟨u2, u2', y2, y2', n2, rfl, rfl, rfl, s2, s2'⟩ := open_agg2 Try.underlying54 (by kernel_rfl) (by kernel_rfl) (hval 2 54 v2 rfl rfl) h2
  obtain ⟨a2, e2, z2, b2⟩ := DataW.trod_int Try.underlying3 (show DataW.trod _ Try.prog W 0 _ true n2 3 [u2] = some y2 from s2)
  obtain ⟨a2', e2', z2', b2'⟩ := DataW.trod_int Try.underlying3 (show DataW.trod _ Try.prog W 0 _ true n2 3 [u2'] = some y2' from s2')
  obtain rfl : u2 = .int .i64 a2 := by simpa using e2
  obtain rfl : u2' = .int .i64 a2' := by simpa using e2'
  clear hA0 hval0
  refine (walk a0 len0 cap0 z0 l0 m0 a1 w1 a2 a2' W w0).mono fun e W' ⟨he, bel⟩ => ?_
  subst he
  exact ⟨_, rfl, _, _, _, [], _, [], hW', trodAll_mk1 (shut_bool Try.underlying4 _), (trodAll_cons_mk (Below.trod laidOut (by kernel_rfl) (of_decide_eq_true (by kernel_rfl)) k0 bel lt0) (trodAll_cons_mk (shut_string Try.underlying9 w1) (trodAll_cons_mk (Below.trod laidOut (by kernel_rfl) (of_decide_eq_true (by kernel_rfl)) k2 bel lt2) trodAll_mk0))), rfl, bel.frame _, fun h => by cases h⟩

theorem over : Rows.fnExactTreePutRow.holds Try.pinned (OpenSpec.ofChange Rows.fnExactTreePutSpec) :=
  OpenClaim.holds_of_wide 14 Try.f14 rfl rfl rfl rfl rfl rfl rfl ⟨rfl, rfl, rfl, rfl, rfl⟩ rfl rfl rfl rfl rfl (by kernel_rfl) Try.func14 (by kernel_rfl)
    (of_decide_eq_true (by kernel_rfl)) (by unfold Func.isWrapper; first | (rw [if_pos (by decide +kernel)]; kernel_rfl) | (rw [if_neg (by decide +kernel)]; exact ⟨rfl, rfl⟩))
    (fun os started H enc _ => lifted os started H enc)

theorem proved : Rows.FnExactTreePutSaid := over
end Go.Proofs.Ytkoopkaoojhfhaa.fnExactTreePut
