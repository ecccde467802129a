/-
  WALKS: laws.eqNode, laws.eqNodeS, at equal lists.
-/
import Derived.Deep.RegionHeld3
import Derived.Deep.Cut
import Derived.Test.YtkoopkaoojhfhaaEq
import Derived.Test.YtkoopkaoojhfhaaTo
namespace Go.Proofs.Ytkoopkaoojhfhaa
open Go.RowKit
set_option linter.unusedVariables false

set_option maxHeartbeats 1000000 in
theorem eqNode_c (n : Nd) (w : World) : Calls Try.prog 67 #[nodeV n, nodeV n] w (BoolPost true w) := by
  obtain ⟨p, k, v⟩ := n
  have HC := Lib.hid (fun w => eqContent_c k v w)
  unfold nodeV
  go_enter Try.func67, Try.ntmps67
  go_wp2_with fail
  refine (HC.out _).mono ?_
  rintro e W1 ⟨rfl, hb1⟩
  have HB := Lib.hid (below_next (below_next (below_box _ _) (below_box _ _)) hb1)
  clear hb1
  go_wp2
  go_ret
  exact ⟨rfl, HB.out⟩

def EqRel (len : Nat) (W : World) (i : Value) (wr : World) : Prop := ∃ n : Nat, i = .int .i64 n ∧ n ≤ len ∧ Hid (Below W.heap.size W wr)

set_option maxHeartbeats 2000000 in
set_option maxRecDepth 100000 in
theorem eqNodeS_c (a1 a2 : Option Addr) (len c1 c2 : Nat) (ns : List Nd) (hl : len ≤ 2097152) (W : World) (h1 : NodesAt W a1 len ns) (h2 : NodesAt W a2 len ns) :
    Calls Try.prog 37 #[.slice a1 len c1, .slice a2 len c2] W (BoolPost true W) := by
  have H1 := Lib.hid h1
  have H2 := Lib.hid h2
  have HC := Lib.hid (fun n w => eqNode_c n w)
  unfold nodeV at HC
  have hl' : (len : Int) ≤ 2097152 := by omega
  clear h1 h2
  go_enter Try.func37, Try.ntmps37
  go_wp2
  go_loopw [5] (fun i wr => EqRel len W i wr) (fun i _ => len - (intOf i).toNat)
  case atStart => exact ⟨0, rfl, by omega, Below.refl _ _⟩
  case round =>
    obtain ⟨i, rfl, hi, HB⟩ := hrel
    by_cases hlt : i < len
    · obtain ⟨b, off, n, HA1, hn1, c0, c1, c2⟩ := (H1.out.keep HB.out).node hlt
      obtain ⟨b', off', n', HA2, hn2, d0, d1, d2⟩ := (H2.out.keep HB.out).node hlt
      obtain rfl : n' = n := by rw [hn1] at hn2; exact (Option.some.inj hn2).symm
      have hlt' : (i : Int) < len := by omega
      have hil : (i : Int) ≤ 2097152 := by omega
      have HLT := Lib.hid hlt
      obtain rfl := HA1
      obtain rfl := HA2
      obtain ⟨p, k, v⟩ := n'
      simp only at c0 c1 c2 d0 d1 d2
      have HS0 := Lib.hid (show wr.drew.cell? ⟨b, off + i * 3, none⟩ = some (.string p) ∧ wr.drew.cell? ⟨b, off + i * 3 + 1, none⟩ = some (.int .i64 k) ∧ wr.drew.cell? ⟨b, off + i * 3 + 2, none⟩ = some (.int .i64 v) ∧
        wr.drew.cell? ⟨b', off' + i * 3, none⟩ = some (.string p) ∧ wr.drew.cell? ⟨b', off' + i * 3 + 1, none⟩ = some (.int .i64 k) ∧ wr.drew.cell? ⟨b', off' + i * 3 + 2, none⟩ = some (.int .i64 v) from ⟨c0, c1, c2, d0, d1, d2⟩)
      have HCX := Lib.hid (HC.out ⟨p, k, v⟩ wr.drew)
      clear hlt hi hn1 hn2
      go_upto_region 6 with (fail)
      refine wp_region_held_drew (S := (fun w' => w'.cell? ⟨b, off + i * 3, none⟩ = some (.string p) ∧ w'.cell? ⟨b, off + i * 3 + 1, none⟩ = some (.int .i64 k) ∧ w'.cell? ⟨b, off + i * 3 + 2, none⟩ = some (.int .i64 v) ∧ w'.cell? ⟨b', off' + i * 3, none⟩ = some (.string p) ∧ w'.cell? ⟨b', off' + i * 3 + 1, none⟩ = some (.int .i64 k) ∧ w'.cell? ⟨b', off' + i * 3 + 2, none⟩ = some (.int .i64 v))) (by kernel_rfl) HS0.out (fun hH => ?_)
      refine wpAnyH_take (i := 0) (oi := _) (v := ?_) rfl (by kernel_rfl) (by kernel_rfl) (by kernel_rfl) (fun _ _ _ h => h) (Or.inl ⟨by rfl, ?_⟩) (by assumption) ?_
      rotate_left
      · (intro w hSw; (try dsimp only at hSw); go_simp; try with_reducible rfl)
      try simp only [Act.put, List.getElem_toArray, List.getElem_cons_zero, List.setIfInBounds_toArray, List.set_cons_zero, List.set_cons_succ]
      refine wpAnyH_take (i := 1) (oi := _) (v := ?_) rfl (by kernel_rfl) (by kernel_rfl) (by kernel_rfl) (fun _ _ _ h => h) (Or.inl ⟨by rfl, ?_⟩) (by assumption) ?_
      rotate_left
      · (intro w hSw; (try dsimp only at hSw); go_simp; try with_reducible rfl)
      try simp only [Act.put, List.getElem_toArray, List.getElem_cons_zero, List.getElem_cons_succ, List.setIfInBounds_toArray, List.set_cons_zero, List.set_cons_succ]
      refine wpAnyH_take (i := 2) (oi := _) (v := ?_) rfl (by kernel_rfl) (by kernel_rfl) (by kernel_rfl) (fun _ _ _ h => h) (Or.inl ⟨by rfl, ?_⟩) (by assumption) ?_
      rotate_left
      · (intro w hSw; (try dsimp only at hSw); go_simp; try with_reducible rfl)
      try simp only [Act.put, List.getElem_toArray, List.getElem_cons_zero, List.getElem_cons_succ, List.setIfInBounds_toArray, List.set_cons_zero, List.set_cons_succ]
      refine wpAnyH_take (i := 3) (oi := _) (v := ?_) rfl (by kernel_rfl) (by kernel_rfl) (by kernel_rfl) (fun _ _ _ h => h) (Or.inl ⟨by rfl, ?_⟩) (by assumption) ?_
      rotate_left
      · (intro w hSw; (try dsimp only at hSw); go_simp; try with_reducible rfl)
      try simp only [Act.put, List.getElem_toArray, List.getElem_cons_zero, List.getElem_cons_succ, List.setIfInBounds_toArray, List.set_cons_zero, List.set_cons_succ]
      refine wpAnyH_take (i := 4) (oi := _) (v := ?_) rfl (by kernel_rfl) (by kernel_rfl) (by kernel_rfl) (fun _ _ _ h => h) (Or.inl ⟨by rfl, ?_⟩) (by assumption) ?_
      rotate_left
      · (intro w hSw; (try dsimp only at hSw); go_simp; try with_reducible rfl)
      try simp only [Act.put, List.getElem_toArray, List.getElem_cons_zero, List.getElem_cons_succ, List.setIfInBounds_toArray, List.set_cons_zero, List.set_cons_succ]
      refine wpAnyH_take (i := 5) (oi := _) (v := ?_) rfl (by kernel_rfl) (by kernel_rfl) (by kernel_rfl) (fun _ _ _ h => h) (Or.inl ⟨by rfl, ?_⟩) (by assumption) ?_
      rotate_left
      · (intro w hSw; (try dsimp only at hSw); go_simp; try with_reducible rfl)
      try simp only [Act.put, List.getElem_toArray, List.getElem_cons_zero, List.getElem_cons_succ, List.setIfInBounds_toArray, List.set_cons_zero, List.set_cons_succ]
      refine wpAnyH_take (i := 6) (oi := _) (v := ?_) rfl (by kernel_rfl) (by kernel_rfl) (by kernel_rfl) (fun _ _ _ h => h) (Or.inl ⟨by rfl, ?_⟩) (by assumption) ?_
      rotate_left
      · (intro w hSw; (try dsimp only at hSw); go_simp; try with_reducible rfl)
      try simp only [Act.put, List.getElem_toArray, List.getElem_cons_zero, List.getElem_cons_succ, List.setIfInBounds_toArray, List.set_cons_zero, List.set_cons_succ]
      refine wpAnyH_take (i := 7) (oi := _) (v := ?_) rfl (by kernel_rfl) (by kernel_rfl) (by kernel_rfl) (fun _ _ _ h => h) (Or.inl ⟨by rfl, ?_⟩) (by assumption) ?_
      rotate_left
      · (intro w hSw; (try dsimp only at hSw); go_simp; try with_reducible rfl)
      try simp only [Act.put, List.getElem_toArray, List.getElem_cons_zero, List.getElem_cons_succ, List.setIfInBounds_toArray, List.set_cons_zero, List.set_cons_succ]
      refine wpAnyH_ready (rs := [8]) (by kernel_rfl) (by simp) ?_
      refine AllReadyH.cons rfl (fun K hK => ?_) (AllReadyH.nil)
      go_simp
      go_at_call 67; (with_reducible refine (HCX.out).mono ?_); rintro e W7 ⟨rfl, hb7⟩
      refine hK.out _ _ ⟨cell_kept hb7 HS0.out.1, cell_kept hb7 HS0.out.2.1, cell_kept hb7 HS0.out.2.2.1, cell_kept hb7 HS0.out.2.2.2.1, cell_kept hb7 HS0.out.2.2.2.2.1, cell_kept hb7 HS0.out.2.2.2.2.2⟩ (fun hHeld => ?_)
      try simp only [Act.put, List.getElem_toArray, List.getElem_cons_zero, List.getElem_cons_succ, List.setIfInBounds_toArray, List.set_cons_zero, List.set_cons_succ]
      have H7 := Lib.hid (below_next (show Below W.heap.size W wr.drew from HB.out.drew) hb7)
      refine wpAnyH_take (i := 9) (oi := _) (v := ?_) rfl (by kernel_rfl) (by kernel_rfl) (by kernel_rfl) (fun _ _ _ h => h) (Or.inl ⟨by rfl, ?_⟩) (by assumption) ?_
      rotate_left
      · (intro w hSw; (try dsimp only at hSw); go_simp; try with_reducible rfl)
      try simp only [Act.put, List.getElem_toArray, List.getElem_cons_zero, List.getElem_cons_succ, List.setIfInBounds_toArray, List.set_cons_zero, List.set_cons_succ]
      refine wpAnyH_done (by kernel_rfl) ?_ _
      go_wp2
      go_roundw
      case rel => exact ⟨i + 1, by go_num, by have := HLT.out; omega, H7.out⟩
      case measure => have := HLT.out; simp [intOf]; omega
    · have hge : (len : Int) ≤ i := by omega
      clear hlt
      go_wp2
      go_ret
      exact ⟨rfl, HB.out⟩

end Go.Proofs.Ytkoopkaoojhfhaa
