/-
  WALKS: moves of the model: spec.l13Remove, RemoveAll, l13Copy, CopyAll, MoveAll.
-/
import Derived.Deep.RegionHeld3
import Derived.Deep.Cut
import Derived.Test.YtncceljffcjoiaaMi
import Derived.Test.YtncceljffcjoiaaLv
namespace Go.Proofs.Ytncceljffcjoiaa
open Go.RowKit
set_option linter.unusedVariables false

def remAcc (ns : List Nd) (p : ByteArray) (n : Nat) : List Cmd := ((ns.drop n).filter (fun x => subB p x.p)).reverse.map (fun n => ⟨n.p, n.k, n.v, 0, 0⟩)

theorem remAcc_yes {ns : List Nd} {p : ByteArray} {n : Nat} {x : Nd} (hn : ns[n]? = some x) (h : subB p x.p = true) : remAcc ns p n = remAcc ns p (n + 1) ++ [⟨x.p, x.k, x.v, 0, 0⟩] := by
  have hlt := (List.getElem?_eq_some_iff.1 hn).1
  unfold remAcc
  rw [List.drop_eq_getElem_cons hlt, (List.getElem?_eq_some_iff.1 hn).2]
  simp [h]

theorem remAcc_no {ns : List Nd} {p : ByteArray} {n : Nat} {x : Nd} (hn : ns[n]? = some x) (h : subB p x.p = false) : remAcc ns p n = remAcc ns p (n + 1) := by
  have hlt := (List.getElem?_eq_some_iff.1 hn).1
  unfold remAcc
  rw [List.drop_eq_getElem_cons hlt, (List.getElem?_eq_some_iff.1 hn).2]
  simp [h]

theorem remAcc_len (ns : List Nd) (p : ByteArray) (n : Nat) : (remAcc ns p n).length ≤ ns.length := by
  unfold remAcc
  rw [List.length_map, List.length_reverse]
  exact Nat.le_trans (List.length_filter_le _ _) (by rw [List.length_drop]; omega)

theorem sub_eq {p q : ByteArray} (h : q = p) : subB p q = true := by unfold subB; simp [h]
theorem sub_ne {ns : List Nd} {p : ByteArray} (hv : validT ns = true) (hp : vpB p = true) {n : Nd} (hn : n ∈ ns) (h : n.p ≠ p) : subB p n.p = l1uB p n.p := by
  have := underB_eq p n.p
  rw [show Pm.valid p.data.toList = true from hp, show Pm.valid n.p.data.toList = true from (good_path hv hn).2] at this
  unfold subB
  rw [decide_eq_false h, Bool.false_or]
  exact this

def RemRel (ns : List Nd) (p : ByteArray) (W : World) (o i : Value) (wr : World) : Prop :=
  ∃ (n : Nat) (z : Int), i = .int .i64 z ∧ z = (n : Int) - 1 ∧ n ≤ ns.length ∧ wr.ownsRow W.heap.size 33 5 o (remAcc ns p n).length (flatC (remAcc ns p n)) ∧ Hid (Below W.heap.size W wr)

set_option maxHeartbeats 2000000 in
set_option maxRecDepth 100000 in
theorem l13Remove_c (a : Option Addr) (len cap : Nat) (ns : List Nd) (p : ByteArray) (hl : len ≤ 2097152) (hv : validT ns = true) (hp : vpB p = true) (W : World) (hN : NodesAt W a len ns) :
    Calls Try.prog 26 #[.slice a len cap, .string p] W (CmdsPost (remL ns p) W) := by
  obtain ⟨i0, hi, hz0, hz1, hz2⟩ := info_parts infoCmd
  have HN := Lib.hid hN
  have HE := Lib.hid hN.1
  have HV := Lib.hid (And.intro hv hp)
  have HL := Lib.hid (show ns.length ≤ 10 from ((validT_iff ns).1 hv).2.2)
  have hl' : (len : Int) ≤ 2097152 := by omega
  clear hN hv hp
  go_enter Try.func26, Try.ntmps26
  go_wp2
  go_loopw [5, 6] (fun o i wr => RemRel ns p W o i wr) (fun _ i _ => (intOf i + 1).toNat)
  case atStart => exact ⟨len, _, rfl, by go_num, by have := HE.out; omega, (by
    have e : remAcc ns p len = [] := by unfold remAcc; rw [← HE.out, List.drop_length]; rfl
    rw [e]
    exact World.ownsRow_lit (e := 33) (size := 5) W #[] 0 (Nat.le_refl _) (by simp [maxLen]) rfl), below_box _ _⟩
  case round =>
    obtain ⟨n, z, rfl, hz, hn, hown, HB⟩ := hrel
    cases n with
    | zero =>
      obtain rfl : z = -1 := by omega
      have HO := Lib.hid hown
      clear hz hn hown
      go_wp2
      go_ret
      exact ⟨⟨_, rfl, HO.out⟩, HB.out⟩
    | succ m =>
      obtain rfl : z = (m : Int) := by omega
      have hm0 : (0 : Int) ≤ m := by omega
      have hlt : m < len := by have := HE.out; omega
      have hml : (m : Int) < len := by omega
      have HLT := Lib.hid (And.intro hlt hn)
      have HO := Lib.hid hown
      have HAL := Lib.hid (remAcc_len ns p (m + 1))
      obtain ⟨b, off, x, rfl, hx, d0, d1, d2⟩ := HN.out.node hlt
      have c0 := cell_kept HB.out d0
      have c1 := cell_kept HB.out d1
      have c2 := cell_kept HB.out d2
      have HX := Lib.hid hx
      clear hz hn hlt hown
      by_cases hxp : x.p = p
      · have HS := Lib.hid (remAcc_yes hx (sub_eq hxp))
        have heq : (x.p.toList == p.toList) = true := by rw [hxp]; simp
        obtain ⟨q, k, v⟩ := x
        simp only at c0 c1 c2 d0 d1 d2 heq hxp
        subst hxp
        clear hx
        go_upto_region 6 with (fail)
        have HS0 : Hid (Below W.heap.size W wr.drew) := HB.out.drew
        refine wp_region_held_drew (S := fun w' => Below W.heap.size W w') (by kernel_rfl) HS0.out (fun hH => ?_)
        refine wpAnyH_take (i := 0) (oi := _) (v := ?_) rfl (by kernel_rfl) (by kernel_rfl) (by kernel_rfl) (fun _ _ _ h => h) (Or.inl ⟨by rfl, ?_⟩) (by assumption) ?_
        rotate_left
        · (intro w hSw; have s0 := cell_kept hSw d0; have s1 := cell_kept hSw d1; have s2 := cell_kept hSw d2; go_simp; try with_reducible rfl)
        try simp only [Act.put, List.getElem_toArray, List.getElem_cons_zero, List.setIfInBounds_toArray, List.set_cons_zero, List.set_cons_succ]
        refine wpAnyH_take (i := 1) (oi := _) (v := ?_) rfl (by kernel_rfl) (by kernel_rfl) (by kernel_rfl) (fun _ _ _ h => h) (Or.inl ⟨by rfl, ?_⟩) (by assumption) ?_
        rotate_left
        · (intro w hSw; have s0 := cell_kept hSw d0; have s1 := cell_kept hSw d1; have s2 := cell_kept hSw d2; go_simp; try with_reducible rfl)
        try simp only [Act.put, List.getElem_toArray, List.getElem_cons_zero, List.getElem_cons_succ, List.setIfInBounds_toArray, List.set_cons_zero, List.set_cons_succ]
        refine wpAnyH_take (i := 2) (oi := _) (v := ?_) rfl (by kernel_rfl) (by kernel_rfl) (by kernel_rfl) (fun _ _ _ h => h) (Or.inl ⟨by rfl, ?_⟩) (by assumption) ?_
        rotate_left
        · (intro w hSw; have s0 := cell_kept hSw d0; have s1 := cell_kept hSw d1; have s2 := cell_kept hSw d2; go_simp; try with_reducible rfl)
        try simp only [Act.put, List.getElem_toArray, List.getElem_cons_zero, List.getElem_cons_succ, List.setIfInBounds_toArray, List.set_cons_zero, List.set_cons_succ]
        refine wpAnyH_take (i := 3) (oi := _) (v := ?_) rfl (by kernel_rfl) (by kernel_rfl) (by kernel_rfl) (fun _ _ _ h => h) (Or.inl ⟨by rfl, ?_⟩) (by assumption) ?_
        rotate_left
        · (intro w hSw; have s0 := cell_kept hSw d0; have s1 := cell_kept hSw d1; have s2 := cell_kept hSw d2; go_simp; try with_reducible rfl)
        try simp only [Act.put, List.getElem_toArray, List.getElem_cons_zero, List.getElem_cons_succ, List.setIfInBounds_toArray, List.set_cons_zero, List.set_cons_succ]
        refine wpAnyH_take (i := 4) (oi := _) (v := ?_) rfl (by kernel_rfl) (by kernel_rfl) (by kernel_rfl) (fun _ _ _ h => h) (Or.inl ⟨by rfl, ?_⟩) (by assumption) ?_
        rotate_left
        · (intro w hSw; have s0 := cell_kept hSw d0; have s1 := cell_kept hSw d1; have s2 := cell_kept hSw d2; go_simp; try with_reducible rfl)
        try simp only [Act.put, List.getElem_toArray, List.getElem_cons_zero, List.getElem_cons_succ, List.setIfInBounds_toArray, List.set_cons_zero, List.set_cons_succ]
        refine wpAnyH_take (i := 5) (oi := _) (v := ?_) rfl (by kernel_rfl) (by kernel_rfl) (by kernel_rfl) (fun _ _ _ h => h) (Or.inl ⟨by rfl, ?_⟩) (by assumption) ?_
        rotate_left
        · (intro w hSw; have s0 := cell_kept hSw d0; have s1 := cell_kept hSw d1; have s2 := cell_kept hSw d2; go_simp; try with_reducible rfl)
        try simp only [Act.put, List.getElem_toArray, List.getElem_cons_zero, List.getElem_cons_succ, List.setIfInBounds_toArray, List.set_cons_zero, List.set_cons_succ]
        refine wpAnyH_take (i := 6) (oi := _) (v := ?_) rfl (by kernel_rfl) (by kernel_rfl) (by kernel_rfl) (fun _ _ _ h => h) (Or.inl ⟨by rfl, ?_⟩) (by assumption) ?_
        rotate_left
        · (intro w hSw; have s0 := cell_kept hSw d0; have s1 := cell_kept hSw d1; have s2 := cell_kept hSw d2; go_simp; try with_reducible rfl)
        try simp only [Act.put, List.getElem_toArray, List.getElem_cons_zero, List.getElem_cons_succ, List.setIfInBounds_toArray, List.set_cons_zero, List.set_cons_succ]
        refine wpAnyH_take (i := 7) (oi := _) (v := ?_) rfl (by kernel_rfl) (by kernel_rfl) (by kernel_rfl) (fun _ _ _ h => h) (Or.inl ⟨by rfl, ?_⟩) (by assumption) ?_
        rotate_left
        · (intro w hSw; have s0 := cell_kept hSw d0; have s1 := cell_kept hSw d1; have s2 := cell_kept hSw d2; go_simp; try with_reducible rfl)
        try simp only [Act.put, List.getElem_toArray, List.getElem_cons_zero, List.getElem_cons_succ, List.setIfInBounds_toArray, List.set_cons_zero, List.set_cons_succ]
        refine wpAnyH_take (i := 8) (oi := _) (v := ?_) rfl (by kernel_rfl) (by kernel_rfl) (by kernel_rfl) (fun _ _ _ h => h) (Or.inl ⟨by rfl, ?_⟩) (by assumption) ?_
        rotate_left
        · (intro w hSw; have s0 := cell_kept hSw d0; have s1 := cell_kept hSw d1; have s2 := cell_kept hSw d2; go_simp; try with_reducible rfl)
        try simp only [Act.put, List.getElem_toArray, List.getElem_cons_zero, List.getElem_cons_succ, List.setIfInBounds_toArray, List.set_cons_zero, List.set_cons_succ]
        refine wpAnyH_take (i := 9) (oi := _) (v := ?_) rfl (by kernel_rfl) (by kernel_rfl) (by kernel_rfl) (fun _ _ _ h => h) (Or.inl ⟨by rfl, ?_⟩) (by assumption) ?_
        rotate_left
        · (intro w hSw; have s0 := cell_kept hSw d0; have s1 := cell_kept hSw d1; have s2 := cell_kept hSw d2; go_simp; try with_reducible rfl)
        try simp only [Act.put, List.getElem_toArray, List.getElem_cons_zero, List.getElem_cons_succ, List.setIfInBounds_toArray, List.set_cons_zero, List.set_cons_succ]
        refine wpAnyH_take (i := 10) (oi := _) (v := ?_) rfl (by kernel_rfl) (by kernel_rfl) (by kernel_rfl) (fun _ _ _ h => h) (Or.inl ⟨by rfl, ?_⟩) (by assumption) ?_
        rotate_left
        · (intro w hSw; have s0 := cell_kept hSw d0; have s1 := cell_kept hSw d1; have s2 := cell_kept hSw d2; go_simp; try with_reducible rfl)
        try simp only [Act.put, List.getElem_toArray, List.getElem_cons_zero, List.getElem_cons_succ, List.setIfInBounds_toArray, List.set_cons_zero, List.set_cons_succ]
        refine wpAnyH_take (i := 11) (oi := _) (v := ?_) rfl (by kernel_rfl) (by kernel_rfl) (by kernel_rfl) (fun _ _ _ h => h) (Or.inl ⟨by rfl, ?_⟩) (by assumption) ?_
        rotate_left
        · (intro w hSw; have s0 := cell_kept hSw d0; have s1 := cell_kept hSw d1; have s2 := cell_kept hSw d2; go_simp; try with_reducible rfl)
        try simp only [Act.put, List.getElem_toArray, List.getElem_cons_zero, List.getElem_cons_succ, List.setIfInBounds_toArray, List.set_cons_zero, List.set_cons_succ]
        refine wpAnyH_ready (rs := [12]) (by kernel_rfl) (by simp) ?_
        refine AllReadyH.cons rfl (fun K hK => ?_) (AllReadyH.nil)
        go_simp
        refine hK.out _ _ (HS0.out.alloc HS0.out.size _) (fun hHeld => ?_)
        try simp only [Act.put, List.getElem_toArray, List.getElem_cons_zero, List.getElem_cons_succ, List.setIfInBounds_toArray, List.set_cons_zero, List.set_cons_succ]
        refine wpAnyH_ready (rs := [13]) (by kernel_rfl) (by simp) ?_
        refine AllReadyH.cons rfl (fun K hK => ?_) (AllReadyH.nil)
        rw [if_pos (by rfl)]
        refine wp_append_own _ _ _ 26 rfl W.heap.size 33 i0 (.agg #[.string ⟨#[]⟩, .int .i64 0, .int .i64 0, .int .i64 0, .int .i64 0]) 5 48 Try.underlying26 hi hz0 hz1 hz2 rfl (by decide) _ (remAcc ns q (m + 1)).length (flatC ((remAcc ns q (m + 1)))) rfl (World.ownsRow.alloc (show wr.drew.ownsRow _ _ _ _ _ _ from HO.out) _) ⟨wr.heap.size, 0, none⟩ 1 1 (flatC [(⟨q, k, v, 0, 0⟩ : Cmd)]) rfl rfl (cmds_cells (show CmdsAt (wr.drew.alloc _) (some ⟨wr.heap.size, 0, none⟩) 1 [(⟨q, k, v, 0, 0⟩ : Cmd)] from cmds_lit wr.drew (⟨q, k, v, 0, 0⟩ : Cmd))) (flatC_cell1 _) (by unfold maxLen; have := HAL.out; have := HL.out; omega) (by have := HAL.out; have := HL.out; omega) (by have := HS0.out.size; simp at this ⊢; omega) ?_
        intro v4 w4 ho4 hg4 hn4
        have HB4 := Lib.hid ((HS0.out.alloc HS0.out.size (.cells #[.string ((⟨q, k, v, 0, 0⟩ : Cmd)).p, .int .i64 ((⟨q, k, v, 0, 0⟩ : Cmd)).fk, .int .i64 ((⟨q, k, v, 0, 0⟩ : Cmd)).fv, .int .i64 ((⟨q, k, v, 0, 0⟩ : Cmd)).tk, .int .i64 ((⟨q, k, v, 0, 0⟩ : Cmd)).tv] 33)).grown hg4 (by have := HS0.out.size; simp at this ⊢; omega) (fun k e => (HO.out.lt k e).1))
        have ho4' : w4.ownsRow W.heap.size 33 5 v4 ((remAcc ns q (m + 1)) ++ [(⟨q, k, v, 0, 0⟩ : Cmd)]).length (flatC ((remAcc ns q (m + 1)) ++ [(⟨q, k, v, 0, 0⟩ : Cmd)])) := by rw [flatC_append, List.length_append]; exact ho4
        rw [← HS.out] at ho4'
        clear hg4 hn4 ho4
        refine hK.out _ _ HB4.out (fun hHeld => ?_)
        try simp only [Act.put, List.getElem_toArray, List.getElem_cons_zero, List.getElem_cons_succ, List.setIfInBounds_toArray, List.set_cons_zero, List.set_cons_succ]
        refine wpAnyH_take (i := 14) (oi := _) (v := ?_) rfl (by kernel_rfl) (by kernel_rfl) (by kernel_rfl) (fun _ _ _ h => h) (Or.inl ⟨by rfl, ?_⟩) (by assumption) ?_
        rotate_left
        · (intro w hSw; have s0 := cell_kept hSw d0; have s1 := cell_kept hSw d1; have s2 := cell_kept hSw d2; go_simp; try with_reducible rfl)
        try simp only [Act.put, List.getElem_toArray, List.getElem_cons_zero, List.getElem_cons_succ, List.setIfInBounds_toArray, List.set_cons_zero, List.set_cons_succ]
        refine wpAnyH_done (by kernel_rfl) ?_ _
        go_wp2
        go_roundw
        case rel => exact ⟨m, (m : Int) - 1, by go_num, rfl, by have := HLT.out.2; omega, ho4', HB4⟩
        case measure => simp [intOf]
      · have heq : (x.p.toList == p.toList) = false := toList_ne hxp
        have HU := Lib.hid (fun w => l1Under_c p x.p w)
        have hsn := sub_ne HV.out.1 HV.out.2 (List.mem_of_getElem? hx) hxp
        cases hu : l1uB p x.p with
        | true =>
          have HS := Lib.hid (remAcc_yes hx (hsn.trans hu))
          rw [hu] at HU
          obtain ⟨q, k, v⟩ := x
          simp only at c0 c1 c2 d0 d1 d2 heq HU
          clear hx hu hsn hxp
          go_wp2_with fail
          refine (HU.out _).mono ?_
          rintro e W3 ⟨rfl, rfl⟩
          go_upto_region 6 with (fail)
          have HS0 : Hid (Below W.heap.size W wr.drew) := HB.out.drew
          refine wp_region_held_drew (S := fun w' => Below W.heap.size W w') (by kernel_rfl) HS0.out (fun hH => ?_)
          refine wpAnyH_take (i := 0) (oi := _) (v := ?_) rfl (by kernel_rfl) (by kernel_rfl) (by kernel_rfl) (fun _ _ _ h => h) (Or.inl ⟨by rfl, ?_⟩) (by assumption) ?_
          rotate_left
          · (intro w hSw; have s0 := cell_kept hSw d0; have s1 := cell_kept hSw d1; have s2 := cell_kept hSw d2; go_simp; try with_reducible rfl)
          try simp only [Act.put, List.getElem_toArray, List.getElem_cons_zero, List.setIfInBounds_toArray, List.set_cons_zero, List.set_cons_succ]
          refine wpAnyH_take (i := 1) (oi := _) (v := ?_) rfl (by kernel_rfl) (by kernel_rfl) (by kernel_rfl) (fun _ _ _ h => h) (Or.inl ⟨by rfl, ?_⟩) (by assumption) ?_
          rotate_left
          · (intro w hSw; have s0 := cell_kept hSw d0; have s1 := cell_kept hSw d1; have s2 := cell_kept hSw d2; go_simp; try with_reducible rfl)
          try simp only [Act.put, List.getElem_toArray, List.getElem_cons_zero, List.getElem_cons_succ, List.setIfInBounds_toArray, List.set_cons_zero, List.set_cons_succ]
          refine wpAnyH_take (i := 2) (oi := _) (v := ?_) rfl (by kernel_rfl) (by kernel_rfl) (by kernel_rfl) (fun _ _ _ h => h) (Or.inl ⟨by rfl, ?_⟩) (by assumption) ?_
          rotate_left
          · (intro w hSw; have s0 := cell_kept hSw d0; have s1 := cell_kept hSw d1; have s2 := cell_kept hSw d2; go_simp; try with_reducible rfl)
          try simp only [Act.put, List.getElem_toArray, List.getElem_cons_zero, List.getElem_cons_succ, List.setIfInBounds_toArray, List.set_cons_zero, List.set_cons_succ]
          refine wpAnyH_take (i := 3) (oi := _) (v := ?_) rfl (by kernel_rfl) (by kernel_rfl) (by kernel_rfl) (fun _ _ _ h => h) (Or.inl ⟨by rfl, ?_⟩) (by assumption) ?_
          rotate_left
          · (intro w hSw; have s0 := cell_kept hSw d0; have s1 := cell_kept hSw d1; have s2 := cell_kept hSw d2; go_simp; try with_reducible rfl)
          try simp only [Act.put, List.getElem_toArray, List.getElem_cons_zero, List.getElem_cons_succ, List.setIfInBounds_toArray, List.set_cons_zero, List.set_cons_succ]
          refine wpAnyH_take (i := 4) (oi := _) (v := ?_) rfl (by kernel_rfl) (by kernel_rfl) (by kernel_rfl) (fun _ _ _ h => h) (Or.inl ⟨by rfl, ?_⟩) (by assumption) ?_
          rotate_left
          · (intro w hSw; have s0 := cell_kept hSw d0; have s1 := cell_kept hSw d1; have s2 := cell_kept hSw d2; go_simp; try with_reducible rfl)
          try simp only [Act.put, List.getElem_toArray, List.getElem_cons_zero, List.getElem_cons_succ, List.setIfInBounds_toArray, List.set_cons_zero, List.set_cons_succ]
          refine wpAnyH_take (i := 5) (oi := _) (v := ?_) rfl (by kernel_rfl) (by kernel_rfl) (by kernel_rfl) (fun _ _ _ h => h) (Or.inl ⟨by rfl, ?_⟩) (by assumption) ?_
          rotate_left
          · (intro w hSw; have s0 := cell_kept hSw d0; have s1 := cell_kept hSw d1; have s2 := cell_kept hSw d2; go_simp; try with_reducible rfl)
          try simp only [Act.put, List.getElem_toArray, List.getElem_cons_zero, List.getElem_cons_succ, List.setIfInBounds_toArray, List.set_cons_zero, List.set_cons_succ]
          refine wpAnyH_take (i := 6) (oi := _) (v := ?_) rfl (by kernel_rfl) (by kernel_rfl) (by kernel_rfl) (fun _ _ _ h => h) (Or.inl ⟨by rfl, ?_⟩) (by assumption) ?_
          rotate_left
          · (intro w hSw; have s0 := cell_kept hSw d0; have s1 := cell_kept hSw d1; have s2 := cell_kept hSw d2; go_simp; try with_reducible rfl)
          try simp only [Act.put, List.getElem_toArray, List.getElem_cons_zero, List.getElem_cons_succ, List.setIfInBounds_toArray, List.set_cons_zero, List.set_cons_succ]
          refine wpAnyH_take (i := 7) (oi := _) (v := ?_) rfl (by kernel_rfl) (by kernel_rfl) (by kernel_rfl) (fun _ _ _ h => h) (Or.inl ⟨by rfl, ?_⟩) (by assumption) ?_
          rotate_left
          · (intro w hSw; have s0 := cell_kept hSw d0; have s1 := cell_kept hSw d1; have s2 := cell_kept hSw d2; go_simp; try with_reducible rfl)
          try simp only [Act.put, List.getElem_toArray, List.getElem_cons_zero, List.getElem_cons_succ, List.setIfInBounds_toArray, List.set_cons_zero, List.set_cons_succ]
          refine wpAnyH_take (i := 8) (oi := _) (v := ?_) rfl (by kernel_rfl) (by kernel_rfl) (by kernel_rfl) (fun _ _ _ h => h) (Or.inl ⟨by rfl, ?_⟩) (by assumption) ?_
          rotate_left
          · (intro w hSw; have s0 := cell_kept hSw d0; have s1 := cell_kept hSw d1; have s2 := cell_kept hSw d2; go_simp; try with_reducible rfl)
          try simp only [Act.put, List.getElem_toArray, List.getElem_cons_zero, List.getElem_cons_succ, List.setIfInBounds_toArray, List.set_cons_zero, List.set_cons_succ]
          refine wpAnyH_take (i := 9) (oi := _) (v := ?_) rfl (by kernel_rfl) (by kernel_rfl) (by kernel_rfl) (fun _ _ _ h => h) (Or.inl ⟨by rfl, ?_⟩) (by assumption) ?_
          rotate_left
          · (intro w hSw; have s0 := cell_kept hSw d0; have s1 := cell_kept hSw d1; have s2 := cell_kept hSw d2; go_simp; try with_reducible rfl)
          try simp only [Act.put, List.getElem_toArray, List.getElem_cons_zero, List.getElem_cons_succ, List.setIfInBounds_toArray, List.set_cons_zero, List.set_cons_succ]
          refine wpAnyH_take (i := 10) (oi := _) (v := ?_) rfl (by kernel_rfl) (by kernel_rfl) (by kernel_rfl) (fun _ _ _ h => h) (Or.inl ⟨by rfl, ?_⟩) (by assumption) ?_
          rotate_left
          · (intro w hSw; have s0 := cell_kept hSw d0; have s1 := cell_kept hSw d1; have s2 := cell_kept hSw d2; go_simp; try with_reducible rfl)
          try simp only [Act.put, List.getElem_toArray, List.getElem_cons_zero, List.getElem_cons_succ, List.setIfInBounds_toArray, List.set_cons_zero, List.set_cons_succ]
          refine wpAnyH_take (i := 11) (oi := _) (v := ?_) rfl (by kernel_rfl) (by kernel_rfl) (by kernel_rfl) (fun _ _ _ h => h) (Or.inl ⟨by rfl, ?_⟩) (by assumption) ?_
          rotate_left
          · (intro w hSw; have s0 := cell_kept hSw d0; have s1 := cell_kept hSw d1; have s2 := cell_kept hSw d2; go_simp; try with_reducible rfl)
          try simp only [Act.put, List.getElem_toArray, List.getElem_cons_zero, List.getElem_cons_succ, List.setIfInBounds_toArray, List.set_cons_zero, List.set_cons_succ]
          refine wpAnyH_ready (rs := [12]) (by kernel_rfl) (by simp) ?_
          refine AllReadyH.cons rfl (fun K hK => ?_) (AllReadyH.nil)
          go_simp
          refine hK.out _ _ (HS0.out.alloc HS0.out.size _) (fun hHeld => ?_)
          try simp only [Act.put, List.getElem_toArray, List.getElem_cons_zero, List.getElem_cons_succ, List.setIfInBounds_toArray, List.set_cons_zero, List.set_cons_succ]
          refine wpAnyH_ready (rs := [13]) (by kernel_rfl) (by simp) ?_
          refine AllReadyH.cons rfl (fun K hK => ?_) (AllReadyH.nil)
          rw [if_pos (by rfl)]
          refine wp_append_own _ _ _ 26 rfl W.heap.size 33 i0 (.agg #[.string ⟨#[]⟩, .int .i64 0, .int .i64 0, .int .i64 0, .int .i64 0]) 5 48 Try.underlying26 hi hz0 hz1 hz2 rfl (by decide) _ (remAcc ns p (m + 1)).length (flatC ((remAcc ns p (m + 1)))) rfl (World.ownsRow.alloc (show wr.drew.ownsRow _ _ _ _ _ _ from HO.out) _) ⟨wr.heap.size, 0, none⟩ 1 1 (flatC [(⟨q, k, v, 0, 0⟩ : Cmd)]) rfl rfl (cmds_cells (show CmdsAt (wr.drew.alloc _) (some ⟨wr.heap.size, 0, none⟩) 1 [(⟨q, k, v, 0, 0⟩ : Cmd)] from cmds_lit wr.drew (⟨q, k, v, 0, 0⟩ : Cmd))) (flatC_cell1 _) (by unfold maxLen; have := HAL.out; have := HL.out; omega) (by have := HAL.out; have := HL.out; omega) (by have := HS0.out.size; simp at this ⊢; omega) ?_
          intro v4 w4 ho4 hg4 hn4
          have HB4 := Lib.hid ((HS0.out.alloc HS0.out.size (.cells #[.string ((⟨q, k, v, 0, 0⟩ : Cmd)).p, .int .i64 ((⟨q, k, v, 0, 0⟩ : Cmd)).fk, .int .i64 ((⟨q, k, v, 0, 0⟩ : Cmd)).fv, .int .i64 ((⟨q, k, v, 0, 0⟩ : Cmd)).tk, .int .i64 ((⟨q, k, v, 0, 0⟩ : Cmd)).tv] 33)).grown hg4 (by have := HS0.out.size; simp at this ⊢; omega) (fun k e => (HO.out.lt k e).1))
          have ho4' : w4.ownsRow W.heap.size 33 5 v4 ((remAcc ns p (m + 1)) ++ [(⟨q, k, v, 0, 0⟩ : Cmd)]).length (flatC ((remAcc ns p (m + 1)) ++ [(⟨q, k, v, 0, 0⟩ : Cmd)])) := by rw [flatC_append, List.length_append]; exact ho4
          rw [← HS.out] at ho4'
          clear hg4 hn4 ho4
          refine hK.out _ _ HB4.out (fun hHeld => ?_)
          try simp only [Act.put, List.getElem_toArray, List.getElem_cons_zero, List.getElem_cons_succ, List.setIfInBounds_toArray, List.set_cons_zero, List.set_cons_succ]
          refine wpAnyH_take (i := 14) (oi := _) (v := ?_) rfl (by kernel_rfl) (by kernel_rfl) (by kernel_rfl) (fun _ _ _ h => h) (Or.inl ⟨by rfl, ?_⟩) (by assumption) ?_
          rotate_left
          · (intro w hSw; have s0 := cell_kept hSw d0; have s1 := cell_kept hSw d1; have s2 := cell_kept hSw d2; go_simp; try with_reducible rfl)
          try simp only [Act.put, List.getElem_toArray, List.getElem_cons_zero, List.getElem_cons_succ, List.setIfInBounds_toArray, List.set_cons_zero, List.set_cons_succ]
          refine wpAnyH_done (by kernel_rfl) ?_ _
          go_wp2
          go_roundw
          case rel => exact ⟨m, (m : Int) - 1, by go_num, rfl, by have := HLT.out.2; omega, ho4', HB4⟩
          case measure => simp [intOf]
        | false =>
          have HS := Lib.hid (remAcc_no hx (hsn.trans hu))
          rw [hu] at HU
          obtain ⟨q, k, v⟩ := x
          simp only at c0 c1 c2 d0 d1 d2 heq HU
          clear hx hu hsn hxp
          go_wp2_with fail
          refine (HU.out _).mono ?_
          rintro e W3 ⟨rfl, rfl⟩
          have ho4 := HO.out
          rw [← HS.out] at ho4
          clear c0 c1 c2
          go_wp2
          go_roundw
          case rel => exact ⟨m, (m : Int) - 1, by go_num, rfl, by have := HLT.out.2; omega, ho4, HB⟩
          case measure => simp [intOf]

/-- Commands that the call has made, and whether it succeeded. -/
def MovePost (r : List Cmd × Bool) (W : World) (e : Ending) (w' : World) : Prop :=
  ∃ sl, e = .returned (.tuple #[sl, .bool r.2]) ∧ w'.ownsRow W.heap.size 33 5 sl r.1.length (flatC r.1) ∧ Below W.heap.size W w'

theorem move_end {r : List Cmd × Bool} {W w' : World} {sl : Value} {out : List Cmd} {b : Bool} (h : r = (out, b)) (ho : w'.ownsRow W.heap.size 33 5 sl out.length (flatC out)) (hB : Below W.heap.size W w') : MovePost r W (.returned (.tuple #[sl, .bool b])) w' := by
  subst h
  exact ⟨sl, rfl, ho, hB⟩

theorem move_none {r : List Cmd × Bool} {W w : World} (h : r = ([], false)) (hB : Below W.heap.size W w) : MovePost r W (.returned (.tuple #[.slice (some ⟨w.heap.size, 0, none⟩) 0 0, .bool false])) (w.alloc (.cells #[] 33)) :=
  move_end h (World.ownsRow_lit (e := 33) (size := 5) w #[] 0 hB.size (by simp [maxLen]) rfl) (below_next hB (below_box _ _))

theorem removeAll_no {ns : List Nd} {p : ByteArray} (h : validT ns = false ∨ ¬ 1 ≤ depB p ∨ (getT ns p).1 = 0) : removeAll ns p = ([], false) := by
  unfold removeAll
  rw [if_neg]
  simp only [Bool.and_eq_true, decide_eq_true_eq]
  rintro ⟨⟨h1, h2⟩, h3⟩
  rcases h with h | h | h
  · rw [h] at h1; cases h1
  · exact h h2
  · exact h3 h

set_option maxHeartbeats 2000000 in
set_option maxRecDepth 100000 in
theorem specRemoveAll_c (a : Option Addr) (len cap : Nat) (ns : List Nd) (p : ByteArray) (hl : len ≤ 2097152) (hs : Short 2097152 ns) (hp : p.size ≤ 2097152) (W : World) (hN : NodesAt W a len ns) :
    Calls Try.prog 7 #[.slice a len cap, .string p] W (MovePost (removeAll ns p) W) := by
  obtain ⟨vt, hvt⟩ : ∃ vt, validT ns = vt := ⟨_, rfl⟩
  obtain ⟨dp, hdp⟩ : ∃ dp, depB p = dp := ⟨_, rfl⟩
  obtain ⟨k, v, hkv⟩ : ∃ k v, getT ns p = (k, v) := ⟨_, _, rfl⟩
  have HV := Lib.hid (show Calls Try.prog 23 #[.slice a len cap] W (BoolPost vt W) by rw [← hvt]; exact specTreeValid_c a len cap ns hl hs W hN)
  have HD := Lib.hid (fun w => show Calls Try.prog 24 #[.string p] w (fun e w' => e = .returned (.int .i64 dp) ∧ Below w.heap.size w w') by rw [← hdp]; exact specDepth_c p hp w)
  have HG := Lib.hid (fun W' (hb : Below W.heap.size W W') => show Calls Try.prog 25 #[.slice a len cap, .string p] W' (ConRet k v W') by have := l3Get_c a len cap ns p hl W' (hN.keep hb); rwa [hkv] at this)
  have HVT := Lib.hid hvt
  have HDP := Lib.hid hdp
  have HKV := Lib.hid hkv
  have HN := Lib.hid hN
  have HL := Lib.hid hl
  clear hN hs hp hvt hdp hkv hl
  have fk := fun w => field_kind k v w
  go_enter Try.func7, Try.ntmps7
  go_wp2_with fail
  refine HV.out.mono ?_
  rintro e W1 ⟨rfl, hb1⟩
  have B1 := Lib.hid hb1
  clear hb1
  cases vt with
  | false =>
    go_wp2
    go_ret2
    exact move_none (removeAll_no (.inl HVT.out)) B1.out
  | true =>
    go_wp2_with fail
    refine (HD.out _).mono ?_
    rintro e W2 ⟨rfl, hb2⟩
    have B2 := Lib.hid (below_next B1.out hb2)
    clear hb2
    by_cases hd : 1 ≤ dp
    · go_wp2_with fail
      refine (HG.out _ B2.out).mono ?_
      rintro e W3 ⟨rfl, hb3⟩
      have B3 := Lib.hid (below_next B2.out hb3)
      clear hb3
      unfold con
      by_cases hk : k = 0
      · subst hk
        go_wp2
        go_ret2
        exact move_none (removeAll_no (.inr (.inr (by rw [HKV.out])))) B3.out
      · have hk0 : (k == 0) = false := beq_eq_false_iff_ne.2 hk
        have hd1 : 1 ≤ depB p := by rw [HDP.out]; exact hd
        have HR := Lib.hid (removeAll_ok HVT.out hd1 (by rw [HKV.out]; exact hk))
        have HM := Lib.hid (l13Remove_c a len cap ns p HL.out HVT.out (vp_of_depth hd1) W3 (HN.out.keep B3.out))
        clear hk hd1
        go_wp2_with fail
        refine HM.out.mono ?_
        rintro e W4 ⟨⟨sl, rfl, ho⟩, hb4⟩
        have HO := Lib.hid (own_mono ho B3.out.size)
        have B4 := Lib.hid (below_next B3.out hb4)
        clear ho hb4
        go_wp2
        go_ret2
        exact move_end HR.out HO.out B4.out
    · have hd1 : dp < 1 := by omega
      have HR := Lib.hid (removeAll_no (ns := ns) (p := p) (.inr (.inl (by rw [HDP.out]; exact hd))))
      clear hd
      go_wp2
      go_ret2
      exact move_none HR.out B2.out

end Go.Proofs.Ytncceljffcjoiaa
