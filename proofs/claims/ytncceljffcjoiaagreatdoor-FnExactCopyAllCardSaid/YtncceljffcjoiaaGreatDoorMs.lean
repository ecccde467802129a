/-
  WALKS: moves of the model, second part: spec.l13Copy, CopyAll, MoveAll.
-/
import Derived.Test.YtncceljffcjoiaaGreatDoorMr
namespace Go.Proofs.YtncceljffcjoiaaGreatDoor
open Go.RowKit
set_option linter.unusedVariables false

def cpAcc (ns : List Nd) (a b : ByteArray) (i : Nat) : List Cmd := copyL (ns.take i) a b

theorem cpAcc_yes {ns : List Nd} {a b : ByteArray} {n : Nat} {x : Nd} (hn : ns[n]? = some x) (h : subB a x.p = true) : cpAcc ns a b (n + 1) = cpAcc ns a b n ++ [⟨cpB a b x.p, 0, 0, x.k, x.v⟩] := by
  unfold cpAcc copyL
  rw [List.take_add_one, hn]
  simp [h]

theorem cpAcc_no {ns : List Nd} {a b : ByteArray} {n : Nat} {x : Nd} (hn : ns[n]? = some x) (h : subB a x.p = false) : cpAcc ns a b (n + 1) = cpAcc ns a b n := by
  unfold cpAcc copyL
  rw [List.take_add_one, hn]
  simp [h]

theorem cpAcc_len (ns : List Nd) (a b : ByteArray) (i : Nat) : (cpAcc ns a b i).length ≤ ns.length := by
  unfold cpAcc copyL
  rw [List.length_map]
  exact Nat.le_trans (List.length_filter_le _ _) (by rw [List.length_take]; omega)

/-- A path at or under another one is no shorter. -/
theorem sub_size {p q : ByteArray} (h : subB p q = true) : p.size ≤ q.size := by
  unfold subB at h
  rw [Bool.or_eq_true, decide_eq_true_eq] at h
  rcases h with rfl | h
  · exact Nat.le_refl _
  · obtain ⟨w, t, _, _, _, rfl, rfl⟩ := und_words h
    exact pB_size_le _ _

def CopyRel (ns : List Nd) (p b : ByteArray) (W : World) (o i : Value) (wr : World) : Prop :=
  ∃ n : Nat, i = .int .i64 n ∧ n ≤ ns.length ∧ wr.ownsRow W.heap.size 59 5 o (cpAcc ns p b n).length (flatC (cpAcc ns p b n)) ∧ Hid (Below W.heap.size W wr)

set_option maxHeartbeats 4000000 in
set_option maxRecDepth 100000 in
theorem l13Copy_c (a : Option Addr) (len cap : Nat) (ns : List Nd) (p b : ByteArray) (hl : len ≤ 2097152) (hs : Short 2097152 ns) (hbs : b.size ≤ 2097152) (hv : validT ns = true) (hp : vpB p = true) (W : World) (hN : NodesAt W a len ns) :
    Calls Tryz.prog 38 #[.slice a len cap, .string p, .string b] W (CmdsPost (copyL ns p b) W) := by
  obtain ⟨i0, hi, hz0, hz1, hz2⟩ := info_parts infoCmd
  have HN := Lib.hid hN
  have HE := Lib.hid hN.1
  have HV := Lib.hid (And.intro hv hp)
  have HSZ := Lib.hid (And.intro hs hbs)
  have HL := Lib.hid (show ns.length ≤ 10 from ((validT_iff ns).1 hv).2.2)
  have hl' : (len : Int) ≤ 2097152 := by omega
  clear hN hv hp hs hbs
  go_enter Tryz.func38, Tryz.ntmps38
  go_wp2
  go_loopw [7, 8] (fun o i wr => CopyRel ns p b W o i wr) (fun _ i _ => len - (intOf i).toNat)
  case atStart => exact ⟨0, rfl, Nat.zero_le _, World.ownsRow_lit (e := 59) (size := 5) W #[] 0 (Nat.le_refl _) (by simp [maxLen]) rfl, below_box _ _⟩
  case round =>
    obtain ⟨m, rfl, hn, hown, HB⟩ := hrel
    by_cases hlt : m < len
    · have hm0 : (0 : Int) ≤ m := by omega
      have hml : (m : Int) < len := by omega
      have HLT := Lib.hid (show m < len ∧ m < ns.length by have := HE.out; omega)
      have HO := Lib.hid hown
      have HAL := Lib.hid (cpAcc_len ns p b m)
      obtain ⟨bb, off, x, rfl, hx, d0, d1, d2⟩ := HN.out.node hlt
      have c0 := cell_kept HB.out d0
      have c1 := cell_kept HB.out d1
      have c2 := cell_kept HB.out d2
      have HX := Lib.hid hx
      clear hn hlt hown
      by_cases hxp : x.p = p
      · have hsub := sub_eq hxp
        have HS := Lib.hid (cpAcc_yes (b := b) hx hsub)
        have heq : (x.p.toList == p.toList) = true := by rw [hxp]; simp
        have hz3 : (p.size : Int) ≤ x.p.size := by have := sub_size hsub; omega
        have hz4 : b.size + (x.p.size - p.size) ≤ 9223372036854775807 := by have := HSZ.out.1 x (List.mem_of_getElem? hx); have := HSZ.out.2; omega
        obtain ⟨q, k, v⟩ := x
        simp only at c0 c1 c2 d0 d1 d2 heq hz3 hz4
        clear hx hsub hxp
        go_upto_region 6 with (fail)
        have HS0 : Hid (Below W.heap.size W wr.drew) := HB.out.drew
        refine wp_region_held_drew (S := fun w' => Below W.heap.size W w') (by kernel_rfl) HS0.out (fun hH => ?_)
        refine wpAnyH_take (i := 0) (oi := _) (v := ?_) rfl (by kernel_rfl) (by kernel_rfl) (by kernel_rfl) (fun _ _ _ h => h) (Or.inl ⟨by rfl, ?_⟩) (by assumption) ?_
        rotate_left
        · (intro w hSw; have s0 := cell_kept hSw d0; have s1 := cell_kept hSw d1; have s2 := cell_kept hSw d2; go_simp; (try rw [if_neg (Nat.not_lt.2 hz4)]); try with_reducible rfl)
        try simp only [Act.put, List.getElem_toArray, List.getElem_cons_zero, List.setIfInBounds_toArray, List.set_cons_zero, List.set_cons_succ]
        refine wpAnyH_take (i := 1) (oi := _) (v := ?_) rfl (by kernel_rfl) (by kernel_rfl) (by kernel_rfl) (fun _ _ _ h => h) (Or.inl ⟨by rfl, ?_⟩) (by assumption) ?_
        rotate_left
        · (intro w hSw; have s0 := cell_kept hSw d0; have s1 := cell_kept hSw d1; have s2 := cell_kept hSw d2; go_simp; (try rw [if_neg (Nat.not_lt.2 hz4)]); try with_reducible rfl)
        try simp only [Act.put, List.getElem_toArray, List.getElem_cons_zero, List.getElem_cons_succ, List.setIfInBounds_toArray, List.set_cons_zero, List.set_cons_succ]
        refine wpAnyH_take (i := 2) (oi := _) (v := ?_) rfl (by kernel_rfl) (by kernel_rfl) (by kernel_rfl) (fun _ _ _ h => h) (Or.inl ⟨by rfl, ?_⟩) (by assumption) ?_
        rotate_left
        · (intro w hSw; have s0 := cell_kept hSw d0; have s1 := cell_kept hSw d1; have s2 := cell_kept hSw d2; go_simp; (try rw [if_neg (Nat.not_lt.2 hz4)]); try with_reducible rfl)
        try simp only [Act.put, List.getElem_toArray, List.getElem_cons_zero, List.getElem_cons_succ, List.setIfInBounds_toArray, List.set_cons_zero, List.set_cons_succ]
        refine wpAnyH_take (i := 3) (oi := _) (v := ?_) rfl (by kernel_rfl) (by kernel_rfl) (by kernel_rfl) (fun _ _ _ h => h) (Or.inl ⟨by rfl, ?_⟩) (by assumption) ?_
        rotate_left
        · (intro w hSw; have s0 := cell_kept hSw d0; have s1 := cell_kept hSw d1; have s2 := cell_kept hSw d2; go_simp; (try rw [if_neg (Nat.not_lt.2 hz4)]); try with_reducible rfl)
        try simp only [Act.put, List.getElem_toArray, List.getElem_cons_zero, List.getElem_cons_succ, List.setIfInBounds_toArray, List.set_cons_zero, List.set_cons_succ]
        refine wpAnyH_take (i := 4) (oi := _) (v := ?_) rfl (by kernel_rfl) (by kernel_rfl) (by kernel_rfl) (fun _ _ _ h => h) (Or.inl ⟨by rfl, ?_⟩) (by assumption) ?_
        rotate_left
        · (intro w hSw; have s0 := cell_kept hSw d0; have s1 := cell_kept hSw d1; have s2 := cell_kept hSw d2; go_simp; (try rw [if_neg (Nat.not_lt.2 hz4)]); try with_reducible rfl)
        try simp only [Act.put, List.getElem_toArray, List.getElem_cons_zero, List.getElem_cons_succ, List.setIfInBounds_toArray, List.set_cons_zero, List.set_cons_succ]
        refine wpAnyH_take (i := 5) (oi := _) (v := ?_) rfl (by kernel_rfl) (by kernel_rfl) (by kernel_rfl) (fun _ _ _ h => h) (Or.inl ⟨by rfl, ?_⟩) (by assumption) ?_
        rotate_left
        · (intro w hSw; have s0 := cell_kept hSw d0; have s1 := cell_kept hSw d1; have s2 := cell_kept hSw d2; go_simp; (try rw [if_neg (Nat.not_lt.2 hz4)]); try with_reducible rfl)
        try simp only [Act.put, List.getElem_toArray, List.getElem_cons_zero, List.getElem_cons_succ, List.setIfInBounds_toArray, List.set_cons_zero, List.set_cons_succ]
        refine wpAnyH_take (i := 6) (oi := _) (v := ?_) rfl (by kernel_rfl) (by kernel_rfl) (by kernel_rfl) (fun _ _ _ h => h) (Or.inl ⟨by rfl, ?_⟩) (by assumption) ?_
        rotate_left
        · (intro w hSw; have s0 := cell_kept hSw d0; have s1 := cell_kept hSw d1; have s2 := cell_kept hSw d2; go_simp; (try rw [if_neg (Nat.not_lt.2 hz4)]); try with_reducible rfl)
        try simp only [Act.put, List.getElem_toArray, List.getElem_cons_zero, List.getElem_cons_succ, List.setIfInBounds_toArray, List.set_cons_zero, List.set_cons_succ]
        refine wpAnyH_take (i := 7) (oi := _) (v := ?_) rfl (by kernel_rfl) (by kernel_rfl) (by kernel_rfl) (fun _ _ _ h => h) (Or.inl ⟨by rfl, ?_⟩) (by assumption) ?_
        rotate_left
        · (intro w hSw; have s0 := cell_kept hSw d0; have s1 := cell_kept hSw d1; have s2 := cell_kept hSw d2; go_simp; (try rw [if_neg (Nat.not_lt.2 hz4)]); try with_reducible rfl)
        try simp only [Act.put, List.getElem_toArray, List.getElem_cons_zero, List.getElem_cons_succ, List.setIfInBounds_toArray, List.set_cons_zero, List.set_cons_succ]
        refine wpAnyH_take (i := 8) (oi := _) (v := ?_) rfl (by kernel_rfl) (by kernel_rfl) (by kernel_rfl) (fun _ _ _ h => h) (Or.inl ⟨by rfl, ?_⟩) (by assumption) ?_
        rotate_left
        · (intro w hSw; have s0 := cell_kept hSw d0; have s1 := cell_kept hSw d1; have s2 := cell_kept hSw d2; go_simp; (try rw [if_neg (Nat.not_lt.2 hz4)]); try with_reducible rfl)
        try simp only [Act.put, List.getElem_toArray, List.getElem_cons_zero, List.getElem_cons_succ, List.setIfInBounds_toArray, List.set_cons_zero, List.set_cons_succ]
        refine wpAnyH_take (i := 9) (oi := _) (v := ?_) rfl (by kernel_rfl) (by kernel_rfl) (by kernel_rfl) (fun _ _ _ h => h) (Or.inl ⟨by rfl, ?_⟩) (by assumption) ?_
        rotate_left
        · (intro w hSw; have s0 := cell_kept hSw d0; have s1 := cell_kept hSw d1; have s2 := cell_kept hSw d2; go_simp; (try rw [if_neg (Nat.not_lt.2 hz4)]); try with_reducible rfl)
        try simp only [Act.put, List.getElem_toArray, List.getElem_cons_zero, List.getElem_cons_succ, List.setIfInBounds_toArray, List.set_cons_zero, List.set_cons_succ]
        refine wpAnyH_take (i := 10) (oi := _) (v := ?_) rfl (by kernel_rfl) (by kernel_rfl) (by kernel_rfl) (fun _ _ _ h => h) (Or.inl ⟨by rfl, ?_⟩) (by assumption) ?_
        rotate_left
        · (intro w hSw; have s0 := cell_kept hSw d0; have s1 := cell_kept hSw d1; have s2 := cell_kept hSw d2; go_simp; (try rw [if_neg (Nat.not_lt.2 hz4)]); try with_reducible rfl)
        try simp only [Act.put, List.getElem_toArray, List.getElem_cons_zero, List.getElem_cons_succ, List.setIfInBounds_toArray, List.set_cons_zero, List.set_cons_succ]
        refine wpAnyH_take (i := 11) (oi := _) (v := ?_) rfl (by kernel_rfl) (by kernel_rfl) (by kernel_rfl) (fun _ _ _ h => h) (Or.inl ⟨by rfl, ?_⟩) (by assumption) ?_
        rotate_left
        · (intro w hSw; have s0 := cell_kept hSw d0; have s1 := cell_kept hSw d1; have s2 := cell_kept hSw d2; go_simp; (try rw [if_neg (Nat.not_lt.2 hz4)]); try with_reducible rfl)
        try simp only [Act.put, List.getElem_toArray, List.getElem_cons_zero, List.getElem_cons_succ, List.setIfInBounds_toArray, List.set_cons_zero, List.set_cons_succ]
        refine wpAnyH_take (i := 12) (oi := _) (v := ?_) rfl (by kernel_rfl) (by kernel_rfl) (by kernel_rfl) (fun _ _ _ h => h) (Or.inl ⟨by rfl, ?_⟩) (by assumption) ?_
        rotate_left
        · (intro w hSw; have s0 := cell_kept hSw d0; have s1 := cell_kept hSw d1; have s2 := cell_kept hSw d2; go_simp; (try rw [if_neg (Nat.not_lt.2 hz4)]); try with_reducible rfl)
        try simp only [Act.put, List.getElem_toArray, List.getElem_cons_zero, List.getElem_cons_succ, List.setIfInBounds_toArray, List.set_cons_zero, List.set_cons_succ]
        refine wpAnyH_take (i := 13) (oi := _) (v := ?_) rfl (by kernel_rfl) (by kernel_rfl) (by kernel_rfl) (fun _ _ _ h => h) (Or.inl ⟨by rfl, ?_⟩) (by assumption) ?_
        rotate_left
        · (intro w hSw; have s0 := cell_kept hSw d0; have s1 := cell_kept hSw d1; have s2 := cell_kept hSw d2; go_simp; (try rw [if_neg (Nat.not_lt.2 hz4)]); try with_reducible rfl)
        try simp only [Act.put, List.getElem_toArray, List.getElem_cons_zero, List.getElem_cons_succ, List.setIfInBounds_toArray, List.set_cons_zero, List.set_cons_succ]
        refine wpAnyH_take (i := 14) (oi := _) (v := ?_) rfl (by kernel_rfl) (by kernel_rfl) (by kernel_rfl) (fun _ _ _ h => h) (Or.inl ⟨by rfl, ?_⟩) (by assumption) ?_
        rotate_left
        · (intro w hSw; have s0 := cell_kept hSw d0; have s1 := cell_kept hSw d1; have s2 := cell_kept hSw d2; go_simp; (try rw [if_neg (Nat.not_lt.2 hz4)]); try with_reducible rfl)
        try simp only [Act.put, List.getElem_toArray, List.getElem_cons_zero, List.getElem_cons_succ, List.setIfInBounds_toArray, List.set_cons_zero, List.set_cons_succ]
        refine wpAnyH_take (i := 15) (oi := _) (v := ?_) rfl (by kernel_rfl) (by kernel_rfl) (by kernel_rfl) (fun _ _ _ h => h) (Or.inl ⟨by rfl, ?_⟩) (by assumption) ?_
        rotate_left
        · (intro w hSw; have s0 := cell_kept hSw d0; have s1 := cell_kept hSw d1; have s2 := cell_kept hSw d2; go_simp; (try rw [if_neg (Nat.not_lt.2 hz4)]); try with_reducible rfl)
        try simp only [Act.put, List.getElem_toArray, List.getElem_cons_zero, List.getElem_cons_succ, List.setIfInBounds_toArray, List.set_cons_zero, List.set_cons_succ]
        refine wpAnyH_take (i := 16) (oi := _) (v := ?_) rfl (by kernel_rfl) (by kernel_rfl) (by kernel_rfl) (fun _ _ _ h => h) (Or.inl ⟨by rfl, ?_⟩) (by assumption) ?_
        rotate_left
        · (intro w hSw; have s0 := cell_kept hSw d0; have s1 := cell_kept hSw d1; have s2 := cell_kept hSw d2; go_simp; (try rw [if_neg (Nat.not_lt.2 hz4)]); try with_reducible rfl)
        try simp only [Act.put, List.getElem_toArray, List.getElem_cons_zero, List.getElem_cons_succ, List.setIfInBounds_toArray, List.set_cons_zero, List.set_cons_succ]
        refine wpAnyH_ready (rs := [17]) (by kernel_rfl) (by simp) ?_
        refine AllReadyH.cons rfl (fun K hK => ?_) (AllReadyH.nil)
        go_simp
        refine hK.out _ _ (HS0.out.alloc HS0.out.size _) (fun hHeld => ?_)
        try simp only [Act.put, List.getElem_toArray, List.getElem_cons_zero, List.getElem_cons_succ, List.setIfInBounds_toArray, List.set_cons_zero, List.set_cons_succ]
        refine wpAnyH_ready (rs := [18]) (by kernel_rfl) (by simp) ?_
        refine AllReadyH.cons rfl (fun K hK => ?_) (AllReadyH.nil)
        rw [if_pos (by rfl)]
        refine wp_append_own _ _ _ 26 rfl W.heap.size 59 i0 (.agg #[.string ⟨#[]⟩, .int .i64 0, .int .i64 0, .int .i64 0, .int .i64 0]) 5 48 Tryz.underlying26 hi hz0 hz1 hz2 rfl (by decide) _ (cpAcc ns p b m).length (flatC ((cpAcc ns p b m))) rfl (World.ownsRow.alloc (show wr.drew.ownsRow _ _ _ _ _ _ from HO.out) _) ⟨wr.heap.size, 0, none⟩ 1 1 (flatC [(⟨cpB p b q, 0, 0, k, v⟩ : Cmd)]) rfl rfl (cmds_cells (show CmdsAt (wr.drew.alloc _) (some ⟨wr.heap.size, 0, none⟩) 1 [(⟨cpB p b q, 0, 0, k, v⟩ : Cmd)] from cmds_lit wr.drew (⟨cpB p b q, 0, 0, k, v⟩ : Cmd))) (flatC_cell1 _) (by unfold maxLen; have := HAL.out; have := HL.out; omega) (by have := HAL.out; have := HL.out; omega) (by have := HS0.out.size; simp at this ⊢; omega) ?_
        intro v4 w4 ho4 hg4 hn4
        have HB4 := Lib.hid ((HS0.out.alloc HS0.out.size (.cells #[.string ((⟨cpB p b q, 0, 0, k, v⟩ : Cmd)).p, .int .i64 ((⟨cpB p b q, 0, 0, k, v⟩ : Cmd)).fk, .int .i64 ((⟨cpB p b q, 0, 0, k, v⟩ : Cmd)).fv, .int .i64 ((⟨cpB p b q, 0, 0, k, v⟩ : Cmd)).tk, .int .i64 ((⟨cpB p b q, 0, 0, k, v⟩ : Cmd)).tv] 59)).grown hg4 (by have := HS0.out.size; simp at this ⊢; omega) (fun k e => (HO.out.lt k e).1))
        have ho4' : w4.ownsRow W.heap.size 59 5 v4 ((cpAcc ns p b m) ++ [(⟨cpB p b q, 0, 0, k, v⟩ : Cmd)]).length (flatC ((cpAcc ns p b m) ++ [(⟨cpB p b q, 0, 0, k, v⟩ : Cmd)])) := by rw [flatC_append, List.length_append]; exact ho4
        rw [← HS.out] at ho4'
        clear hg4 hn4 ho4
        refine hK.out _ _ HB4.out (fun hHeld => ?_)
        try simp only [Act.put, List.getElem_toArray, List.getElem_cons_zero, List.getElem_cons_succ, List.setIfInBounds_toArray, List.set_cons_zero, List.set_cons_succ]
        refine wpAnyH_take (i := 19) (oi := _) (v := ?_) rfl (by kernel_rfl) (by kernel_rfl) (by kernel_rfl) (fun _ _ _ h => h) (Or.inl ⟨by rfl, ?_⟩) (by assumption) ?_
        rotate_left
        · (intro w hSw; have s0 := cell_kept hSw d0; have s1 := cell_kept hSw d1; have s2 := cell_kept hSw d2; go_simp; (try rw [if_neg (Nat.not_lt.2 hz4)]); try with_reducible rfl)
        try simp only [Act.put, List.getElem_toArray, List.getElem_cons_zero, List.getElem_cons_succ, List.setIfInBounds_toArray, List.set_cons_zero, List.set_cons_succ]
        refine wpAnyH_done (by kernel_rfl) ?_ _
        go_wp2
        go_roundw
        case rel => exact ⟨m + 1, by go_num, by have := HLT.out; omega, ho4', HB4⟩
        case measure => have := HLT.out; simp [intOf]; omega
      · have heq : (x.p.toList == p.toList) = false := toList_ne hxp
        have HU := Lib.hid (fun w => l1Under_c p x.p w)
        have hsn := sub_ne HV.out.1 HV.out.2 (List.mem_of_getElem? hx) hxp
        cases hu : l1uB p x.p with
        | true =>
          have hsub := hsn.trans hu
          have HS := Lib.hid (cpAcc_yes (b := b) hx hsub)
          have hz3 : (p.size : Int) ≤ x.p.size := by have := sub_size hsub; omega
          have hz4 : b.size + (x.p.size - p.size) ≤ 9223372036854775807 := by have := HSZ.out.1 x (List.mem_of_getElem? hx); have := HSZ.out.2; omega
          rw [hu] at HU
          obtain ⟨q, k, v⟩ := x
          simp only at c0 c1 c2 d0 d1 d2 heq HU hz3 hz4
          clear hx hu hsn hxp hsub
          go_wp2_with fail
          refine (HU.out _).mono ?_
          rintro e W3 ⟨rfl, rfl⟩
          go_upto_region 6 with (fail)
          have HS0 : Hid (Below W.heap.size W wr.drew) := HB.out.drew
          refine wp_region_held_drew (S := fun w' => Below W.heap.size W w') (by kernel_rfl) HS0.out (fun hH => ?_)
          refine wpAnyH_take (i := 0) (oi := _) (v := ?_) rfl (by kernel_rfl) (by kernel_rfl) (by kernel_rfl) (fun _ _ _ h => h) (Or.inl ⟨by rfl, ?_⟩) (by assumption) ?_
          rotate_left
          · (intro w hSw; have s0 := cell_kept hSw d0; have s1 := cell_kept hSw d1; have s2 := cell_kept hSw d2; go_simp; (try rw [if_neg (Nat.not_lt.2 hz4)]); try with_reducible rfl)
          try simp only [Act.put, List.getElem_toArray, List.getElem_cons_zero, List.setIfInBounds_toArray, List.set_cons_zero, List.set_cons_succ]
          refine wpAnyH_take (i := 1) (oi := _) (v := ?_) rfl (by kernel_rfl) (by kernel_rfl) (by kernel_rfl) (fun _ _ _ h => h) (Or.inl ⟨by rfl, ?_⟩) (by assumption) ?_
          rotate_left
          · (intro w hSw; have s0 := cell_kept hSw d0; have s1 := cell_kept hSw d1; have s2 := cell_kept hSw d2; go_simp; (try rw [if_neg (Nat.not_lt.2 hz4)]); try with_reducible rfl)
          try simp only [Act.put, List.getElem_toArray, List.getElem_cons_zero, List.getElem_cons_succ, List.setIfInBounds_toArray, List.set_cons_zero, List.set_cons_succ]
          refine wpAnyH_take (i := 2) (oi := _) (v := ?_) rfl (by kernel_rfl) (by kernel_rfl) (by kernel_rfl) (fun _ _ _ h => h) (Or.inl ⟨by rfl, ?_⟩) (by assumption) ?_
          rotate_left
          · (intro w hSw; have s0 := cell_kept hSw d0; have s1 := cell_kept hSw d1; have s2 := cell_kept hSw d2; go_simp; (try rw [if_neg (Nat.not_lt.2 hz4)]); try with_reducible rfl)
          try simp only [Act.put, List.getElem_toArray, List.getElem_cons_zero, List.getElem_cons_succ, List.setIfInBounds_toArray, List.set_cons_zero, List.set_cons_succ]
          refine wpAnyH_take (i := 3) (oi := _) (v := ?_) rfl (by kernel_rfl) (by kernel_rfl) (by kernel_rfl) (fun _ _ _ h => h) (Or.inl ⟨by rfl, ?_⟩) (by assumption) ?_
          rotate_left
          · (intro w hSw; have s0 := cell_kept hSw d0; have s1 := cell_kept hSw d1; have s2 := cell_kept hSw d2; go_simp; (try rw [if_neg (Nat.not_lt.2 hz4)]); try with_reducible rfl)
          try simp only [Act.put, List.getElem_toArray, List.getElem_cons_zero, List.getElem_cons_succ, List.setIfInBounds_toArray, List.set_cons_zero, List.set_cons_succ]
          refine wpAnyH_take (i := 4) (oi := _) (v := ?_) rfl (by kernel_rfl) (by kernel_rfl) (by kernel_rfl) (fun _ _ _ h => h) (Or.inl ⟨by rfl, ?_⟩) (by assumption) ?_
          rotate_left
          · (intro w hSw; have s0 := cell_kept hSw d0; have s1 := cell_kept hSw d1; have s2 := cell_kept hSw d2; go_simp; (try rw [if_neg (Nat.not_lt.2 hz4)]); try with_reducible rfl)
          try simp only [Act.put, List.getElem_toArray, List.getElem_cons_zero, List.getElem_cons_succ, List.setIfInBounds_toArray, List.set_cons_zero, List.set_cons_succ]
          refine wpAnyH_take (i := 5) (oi := _) (v := ?_) rfl (by kernel_rfl) (by kernel_rfl) (by kernel_rfl) (fun _ _ _ h => h) (Or.inl ⟨by rfl, ?_⟩) (by assumption) ?_
          rotate_left
          · (intro w hSw; have s0 := cell_kept hSw d0; have s1 := cell_kept hSw d1; have s2 := cell_kept hSw d2; go_simp; (try rw [if_neg (Nat.not_lt.2 hz4)]); try with_reducible rfl)
          try simp only [Act.put, List.getElem_toArray, List.getElem_cons_zero, List.getElem_cons_succ, List.setIfInBounds_toArray, List.set_cons_zero, List.set_cons_succ]
          refine wpAnyH_take (i := 6) (oi := _) (v := ?_) rfl (by kernel_rfl) (by kernel_rfl) (by kernel_rfl) (fun _ _ _ h => h) (Or.inl ⟨by rfl, ?_⟩) (by assumption) ?_
          rotate_left
          · (intro w hSw; have s0 := cell_kept hSw d0; have s1 := cell_kept hSw d1; have s2 := cell_kept hSw d2; go_simp; (try rw [if_neg (Nat.not_lt.2 hz4)]); try with_reducible rfl)
          try simp only [Act.put, List.getElem_toArray, List.getElem_cons_zero, List.getElem_cons_succ, List.setIfInBounds_toArray, List.set_cons_zero, List.set_cons_succ]
          refine wpAnyH_take (i := 7) (oi := _) (v := ?_) rfl (by kernel_rfl) (by kernel_rfl) (by kernel_rfl) (fun _ _ _ h => h) (Or.inl ⟨by rfl, ?_⟩) (by assumption) ?_
          rotate_left
          · (intro w hSw; have s0 := cell_kept hSw d0; have s1 := cell_kept hSw d1; have s2 := cell_kept hSw d2; go_simp; (try rw [if_neg (Nat.not_lt.2 hz4)]); try with_reducible rfl)
          try simp only [Act.put, List.getElem_toArray, List.getElem_cons_zero, List.getElem_cons_succ, List.setIfInBounds_toArray, List.set_cons_zero, List.set_cons_succ]
          refine wpAnyH_take (i := 8) (oi := _) (v := ?_) rfl (by kernel_rfl) (by kernel_rfl) (by kernel_rfl) (fun _ _ _ h => h) (Or.inl ⟨by rfl, ?_⟩) (by assumption) ?_
          rotate_left
          · (intro w hSw; have s0 := cell_kept hSw d0; have s1 := cell_kept hSw d1; have s2 := cell_kept hSw d2; go_simp; (try rw [if_neg (Nat.not_lt.2 hz4)]); try with_reducible rfl)
          try simp only [Act.put, List.getElem_toArray, List.getElem_cons_zero, List.getElem_cons_succ, List.setIfInBounds_toArray, List.set_cons_zero, List.set_cons_succ]
          refine wpAnyH_take (i := 9) (oi := _) (v := ?_) rfl (by kernel_rfl) (by kernel_rfl) (by kernel_rfl) (fun _ _ _ h => h) (Or.inl ⟨by rfl, ?_⟩) (by assumption) ?_
          rotate_left
          · (intro w hSw; have s0 := cell_kept hSw d0; have s1 := cell_kept hSw d1; have s2 := cell_kept hSw d2; go_simp; (try rw [if_neg (Nat.not_lt.2 hz4)]); try with_reducible rfl)
          try simp only [Act.put, List.getElem_toArray, List.getElem_cons_zero, List.getElem_cons_succ, List.setIfInBounds_toArray, List.set_cons_zero, List.set_cons_succ]
          refine wpAnyH_take (i := 10) (oi := _) (v := ?_) rfl (by kernel_rfl) (by kernel_rfl) (by kernel_rfl) (fun _ _ _ h => h) (Or.inl ⟨by rfl, ?_⟩) (by assumption) ?_
          rotate_left
          · (intro w hSw; have s0 := cell_kept hSw d0; have s1 := cell_kept hSw d1; have s2 := cell_kept hSw d2; go_simp; (try rw [if_neg (Nat.not_lt.2 hz4)]); try with_reducible rfl)
          try simp only [Act.put, List.getElem_toArray, List.getElem_cons_zero, List.getElem_cons_succ, List.setIfInBounds_toArray, List.set_cons_zero, List.set_cons_succ]
          refine wpAnyH_take (i := 11) (oi := _) (v := ?_) rfl (by kernel_rfl) (by kernel_rfl) (by kernel_rfl) (fun _ _ _ h => h) (Or.inl ⟨by rfl, ?_⟩) (by assumption) ?_
          rotate_left
          · (intro w hSw; have s0 := cell_kept hSw d0; have s1 := cell_kept hSw d1; have s2 := cell_kept hSw d2; go_simp; (try rw [if_neg (Nat.not_lt.2 hz4)]); try with_reducible rfl)
          try simp only [Act.put, List.getElem_toArray, List.getElem_cons_zero, List.getElem_cons_succ, List.setIfInBounds_toArray, List.set_cons_zero, List.set_cons_succ]
          refine wpAnyH_take (i := 12) (oi := _) (v := ?_) rfl (by kernel_rfl) (by kernel_rfl) (by kernel_rfl) (fun _ _ _ h => h) (Or.inl ⟨by rfl, ?_⟩) (by assumption) ?_
          rotate_left
          · (intro w hSw; have s0 := cell_kept hSw d0; have s1 := cell_kept hSw d1; have s2 := cell_kept hSw d2; go_simp; (try rw [if_neg (Nat.not_lt.2 hz4)]); try with_reducible rfl)
          try simp only [Act.put, List.getElem_toArray, List.getElem_cons_zero, List.getElem_cons_succ, List.setIfInBounds_toArray, List.set_cons_zero, List.set_cons_succ]
          refine wpAnyH_take (i := 13) (oi := _) (v := ?_) rfl (by kernel_rfl) (by kernel_rfl) (by kernel_rfl) (fun _ _ _ h => h) (Or.inl ⟨by rfl, ?_⟩) (by assumption) ?_
          rotate_left
          · (intro w hSw; have s0 := cell_kept hSw d0; have s1 := cell_kept hSw d1; have s2 := cell_kept hSw d2; go_simp; (try rw [if_neg (Nat.not_lt.2 hz4)]); try with_reducible rfl)
          try simp only [Act.put, List.getElem_toArray, List.getElem_cons_zero, List.getElem_cons_succ, List.setIfInBounds_toArray, List.set_cons_zero, List.set_cons_succ]
          refine wpAnyH_take (i := 14) (oi := _) (v := ?_) rfl (by kernel_rfl) (by kernel_rfl) (by kernel_rfl) (fun _ _ _ h => h) (Or.inl ⟨by rfl, ?_⟩) (by assumption) ?_
          rotate_left
          · (intro w hSw; have s0 := cell_kept hSw d0; have s1 := cell_kept hSw d1; have s2 := cell_kept hSw d2; go_simp; (try rw [if_neg (Nat.not_lt.2 hz4)]); try with_reducible rfl)
          try simp only [Act.put, List.getElem_toArray, List.getElem_cons_zero, List.getElem_cons_succ, List.setIfInBounds_toArray, List.set_cons_zero, List.set_cons_succ]
          refine wpAnyH_take (i := 15) (oi := _) (v := ?_) rfl (by kernel_rfl) (by kernel_rfl) (by kernel_rfl) (fun _ _ _ h => h) (Or.inl ⟨by rfl, ?_⟩) (by assumption) ?_
          rotate_left
          · (intro w hSw; have s0 := cell_kept hSw d0; have s1 := cell_kept hSw d1; have s2 := cell_kept hSw d2; go_simp; (try rw [if_neg (Nat.not_lt.2 hz4)]); try with_reducible rfl)
          try simp only [Act.put, List.getElem_toArray, List.getElem_cons_zero, List.getElem_cons_succ, List.setIfInBounds_toArray, List.set_cons_zero, List.set_cons_succ]
          refine wpAnyH_take (i := 16) (oi := _) (v := ?_) rfl (by kernel_rfl) (by kernel_rfl) (by kernel_rfl) (fun _ _ _ h => h) (Or.inl ⟨by rfl, ?_⟩) (by assumption) ?_
          rotate_left
          · (intro w hSw; have s0 := cell_kept hSw d0; have s1 := cell_kept hSw d1; have s2 := cell_kept hSw d2; go_simp; (try rw [if_neg (Nat.not_lt.2 hz4)]); try with_reducible rfl)
          try simp only [Act.put, List.getElem_toArray, List.getElem_cons_zero, List.getElem_cons_succ, List.setIfInBounds_toArray, List.set_cons_zero, List.set_cons_succ]
          refine wpAnyH_ready (rs := [17]) (by kernel_rfl) (by simp) ?_
          refine AllReadyH.cons rfl (fun K hK => ?_) (AllReadyH.nil)
          go_simp
          refine hK.out _ _ (HS0.out.alloc HS0.out.size _) (fun hHeld => ?_)
          try simp only [Act.put, List.getElem_toArray, List.getElem_cons_zero, List.getElem_cons_succ, List.setIfInBounds_toArray, List.set_cons_zero, List.set_cons_succ]
          refine wpAnyH_ready (rs := [18]) (by kernel_rfl) (by simp) ?_
          refine AllReadyH.cons rfl (fun K hK => ?_) (AllReadyH.nil)
          rw [if_pos (by rfl)]
          refine wp_append_own _ _ _ 26 rfl W.heap.size 59 i0 (.agg #[.string ⟨#[]⟩, .int .i64 0, .int .i64 0, .int .i64 0, .int .i64 0]) 5 48 Tryz.underlying26 hi hz0 hz1 hz2 rfl (by decide) _ (cpAcc ns p b m).length (flatC ((cpAcc ns p b m))) rfl (World.ownsRow.alloc (show wr.drew.ownsRow _ _ _ _ _ _ from HO.out) _) ⟨wr.heap.size, 0, none⟩ 1 1 (flatC [(⟨cpB p b q, 0, 0, k, v⟩ : Cmd)]) rfl rfl (cmds_cells (show CmdsAt (wr.drew.alloc _) (some ⟨wr.heap.size, 0, none⟩) 1 [(⟨cpB p b q, 0, 0, k, v⟩ : Cmd)] from cmds_lit wr.drew (⟨cpB p b q, 0, 0, k, v⟩ : Cmd))) (flatC_cell1 _) (by unfold maxLen; have := HAL.out; have := HL.out; omega) (by have := HAL.out; have := HL.out; omega) (by have := HS0.out.size; simp at this ⊢; omega) ?_
          intro v4 w4 ho4 hg4 hn4
          have HB4 := Lib.hid ((HS0.out.alloc HS0.out.size (.cells #[.string ((⟨cpB p b q, 0, 0, k, v⟩ : Cmd)).p, .int .i64 ((⟨cpB p b q, 0, 0, k, v⟩ : Cmd)).fk, .int .i64 ((⟨cpB p b q, 0, 0, k, v⟩ : Cmd)).fv, .int .i64 ((⟨cpB p b q, 0, 0, k, v⟩ : Cmd)).tk, .int .i64 ((⟨cpB p b q, 0, 0, k, v⟩ : Cmd)).tv] 59)).grown hg4 (by have := HS0.out.size; simp at this ⊢; omega) (fun k e => (HO.out.lt k e).1))
          have ho4' : w4.ownsRow W.heap.size 59 5 v4 ((cpAcc ns p b m) ++ [(⟨cpB p b q, 0, 0, k, v⟩ : Cmd)]).length (flatC ((cpAcc ns p b m) ++ [(⟨cpB p b q, 0, 0, k, v⟩ : Cmd)])) := by rw [flatC_append, List.length_append]; exact ho4
          rw [← HS.out] at ho4'
          clear hg4 hn4 ho4
          refine hK.out _ _ HB4.out (fun hHeld => ?_)
          try simp only [Act.put, List.getElem_toArray, List.getElem_cons_zero, List.getElem_cons_succ, List.setIfInBounds_toArray, List.set_cons_zero, List.set_cons_succ]
          refine wpAnyH_take (i := 19) (oi := _) (v := ?_) rfl (by kernel_rfl) (by kernel_rfl) (by kernel_rfl) (fun _ _ _ h => h) (Or.inl ⟨by rfl, ?_⟩) (by assumption) ?_
          rotate_left
          · (intro w hSw; have s0 := cell_kept hSw d0; have s1 := cell_kept hSw d1; have s2 := cell_kept hSw d2; go_simp; (try rw [if_neg (Nat.not_lt.2 hz4)]); try with_reducible rfl)
          try simp only [Act.put, List.getElem_toArray, List.getElem_cons_zero, List.getElem_cons_succ, List.setIfInBounds_toArray, List.set_cons_zero, List.set_cons_succ]
          refine wpAnyH_done (by kernel_rfl) ?_ _
          go_wp2
          go_roundw
          case rel => exact ⟨m + 1, by go_num, by have := HLT.out; omega, ho4', HB4⟩
          case measure => have := HLT.out; simp [intOf]; omega
        | false =>
          have HS := Lib.hid (cpAcc_no (b := b) hx (hsn.trans hu))
          rw [hu] at HU
          obtain ⟨q, k, v⟩ := x
          simp only at c0 c1 c2 d0 d1 d2 heq HU
          clear hx hu hsn hxp
          go_wp2_with fail
          refine (HU.out _).mono ?_
          rintro e W3 ⟨rfl, rfl⟩
          have ho4' := HO.out
          rw [← HS.out] at ho4'
          clear c0 c1 c2 d0 d1 d2
          go_wp2
          go_roundw
          case rel => exact ⟨m + 1, by go_num, by have := HLT.out; omega, ho4', HB⟩
          case measure => have := HLT.out; simp [intOf]; omega
    · have hge : (len : Int) ≤ m := by omega
      have hie : m = ns.length := by have := HE.out; omega
      have HX := Lib.hid (show cpAcc ns p b m = copyL ns p b by unfold cpAcc; rw [hie, List.take_length])
      have HO := Lib.hid hown
      clear hn hlt hown
      go_wp2
      go_ret
      exact ⟨⟨_, rfl, by rw [← HX.out]; exact HO.out⟩, HB.out⟩

theorem vpSize {p : ByteArray} (h : vpB p = true) : p.size ≤ 8 := by
  obtain ⟨w, hw, rfl⟩ := vpB_word h
  show (Pm.pathOf w).length ≤ 8
  unfold Pm.pathOf
  split
  · simp
  · rw [Pm.flat_length]; have := hw.1; omega

theorem cpB_size (a b q : ByteArray) : (cpB a b q).size ≤ b.size + q.size := by
  unfold cpB
  rw [ByteArray.size_append, ByteArray.size_extract]
  omega

theorem copyL_short {ns : List Nd} {p b : ByteArray} (hv : validT ns = true) (hb : vpB b = true) : ShortC 16 (copyL ns p b) := by
  intro c hc
  obtain ⟨n, hn, rfl⟩ := List.mem_map.1 hc
  have h1 := vpSize hb
  have h2 := vpSize (good_path hv (List.mem_filter.1 hn).1).2
  have h3 := cpB_size p b n.p
  show (cpB p b n.p).size ≤ 16
  omega

theorem remL_short {m : Nat} {ns : List Nd} {p : ByteArray} (hs : Short m ns) : ShortC m (remL ns p) := by
  intro c hc
  obtain ⟨n, hn, rfl⟩ := List.mem_map.1 hc
  exact hs n (List.mem_filter.1 (List.mem_reverse.1 hn)).1

theorem moveL_short {m : Nat} {ns : List Nd} {p b : ByteArray} (hm : 16 ≤ m) (hv : validT ns = true) (hb : vpB b = true) (hs : Short m ns) : ShortC m (copyL ns p b ++ remL ns p) := by
  intro c hc
  rcases List.mem_append.1 hc with hc | hc
  · exact (copyL_short hv hb).mono hm c hc
  · exact remL_short hs c hc

theorem copyAll_no {ns : List Nd} {a b : ByteArray} (h : copyOk ns a b = false) : copyAll ns a b = ([], false) := by unfold copyAll; rw [if_neg (by rw [h]; decide)]
theorem copyAll_yes {ns : List Nd} {a b : ByteArray} (h : copyOk ns a b = true) : copyAll ns a b = (copyL ns a b, true) := by unfold copyAll; rw [if_pos h]
theorem moveAll_no {ns : List Nd} {a b : ByteArray} (h : copyOk ns a b = false) : moveAll ns a b = ([], false) := by unfold moveAll; rw [if_neg (by rw [h]; decide)]
theorem moveAll_yes {ns : List Nd} {a b : ByteArray} (h : copyOk ns a b = true) : moveAll ns a b = (copyL ns a b ++ remL ns a, true) := by unfold moveAll; rw [if_pos h]
theorem copyOk_not {ns : List Nd} {a b : ByteArray} (h : validT ns = true → 1 ≤ depB a → 1 ≤ depB b → (getT ns a).1 ≠ 0 → a ≠ b → undB a b = false → fitsL ns (copyL ns a b) = true → False) : copyOk ns a b = false := by
  rw [Bool.eq_false_iff]
  intro hc
  obtain ⟨h1, h2, h3, h4, h5, h6, h7⟩ := copyOk_iff.1 hc
  exact h h1 h2 h3 h4 h5 h6 h7

set_option maxHeartbeats 4000000 in
set_option maxRecDepth 100000 in
theorem specCopyAll_c (a : Option Addr) (len cap : Nat) (ns : List Nd) (p b : ByteArray) (hl : len ≤ 2097152) (hs : Short 2097152 ns) (hp : p.size ≤ 2097152) (hb : b.size ≤ 2097152) (W : World) (hN : NodesAt W a len ns) :
    Calls Tryz.prog 10 #[.slice a len cap, .string p, .string b] W (MovePost (copyAll ns p b) W) := by
  obtain ⟨vt, hvt⟩ : ∃ vt, validT ns = vt := ⟨_, rfl⟩
  obtain ⟨dp, hdp⟩ : ∃ dp, depB p = dp := ⟨_, rfl⟩
  obtain ⟨db, hdb⟩ : ∃ db, depB b = db := ⟨_, rfl⟩
  obtain ⟨k, v, hkv⟩ : ∃ k v, getT ns p = (k, v) := ⟨_, _, rfl⟩
  have HV := Lib.hid (show Calls Tryz.prog 35 #[.slice a len cap] W (BoolPost vt W) by rw [← hvt]; exact specTreeValid_c a len cap ns hl hs W hN)
  have HD := Lib.hid (fun w => show Calls Tryz.prog 36 #[.string p] w (fun e w' => e = .returned (.int .i64 dp) ∧ Below w.heap.size w w') by rw [← hdp]; exact specDepth_c p hp w)
  have HDB := Lib.hid (fun w => show Calls Tryz.prog 36 #[.string b] w (fun e w' => e = .returned (.int .i64 db) ∧ Below w.heap.size w w') by rw [← hdb]; exact specDepth_c b hb w)
  have HG := Lib.hid (fun W' (hb : Below W.heap.size W W') => show Calls Tryz.prog 30 #[.slice a len cap, .string p] W' (ConRet k v W') by have := l3Get_c a len cap ns p hl W' (hN.keep hb); rwa [hkv] at this)
  have HVT := Lib.hid hvt
  have HDP := Lib.hid hdp
  have HDQ := Lib.hid hdb
  have HKV := Lib.hid hkv
  have HN := Lib.hid hN
  have HL := Lib.hid hl
  have HSZ := Lib.hid (And.intro hs hb)
  clear hN hs hp hb hvt hdp hdb hkv hl
  have fk := fun w => field_kind k v w
  go_enter Tryz.func10, Tryz.ntmps10
  go_wp2_with fail
  refine HV.out.mono ?_
  rintro e W1 ⟨rfl, hb1⟩
  have B1 := Lib.hid hb1
  clear hb1
  cases vt with
  | false =>
    have HR := Lib.hid (copyAll_no (ns := ns) (a := p) (b := b) (copyOk_not (fun h _ _ _ _ _ _ => by rw [HVT.out] at h; cases h)))
    go_wp2
    go_ret2
    exact move_none HR.out B1.out
  | true =>
    go_wp2_with fail
    refine (HD.out _).mono ?_
    rintro e W2 ⟨rfl, hb2⟩
    have B2 := Lib.hid (below_next B1.out hb2)
    clear hb2
    by_cases hd : 1 ≤ dp
    · go_wp2_with fail
      refine (HDB.out _).mono ?_
      rintro e W3 ⟨rfl, hb3⟩
      have B3 := Lib.hid (below_next B2.out hb3)
      clear hb3
      by_cases hd2 : 1 ≤ db
      · go_wp2_with fail
        refine (HG.out _ B3.out).mono ?_
        rintro e W4 ⟨rfl, hb4⟩
        have B4 := Lib.hid (below_next B3.out hb4)
        clear hb4
        unfold con
        by_cases hk : k = 0
        · subst hk
          have HR := Lib.hid (copyAll_no (ns := ns) (a := p) (b := b) (copyOk_not (fun _ _ _ h _ _ _ => h (by rw [HKV.out]))))
          go_wp2
          go_ret2
          exact move_none HR.out B4.out
        · have hk0 : (k == 0) = false := beq_eq_false_iff_ne.2 hk
          have HK := Lib.hid hk
          clear hk
          by_cases hpb : p = b
          · have heq : (p.toList == b.toList) = true := by rw [hpb]; simp
            have HR := Lib.hid (copyAll_no (ns := ns) (a := p) (b := b) (copyOk_not (fun _ _ _ _ h _ _ => h hpb)))
            clear hpb
            go_wp2
            go_ret2
            exact move_none HR.out B4.out
          · have heq : (p.toList == b.toList) = false := toList_ne hpb
            have HPB := Lib.hid hpb
            have hpv := vp_of_depth (show 1 ≤ depB p by rw [HDP.out]; exact hd)
            have hbv := vp_of_depth (show 1 ≤ depB b by rw [HDQ.out]; exact hd2)
            have hue : undB p b = l1uB p b := by
              have := underB_eq p b
              rw [show Pm.valid p.data.toList = true from hpv, show Pm.valid b.data.toList = true from hbv] at this
              exact this
            obtain ⟨u, hu⟩ : ∃ u, undB p b = u := ⟨_, rfl⟩
            have HU := Lib.hid (fun w => show Calls Tryz.prog 37 #[.string p, .string b] w (fun e w' => e = .returned (.bool u) ∧ w = w') by rw [← hu, hue]; exact l1Under_c p b w)
            have HUU := Lib.hid hu
            have HPV := Lib.hid (And.intro hpv hbv)
            clear hpb hpv hbv hue hu
            go_wp2_with fail
            refine (HU.out _).mono ?_
            rintro e W5 ⟨rfl, rfl⟩
            cases u with
            | true =>
              have HR := Lib.hid (copyAll_no (ns := ns) (a := p) (b := b) (copyOk_not (fun _ _ _ _ _ h _ => by rw [HUU.out] at h; cases h)))
              go_wp2
              go_ret2
              exact move_none HR.out B4.out
            | false =>
              have HC := Lib.hid (l13Copy_c a len cap ns p b HL.out HSZ.out.1 HSZ.out.2 HVT.out HPV.out.1 W4 (HN.out.keep B4.out))
              go_wp2_with fail
              refine HC.out.mono ?_
              rintro e W6 ⟨⟨sl, rfl, ho⟩, hb6⟩
              obtain ⟨ao, co, rfl, hco⟩ := cmds_of_own ho
              have HO := Lib.hid (own_mono ho B4.out.size)
              have B6 := Lib.hid (below_next B4.out hb6)
              obtain ⟨f, hf⟩ : ∃ f, fitsL ns (copyL ns p b) = f := ⟨_, rfl⟩
              have hcl : (copyL ns p b).length ≤ 10 := by rw [copyL_len]; exact filter_len10 HVT.out _
              have HF := Lib.hid (show Calls Tryz.prog 39 #[.slice a len cap, .slice ao (copyL ns p b).length co] W6 (BoolPost f W6) by
                rw [← hf]; exact specLogFits_c a len cap ns ao (copyL ns p b).length co (copyL ns p b) HL.out (by omega) HSZ.out.1 ((copyL_short HVT.out HPV.out.2).mono (by omega)) W6 (HN.out.keep B6.out) hco)
              have HFF := Lib.hid hf
              clear ho hb6 hco hf hcl
              go_wp2_with fail
              refine HF.out.mono ?_
              rintro e W7 ⟨rfl, hb7⟩
              have HO7 := Lib.hid (own_below HO.out hb7)
              have B7 := Lib.hid (below_next B6.out hb7)
              clear hb7
              cases f with
              | false =>
                have HR := Lib.hid (copyAll_no (ns := ns) (a := p) (b := b) (copyOk_not (fun _ _ _ _ _ _ h => by rw [HFF.out] at h; cases h)))
                go_wp2
                go_ret2
                exact move_none HR.out B7.out
              | true =>
                have HR := Lib.hid (copyAll_yes (copyOk_iff.2 ⟨HVT.out, by rw [HDP.out]; exact hd, by rw [HDQ.out]; exact hd2, by rw [HKV.out]; exact HK.out, HPB.out, HUU.out, HFF.out⟩))
                go_wp2
                go_ret2
                exact move_end HR.out HO7.out B7.out
      · have hd3 : db < 1 := by omega
        have HR := Lib.hid (copyAll_no (ns := ns) (a := p) (b := b) (copyOk_not (fun _ _ h _ _ _ _ => hd2 (by rw [HDQ.out] at h; exact h))))
        clear hd2
        go_wp2
        go_ret2
        exact move_none HR.out B3.out
    · have hd1 : dp < 1 := by omega
      have HR := Lib.hid (copyAll_no (ns := ns) (a := p) (b := b) (copyOk_not (fun _ h _ _ _ _ _ => hd (by rw [HDP.out] at h; exact h))))
      clear hd
      go_wp2
      go_ret2
      exact move_none HR.out B2.out

set_option maxHeartbeats 4000000 in
set_option maxRecDepth 100000 in
theorem specMoveAll_c (a : Option Addr) (len cap : Nat) (ns : List Nd) (p b : ByteArray) (hl : len ≤ 2097152) (hs : Short 2097152 ns) (hp : p.size ≤ 2097152) (hb : b.size ≤ 2097152) (W : World) (hN : NodesAt W a len ns) :
    Calls Tryz.prog 16 #[.slice a len cap, .string p, .string b] W (MovePost (moveAll ns p b) W) := by
  have HC := Lib.hid (specCopyAll_c a len cap ns p b hl hs hp hb W hN)
  have HN := Lib.hid hN
  have HL := Lib.hid hl
  clear hN hs hp hb hl
  cases hok : copyOk ns p b with
  | false =>
    rw [copyAll_no hok] at HC
    have HR := Lib.hid (moveAll_no hok)
    clear hok
    go_enter Tryz.func16, Tryz.ntmps16
    go_wp2_with fail
    refine HC.out.mono ?_
    rintro e W1 ⟨sl, rfl, -, hb1⟩
    go_wp2
    go_ret2
    exact move_none HR.out hb1
  | true =>
    rw [copyAll_yes hok] at HC
    have HR := Lib.hid (moveAll_yes hok)
    obtain ⟨h1, h2, -⟩ := copyOk_iff.1 hok
    have HRM := Lib.hid (fun W' (hb : Below W.heap.size W W') => l13Remove_c a len cap ns p HL.out h1 (vp_of_depth h2) W' (HN.out.keep hb))
    have HCL := Lib.hid (show (copyL ns p b).length ≤ 10 ∧ (remL ns p).length ≤ 10 by rw [copyL_len, remL_len]; exact ⟨filter_len10 h1 _, filter_len10 h1 _⟩)
    clear hok h1 h2
    go_enter Tryz.func16, Tryz.ntmps16
    go_wp2_with fail
    refine HC.out.mono ?_
    rintro e W1 ⟨sl, rfl, ho, hb1⟩
    have B1 := Lib.hid hb1
    have HO := Lib.hid ho
    clear hb1 ho
    go_wp2_with fail
    refine (HRM.out _ B1.out).mono ?_
    rintro e W2 ⟨⟨s2, rfl, ho2⟩, hb2⟩
    obtain ⟨a2, c2, rfl, hco2⟩ := cmds_of_own ho2
    have HO2 := Lib.hid (own_below HO.out hb2)
    have B2 := Lib.hid (below_next B1.out hb2)
    have HCO := Lib.hid hco2
    clear ho2 hb2 hco2
    go_wp2_with (at_builtin; refine wpList_append_cmds rfl _ _ rfl W.heap.size _ (copyL ns p b) rfl HO2.out _ _ _ (remL ns p) rfl HCO.out (by have := HCL.out; omega) B2.out.size ?_; intro v3 w3 ho3 hg3)
    have B3 := B2.out.grown hg3 B2.out.size (fun k e => (HO2.out.lt k e).1)
    go_ret2
    exact move_end HR.out ho3 B3

end Go.Proofs.YtncceljffcjoiaaGreatDoor
