/-
  WALKS: canonical logs of the model, second part: spec.l14Put, l14Sort.
-/
import Derived.Deep.RegionHeld3
import Derived.Deep.Cut
import Derived.Test.YtohdpbalajjjiaaGreatQ3
namespace Go.Proofs.YtohdpbalajjjiaaGreat
open Go.RowKit
set_option linter.unusedVariables false

def PutKRel (c : Cmd) (cs : List Cmd) (W0 : World) (o k i : Value) (wr : World) : Prop :=
  ∃ (n : Nat) (acc : List Cmd) (dn : Bool), k = .bool dn ∧ i = .int .i64 n ∧ n ≤ cs.length ∧ wr.ownsRow W0.heap.size 33 5 o acc.length (flatC acc) ∧ Hid (putMid c cs n dn acc) ∧ Hid (Below W0.heap.size W0 wr)

set_option maxHeartbeats 4000000 in
set_option maxRecDepth 100000 in
theorem specPut_c (a : Option Addr) (len cap : Nat) (cs : List Cmd) (c : Cmd) (hl : len ≤ 2000000) (W : World) (hN : CmdsAt W a len cs) :
    Calls Tryz.prog 94 #[.slice a len cap, cmdV c] W (CmdsPost (putK c cs) W) := by
  have HE := Lib.hid hN.1
  have HL := Lib.hid hl
  have hl' : (len : Int) ≤ 2000000 := by omega
  have HCL := Lib.hid (show cs.length ≤ 2000000 by have := hN.1; omega)
  have HBX := Lib.hid (fun d w => specBefore_c c d w)
  obtain ⟨p, fk, fv, tk, tv⟩ := c
  have hN0 := hN.keep (below_box W (.cells #[.string p, .int .i64 fk, .int .i64 fv, .int .i64 tk, .int .i64 tv] 33))
  have hA0 := five_new W (.string p) (.int .i64 fk) (.int .i64 fv) (.int .i64 tk) (.int .i64 tv) 33
  have hB0 := below_box W (.cells #[.string p, .int .i64 fk, .int .i64 fv, .int .i64 tk, .int .i64 tv] 33)
  have hZ0 : (W.alloc (.cells #[.string p, .int .i64 fk, .int .i64 fv, .int .i64 tk, .int .i64 tv] 33)).heap.size = W.heap.size + 1 := by simp
  clear hN hl
  unfold cmdV
  go_enter Tryz.func94, Tryz.ntmps94
  go_wp2
  generalize W.alloc (.cells #[.string p, .int .i64 fk, .int .i64 fv, .int .i64 tk, .int .i64 tv] 33) = W0 at hN0 hA0 hB0 hZ0 ⊢
  have HN := Lib.hid hN0
  have HA := Lib.hid hA0
  have HB0 := Lib.hid hB0
  have HZ := Lib.hid hZ0
  clear hN0 hA0 hB0 hZ0
  go_loopw [5, 6, 7] (fun o k i wr => PutKRel ⟨p, fk, fv, tk, tv⟩ cs W0 o k i wr) (fun _ _ i _ => len - (intOf i).toNat)
  case atStart => exact ⟨0, [], false, rfl, rfl, Nat.zero_le _, (by have := World.ownsRow_lit (e := 33) (size := 5) W0 #[] 0 (Nat.le_refl _) (by simp [maxLen]) rfl; rw [HZ.out] at this ⊢; exact this), put_mid0 _ _, below_box _ _⟩
  case round =>
    obtain ⟨n, acc, dn, rfl, rfl, hn, hown, HM, HB⟩ := hrel
    obtain ⟨a0, a1, a2, a3, a4, -⟩ := HA.out
    have HO := Lib.hid hown
    have HAL := Lib.hid (put_mid_len HM.out)
    by_cases hlt : n < len
    · have hlt' : (n : Int) < len := by omega
      have hw1 : IntKind.i64.wrap ((n : Int) + 1) = (n : Int) + 1 := IntWalk.i64_in _ (by omega)
      have HLT := Lib.hid hlt
      obtain ⟨b, off, d, rfl, hd, d0, d1, d2, d3, d4⟩ := HN.out.node hlt
      have HD := Lib.hid hd
      obtain ⟨bb, hbb⟩ : ∃ bb, befC ⟨p, fk, fv, tk, tv⟩ d = bb := ⟨_, rfl⟩
      have HBF := Lib.hid (fun w => show Calls Tryz.prog 65 #[cmdV ⟨p, fk, fv, tk, tv⟩, cmdV d] w (BoolPost bb w) by rw [← hbb]; exact HBX.out d w)
      have HBB := Lib.hid hbb
      obtain ⟨q, fk', fv', tk', tv'⟩ := d
      unfold cmdV at HBF
      simp only at d0 d1 d2 d3 d4 HBF
      have HS0 : Hid (Below W0.heap.size W0 wr.drew) := HB.out.drew
      clear hn hlt hd hown hbb
      cases dn with
      | true =>
        have HM2 := Lib.hid (put_mid_on HD.out HM.out)
        go_upto_region 6 with (fail)
        refine wp_region_held_drew (S := (fun w' => Below W0.heap.size W0 w')) (by kernel_rfl) HS0.out (fun hH => ?_)
        refine wpAnyH_take (i := 0) (oi := _) (v := ?_) rfl (by kernel_rfl) (by kernel_rfl) (by kernel_rfl) (fun _ _ _ h => h) (Or.inl ⟨by rfl, ?_⟩) (by assumption) ?_
        rotate_left
        · (intro w hSw; have s0 := cell_kept hSw a0; have s1 := cell_kept hSw a1; have s2 := cell_kept hSw a2; have s3 := cell_kept hSw a3; have s4 := cell_kept hSw a4; have r0 := cell_kept hSw d0; have r1 := cell_kept hSw d1; have r2 := cell_kept hSw d2; have r3 := cell_kept hSw d3; have r4 := cell_kept hSw d4; go_simp; try with_reducible rfl)
        try simp only [Act.put, List.getElem_toArray, List.getElem_cons_zero, List.setIfInBounds_toArray, List.set_cons_zero, List.set_cons_succ]
        refine wpAnyH_take (i := 1) (oi := _) (v := ?_) rfl (by kernel_rfl) (by kernel_rfl) (by kernel_rfl) (fun _ _ _ h => h) (Or.inl ⟨by rfl, ?_⟩) (by assumption) ?_
        rotate_left
        · (intro w hSw; have s0 := cell_kept hSw a0; have s1 := cell_kept hSw a1; have s2 := cell_kept hSw a2; have s3 := cell_kept hSw a3; have s4 := cell_kept hSw a4; have r0 := cell_kept hSw d0; have r1 := cell_kept hSw d1; have r2 := cell_kept hSw d2; have r3 := cell_kept hSw d3; have r4 := cell_kept hSw d4; go_simp; try with_reducible rfl)
        try simp only [Act.put, List.getElem_toArray, List.getElem_cons_zero, List.getElem_cons_succ, List.setIfInBounds_toArray, List.set_cons_zero, List.set_cons_succ]
        refine wpAnyH_take (i := 2) (oi := _) (v := ?_) rfl (by kernel_rfl) (by kernel_rfl) (by kernel_rfl) (fun _ _ _ h => h) (Or.inl ⟨by rfl, ?_⟩) (by assumption) ?_
        rotate_left
        · (intro w hSw; have s0 := cell_kept hSw a0; have s1 := cell_kept hSw a1; have s2 := cell_kept hSw a2; have s3 := cell_kept hSw a3; have s4 := cell_kept hSw a4; have r0 := cell_kept hSw d0; have r1 := cell_kept hSw d1; have r2 := cell_kept hSw d2; have r3 := cell_kept hSw d3; have r4 := cell_kept hSw d4; go_simp; try with_reducible rfl)
        try simp only [Act.put, List.getElem_toArray, List.getElem_cons_zero, List.getElem_cons_succ, List.setIfInBounds_toArray, List.set_cons_zero, List.set_cons_succ]
        first | refine wpAnyH_take (i := 3) (oi := _) (v := undef) rfl (by kernel_rfl) (by kernel_rfl) (by kernel_rfl) (fun _ _ _ h => h) (Or.inr ⟨by rfl, rfl⟩) (by assumption) ?_ | (refine wpAnyH_ready (rs := [3]) (by kernel_rfl) (by simp) ?_; refine AllReadyH.cons rfl (fun K hK => ?_) (AllReadyH.nil); rw [if_neg (by decide)]; refine hK.out _ _ (by assumption) (fun hHeld => ?_))
        try simp only [Act.put, List.getElem_toArray, List.getElem_cons_zero, List.getElem_cons_succ, List.setIfInBounds_toArray, List.set_cons_zero, List.set_cons_succ]
        first | refine wpAnyH_take (i := 4) (oi := _) (v := undef) rfl (by kernel_rfl) (by kernel_rfl) (by kernel_rfl) (fun _ _ _ h => h) (Or.inr ⟨by rfl, rfl⟩) (by assumption) ?_ | (refine wpAnyH_ready (rs := [4]) (by kernel_rfl) (by simp) ?_; refine AllReadyH.cons rfl (fun K hK => ?_) (AllReadyH.nil); rw [if_neg (by decide)]; refine hK.out _ _ (by assumption) (fun hHeld => ?_))
        try simp only [Act.put, List.getElem_toArray, List.getElem_cons_zero, List.getElem_cons_succ, List.setIfInBounds_toArray, List.set_cons_zero, List.set_cons_succ]
        first | refine wpAnyH_take (i := 5) (oi := _) (v := undef) rfl (by kernel_rfl) (by kernel_rfl) (by kernel_rfl) (fun _ _ _ h => h) (Or.inr ⟨by rfl, rfl⟩) (by assumption) ?_ | (refine wpAnyH_ready (rs := [5]) (by kernel_rfl) (by simp) ?_; refine AllReadyH.cons rfl (fun K hK => ?_) (AllReadyH.nil); rw [if_neg (by decide)]; refine hK.out _ _ (by assumption) (fun hHeld => ?_))
        try simp only [Act.put, List.getElem_toArray, List.getElem_cons_zero, List.getElem_cons_succ, List.setIfInBounds_toArray, List.set_cons_zero, List.set_cons_succ]
        first | refine wpAnyH_take (i := 6) (oi := _) (v := undef) rfl (by kernel_rfl) (by kernel_rfl) (by kernel_rfl) (fun _ _ _ h => h) (Or.inr ⟨by rfl, rfl⟩) (by assumption) ?_ | (refine wpAnyH_ready (rs := [6]) (by kernel_rfl) (by simp) ?_; refine AllReadyH.cons rfl (fun K hK => ?_) (AllReadyH.nil); rw [if_neg (by decide)]; refine hK.out _ _ (by assumption) (fun hHeld => ?_))
        try simp only [Act.put, List.getElem_toArray, List.getElem_cons_zero, List.getElem_cons_succ, List.setIfInBounds_toArray, List.set_cons_zero, List.set_cons_succ]
        first | refine wpAnyH_take (i := 7) (oi := _) (v := undef) rfl (by kernel_rfl) (by kernel_rfl) (by kernel_rfl) (fun _ _ _ h => h) (Or.inr ⟨by rfl, rfl⟩) (by assumption) ?_ | (refine wpAnyH_ready (rs := [7]) (by kernel_rfl) (by simp) ?_; refine AllReadyH.cons rfl (fun K hK => ?_) (AllReadyH.nil); rw [if_neg (by decide)]; refine hK.out _ _ (by assumption) (fun hHeld => ?_))
        try simp only [Act.put, List.getElem_toArray, List.getElem_cons_zero, List.getElem_cons_succ, List.setIfInBounds_toArray, List.set_cons_zero, List.set_cons_succ]
        first | refine wpAnyH_take (i := 8) (oi := _) (v := undef) rfl (by kernel_rfl) (by kernel_rfl) (by kernel_rfl) (fun _ _ _ h => h) (Or.inr ⟨by rfl, rfl⟩) (by assumption) ?_ | (refine wpAnyH_ready (rs := [8]) (by kernel_rfl) (by simp) ?_; refine AllReadyH.cons rfl (fun K hK => ?_) (AllReadyH.nil); rw [if_neg (by decide)]; refine hK.out _ _ (by assumption) (fun hHeld => ?_))
        try simp only [Act.put, List.getElem_toArray, List.getElem_cons_zero, List.getElem_cons_succ, List.setIfInBounds_toArray, List.set_cons_zero, List.set_cons_succ]
        refine wpAnyH_take (i := 9) (oi := _) (v := ?_) rfl (by kernel_rfl) (by kernel_rfl) (by kernel_rfl) (fun _ _ _ h => h) (Or.inl ⟨by rfl, ?_⟩) (by assumption) ?_
        rotate_left
        · (intro w hSw; have s0 := cell_kept hSw a0; have s1 := cell_kept hSw a1; have s2 := cell_kept hSw a2; have s3 := cell_kept hSw a3; have s4 := cell_kept hSw a4; have r0 := cell_kept hSw d0; have r1 := cell_kept hSw d1; have r2 := cell_kept hSw d2; have r3 := cell_kept hSw d3; have r4 := cell_kept hSw d4; go_simp; try with_reducible rfl)
        try simp only [Act.put, List.getElem_toArray, List.getElem_cons_zero, List.getElem_cons_succ, List.setIfInBounds_toArray, List.set_cons_zero, List.set_cons_succ]
        refine wpAnyH_done (by kernel_rfl) ?_ _
        have HO1 := Lib.hid (show wr.drew.ownsRow W0.heap.size _ _ _ _ _ from HO.out)
        generalize wr.drew = Wd at HS0 HO1 ⊢
        have e0 := cell_kept HS0.out d0
        have e1 := cell_kept HS0.out d1
        have e2 := cell_kept HS0.out d2
        have e3 := cell_kept HS0.out d3
        have e4 := cell_kept HS0.out d4
        clear a0 a1 a2 a3 a4 d0 d1 d2 d3 d4
        go_wp2_with (at_builtin; refine wpList_append_cmds rfl _ _ rfl W0.heap.size _ acc rfl (World.ownsRow.alloc (show Wd.ownsRow W0.heap.size _ _ _ _ _ from HO1.out) _) _ _ _ [(⟨q, fk', fv', tk', tv'⟩ : Cmd)] rfl (cmds_lit Wd (⟨q, fk', fv', tk', tv'⟩ : Cmd)) (by have := HAL.out; have := HCL.out; simp; omega) (by have := HS0.out.size; simp; omega) ?_; intro v4 w4 ho4 hg4; have HB4 := Lib.hid ((HS0.out.alloc HS0.out.size _).grown hg4 (by have := HS0.out.size; simp; omega) (fun k e => (HO1.out.lt k e).1)); clear hg4)
        go_roundw
        case rel => exact ⟨n + 1, _, true, rfl, by go_num, by have := HLT.out; have := HE.out; omega, ho4, HM2, HB4⟩
        case measure => have := HLT.out; simp [intOf]; omega
      | false =>
        go_upto_region 6 with (fail)
        refine wp_region_held_drew (S := (fun w' => Below W0.heap.size W0 w')) (by kernel_rfl) HS0.out (fun hH => ?_)
        refine wpAnyH_take (i := 0) (oi := _) (v := ?_) rfl (by kernel_rfl) (by kernel_rfl) (by kernel_rfl) (fun _ _ _ h => h) (Or.inl ⟨by rfl, ?_⟩) (by assumption) ?_
        rotate_left
        · (intro w hSw; have s0 := cell_kept hSw a0; have s1 := cell_kept hSw a1; have s2 := cell_kept hSw a2; have s3 := cell_kept hSw a3; have s4 := cell_kept hSw a4; have r0 := cell_kept hSw d0; have r1 := cell_kept hSw d1; have r2 := cell_kept hSw d2; have r3 := cell_kept hSw d3; have r4 := cell_kept hSw d4; go_simp; try with_reducible rfl)
        try simp only [Act.put, List.getElem_toArray, List.getElem_cons_zero, List.setIfInBounds_toArray, List.set_cons_zero, List.set_cons_succ]
        refine wpAnyH_take (i := 1) (oi := _) (v := ?_) rfl (by kernel_rfl) (by kernel_rfl) (by kernel_rfl) (fun _ _ _ h => h) (Or.inl ⟨by rfl, ?_⟩) (by assumption) ?_
        rotate_left
        · (intro w hSw; have s0 := cell_kept hSw a0; have s1 := cell_kept hSw a1; have s2 := cell_kept hSw a2; have s3 := cell_kept hSw a3; have s4 := cell_kept hSw a4; have r0 := cell_kept hSw d0; have r1 := cell_kept hSw d1; have r2 := cell_kept hSw d2; have r3 := cell_kept hSw d3; have r4 := cell_kept hSw d4; go_simp; try with_reducible rfl)
        try simp only [Act.put, List.getElem_toArray, List.getElem_cons_zero, List.getElem_cons_succ, List.setIfInBounds_toArray, List.set_cons_zero, List.set_cons_succ]
        refine wpAnyH_take (i := 2) (oi := _) (v := ?_) rfl (by kernel_rfl) (by kernel_rfl) (by kernel_rfl) (fun _ _ _ h => h) (Or.inl ⟨by rfl, ?_⟩) (by assumption) ?_
        rotate_left
        · (intro w hSw; have s0 := cell_kept hSw a0; have s1 := cell_kept hSw a1; have s2 := cell_kept hSw a2; have s3 := cell_kept hSw a3; have s4 := cell_kept hSw a4; have r0 := cell_kept hSw d0; have r1 := cell_kept hSw d1; have r2 := cell_kept hSw d2; have r3 := cell_kept hSw d3; have r4 := cell_kept hSw d4; go_simp; try with_reducible rfl)
        try simp only [Act.put, List.getElem_toArray, List.getElem_cons_zero, List.getElem_cons_succ, List.setIfInBounds_toArray, List.set_cons_zero, List.set_cons_succ]
        refine wpAnyH_take (i := 3) (oi := _) (v := ?_) rfl (by kernel_rfl) (by kernel_rfl) (by kernel_rfl) (fun _ _ _ h => h) (Or.inl ⟨by rfl, ?_⟩) (by assumption) ?_
        rotate_left
        · (intro w hSw; have s0 := cell_kept hSw a0; have s1 := cell_kept hSw a1; have s2 := cell_kept hSw a2; have s3 := cell_kept hSw a3; have s4 := cell_kept hSw a4; have r0 := cell_kept hSw d0; have r1 := cell_kept hSw d1; have r2 := cell_kept hSw d2; have r3 := cell_kept hSw d3; have r4 := cell_kept hSw d4; go_simp; try with_reducible rfl)
        try simp only [Act.put, List.getElem_toArray, List.getElem_cons_zero, List.getElem_cons_succ, List.setIfInBounds_toArray, List.set_cons_zero, List.set_cons_succ]
        refine wpAnyH_take (i := 4) (oi := _) (v := ?_) rfl (by kernel_rfl) (by kernel_rfl) (by kernel_rfl) (fun _ _ _ h => h) (Or.inl ⟨by rfl, ?_⟩) (by assumption) ?_
        rotate_left
        · (intro w hSw; have s0 := cell_kept hSw a0; have s1 := cell_kept hSw a1; have s2 := cell_kept hSw a2; have s3 := cell_kept hSw a3; have s4 := cell_kept hSw a4; have r0 := cell_kept hSw d0; have r1 := cell_kept hSw d1; have r2 := cell_kept hSw d2; have r3 := cell_kept hSw d3; have r4 := cell_kept hSw d4; go_simp; try with_reducible rfl)
        try simp only [Act.put, List.getElem_toArray, List.getElem_cons_zero, List.getElem_cons_succ, List.setIfInBounds_toArray, List.set_cons_zero, List.set_cons_succ]
        refine wpAnyH_take (i := 5) (oi := _) (v := ?_) rfl (by kernel_rfl) (by kernel_rfl) (by kernel_rfl) (fun _ _ _ h => h) (Or.inl ⟨by rfl, ?_⟩) (by assumption) ?_
        rotate_left
        · (intro w hSw; have s0 := cell_kept hSw a0; have s1 := cell_kept hSw a1; have s2 := cell_kept hSw a2; have s3 := cell_kept hSw a3; have s4 := cell_kept hSw a4; have r0 := cell_kept hSw d0; have r1 := cell_kept hSw d1; have r2 := cell_kept hSw d2; have r3 := cell_kept hSw d3; have r4 := cell_kept hSw d4; go_simp; try with_reducible rfl)
        try simp only [Act.put, List.getElem_toArray, List.getElem_cons_zero, List.getElem_cons_succ, List.setIfInBounds_toArray, List.set_cons_zero, List.set_cons_succ]
        refine wpAnyH_take (i := 6) (oi := _) (v := ?_) rfl (by kernel_rfl) (by kernel_rfl) (by kernel_rfl) (fun _ _ _ h => h) (Or.inl ⟨by rfl, ?_⟩) (by assumption) ?_
        rotate_left
        · (intro w hSw; have s0 := cell_kept hSw a0; have s1 := cell_kept hSw a1; have s2 := cell_kept hSw a2; have s3 := cell_kept hSw a3; have s4 := cell_kept hSw a4; have r0 := cell_kept hSw d0; have r1 := cell_kept hSw d1; have r2 := cell_kept hSw d2; have r3 := cell_kept hSw d3; have r4 := cell_kept hSw d4; go_simp; try with_reducible rfl)
        try simp only [Act.put, List.getElem_toArray, List.getElem_cons_zero, List.getElem_cons_succ, List.setIfInBounds_toArray, List.set_cons_zero, List.set_cons_succ]
        refine wpAnyH_take (i := 7) (oi := _) (v := ?_) rfl (by kernel_rfl) (by kernel_rfl) (by kernel_rfl) (fun _ _ _ h => h) (Or.inl ⟨by rfl, ?_⟩) (by assumption) ?_
        rotate_left
        · (intro w hSw; have s0 := cell_kept hSw a0; have s1 := cell_kept hSw a1; have s2 := cell_kept hSw a2; have s3 := cell_kept hSw a3; have s4 := cell_kept hSw a4; have r0 := cell_kept hSw d0; have r1 := cell_kept hSw d1; have r2 := cell_kept hSw d2; have r3 := cell_kept hSw d3; have r4 := cell_kept hSw d4; go_simp; try with_reducible rfl)
        try simp only [Act.put, List.getElem_toArray, List.getElem_cons_zero, List.getElem_cons_succ, List.setIfInBounds_toArray, List.set_cons_zero, List.set_cons_succ]
        refine wpAnyH_ready (rs := [8]) (by kernel_rfl) (by simp) ?_
        refine AllReadyH.cons rfl (fun K hK => ?_) (AllReadyH.nil)
        go_simp
        go_at_call 65; (with_reducible refine (HBF.out _).mono ?_); rintro e WA ⟨rfl, hbA⟩
        refine hK.out _ _ (below_next HS0.out hbA) (fun hHeld => ?_)
        try simp only [Act.put, List.getElem_toArray, List.getElem_cons_zero, List.getElem_cons_succ, List.setIfInBounds_toArray, List.set_cons_zero, List.set_cons_succ]
        refine wpAnyH_take (i := 9) (oi := _) (v := ?_) rfl (by kernel_rfl) (by kernel_rfl) (by kernel_rfl) (fun _ _ _ h => h) (Or.inl ⟨by rfl, ?_⟩) (by assumption) ?_
        rotate_left
        · (intro w hSw; have s0 := cell_kept hSw a0; have s1 := cell_kept hSw a1; have s2 := cell_kept hSw a2; have s3 := cell_kept hSw a3; have s4 := cell_kept hSw a4; have r0 := cell_kept hSw d0; have r1 := cell_kept hSw d1; have r2 := cell_kept hSw d2; have r3 := cell_kept hSw d3; have r4 := cell_kept hSw d4; go_simp; try with_reducible rfl)
        try simp only [Act.put, List.getElem_toArray, List.getElem_cons_zero, List.getElem_cons_succ, List.setIfInBounds_toArray, List.set_cons_zero, List.set_cons_succ]
        refine wpAnyH_done (by kernel_rfl) ?_ _
        have HBA := Lib.hid (below_next HS0.out hbA)
        have HOA := Lib.hid (own_below (show wr.drew.ownsRow W0.heap.size _ _ _ _ _ from HO.out) hbA)
        have e0 := cell_kept HBA.out d0
        have e1 := cell_kept HBA.out d1
        have e2 := cell_kept HBA.out d2
        have e3 := cell_kept HBA.out d3
        have e4 := cell_kept HBA.out d4
        have g0 := cell_kept HBA.out a0
        have g1 := cell_kept HBA.out a1
        have g2 := cell_kept HBA.out a2
        have g3 := cell_kept HBA.out a3
        have g4 := cell_kept HBA.out a4
        clear a0 a1 a2 a3 a4 hbA
        cases bb with
        | false =>
          have HM2 := Lib.hid (put_mid_no HD.out HM.out HBB.out)
          clear d0 d1 d2 d3 d4
          go_wp2_with (at_builtin; refine wpList_append_cmds rfl _ _ rfl W0.heap.size _ acc rfl (World.ownsRow.alloc (show WA.ownsRow W0.heap.size _ _ _ _ _ from HOA.out) _) _ _ _ [(⟨q, fk', fv', tk', tv'⟩ : Cmd)] rfl (cmds_lit WA (⟨q, fk', fv', tk', tv'⟩ : Cmd)) (by have := HAL.out; have := HCL.out; simp; omega) (by have := HBA.out.size; simp; omega) ?_; intro v4 w4 ho4 hg4; have HB4 := Lib.hid ((HBA.out.alloc HBA.out.size _).grown hg4 (by have := HBA.out.size; simp; omega) (fun k e => (HOA.out.lt k e).1)); clear hg4)
          go_roundw
          case rel => exact ⟨n + 1, _, false, rfl, by go_num, by have := HLT.out; have := HE.out; omega, ho4, HM2, HB4⟩
          case measure => have := HLT.out; simp [intOf]; omega
        | true =>
          have HM2 := Lib.hid (put_mid_now HD.out HM.out HBB.out)
          go_wp2_with (first | (at_builtin; refine wpList_append_cmds rfl _ _ rfl W0.heap.size _ acc rfl (World.ownsRow.alloc (show WA.ownsRow W0.heap.size _ _ _ _ _ from HOA.out) _) _ _ _ [(⟨p, fk, fv, tk, tv⟩ : Cmd)] rfl (cmds_lit WA (⟨p, fk, fv, tk, tv⟩ : Cmd)) (by have := HAL.out; have := HCL.out; simp; omega) (by have := HBA.out.size; simp; omega) ?_; intro v4 w4 ho4 hg4; have HB4 := Lib.hid ((HBA.out.alloc HBA.out.size _).grown hg4 (by have := HBA.out.size; simp; omega) (fun k e => (HOA.out.lt k e).1)); have HO4 := Lib.hid ho4; clear hg4 ho4 e0 e1 e2 e3 e4 g0 g1 g2 g3 g4; have e0 := cell_kept HB4.out d0; have e1 := cell_kept HB4.out d1; have e2 := cell_kept HB4.out d2; have e3 := cell_kept HB4.out d3; have e4 := cell_kept HB4.out d4) | (at_builtin; refine wpList_append_cmds rfl _ _ rfl W0.heap.size _ (acc ++ [(⟨p, fk, fv, tk, tv⟩ : Cmd)]) rfl (World.ownsRow.alloc (show w4.ownsRow W0.heap.size _ _ _ _ _ from HO4.out) _) _ _ _ [(⟨q, fk', fv', tk', tv'⟩ : Cmd)] rfl (cmds_lit w4 (⟨q, fk', fv', tk', tv'⟩ : Cmd)) (by have := HAL.out; have := HCL.out; simp; omega) (by have := HB4.out.size; simp; omega) ?_; intro v5 w5 ho5 hg5; have HB5 := Lib.hid ((HB4.out.alloc HB4.out.size _).grown hg5 (by have := HB4.out.size; simp; omega) (fun k e => (HO4.out.lt k e).1)); clear hg5))
          go_roundw
          case rel => exact ⟨n + 1, _, true, rfl, by go_num, by have := HLT.out; have := HE.out; omega, ho5, HM2, HB5⟩
          case measure => have := HLT.out; simp [intOf]; omega
    · have hge : (len : Int) ≤ n := by omega
      have hie : n = cs.length := by have := HE.out; omega
      subst hie
      clear hn hlt hown
      cases dn with
      | true =>
        have HX := Lib.hid (put_end_yes HM.out)
        go_wp2
        go_ret
        exact ⟨⟨_, rfl, by rw [← HX.out]; exact own_mono HO.out HB0.out.size⟩, HB0.out.trans (HB.out.mono HB0.out.size)⟩
      | false =>
        have HX := Lib.hid (put_end_no HM.out)
        have g0 := cell_kept HB.out a0
        have g1 := cell_kept HB.out a1
        have g2 := cell_kept HB.out a2
        have g3 := cell_kept HB.out a3
        have g4 := cell_kept HB.out a4
        clear a0 a1 a2 a3 a4
        go_wp2_with (at_builtin; refine wpList_append_cmds rfl _ _ rfl W0.heap.size _ acc rfl (World.ownsRow.alloc (show wr.ownsRow W0.heap.size _ _ _ _ _ from HO.out) _) _ _ _ [(⟨p, fk, fv, tk, tv⟩ : Cmd)] rfl (cmds_lit wr (⟨p, fk, fv, tk, tv⟩ : Cmd)) (by have := HAL.out; have := HCL.out; simp; omega) (by have := HB.out.size; simp; omega) ?_; intro v4 w4 ho4 hg4; have HB4 := Lib.hid ((HB.out.alloc HB.out.size _).grown hg4 (by have := HB.out.size; simp; omega) (fun k e => (HO.out.lt k e).1)); clear hg4)
        go_ret
        exact ⟨⟨_, rfl, by rw [← HX.out]; exact own_mono ho4 HB0.out.size⟩, HB0.out.trans (HB4.out.mono HB0.out.size)⟩

set_option maxHeartbeats 2000000 in
set_option maxRecDepth 100000 in
theorem specSort_c (a : Option Addr) (len cap : Nat) (cs : List Cmd) (hl : len ≤ 2000000) (W : World) (hN : CmdsAt W a len cs) :
    Calls Tryz.prog 80 #[.slice a len cap] W (CmdsPost (sortK cs) W) := by
  have HN := Lib.hid hN
  have HE := Lib.hid hN.1
  have HL := Lib.hid hl
  have hl' : (len : Int) ≤ 2000000 := by omega
  have HP := Lib.hid (fun a len cap cs c h W hN => specPut_c a len cap cs c h W hN)
  clear hN hl
  go_enter Tryz.func80, Tryz.ntmps80
  go_wp2
  go_loopw [3, 4] (fun o i wr => ∃ n : Nat, i = .int .i64 n ∧ n ≤ len ∧ wr.ownsRow W.heap.size 33 5 o (sortMid cs n).length (flatC (sortMid cs n)) ∧ Hid (Below W.heap.size W wr)) (fun _ i _ => len - (intOf i).toNat)
  case atStart => exact ⟨0, rfl, Nat.zero_le _, World.ownsRow_lit (e := 33) (size := 5) W #[] 0 (Nat.le_refl _) (by simp [maxLen]) rfl, below_box _ _⟩
  case round =>
    obtain ⟨n, rfl, hn, hown, HB⟩ := hrel
    by_cases hlt : n < len
    · have hlt' : (n : Int) < len := by omega
      have hw1 : IntKind.i64.wrap ((n : Int) + 1) = (n : Int) + 1 := IntWalk.i64_in _ (by omega)
      have HLT := Lib.hid hlt
      obtain ⟨b, off, d, rfl, hd, d0, d1, d2, d3, d4⟩ := (HN.out.keep HB.out).node hlt
      have HS := Lib.hid (sort_next hd)
      obtain ⟨ao, co, rfl, hco⟩ := cmds_of_own hown
      have HPP := Lib.hid (HP.out ao (sortMid cs n).length co (sortMid cs n) d (by have := sort_mid_len cs n; have := HL.out; omega) wr hco)
      obtain ⟨q, fk', fv', tk', tv'⟩ := d
      unfold cmdV at HPP
      simp only at d0 d1 d2 d3 d4 HPP
      clear hn hlt hd hown hco
      go_wp2_with fail
      refine HPP.out.mono ?_
      rintro e W2 ⟨⟨sl, rfl, ho⟩, hb2⟩
      have HO := Lib.hid (own_mono ho HB.out.size)
      have HB2 := Lib.hid (below_next HB.out hb2)
      clear ho hb2 d0 d1 d2 d3 d4
      rw [← HS.out] at HO
      go_wp2
      go_roundw
      case rel => exact ⟨n + 1, by go_num, by have := HLT.out; omega, HO.out, HB2⟩
      case measure => have := HLT.out; simp [intOf]; omega
    · have hge : (len : Int) ≤ n := by omega
      have hie : n = cs.length := by have := HE.out; omega
      subst hie
      have HX := Lib.hid (sort_mid_all cs)
      have HO := Lib.hid hown
      clear hn hlt hown
      go_wp2
      go_ret
      exact ⟨⟨_, rfl, by rw [← HX.out]; exact HO.out⟩, HB.out⟩

end Go.Proofs.YtohdpbalajjjiaaGreat
