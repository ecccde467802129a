/-
  Texts of this proof, one behind the other: Ng, Nh, Nj, Hd, He, Hf, Hg, Hh, Hm, Os, Ox, Ow.
-/
import Derived.Deep.RegionHeld3
import Derived.Deep.Cut
import Derived.Maps.Own
import Derived.Maps.OwnSet
import Derived.Laws.Cover1
import Derived.StillTailTactics
import Derived.WalkSmall
import Derived.Maps.RangeWalk
import Derived.Sort.OwnSorted
import Derived.Sort.KeysCollected
import Derived.RegionTactic
import Derived.Deep.RegionWith
import Derived.Test.YtpjoahddbdmbpaaQ3
import Derived.Test.YtpjoahddbdmbpaaQ10
import Derived.Test.YtpjoahddbdmbpaaQ1
import Derived.Test.YtpjoahddbdmbpaaHb
import Derived.Test.YtpjoahddbdmbpaaQ5
import Derived.Test.YtpjoahddbdmbpaaQ6
/-
  WALKS: canonical logs of the model, second part: spec.l14Put, l14Sort.
-/
namespace Go.Proofs.Ytpjoahddbdmbpaa
open Go.RowKit
set_option linter.unusedVariables false

def PutKRel (c : Cmd) (cs : List Cmd) (W0 : World) (o k i : Value) (wr : World) : Prop :=
  ∃ (n : Nat) (acc : List Cmd) (dn : Bool), k = .bool dn ∧ i = .int .i64 n ∧ n ≤ cs.length ∧ wr.ownsRow W0.heap.size 26 5 o acc.length (flatC acc) ∧ Hid (putMid c cs n dn acc) ∧ Hid (Below W0.heap.size W0 wr)

set_option maxHeartbeats 4000000 in
set_option maxRecDepth 100000 in
theorem specPut_c (a : Option Addr) (len cap : Nat) (cs : List Cmd) (c : Cmd) (hl : len ≤ 2000000) (W : World) (hN : CmdsAt W a len cs) :
    Calls Try.prog 96 #[.slice a len cap, cmdV c] W (CmdsPost (putK c cs) W) := by
  have HE := Lib.hid hN.1
  have HL := Lib.hid hl
  have hl' : (len : Int) ≤ 2000000 := by omega
  have HCL := Lib.hid (show cs.length ≤ 2000000 by have := hN.1; omega)
  have HBX := Lib.hid (fun d w => specBefore_c c d w)
  obtain ⟨p, fk, fv, tk, tv⟩ := c
  have hN0 := hN.keep (below_box W (.cells #[.string p, .int .i64 fk, .int .i64 fv, .int .i64 tk, .int .i64 tv] 26))
  have hA0 := five_new W (.string p) (.int .i64 fk) (.int .i64 fv) (.int .i64 tk) (.int .i64 tv) 26
  have hB0 := below_box W (.cells #[.string p, .int .i64 fk, .int .i64 fv, .int .i64 tk, .int .i64 tv] 26)
  have hZ0 : (W.alloc (.cells #[.string p, .int .i64 fk, .int .i64 fv, .int .i64 tk, .int .i64 tv] 26)).heap.size = W.heap.size + 1 := by simp
  clear hN hl
  unfold cmdV
  go_enter Try.func96, Try.ntmps96
  go_wp2
  generalize W.alloc (.cells #[.string p, .int .i64 fk, .int .i64 fv, .int .i64 tk, .int .i64 tv] 26) = W0 at hN0 hA0 hB0 hZ0 ⊢
  have HN := Lib.hid hN0
  have HA := Lib.hid hA0
  have HB0 := Lib.hid hB0
  have HZ := Lib.hid hZ0
  clear hN0 hA0 hB0 hZ0
  go_loopw [5, 6, 7] (fun o k i wr => PutKRel ⟨p, fk, fv, tk, tv⟩ cs W0 o k i wr) (fun _ _ i _ => len - (intOf i).toNat)
  case atStart => exact ⟨0, [], false, rfl, rfl, Nat.zero_le _, (by have := World.ownsRow_lit (e := 26) (size := 5) W0 #[] 0 (Nat.le_refl _) (by simp [maxLen]) rfl; rw [HZ.out] at this ⊢; exact this), put_mid0 _ _, below_box _ _⟩
  case round =>
    obtain ⟨n, acc, dn, rfl, rfl, hn, hown, HM, HB⟩ := hrel
    obtain ⟨a0, a1, a2, a3, a4, -⟩ := HA.out
    have HO := Lib.hid hown
    have HAL := Lib.hid (put_mid_len HM.out)
    by_cases hlt : n < len
    · have hlt' : (n : Int) < len := by omega
      have hw1 : IntKind.i64.wrap ((n : Int) + 1) = (n : Int) + 1 := IntWalk.i64_in _ (by omega)
      have HLT := Lib.hid hlt
      obtain ⟨b, off, d, rfl, hd, d0, d1, d2, d3, d4⟩ := HN.out.node hlt
      have HD := Lib.hid hd
      obtain ⟨bb, hbb⟩ : ∃ bb, befC ⟨p, fk, fv, tk, tv⟩ d = bb := ⟨_, rfl⟩
      have HBF := Lib.hid (fun w => show Calls Try.prog 102 #[cmdV ⟨p, fk, fv, tk, tv⟩, cmdV d] w (BoolPost bb w) by rw [← hbb]; exact HBX.out d w)
      have HBB := Lib.hid hbb
      obtain ⟨q, fk', fv', tk', tv'⟩ := d
      unfold cmdV at HBF
      simp only at d0 d1 d2 d3 d4 HBF
      have HS0 : Hid (Below W0.heap.size W0 wr.drew) := HB.out.drew
      clear hn hlt hd hown hbb
      cases dn with
      | true =>
        have HM2 := Lib.hid (put_mid_on HD.out HM.out)
        go_upto_region 6 with (fail)
        refine wp_region_held_drew (S := (fun w' => Below W0.heap.size W0 w')) (by kernel_rfl) HS0.out (fun hH => ?_)
        refine wpAnyH_take (i := 0) (oi := _) (v := ?_) rfl (by kernel_rfl) (by kernel_rfl) (by kernel_rfl) (fun _ _ _ h => h) (Or.inl ⟨by rfl, ?_⟩) (by assumption) ?_
        rotate_left
        · (intro w hSw; have s0 := cell_kept hSw a0; have s1 := cell_kept hSw a1; have s2 := cell_kept hSw a2; have s3 := cell_kept hSw a3; have s4 := cell_kept hSw a4; have r0 := cell_kept hSw d0; have r1 := cell_kept hSw d1; have r2 := cell_kept hSw d2; have r3 := cell_kept hSw d3; have r4 := cell_kept hSw d4; go_simp; try with_reducible rfl)
        try simp only [Act.put, List.getElem_toArray, List.getElem_cons_zero, List.setIfInBounds_toArray, List.set_cons_zero, List.set_cons_succ]
        refine wpAnyH_take (i := 1) (oi := _) (v := ?_) rfl (by kernel_rfl) (by kernel_rfl) (by kernel_rfl) (fun _ _ _ h => h) (Or.inl ⟨by rfl, ?_⟩) (by assumption) ?_
        rotate_left
        · (intro w hSw; have s0 := cell_kept hSw a0; have s1 := cell_kept hSw a1; have s2 := cell_kept hSw a2; have s3 := cell_kept hSw a3; have s4 := cell_kept hSw a4; have r0 := cell_kept hSw d0; have r1 := cell_kept hSw d1; have r2 := cell_kept hSw d2; have r3 := cell_kept hSw d3; have r4 := cell_kept hSw d4; go_simp; try with_reducible rfl)
        try simp only [Act.put, List.getElem_toArray, List.getElem_cons_zero, List.getElem_cons_succ, List.setIfInBounds_toArray, List.set_cons_zero, List.set_cons_succ]
        refine wpAnyH_take (i := 2) (oi := _) (v := ?_) rfl (by kernel_rfl) (by kernel_rfl) (by kernel_rfl) (fun _ _ _ h => h) (Or.inl ⟨by rfl, ?_⟩) (by assumption) ?_
        rotate_left
        · (intro w hSw; have s0 := cell_kept hSw a0; have s1 := cell_kept hSw a1; have s2 := cell_kept hSw a2; have s3 := cell_kept hSw a3; have s4 := cell_kept hSw a4; have r0 := cell_kept hSw d0; have r1 := cell_kept hSw d1; have r2 := cell_kept hSw d2; have r3 := cell_kept hSw d3; have r4 := cell_kept hSw d4; go_simp; try with_reducible rfl)
        try simp only [Act.put, List.getElem_toArray, List.getElem_cons_zero, List.getElem_cons_succ, List.setIfInBounds_toArray, List.set_cons_zero, List.set_cons_succ]
        first | refine wpAnyH_take (i := 3) (oi := _) (v := undef) rfl (by kernel_rfl) (by kernel_rfl) (by kernel_rfl) (fun _ _ _ h => h) (Or.inr ⟨by rfl, rfl⟩) (by assumption) ?_ | (refine wpAnyH_ready (rs := [3]) (by kernel_rfl) (by simp) ?_; refine AllReadyH.cons rfl (fun K hK => ?_) (AllReadyH.nil); rw [if_neg (by decide)]; refine hK.out _ _ (by assumption) (fun hHeld => ?_))
        try simp only [Act.put, List.getElem_toArray, List.getElem_cons_zero, List.getElem_cons_succ, List.setIfInBounds_toArray, List.set_cons_zero, List.set_cons_succ]
        first | refine wpAnyH_take (i := 4) (oi := _) (v := undef) rfl (by kernel_rfl) (by kernel_rfl) (by kernel_rfl) (fun _ _ _ h => h) (Or.inr ⟨by rfl, rfl⟩) (by assumption) ?_ | (refine wpAnyH_ready (rs := [4]) (by kernel_rfl) (by simp) ?_; refine AllReadyH.cons rfl (fun K hK => ?_) (AllReadyH.nil); rw [if_neg (by decide)]; refine hK.out _ _ (by assumption) (fun hHeld => ?_))
        try simp only [Act.put, List.getElem_toArray, List.getElem_cons_zero, List.getElem_cons_succ, List.setIfInBounds_toArray, List.set_cons_zero, List.set_cons_succ]
        first | refine wpAnyH_take (i := 5) (oi := _) (v := undef) rfl (by kernel_rfl) (by kernel_rfl) (by kernel_rfl) (fun _ _ _ h => h) (Or.inr ⟨by rfl, rfl⟩) (by assumption) ?_ | (refine wpAnyH_ready (rs := [5]) (by kernel_rfl) (by simp) ?_; refine AllReadyH.cons rfl (fun K hK => ?_) (AllReadyH.nil); rw [if_neg (by decide)]; refine hK.out _ _ (by assumption) (fun hHeld => ?_))
        try simp only [Act.put, List.getElem_toArray, List.getElem_cons_zero, List.getElem_cons_succ, List.setIfInBounds_toArray, List.set_cons_zero, List.set_cons_succ]
        first | refine wpAnyH_take (i := 6) (oi := _) (v := undef) rfl (by kernel_rfl) (by kernel_rfl) (by kernel_rfl) (fun _ _ _ h => h) (Or.inr ⟨by rfl, rfl⟩) (by assumption) ?_ | (refine wpAnyH_ready (rs := [6]) (by kernel_rfl) (by simp) ?_; refine AllReadyH.cons rfl (fun K hK => ?_) (AllReadyH.nil); rw [if_neg (by decide)]; refine hK.out _ _ (by assumption) (fun hHeld => ?_))
        try simp only [Act.put, List.getElem_toArray, List.getElem_cons_zero, List.getElem_cons_succ, List.setIfInBounds_toArray, List.set_cons_zero, List.set_cons_succ]
        first | refine wpAnyH_take (i := 7) (oi := _) (v := undef) rfl (by kernel_rfl) (by kernel_rfl) (by kernel_rfl) (fun _ _ _ h => h) (Or.inr ⟨by rfl, rfl⟩) (by assumption) ?_ | (refine wpAnyH_ready (rs := [7]) (by kernel_rfl) (by simp) ?_; refine AllReadyH.cons rfl (fun K hK => ?_) (AllReadyH.nil); rw [if_neg (by decide)]; refine hK.out _ _ (by assumption) (fun hHeld => ?_))
        try simp only [Act.put, List.getElem_toArray, List.getElem_cons_zero, List.getElem_cons_succ, List.setIfInBounds_toArray, List.set_cons_zero, List.set_cons_succ]
        first | refine wpAnyH_take (i := 8) (oi := _) (v := undef) rfl (by kernel_rfl) (by kernel_rfl) (by kernel_rfl) (fun _ _ _ h => h) (Or.inr ⟨by rfl, rfl⟩) (by assumption) ?_ | (refine wpAnyH_ready (rs := [8]) (by kernel_rfl) (by simp) ?_; refine AllReadyH.cons rfl (fun K hK => ?_) (AllReadyH.nil); rw [if_neg (by decide)]; refine hK.out _ _ (by assumption) (fun hHeld => ?_))
        try simp only [Act.put, List.getElem_toArray, List.getElem_cons_zero, List.getElem_cons_succ, List.setIfInBounds_toArray, List.set_cons_zero, List.set_cons_succ]
        refine wpAnyH_take (i := 9) (oi := _) (v := ?_) rfl (by kernel_rfl) (by kernel_rfl) (by kernel_rfl) (fun _ _ _ h => h) (Or.inl ⟨by rfl, ?_⟩) (by assumption) ?_
        rotate_left
        · (intro w hSw; have s0 := cell_kept hSw a0; have s1 := cell_kept hSw a1; have s2 := cell_kept hSw a2; have s3 := cell_kept hSw a3; have s4 := cell_kept hSw a4; have r0 := cell_kept hSw d0; have r1 := cell_kept hSw d1; have r2 := cell_kept hSw d2; have r3 := cell_kept hSw d3; have r4 := cell_kept hSw d4; go_simp; try with_reducible rfl)
        try simp only [Act.put, List.getElem_toArray, List.getElem_cons_zero, List.getElem_cons_succ, List.setIfInBounds_toArray, List.set_cons_zero, List.set_cons_succ]
        refine wpAnyH_done (by kernel_rfl) ?_ _
        have HO1 := Lib.hid (show wr.drew.ownsRow W0.heap.size _ _ _ _ _ from HO.out)
        generalize wr.drew = Wd at HS0 HO1 ⊢
        have e0 := cell_kept HS0.out d0
        have e1 := cell_kept HS0.out d1
        have e2 := cell_kept HS0.out d2
        have e3 := cell_kept HS0.out d3
        have e4 := cell_kept HS0.out d4
        clear a0 a1 a2 a3 a4 d0 d1 d2 d3 d4
        go_wp2_with (at_builtin; refine wpList_append_cmds rfl _ _ rfl W0.heap.size _ acc rfl (World.ownsRow.alloc (show Wd.ownsRow W0.heap.size _ _ _ _ _ from HO1.out) _) _ _ _ [(⟨q, fk', fv', tk', tv'⟩ : Cmd)] rfl (cmds_lit Wd (⟨q, fk', fv', tk', tv'⟩ : Cmd)) (by have := HAL.out; have := HCL.out; simp; omega) (by have := HS0.out.size; simp; omega) ?_; intro v4 w4 ho4 hg4; have HB4 := Lib.hid ((HS0.out.alloc HS0.out.size _).grown hg4 (by have := HS0.out.size; simp; omega) (fun k e => (HO1.out.lt k e).1)); clear hg4)
        go_roundw
        case rel => exact ⟨n + 1, _, true, rfl, by go_num, by have := HLT.out; have := HE.out; omega, ho4, HM2, HB4⟩
        case measure => have := HLT.out; simp [intOf]; omega
      | false =>
        go_upto_region 6 with (fail)
        refine wp_region_held_drew (S := (fun w' => Below W0.heap.size W0 w')) (by kernel_rfl) HS0.out (fun hH => ?_)
        refine wpAnyH_take (i := 0) (oi := _) (v := ?_) rfl (by kernel_rfl) (by kernel_rfl) (by kernel_rfl) (fun _ _ _ h => h) (Or.inl ⟨by rfl, ?_⟩) (by assumption) ?_
        rotate_left
        · (intro w hSw; have s0 := cell_kept hSw a0; have s1 := cell_kept hSw a1; have s2 := cell_kept hSw a2; have s3 := cell_kept hSw a3; have s4 := cell_kept hSw a4; have r0 := cell_kept hSw d0; have r1 := cell_kept hSw d1; have r2 := cell_kept hSw d2; have r3 := cell_kept hSw d3; have r4 := cell_kept hSw d4; go_simp; try with_reducible rfl)
        try simp only [Act.put, List.getElem_toArray, List.getElem_cons_zero, List.setIfInBounds_toArray, List.set_cons_zero, List.set_cons_succ]
        refine wpAnyH_take (i := 1) (oi := _) (v := ?_) rfl (by kernel_rfl) (by kernel_rfl) (by kernel_rfl) (fun _ _ _ h => h) (Or.inl ⟨by rfl, ?_⟩) (by assumption) ?_
        rotate_left
        · (intro w hSw; have s0 := cell_kept hSw a0; have s1 := cell_kept hSw a1; have s2 := cell_kept hSw a2; have s3 := cell_kept hSw a3; have s4 := cell_kept hSw a4; have r0 := cell_kept hSw d0; have r1 := cell_kept hSw d1; have r2 := cell_kept hSw d2; have r3 := cell_kept hSw d3; have r4 := cell_kept hSw d4; go_simp; try with_reducible rfl)
        try simp only [Act.put, List.getElem_toArray, List.getElem_cons_zero, List.getElem_cons_succ, List.setIfInBounds_toArray, List.set_cons_zero, List.set_cons_succ]
        refine wpAnyH_take (i := 2) (oi := _) (v := ?_) rfl (by kernel_rfl) (by kernel_rfl) (by kernel_rfl) (fun _ _ _ h => h) (Or.inl ⟨by rfl, ?_⟩) (by assumption) ?_
        rotate_left
        · (intro w hSw; have s0 := cell_kept hSw a0; have s1 := cell_kept hSw a1; have s2 := cell_kept hSw a2; have s3 := cell_kept hSw a3; have s4 := cell_kept hSw a4; have r0 := cell_kept hSw d0; have r1 := cell_kept hSw d1; have r2 := cell_kept hSw d2; have r3 := cell_kept hSw d3; have r4 := cell_kept hSw d4; go_simp; try with_reducible rfl)
        try simp only [Act.put, List.getElem_toArray, List.getElem_cons_zero, List.getElem_cons_succ, List.setIfInBounds_toArray, List.set_cons_zero, List.set_cons_succ]
        refine wpAnyH_take (i := 3) (oi := _) (v := ?_) rfl (by kernel_rfl) (by kernel_rfl) (by kernel_rfl) (fun _ _ _ h => h) (Or.inl ⟨by rfl, ?_⟩) (by assumption) ?_
        rotate_left
        · (intro w hSw; have s0 := cell_kept hSw a0; have s1 := cell_kept hSw a1; have s2 := cell_kept hSw a2; have s3 := cell_kept hSw a3; have s4 := cell_kept hSw a4; have r0 := cell_kept hSw d0; have r1 := cell_kept hSw d1; have r2 := cell_kept hSw d2; have r3 := cell_kept hSw d3; have r4 := cell_kept hSw d4; go_simp; try with_reducible rfl)
        try simp only [Act.put, List.getElem_toArray, List.getElem_cons_zero, List.getElem_cons_succ, List.setIfInBounds_toArray, List.set_cons_zero, List.set_cons_succ]
        refine wpAnyH_take (i := 4) (oi := _) (v := ?_) rfl (by kernel_rfl) (by kernel_rfl) (by kernel_rfl) (fun _ _ _ h => h) (Or.inl ⟨by rfl, ?_⟩) (by assumption) ?_
        rotate_left
        · (intro w hSw; have s0 := cell_kept hSw a0; have s1 := cell_kept hSw a1; have s2 := cell_kept hSw a2; have s3 := cell_kept hSw a3; have s4 := cell_kept hSw a4; have r0 := cell_kept hSw d0; have r1 := cell_kept hSw d1; have r2 := cell_kept hSw d2; have r3 := cell_kept hSw d3; have r4 := cell_kept hSw d4; go_simp; try with_reducible rfl)
        try simp only [Act.put, List.getElem_toArray, List.getElem_cons_zero, List.getElem_cons_succ, List.setIfInBounds_toArray, List.set_cons_zero, List.set_cons_succ]
        refine wpAnyH_take (i := 5) (oi := _) (v := ?_) rfl (by kernel_rfl) (by kernel_rfl) (by kernel_rfl) (fun _ _ _ h => h) (Or.inl ⟨by rfl, ?_⟩) (by assumption) ?_
        rotate_left
        · (intro w hSw; have s0 := cell_kept hSw a0; have s1 := cell_kept hSw a1; have s2 := cell_kept hSw a2; have s3 := cell_kept hSw a3; have s4 := cell_kept hSw a4; have r0 := cell_kept hSw d0; have r1 := cell_kept hSw d1; have r2 := cell_kept hSw d2; have r3 := cell_kept hSw d3; have r4 := cell_kept hSw d4; go_simp; try with_reducible rfl)
        try simp only [Act.put, List.getElem_toArray, List.getElem_cons_zero, List.getElem_cons_succ, List.setIfInBounds_toArray, List.set_cons_zero, List.set_cons_succ]
        refine wpAnyH_take (i := 6) (oi := _) (v := ?_) rfl (by kernel_rfl) (by kernel_rfl) (by kernel_rfl) (fun _ _ _ h => h) (Or.inl ⟨by rfl, ?_⟩) (by assumption) ?_
        rotate_left
        · (intro w hSw; have s0 := cell_kept hSw a0; have s1 := cell_kept hSw a1; have s2 := cell_kept hSw a2; have s3 := cell_kept hSw a3; have s4 := cell_kept hSw a4; have r0 := cell_kept hSw d0; have r1 := cell_kept hSw d1; have r2 := cell_kept hSw d2; have r3 := cell_kept hSw d3; have r4 := cell_kept hSw d4; go_simp; try with_reducible rfl)
        try simp only [Act.put, List.getElem_toArray, List.getElem_cons_zero, List.getElem_cons_succ, List.setIfInBounds_toArray, List.set_cons_zero, List.set_cons_succ]
        refine wpAnyH_take (i := 7) (oi := _) (v := ?_) rfl (by kernel_rfl) (by kernel_rfl) (by kernel_rfl) (fun _ _ _ h => h) (Or.inl ⟨by rfl, ?_⟩) (by assumption) ?_
        rotate_left
        · (intro w hSw; have s0 := cell_kept hSw a0; have s1 := cell_kept hSw a1; have s2 := cell_kept hSw a2; have s3 := cell_kept hSw a3; have s4 := cell_kept hSw a4; have r0 := cell_kept hSw d0; have r1 := cell_kept hSw d1; have r2 := cell_kept hSw d2; have r3 := cell_kept hSw d3; have r4 := cell_kept hSw d4; go_simp; try with_reducible rfl)
        try simp only [Act.put, List.getElem_toArray, List.getElem_cons_zero, List.getElem_cons_succ, List.setIfInBounds_toArray, List.set_cons_zero, List.set_cons_succ]
        refine wpAnyH_ready (rs := [8]) (by kernel_rfl) (by simp) ?_
        refine AllReadyH.cons rfl (fun K hK => ?_) (AllReadyH.nil)
        go_simp
        go_at_call 102; (with_reducible refine (HBF.out _).mono ?_); rintro e WA ⟨rfl, hbA⟩
        refine hK.out _ _ (below_next HS0.out hbA) (fun hHeld => ?_)
        try simp only [Act.put, List.getElem_toArray, List.getElem_cons_zero, List.getElem_cons_succ, List.setIfInBounds_toArray, List.set_cons_zero, List.set_cons_succ]
        refine wpAnyH_take (i := 9) (oi := _) (v := ?_) rfl (by kernel_rfl) (by kernel_rfl) (by kernel_rfl) (fun _ _ _ h => h) (Or.inl ⟨by rfl, ?_⟩) (by assumption) ?_
        rotate_left
        · (intro w hSw; have s0 := cell_kept hSw a0; have s1 := cell_kept hSw a1; have s2 := cell_kept hSw a2; have s3 := cell_kept hSw a3; have s4 := cell_kept hSw a4; have r0 := cell_kept hSw d0; have r1 := cell_kept hSw d1; have r2 := cell_kept hSw d2; have r3 := cell_kept hSw d3; have r4 := cell_kept hSw d4; go_simp; try with_reducible rfl)
        try simp only [Act.put, List.getElem_toArray, List.getElem_cons_zero, List.getElem_cons_succ, List.setIfInBounds_toArray, List.set_cons_zero, List.set_cons_succ]
        refine wpAnyH_done (by kernel_rfl) ?_ _
        have HBA := Lib.hid (below_next HS0.out hbA)
        have HOA := Lib.hid (own_below (show wr.drew.ownsRow W0.heap.size _ _ _ _ _ from HO.out) hbA)
        have e0 := cell_kept HBA.out d0
        have e1 := cell_kept HBA.out d1
        have e2 := cell_kept HBA.out d2
        have e3 := cell_kept HBA.out d3
        have e4 := cell_kept HBA.out d4
        have g0 := cell_kept HBA.out a0
        have g1 := cell_kept HBA.out a1
        have g2 := cell_kept HBA.out a2
        have g3 := cell_kept HBA.out a3
        have g4 := cell_kept HBA.out a4
        clear a0 a1 a2 a3 a4 hbA
        cases bb with
        | false =>
          have HM2 := Lib.hid (put_mid_no HD.out HM.out HBB.out)
          clear d0 d1 d2 d3 d4
          go_wp2_with (at_builtin; refine wpList_append_cmds rfl _ _ rfl W0.heap.size _ acc rfl (World.ownsRow.alloc (show WA.ownsRow W0.heap.size _ _ _ _ _ from HOA.out) _) _ _ _ [(⟨q, fk', fv', tk', tv'⟩ : Cmd)] rfl (cmds_lit WA (⟨q, fk', fv', tk', tv'⟩ : Cmd)) (by have := HAL.out; have := HCL.out; simp; omega) (by have := HBA.out.size; simp; omega) ?_; intro v4 w4 ho4 hg4; have HB4 := Lib.hid ((HBA.out.alloc HBA.out.size _).grown hg4 (by have := HBA.out.size; simp; omega) (fun k e => (HOA.out.lt k e).1)); clear hg4)
          go_roundw
          case rel => exact ⟨n + 1, _, false, rfl, by go_num, by have := HLT.out; have := HE.out; omega, ho4, HM2, HB4⟩
          case measure => have := HLT.out; simp [intOf]; omega
        | true =>
          have HM2 := Lib.hid (put_mid_now HD.out HM.out HBB.out)
          go_wp2_with (first | (at_builtin; refine wpList_append_cmds rfl _ _ rfl W0.heap.size _ acc rfl (World.ownsRow.alloc (show WA.ownsRow W0.heap.size _ _ _ _ _ from HOA.out) _) _ _ _ [(⟨p, fk, fv, tk, tv⟩ : Cmd)] rfl (cmds_lit WA (⟨p, fk, fv, tk, tv⟩ : Cmd)) (by have := HAL.out; have := HCL.out; simp; omega) (by have := HBA.out.size; simp; omega) ?_; intro v4 w4 ho4 hg4; have HB4 := Lib.hid ((HBA.out.alloc HBA.out.size _).grown hg4 (by have := HBA.out.size; simp; omega) (fun k e => (HOA.out.lt k e).1)); have HO4 := Lib.hid ho4; clear hg4 ho4 e0 e1 e2 e3 e4 g0 g1 g2 g3 g4; have e0 := cell_kept HB4.out d0; have e1 := cell_kept HB4.out d1; have e2 := cell_kept HB4.out d2; have e3 := cell_kept HB4.out d3; have e4 := cell_kept HB4.out d4) | (at_builtin; refine wpList_append_cmds rfl _ _ rfl W0.heap.size _ (acc ++ [(⟨p, fk, fv, tk, tv⟩ : Cmd)]) rfl (World.ownsRow.alloc (show w4.ownsRow W0.heap.size _ _ _ _ _ from HO4.out) _) _ _ _ [(⟨q, fk', fv', tk', tv'⟩ : Cmd)] rfl (cmds_lit w4 (⟨q, fk', fv', tk', tv'⟩ : Cmd)) (by have := HAL.out; have := HCL.out; simp; omega) (by have := HB4.out.size; simp; omega) ?_; intro v5 w5 ho5 hg5; have HB5 := Lib.hid ((HB4.out.alloc HB4.out.size _).grown hg5 (by have := HB4.out.size; simp; omega) (fun k e => (HO4.out.lt k e).1)); clear hg5))
          go_roundw
          case rel => exact ⟨n + 1, _, true, rfl, by go_num, by have := HLT.out; have := HE.out; omega, ho5, HM2, HB5⟩
          case measure => have := HLT.out; simp [intOf]; omega
    · have hge : (len : Int) ≤ n := by omega
      have hie : n = cs.length := by have := HE.out; omega
      subst hie
      clear hn hlt hown
      cases dn with
      | true =>
        have HX := Lib.hid (put_end_yes HM.out)
        go_wp2
        go_ret
        exact ⟨⟨_, rfl, by rw [← HX.out]; exact own_mono HO.out HB0.out.size⟩, HB0.out.trans (HB.out.mono HB0.out.size)⟩
      | false =>
        have HX := Lib.hid (put_end_no HM.out)
        have g0 := cell_kept HB.out a0
        have g1 := cell_kept HB.out a1
        have g2 := cell_kept HB.out a2
        have g3 := cell_kept HB.out a3
        have g4 := cell_kept HB.out a4
        clear a0 a1 a2 a3 a4
        go_wp2_with (at_builtin; refine wpList_append_cmds rfl _ _ rfl W0.heap.size _ acc rfl (World.ownsRow.alloc (show wr.ownsRow W0.heap.size _ _ _ _ _ from HO.out) _) _ _ _ [(⟨p, fk, fv, tk, tv⟩ : Cmd)] rfl (cmds_lit wr (⟨p, fk, fv, tk, tv⟩ : Cmd)) (by have := HAL.out; have := HCL.out; simp; omega) (by have := HB.out.size; simp; omega) ?_; intro v4 w4 ho4 hg4; have HB4 := Lib.hid ((HB.out.alloc HB.out.size _).grown hg4 (by have := HB.out.size; simp; omega) (fun k e => (HO.out.lt k e).1)); clear hg4)
        go_ret
        exact ⟨⟨_, rfl, by rw [← HX.out]; exact own_mono ho4 HB0.out.size⟩, HB0.out.trans (HB4.out.mono HB0.out.size)⟩

set_option maxHeartbeats 2000000 in
set_option maxRecDepth 100000 in
theorem specSort_c (a : Option Addr) (len cap : Nat) (cs : List Cmd) (hl : len ≤ 2000000) (W : World) (hN : CmdsAt W a len cs) :
    Calls Try.prog 93 #[.slice a len cap] W (CmdsPost (sortK cs) W) := by
  have HN := Lib.hid hN
  have HE := Lib.hid hN.1
  have HL := Lib.hid hl
  have hl' : (len : Int) ≤ 2000000 := by omega
  have HP := Lib.hid (fun a len cap cs c h W hN => specPut_c a len cap cs c h W hN)
  clear hN hl
  go_enter Try.func93, Try.ntmps93
  go_wp2
  go_loopw [3, 4] (fun o i wr => ∃ n : Nat, i = .int .i64 n ∧ n ≤ len ∧ wr.ownsRow W.heap.size 26 5 o (sortMid cs n).length (flatC (sortMid cs n)) ∧ Hid (Below W.heap.size W wr)) (fun _ i _ => len - (intOf i).toNat)
  case atStart => exact ⟨0, rfl, Nat.zero_le _, World.ownsRow_lit (e := 26) (size := 5) W #[] 0 (Nat.le_refl _) (by simp [maxLen]) rfl, below_box _ _⟩
  case round =>
    obtain ⟨n, rfl, hn, hown, HB⟩ := hrel
    by_cases hlt : n < len
    · have hlt' : (n : Int) < len := by omega
      have hw1 : IntKind.i64.wrap ((n : Int) + 1) = (n : Int) + 1 := IntWalk.i64_in _ (by omega)
      have HLT := Lib.hid hlt
      obtain ⟨b, off, d, rfl, hd, d0, d1, d2, d3, d4⟩ := (HN.out.keep HB.out).node hlt
      have HS := Lib.hid (sort_next hd)
      obtain ⟨ao, co, rfl, hco⟩ := cmds_of_own hown
      have HPP := Lib.hid (HP.out ao (sortMid cs n).length co (sortMid cs n) d (by have := sort_mid_len cs n; have := HL.out; omega) wr hco)
      obtain ⟨q, fk', fv', tk', tv'⟩ := d
      unfold cmdV at HPP
      simp only at d0 d1 d2 d3 d4 HPP
      clear hn hlt hd hown hco
      go_wp2_with fail
      refine HPP.out.mono ?_
      rintro e W2 ⟨⟨sl, rfl, ho⟩, hb2⟩
      have HO := Lib.hid (own_mono ho HB.out.size)
      have HB2 := Lib.hid (below_next HB.out hb2)
      clear ho hb2 d0 d1 d2 d3 d4
      rw [← HS.out] at HO
      go_wp2
      go_roundw
      case rel => exact ⟨n + 1, by go_num, by have := HLT.out; omega, HO.out, HB2⟩
      case measure => have := HLT.out; simp [intOf]; omega
    · have hge : (len : Int) ≤ n := by omega
      have hie : n = cs.length := by have := HE.out; omega
      subst hie
      have HX := Lib.hid (sort_mid_all cs)
      have HO := Lib.hid hown
      clear hn hlt hown
      go_wp2
      go_ret
      exact ⟨⟨_, rfl, by rw [← HX.out]; exact HO.out⟩, HB.out⟩

end Go.Proofs.Ytpjoahddbdmbpaa

/-
  WALKS: canonical logs of the model, third part: spec.CanonValid.
-/
namespace Go.Proofs.Ytpjoahddbdmbpaa
open Go.RowKit
end Go.Proofs.Ytpjoahddbdmbpaa

/-
  WALKS: canonical logs of the model, fourth part: spec.LogCanon, CanonJoin.
-/
namespace Go.Proofs.Ytpjoahddbdmbpaa
open Go.RowKit
set_option linter.unusedVariables false

def CanRel (cs : List Cmd) (W : World) (o i : Value) (wr : World) : Prop :=
  ∃ (n : Nat) (out : List Cmd), i = .int .i64 n ∧ n ≤ cs.length ∧ wr.ownsRow W.heap.size 26 5 o out.length (flatC out) ∧ Hid (midK cs n = some out) ∧ Hid (Below W.heap.size W wr)

def ChRel (cs : List Cmd) (W : World) (c : Cmd) (n X : Nat) (o : Value) (out : List Cmd) (k : Value) (wr : World) : Prop :=
  ∃ (m : Nat) (d : Cmd), k = .int .i64 m ∧ m ≤ cs.length ∧ d.p = c.p ∧ Hid (Five wr X (.string d.p) (.int .i64 d.fk) (.int .i64 d.fv) (.int .i64 d.tk) (.int .i64 d.tv)) ∧ Hid (chainK c (cs.drop (n + 1)) = chainK d (cs.drop m)) ∧ Hid (wr.ownsRow W.heap.size 26 5 o out.length (flatC out)) ∧ Hid (Below W.heap.size W wr)

theorem own_away {W : World} {base : Nat} {e : TypeId} {size n : Nat} {v : Value} {xs : List Value} (h : W.ownsRow base e size v n xs) {X : Nat} (hX : ∀ k, v.ownBlock = some k → k < X) (o : Nat) (u : Value) : (W.setCell ⟨X, o, none⟩ u).ownsRow base e size v n xs := by
  refine h.kept (row := some X) ⟨rfl, rfl, rfl, by simp [World.setCell], fun k _ hk => Below.heap_setCell _ _ _ _ (fun e => hk (by rw [e]))⟩ ?_
  cases hv : v.ownBlock with
  | none => exact .inl rfl
  | some k => right; exact fun e => by have := hX k hv; cases e; omega

set_option maxHeartbeats 8000000 in
set_option maxRecDepth 100000 in
theorem specLogCanon_c (a : Option Addr) (len cap : Nat) (cs : List Cmd) (hl : len ≤ 2097152) (hs : ShortC 2097152 cs) (W : World) (hN : CmdsAt W a len cs) :
    Calls Try.prog 88 #[.slice a len cap] W (MovePost (logCanon cs) W) := by
  obtain ⟨vl, hvl⟩ : ∃ vl, validL cs = vl := ⟨_, rfl⟩
  have HLV := Lib.hid (show Calls Try.prog 76 #[.slice a len cap] W (BoolPost vl W) by rw [← hvl]; exact specLogValid_c a len cap cs (by omega) hs W hN)
  have HF := Lib.hid (fun W' (hb : Below W.heap.size W W') n c (hc : cs[n]? = some c) => specFirst_c a len cap cs n c hc (by omega) W' (hN.keep hb))
  have HVL := Lib.hid hvl
  have HN := Lib.hid hN
  have HE := Lib.hid hN.1
  have hl' : (len : Int) ≤ 2097152 := by omega
  clear hN hs hvl
  go_enter Try.func88, Try.ntmps88
  go_wp2_with fail
  refine HLV.out.mono ?_
  rintro e W1 ⟨rfl, hb1⟩
  have B1 := Lib.hid hb1
  clear hb1
  cases vl with
  | false =>
    have HX := Lib.hid (canon_bad HVL.out)
    go_wp2
    go_ret2
    exact move_none HX.out B1.out
  | true =>
    go_wp2_with fail
    go_loopw [4, 5, 6, 7] (fun o i _ _ wr => CanRel cs W o i wr) (fun _ i _ _ _ => len - (intOf i).toNat)
    case atStart => exact ⟨0, [], rfl, Nat.zero_le _, World.ownsRow_lit (e := 26) (size := 5) W1 #[] 0 B1.out.size (by simp [maxLen]) rfl, rfl, B1.out.alloc B1.out.size _⟩
    case round =>
      obtain ⟨n, out, rfl, hn, hown, HM, HB⟩ := hrel
      have HO := Lib.hid hown
      have HOL := Lib.hid (mid_len hn HM.out)
      by_cases hlt : n < len
      · have hlt' : (n : Int) < len := by omega
        have hw1 : IntKind.i64.wrap ((n : Int) + 1) = (n : Int) + 1 := IntWalk.i64_in _ (by omega)
        have HLT := Lib.hid (show n < len ∧ n < cs.length by have := HE.out; omega)
        obtain ⟨b, off, c, rfl, hc, d0, d1, d2, d3, d4⟩ := HN.out.node hlt
        have HC := Lib.hid hc
        obtain ⟨ff, hff⟩ : ∃ ff, firstK cs n c.p = ff := ⟨_, rfl⟩
        have HFI := Lib.hid (fun W' (hb : Below W.heap.size W W') => show Calls Try.prog 75 #[.slice (some ⟨b, off, none⟩) len cap, .int .i64 n] W' (BoolPost ff W') by rw [← hff]; exact HF.out W' hb n c hc)
        have HFF := Lib.hid hff
        clear hn hlt hc hff hown
        go_wp2_with fail
        refine (HFI.out _ HB.out).mono ?_
        rintro e W2 ⟨rfl, hb2⟩
        have HB2 := Lib.hid (below_next HB.out hb2)
        have HO2 := Lib.hid (own_below HO.out hb2)
        clear hb2
        cases ff with
        | false =>
          have HM2 := Lib.hid ((mid_next HM.out HC.out).trans (step_not HFF.out))
          clear d0 d1 d2 d3 d4
          go_wp2
          go_roundw
          case rel => exact ⟨n + 1, out, by go_num, by have := HLT.out.2; omega, HO2.out, HM2, HB2⟩
          case measure => have := HLT.out; simp [intOf]; omega
        | true =>
          have c0 := cell_kept HB2.out d0
          have c1 := cell_kept HB2.out d1
          have c2 := cell_kept HB2.out d2
          have c3 := cell_kept HB2.out d3
          have c4 := cell_kept HB2.out d4
          have HK := Lib.hid (fun k (e : (Value.ownBlock _) = some k) => (HO2.out.lt k e).2)
          have HMN := Lib.hid (mid_next HM.out HC.out)
          obtain ⟨p, fk, fv, tk, tv⟩ := c
          simp only at c0 c1 c2 c3 c4
          clear d0 d1 d2 d3 d4
          go_wp2_with fail
          go_loopw [7] (fun k wr => ChRel cs W ⟨p, fk, fv, tk, tv⟩ n W2.heap.size _ out k wr) (fun k _ => len - (intOf k).toNat)
          case atStart => exact ⟨n + 1, ⟨p, fk, fv, tk, tv⟩, by go_num, by have := HLT.out.2; omega, rfl, five_new W2 _ _ _ _ _ _, rfl, HO2.out.alloc _, HB2.out.alloc HB2.out.size _⟩
          case round =>
            obtain ⟨m, d, rfl, hm, hdp, HF5, HCH, HOI, HBI⟩ := hrel
            obtain ⟨dp, dk, dv, tk2, tv2⟩ := d
            simp only at hdp HF5
            subst hdp
            obtain ⟨b0, b1, b2, b3, b4, f0, f1, f2, f3, f4, -⟩ := HF5.out
            by_cases hmt : m < len
            · have hmt' : (m : Int) < len := by omega
              have hwm : IntKind.i64.wrap ((m : Int) + 1) = (m : Int) + 1 := IntWalk.i64_in _ (by omega)
              have HMT := Lib.hid (show m < len ∧ m < cs.length by have := HE.out; omega)
              obtain ⟨bb, off2, x, hbb, hx, r0, r1, r2, r3, r4⟩ := (HN.out.keep HBI.out).node hmt
              cases hbb
              have HX := Lib.hid hx
              obtain ⟨q, gk, gv, uk, uv⟩ := x
              simp only at r0 r1 r2 r3 r4
              by_cases hq : q = dp
              · have heq : (q.toList == dp.toList) = true := by rw [hq]; simp
                have HQ := Lib.hid hq
                clear hm hmt hx hq
                go_upto_region 12 with (fail)
                go_region
                have HB3 : Hid (Below W.heap.size W wr.drew) := HBI.out.drew
                have HF3 : Hid (Five wr.drew W2.heap.size (.string dp) (.int .i64 dk) (.int .i64 dv) (.int .i64 tk2) (.int .i64 tv2)) := HF5.out.drew
                have HO3 := Lib.hid (show wr.drew.ownsRow W.heap.size _ _ _ _ _ from HOI.out)
                clear b0 b1 b2 b3 b4 f0 f1 f2 f3 f4 r0 r1 r2 r3 r4
                generalize wr.drew = Wd at HB3 HF3 HO3 ⊢
                obtain ⟨bb, off2, x, hbb, hx, r0, r1, r2, r3, r4⟩ := (HN.out.keep HB3.out).node HMT.out.1
                cases hbb
                obtain rfl : x = ⟨q, gk, gv, uk, uv⟩ := by rw [HX.out] at hx; exact (Option.some.inj hx).symm
                simp only at r0 r1 r2 r3 r4
                obtain ⟨b0, b1, b2, b3, b4, f0, f1, f2, f3, f4, -⟩ := HF3.out
                clear hx
                by_cases hc : (gk, gv) = (tk2, tv2)
                · have hne := fun w => (conNeQ gk gv tk2 tv2 w).trans (show _ = Result.ok (Value.bool false) w by simp only [Prod.mk.injEq] at hc; rw [hc.1, hc.2]; simp)
                  have HC2 := Lib.hid (chain_next (c := ⟨dp, dk, dv, tk2, tv2⟩) HX.out HQ.out hc)
                  clear hc
                  go_upto_region 13 with (fail)
                  go_region
                  go_wp2
                  go_roundw
                  case rel => exact ⟨m + 1, ⟨dp, dk, dv, uk, uv⟩, by go_num, by have := HMT.out.2; omega, rfl, HF3.out.drew.set3.set4, HCH.out.trans HC2.out, own_away (own_away (show Wd.drew.ownsRow W.heap.size _ _ _ _ _ from HO3.out) HK.out _ _) HK.out _ _, below_setCell (below_setCell HB3.out.drew _ _ HB2.out.size) _ _ HB2.out.size⟩
                  case measure => have := HMT.out; simp [intOf]; omega
                · have hne := fun w => (conNeQ gk gv tk2 tv2 w).trans (show _ = Result.ok (Value.bool true) w by
                    have : (gk == tk2 && gv == tv2) = false := by
                      rw [Bool.eq_false_iff]; intro h; simp only [Bool.and_eq_true, beq_iff_eq] at h; exact hc (by rw [h.1, h.2])
                    rw [this]; rfl)
                  have HC2 := Lib.hid (chain_bad (c := ⟨dp, dk, dv, tk2, tv2⟩) HX.out HQ.out hc)
                  have HR := Lib.hid (canon_fail (i := n + 1) (by have := HLT.out.2; omega) (HMN.out.trans (step_fail HFF.out (HCH.out.trans HC2.out))))
                  clear hc
                  go_upto_region 13 with (fail)
                  go_region
                  go_wp2
                  go_ret2
                  exact move_none HR.out HB3.out.drew
              · have heq : (q.toList == dp.toList) = false := toList_ne hq
                have HC2 := Lib.hid (chain_other (c := ⟨dp, dk, dv, tk2, tv2⟩) hx hq)
                have HB3 : Hid (Below W.heap.size W wr.drew) := HBI.out.drew
                clear hm hmt hx hq
                go_upto_region 12 with (fail)
                go_region
                go_wp2
                go_roundw
                case rel => exact ⟨m + 1, ⟨dp, dk, dv, tk2, tv2⟩, by go_num, by have := HMT.out.2; omega, rfl, HF5.out.drew, HCH.out.trans HC2.out, (show wr.drew.ownsRow W.heap.size _ _ _ _ _ from HOI.out), HB3⟩
                case measure => have := HMT.out; simp [intOf]; omega
            · have hge : (len : Int) ≤ m := by omega
              have hie : m = cs.length := by have := HE.out; omega
              subst hie
              have HC2 := Lib.hid (HCH.out.trans chain_end)
              clear hm hmt
              by_cases hc : (dk, dv) = (tk2, tv2)
              · have hne := fun w => (conNeQ dk dv tk2 tv2 w).trans (show _ = Result.ok (Value.bool false) w by simp only [Prod.mk.injEq] at hc; rw [hc.1, hc.2]; simp)
                have HM2 := Lib.hid (HMN.out.trans (step_same HFF.out HC2.out hc))
                clear hc
                go_wp2
                go_roundw
                case rel => exact ⟨n + 1, out, by go_num, by have := HLT.out.2; omega, HOI.out, HM2, HBI⟩
                case measure => have := HLT.out; simp [intOf]; omega
              · have hne := fun w => (conNeQ dk dv tk2 tv2 w).trans (show _ = Result.ok (Value.bool true) w by
                  have : (dk == tk2 && dv == tv2) = false := by
                    rw [Bool.eq_false_iff]; intro h; simp only [Bool.and_eq_true, beq_iff_eq] at h; exact hc (by rw [h.1, h.2])
                  rw [this]; rfl)
                have HM2 := Lib.hid (HMN.out.trans (step_add HFF.out HC2.out hc))
                have HHB := Lib.hid (fun k (e : (Value.ownBlock _) = some k) => (HOI.out.lt k e).1)
                clear hc
                go_wp2_with (at_builtin; refine wpList_append_cmds rfl _ _ rfl W.heap.size _ out rfl (HOI.out.alloc _) _ _ _ [⟨dp, dk, dv, tk2, tv2⟩] rfl (cmds_lit wr ⟨dp, dk, dv, tk2, tv2⟩) (by have := HOL.out; have := HLT.out; simp; omega) (by have := HBI.out.size; simp; omega) ?_; intro v4 w4 ho4 hg4; have HB4 := Lib.hid ((HBI.out.alloc HBI.out.size _).grown hg4 (by have := HBI.out.size; simp; omega) HHB.out); clear hg4)
                go_roundw
                case rel => exact ⟨n + 1, _, by go_num, by have := HLT.out.2; omega, ho4, HM2, HB4⟩
                case measure => have := HLT.out; simp [intOf]; omega
      · have hge : (len : Int) ≤ n := by omega
        have hie : n = cs.length := by have := HE.out; omega
        subst hie
        have HX := Lib.hid (canon_done HVL.out HM.out)
        obtain ⟨ao, co, rfl, hco⟩ := cmds_of_own hown
        have HST := Lib.hid (specSort_c ao out.length co out (by have := HOL.out; have := HE.out; have := ((validL_iff cs).1 HVL.out).2; omega) wr hco)
        clear hn hlt hown hco
        go_wp2_with fail
        refine HST.out.mono ?_
        rintro e W2 ⟨⟨sl, rfl, ho⟩, hb2⟩
        have HO2 := Lib.hid (own_mono ho HB.out.size)
        have HB2 := Lib.hid (below_next HB.out hb2)
        clear ho hb2
        go_wp2
        go_ret2
        exact move_end HX.out HO2.out HB2.out

theorem canon_at {cs ds : List Cmd} {w : World} {base : Nat} {v : Value} (hl : cs.length + ds.length ≤ 2097152) (hs : ShortC 2097152 (cs ++ ds)) (h : w.ownsRow base 26 5 v (cs ++ ds).length (flatC (cs ++ ds))) :
    Calls Try.prog 88 #[v] w (MovePost (logCanon (cs ++ ds)) w) := by
  obtain ⟨ao, co, rfl, hco⟩ := cmds_of_own h
  exact specLogCanon_c ao (cs ++ ds).length co (cs ++ ds) (by rw [List.length_append]; exact hl) hs w hco

end Go.Proofs.Ytpjoahddbdmbpaa

/-
  WALKS: container/heap over the program's heap of commands: up, down, Push, Pop; takeAll.
-/
namespace Go.Proofs.Ytpjoahddbdmbpaa
open Go.RowKit
set_option linter.unusedVariables false

theorem wrapNil_some (a : Array TypeId) (t : TypeId) (x : Addr) (s m : String) : Builtin.ssaWrapNilChk_ a t #[.pointer (some x), strVal s, strVal m] = pure (.pointer (some x)) := rfl

/-- A method of a type, by its name, that takes the value behind the pointer. -/
theorem method_behind {P : Program} {T t : TypeId} {k : Nat} (hk : k ≠ 0) {name : String} {f : FuncId} (B : Nat) (v : Value) (W : World) (hi : (P.info? T).map (fun i => (i.methods.find? (·.name == name)).map (fun m => (m.path, m.func))) = some (some (#[], some (f, false))))
    (hu : P.underlying T = some (.pointer t)) (ha : ∀ w, (isAgg t).run P w = .ok false w) (hc : W.cell? ⟨B, 0, none⟩ = some v) : (method k T (.pointer (some ⟨B, 0, none⟩)) name).run P W = .ok (f, v) W := by
  obtain ⟨n, rfl⟩ := Nat.exists_eq_succ_of_ne_zero hk
  cases hI : P.info? T with
  | none => rw [hI] at hi; cases hi
  | some i =>
    rw [hI] at hi
    cases hm : i.methods.find? (·.name == name) with
    | none => simp only [Option.map_some, hm] at hi; cases hi
    | some m =>
      simp only [Option.map_some, hm, Option.some.injEq, Prod.mk.injEq] at hi
      obtain ⟨hp, hf⟩ := hi
      unfold method
      simp [typeInfo, hI, hm, hp, hf, follow, receiverAt, run_underlying hu, Place.get, wrapNil_some, loadVar, ha, hc, go_sem, asAddr, Result.andThen]

theorem no_results {P : Program} (fn : Func) (hf : fn.results = #[]) (tmps : Array Value) (w : World) : (results fn tmps).run P w = .ok (.tuple #[]) w := by simp [results, hf, go_sem]

end Go.Proofs.Ytpjoahddbdmbpaa

/-
  WALKS: container/heap.Push and Pop over the program's heap of commands; takeAll.
-/
namespace Go.Proofs.Ytpjoahddbdmbpaa
open Go.RowKit
/-- Nothing but two blocks is turned. -/
structure Turn2 (W W' : World) (B g : Nat) : Prop where
  os : W'.os = W.os
  tape : W'.tape = W.tape
  output : W'.output = W.output
  size : W.heap.size ≤ W'.heap.size
  block : ∀ i, i < W.heap.size → i ≠ B → i ≠ g → W'.heap[i]? = W.heap[i]?

theorem Turn2.of {W W' : World} {row : Option Nat} (h : W.grownBy W' row) {B g : Nat} (hr : ∀ r, row = some r → r = B ∨ r = g) : Turn2 W W' B g :=
  ⟨h.os, h.tape, h.output, h.size, fun i hi hB hg => h.block i hi (fun e => (hr i e.symm).elim hB hg)⟩

theorem Turn2.trans {X Y Z : World} {B g : Nat} (h : Turn2 X Y B g) (k : Turn2 Y Z B g) : Turn2 X Z B g :=
  ⟨k.os.trans h.os, k.tape.trans h.tape, k.output.trans h.output, Nat.le_trans h.size k.size, fun i hi hB hg => (k.block i (Nat.lt_of_lt_of_le hi h.size) hB hg).trans (h.block i hi hB hg)⟩

end Go.Proofs.Ytpjoahddbdmbpaa

/-
  WALKS: canonHeap.takeAll.
-/
namespace Go.Proofs.Ytpjoahddbdmbpaa
open Go.RowKit
set_option linter.unusedVariables false

theorem own_turn2 {W W' : World} {B g base : Nat} {e : TypeId} {size n : Nat} {v : Value} {xs : List Value} (h : W.ownsRow base e size v n xs) (ht : Turn2 W W' B g) (hv : ∀ k, v.ownBlock = some k → k ≠ B ∧ k ≠ g) : W'.ownsRow base e size v n xs := by
  obtain ⟨h1, h2⟩ := h
  refine ⟨h1, ?_⟩
  rcases h2 with h3 | ⟨x, cap, cur, rfl, h4, h5, h6⟩
  · exact .inl h3
  · right
    have h7 := hv x rfl
    exact ⟨x, cap, cur, rfl, h4, (ht.block x (Array.getElem?_eq_some_iff.1 h5).1 h7.1 h7.2).trans h5, h6⟩

/-- What takeAll leaves. -/
def TakePost (B : Nat) (zs : List Cmd) (W : World) (e : Ending) (w' : World) : Prop :=
  ∃ sl acc, e = .returned sl ∧ w'.ownsRow W.heap.size 26 5 sl acc.length (flatC acc) ∧ TakeK zs acc [] ∧ Below B W w'

def heapLenAt (W : World) (B : Nat) : Nat := match W.cell? ⟨B, 0, none⟩ with
  | some (.slice _ n _) => n
  | _ => 0

end Go.Proofs.Ytpjoahddbdmbpaa

/-
  WALKS: impl.wholesOf: a map of commands by their paths.
-/
namespace Go.Proofs.Ytpjoahddbdmbpaa
open Go.RowKit
open Go.Maps (IsMap has)
set_option linter.unusedVariables false

theorem keyLaw : Maps.Keyed Try.prog 9 := Maps.string_keyed Try.underlying9
theorem zeroCmd (w : World) : (zeroValue 26).run Try.prog w = .ok (.agg #[.string ⟨#[]⟩, .int .i64 0, .int .i64 0, .int .i64 0, .int .i64 0]) w := by kernel_rfl

theorem keyOf_path {p : ByteArray} (h : p.size ≤ maxLen) : keyOf Try.prog 9 (.string p) = some (keyL p) := WideMaps.keyOf_string_mk Try.underlying9 h

/-- What wholesOf leaves. -/
def WholePost (cs : List Cmd) (W : World) (e : Ending) (w' : World) : Prop :=
  ((∃ D : DataW Unit, e = .returned (.tuple #[.map (some W.heap.size), .bool true]) ∧ w'.ownsMap Try.prog 9 cmdElem W.heap.size cs.length D ∧ WholeK cs cs.length D) ∨ (e = .returned (.tuple #[.map none, .bool false]) ∧ ∃ p, foldP p none cs = none)) ∧ Below W.heap.size W w'

def WholeRel (cs : List Cmd) (W : World) (i : Value) (wr : World) : Prop :=
  ∃ (n : Nat) (D : DataW Unit), i = .int .i64 n ∧ n ≤ cs.length ∧ Hid (wr.ownsMap Try.prog 9 cmdElem W.heap.size n D) ∧ Hid (WholeK cs n D) ∧ Hid (Below W.heap.size W wr)

theorem whole_below {W wr w1 : World} {o1 o2 : Obj} (hB : Below W.heap.size W wr) (hg : ((wr.alloc o1).alloc o2).grownBy w1 (some W.heap.size)) : Below W.heap.size W w1 :=
  ((hB.alloc hB.size o1).alloc (by have := hB.size; rw [World.size_alloc]; omega) o2).grown hg (by have := hB.size; rw [World.size_alloc, World.size_alloc]; omega) (fun k e => by cases e; exact Nat.le_refl _)

end Go.Proofs.Ytpjoahddbdmbpaa

/-
  WALKS: impl.LogCanon.
-/
namespace Go.Proofs.Ytpjoahddbdmbpaa
open Go.RowKit
open Go.Maps (IsMap has)
set_option linter.unusedVariables false

theorem own_lower {W : World} {base base' : Nat} {e : TypeId} {size n : Nat} {v : Value} {xs : List Value} (h : W.ownsRow base e size v n xs) (hb : base' ≤ base) : W.ownsRow base' e size v n xs := by
  obtain ⟨h1, h2⟩ := h
  refine ⟨h1, ?_⟩
  rcases h2 with h3 | ⟨x, cap, cur, rfl, h4, h5⟩
  · exact .inl h3
  · exact .inr ⟨x, cap, cur, rfl, Nat.le_trans hb h4, h5⟩

abbrev RangesC (wr : World) (b r n : Nat) (D : DataW Unit) (left : Lit → Bool) (cnt : Nat) : Prop := wr.ranges Try.prog 9 cmdElem b r n D left cnt

theorem ranges_keptM {w w' : World} {b r n : Nat} {D : DataW Unit} {left : Lit → Bool} {cnt : Nat} (h : RangesC w b r n D left cnt) (hk : KeptM w w') : RangesC w' b r n D left cnt := by
  obtain ⟨es, clock, since, seen, c0, hb, F, hs, hD, hr, rest⟩ := h
  exact ⟨es, clock, since, seen, c0, hk b _ hb rfl, F, hs, hD, hk r _ hr rfl, rest⟩

/-- The step of 'for _, c := range wholes'. -/
theorem wpList_next_cmd (w : World) {ops : Array Oper} {rest : List Oper} {o : Oper} {a : Act} {Q : Exit → Act → World → Prop} (hg : o.guard = none) (it : Operand) (hop : o.op = Op.next it false) (b r n : Nat) (D : DataW Unit) (left : Lit → Bool) (cnt : Nat)
    (hit : a.eval it = .pointer (some ⟨r, 0, none⟩)) (h : RangesC w b r n D left cnt)
    (hDone : (∀ kl, left kl = false) → wpList Try.prog ops Q rest (a.put o.dst (.tuple #[.bool false])) w)
    (hMore : ∀ (p q : ByteArray) (fk fv tk tv : Int) (w' : World) (cnt' : Nat), left (keyL p) = true → (∀ zd, D.atKey (keyL p) zd = encD ⟨q, fk, fv, tk, tv⟩) → RangesC w' b r n D (fun z => left z && !z.sameKey (keyL p)) cnt' → cnt' < cnt →
      w.grownBy w' (some r) → (Instr.entry (.pointer (some ⟨r, 0, none⟩))).run Try.prog w' = .ok (.tuple #[.string p, .agg #[.string q, .int .i64 fk, .int .i64 fv, .int .i64 tk, .int .i64 tv]]) w' →
      wpList Try.prog ops Q rest (a.put o.dst (.tuple #[.bool true, .string p, .agg #[.string q, .int .i64 fk, .int .i64 fv, .int .i64 tk, .int .i64 tv]])) w') :
    wpList Try.prog ops Q (o :: rest) a w :=
  wpList_next_ranges w hg it hop 9 keyLaw cmdElem (fun p : ByteArray => Value.string p) (fun c : Cmd => .agg #[.string c.p, .int .i64 c.fk, .int .i64 c.fv, .int .i64 c.tk, .int .i64 c.tv])
    (fun key kl hk => by obtain ⟨x, hx, _⟩ := Maps.keyOf_str Try.underlying9 hk; exact ⟨_, hx⟩)
    (fun v y hv => by obtain ⟨c, hc, _⟩ := cmdElem_inv hv; exact ⟨c, hc⟩) b r n D left cnt hit h (fun _ hl => hDone hl)
    (fun p c kl y w' cnt' hkey hlk hv hat hrg hlt hgr hsz hen => by
      obtain ⟨x, ex, rfl, _⟩ := Maps.keyOf_str Try.underlying9 hkey
      have hp : p = ⟨x.toArray⟩ := by
        have : (Value.string p) = encStr x := ex
        unfold encStr at this
        injection this
      have hkl : (Lit.string x) = keyL p := by rw [hp]; unfold keyL; simp
      rw [hkl] at hlk hat hrg
      obtain ⟨c', ec, rfl⟩ := cmdElem_inv hv
      rw [cmdElem_mk] at hv
      injection hv with hv
      injection hv with hv _
      obtain ⟨q, fk, fv, tk, tv⟩ := c
      exact hMore p q fk fv tk tv w' cnt' hlk (fun zd => (hat zd).trans hv.symm) hrg hlt hgr hen)

end Go.Proofs.Ytpjoahddbdmbpaa

/-
  WALKS: drawn canonical logs: spec.l91Canon, DrawLogCanon, DrawCanonValid, DrawCanonJoin, DrawCanonDiff.
-/
namespace Go.Proofs.Ytpjoahddbdmbpaa
open Go.RowKit
set_option linter.unusedVariables false

theorem canon_short {m : Nat} {cs : List Cmd} (hs : ShortC m cs) : ShortC m (logCanon cs).1 ∧ (logCanon cs).1.length ≤ cs.length := by
  cases hr : logCanon cs with
  | mk out ok =>
    cases ok with
    | false =>
      have : out = [] := by
        unfold logCanon at hr
        split at hr
        · split at hr
          · injection hr with e _; exact e.symm
          · injection hr with _ e; cases e
        · injection hr with e _; exact e.symm
      subst this
      exact ⟨fun c hc => (by cases hc), Nat.zero_le _⟩
    | true =>
      obtain ⟨_, _, _, _, h5, h6⟩ := canon_some hr
      refine ⟨fun c hc => ?_, h6⟩
      have hk := ((h5 c).1 hc).1
      refine Classical.byContradiction (fun hn => ?_)
      rw [unseen (fun ⟨d, hd, hp⟩ => hn (by rw [← hp]; exact hs d hd))] at hk
      cases hk

theorem below_grown_any {W W' : World} (h : Below W.heap.size W W') (row : Option Nat) : W.grownBy W' row := ⟨h.os, h.tape, h.output, h.size, fun k hk _ => h.block k hk⟩

theorem shortC_swap {m : Nat} {cs : List Cmd} {i j : Nat} (h : ShortC m cs) (hi : i < cs.length) (hj : j < cs.length) : ShortC m (swapK cs i j) := fun c hc => h c ((swapK_perm hi hj).mem_iff.1 hc)

theorem swap_draw {N0 B p q k g cap : Nat} {out : List Cmd} {W W5 : World} {ci cj : Cmd} {o : Obj} (ho : W5.ownsRow W.heap.size 26 5 (.slice (some ⟨g, 0, none⟩) out.length cap) out.length (flatC out))
    (hs : (set5 (set5 W5 g (k * 5) cj) g ((k + 1) * 5) ci).ownsRow W.heap.size 26 5 (.slice (some ⟨g, 0, none⟩) out.length cap) out.length (flatC (swapK out k (k + 1)))) (hk : k + 1 < out.length) (hl : out.length ≤ 20) (hsh : ShortC 66 out)
    (hq : q + 1 + 1 ≤ p + 1100) (hR : RdAt N0 W5 B (q + 1 + 1)) (hG : W.grownBy W5 (some B)) (hle : N0 ≤ W.heap.size) : LogDraw N0 B p 21 1100 W (.returned (.slice (some ⟨g, 0, none⟩) out.length cap)) ((set5 (set5 W5 g (k * 5) cj) g ((k + 1) * 5) ci).alloc o) := by
  have hg : W5.grownBy (set5 (set5 W5 g (k * 5) cj) g ((k + 1) * 5) ci) (some g) := grown_then (grown_set5 _ _ _ _) (grown_set5 _ _ _ _) (fun j e => .inr e)
  have hlow := (ho.lt g rfl).1
  have hR' := push_reader (v := .slice (some ⟨g, 0, none⟩) out.length cap) (fun j e => by cases e; exact hlow) hle hR hg
  have hG' := push_grown (v := .slice (some ⟨g, 0, none⟩) out.length cap) (fun j e => by cases e; exact hlow) hG hg
  refine ⟨_, swapK out k (k + 1), q + 1 + 1, rfl, ?_, by rw [swapK_length]; omega, shortC_swap hsh (by omega) hk, hq, hR'.alloc o, grownBy_trans hG' (World.grownBy_alloc _ _ _)⟩
  rw [swapK_length]
  exact own_below hs (below_box _ o)

set_option maxHeartbeats 2000000 in
set_option maxRecDepth 100000 in
theorem l91Canon_c (N0 B p base : Nat) (sl : Value) (ns : List Nd) (hlen : ns.length ≤ 11) (hs : Short 64 ns) (hb : B < base) (W : World) (hbW : base ≤ W.heap.size) (hown : W.ownsRow base 103 3 sl ns.length (flatN ns)) (hp : p < 10000) (hR : RdAt N0 W B p) :
    Calls Try.prog 73 #[.pointer (some ⟨B, 0, none⟩), sl] W (LogDraw N0 B p 21 1100 W) := by
  have HLT := Lib.hid hR.lt
  have HLE := Lib.hid hR.le
  have HP1 := Lib.hid (fun W hR => pick_c N0 B p 12 (by omega) (by omega) W (by omega) hR)
  have HT := Lib.hid (fun n h0 h1 W' (hW : base ≤ W'.heap.size) ho hR => l91Log_c N0 B (p + 1) base sl ns n h0 h1 hlen hs hb W' hW ho (by omega) hR)
  have HPK := Lib.hid (fun q n h0 h1 W hq hR => pick_c N0 B q n h0 h1 W hq hR)
  have HPP := Lib.hid hp
  have HOW := Lib.hid hown
  have HBB := Lib.hid hb
  have HBW := Lib.hid hbW
  clear hp hown hb hbW hlen hs
  go_enter Try.func73, Try.ntmps73
  go_wp2_with fail
  refine (HP1.out _ hR).mono ?_; rintro e W1 ⟨n, rfl, n0, n1, hR1, hg1⟩
  have HN := Lib.hid (And.intro n0 n1)
  have HO1 := Lib.hid (own_reader HOW.out HBB.out hg1)
  have HG1 := Lib.hid hg1
  have HW1 := Lib.hid (show base ≤ W1.heap.size by have h1 := HG1.out.size; have h2 := HBW.out; omega)
  have HR1 := Lib.hid hR1
  clear n0 n1 hR hR1 hg1
  go_wp2_with fail
  refine (HT.out n HN.out.1 (by have := HN.out.2; omega) _ HW1.out HO1.out HR1.out).mono ?_; rintro e W2 ⟨v, cs, q, rfl, hown0, hlen, hsh, hq, hR2, hg2⟩
  obtain ⟨a2, c2, rfl, hC2⟩ := cmds_of_own hown0
  have HG2 := Lib.hid (grownBy_trans HG1.out hg2)
  have HSH := Lib.hid hsh
  have HLN := Lib.hid hlen
  have HQ := Lib.hid hq
  have HR2 := Lib.hid hR2
  have HCL := Lib.hid (specLogCanon_c a2 cs.length c2 cs (by omega) (hsh.mono (by omega)) W2 hC2)
  clear hown0 hg2 hsh hlen hq hR2 hC2
  go_wp2_with fail
  refine HCL.out.mono ?_
  rintro e W3 ⟨sl3, rfl, ho3, hb3⟩
  obtain ⟨hs3, hl3⟩ := canon_short HSH.out
  obtain ⟨out, ok, hr⟩ : ∃ out ok, logCanon cs = (out, ok) := ⟨_, _, rfl⟩
  rw [hr] at hs3 hl3 ho3 ⊢
  have HG3 := Lib.hid (grownBy_trans HG2.out (below_grown_any hb3 (some B)))
  have HR3 := Lib.hid (HR2.out.keep hb3)
  have HLO := Lib.hid (Nat.le_trans hl3 HLN.out)
  have HSO := Lib.hid hs3
  have hO3 := own_mono ho3 (show W.heap.size ≤ W2.heap.size from HG2.out.size)
  have HLT3 := Lib.hid (show B < W.heap.size from HLT.out)
  clear hr hb3 ho3 hl3 hs3
  simp only at HLO HSO hO3 ⊢
  have HO3 := Lib.hid hO3
  clear hO3
  by_cases hl1 : out.length ≤ 1
  · obtain ⟨a3, c3, rfl, -⟩ := cmds_of_own HO3.out
    have hl1' : ¬ ((1 : Int) < out.length) := by omega
    go_wp2
    go_ret
    exact ⟨_, out, q, rfl, HO3.out, by have := HLO.out; omega, HSO.out, by have := HQ.out; omega, HR3.out, HG3.out⟩
  · have hl1' : (1 : Int) < out.length := by omega
    obtain ⟨g, cap, rfl, hgb, hlc, hcm⟩ := own_sliceC HO3.out (by omega)
    have HL1 := Lib.hid (show 1 < out.length by omega)
    clear hgb hlc hcm hl1
    go_wp2_with fail
    refine (HPK.out q 24 (by omega) (by omega) _ (by have := HQ.out; have := HPP.out; omega) HR3.out).mono ?_; rintro e W4 ⟨t, rfl, t0, t1, hR4, hg4⟩
    have HO4 := Lib.hid (own_reader HO3.out HLT.out hg4)
    have HG4 := Lib.hid (grownBy_trans HG3.out hg4)
    have HR4 := Lib.hid hR4
    clear t0 t1 hR4 hg4
    by_cases ht : t = 0
    · subst ht
      have hol : (out.length : Int) ≤ 20 := by have := HLO.out; omega
      go_wp2_with fail
      refine (HPK.out (q + 1) ((out.length : Int) - 1) (by omega) (by omega) _ (by have := HQ.out; have := HPP.out; omega) HR4.out).mono ?_; rintro e W5 ⟨k', rfl, k0, k1, hR5, hg5⟩
      obtain ⟨k, rfl⟩ := Int.eq_ofNat_of_zero_le k0
      have HK := Lib.hid (show k + 1 < out.length by omega)
      have hO5 := own_reader HO4.out HLT.out hg5
      have HG5 := Lib.hid (grownBy_trans HG4.out hg5)
      have HR5 := Lib.hid hR5
      obtain ⟨c0, c1, c2, c3, c4⟩ := hp_cells hO5 (i := k) (by have := HK.out; omega) rfl
      obtain ⟨d0, d1, d2, d3, d4⟩ := hp_cells hO5 (i := k + 1) HK.out rfl
      have f0 := fun o => row_frozen hO5 o
      obtain ⟨cj, hcj⟩ : ∃ c, atK out (k + 1) = c := ⟨_, rfl⟩
      obtain ⟨ci, hci⟩ : ∃ c, atK out k = c := ⟨_, rfl⟩
      have HCI := Lib.hid (And.intro hci hcj)
      rw [hci] at c0 c1 c2 c3 c4
      rw [hcj] at d0 d1 d2 d3 d4
      have hr1 := own_set5 hO5 (i := k) (by have := HK.out; omega) cj
      obtain ⟨x0, x1, x2, x3, x4⟩ := hp_cells hr1 (i := k + 1) (by rw [List.length_set]; exact HK.out) (by rw [List.length_set])
      obtain ⟨cx, hcx⟩ : ∃ c, atK (out.set k cj) (k + 1) = c := ⟨_, rfl⟩
      rw [hcx] at x0 x1 x2 x3 x4
      unfold set5 at x0 x1 x2 x3 x4
      have HO5 := Lib.hid hO5
      have hgl := World.block_lt_of_cell? W5 _ c0
      have hkl : (k : Int) < out.length := by have := HK.out; omega
      have hkl2 : (k : Int) + 1 < out.length := by have := HK.out; omega
      have hk20 : (k : Int) ≤ 20 := by omega
      clear hcj hci hcx hr1 hO5 hg5 hR5 k0 k1
      go_wp2
      have HSW := own_swap5 HO5.out (i := k) (j := k + 1) (by have := HK.out; omega) HK.out
      rw [HCI.out.1, HCI.out.2] at HSW
      clear c0 c1 c2 c3 c4 d0 d1 d2 d3 d4 x0 x1 x2 x3 x4 f0
      go_ret
      exact swap_draw HO5.out HSW HK.out HLO.out HSO.out (by have := HQ.out; omega) HR5.out HG5.out HLE.out
    · have ht0 : (t == 0) = false := beq_eq_false_iff_ne.2 ht
      clear ht
      go_wp2
      go_ret
      exact ⟨_, out, q + 1, rfl, HO4.out, by have := HLO.out; omega, HSO.out, by have := HQ.out; omega, HR4.out, HG4.out⟩

/-- Two drawn logs, one behind the other. -/
def JoinPost (W : World) (e : Ending) (W' : World) : Prop :=
  ∃ (a : Option Addr) (cap : Nat) (a2 : Option Addr) (cap2 : Nat) (cs ds : List Cmd), e = .returned (.tuple #[.slice a cs.length cap, .slice a2 ds.length cap2]) ∧ CmdsAt W' a cs.length cs ∧ CmdsAt W' a2 ds.length ds ∧ (cs ++ ds).length ≤ 21 ∧ ShortC 66 (cs ++ ds) ∧ Below W.heap.size W W'

theorem join_end {W W4 : World} {base g c k o c1 c2 : Nat} {out : List Cmd} {e : Ending} (he : e = .returned (.tuple #[.slice (some ⟨g, 0, none⟩) k c1, .slice (some ⟨g, o, none⟩) (out.length - k) c2])) (ho : W4.ownsRow base 26 5 (.slice (some ⟨g, 0, none⟩) out.length c) out.length (flatC out))
    (hk : k ≤ out.length) (hoo : o = k * 5 ∨ out.length = k) (hl : out.length ≤ 21) (hs : ShortC 66 out) (hB : Below W.heap.size W W4) (n : Nat) : JoinPost W e (W4.drewN n) := by
  have h4 : Below W4.heap.size W4 (W4.drewN n) := below_drewN (Below.refl _ _) n
  have ht : (out.take k).length = k := by rw [List.length_take]; omega
  have hd : (out.drop k).length = out.length - k := List.length_drop ..
  have h1 := (cmds_own ho).part 0 k (Nat.zero_le _) hk
  rw [Nat.zero_mul, Nat.add_zero, Nat.sub_zero, List.drop_zero] at h1
  have h2 := own_tailC ho k hk o hoo
  exact ⟨some ⟨g, 0, none⟩, c1, some ⟨g, o, none⟩, c2, out.take k, out.drop k, by rw [ht, hd]; exact he, by rw [ht]; exact h1.keep h4, by rw [hd]; exact h2.keep h4, by rw [List.take_append_drop]; exact hl, by rw [List.take_append_drop]; exact hs, below_drewN hB n⟩

end Go.Proofs.Ytpjoahddbdmbpaa

/-
  WALKS: commands in an order that is drawn: spec.l91Mixed; DrawMustPrecede, DrawOrderFits, DrawOrderSwap, DrawOrdersCount.
-/
namespace Go.Proofs.Ytpjoahddbdmbpaa
open Go.RowKit
set_option linter.unusedVariables false

theorem os_first : (0 : Nat) ≤ 0 := Nat.le_refl 0

/-- What is drawn: some list of nodes, and commands in some order. -/
def MixedPost (N0 B p : Nat) (W : World) (e : Ending) (W' : World) : Prop :=
  ∃ (v sl : Value) (out : List Cmd) (q : Nat), e = .returned (.tuple #[v, sl]) ∧ W'.ownsRow W.heap.size 26 5 sl out.length (flatC out) ∧ out.length ≤ 21 ∧ ShortC 66 out ∧ q ≤ p + 1800 ∧ RdAt N0 W' B q ∧ W.grownBy W' (some B)

def MixRel (N0 B q0 L : Nat) (a : Option Addr) (cap : Nat) (W : World) (i : Value) (wr : World) : Prop :=
  ∃ (n q : Nat) (cs : List Cmd), i = .int .i64 n ∧ n ≤ 5 ∧ Hid (wr.ownsRow W.heap.size 26 5 (.slice a L cap) L (flatC cs)) ∧ Hid (cs.length = L ∧ ShortC 66 cs ∧ q ≤ q0 + 2 * n) ∧ Hid (RdAt N0 wr B q) ∧ Hid (W.grownBy wr (some B))

theorem mix_swap {N0 B q g cap L : Nat} {xs ys : List Value} {W W5 WX : World} (ho : W5.ownsRow W.heap.size 26 5 (.slice (some ⟨g, 0, none⟩) L cap) L xs) (hs : WX.ownsRow W.heap.size 26 5 (.slice (some ⟨g, 0, none⟩) L cap) L ys)
    (hg : W5.grownBy WX (some g)) (hR : RdAt N0 W5 B q) (hG : W.grownBy W5 (some B)) (hle : N0 ≤ W.heap.size) : WX.ownsRow W.heap.size 26 5 (.slice (some ⟨g, 0, none⟩) L cap) L ys ∧ RdAt N0 WX B q ∧ W.grownBy WX (some B) := by
  have hlow := (ho.lt g rfl).1
  exact ⟨hs, push_reader (v := .slice (some ⟨g, 0, none⟩) L cap) (fun j e => by cases e; exact hlow) hle hR hg, push_grown (v := .slice (some ⟨g, 0, none⟩) L cap) (fun j e => by cases e; exact hlow) hG hg⟩

set_option maxHeartbeats 4000000 in
set_option maxRecDepth 100000 in
theorem l91Mixed_c (N0 B p : Nat) (W : World) (hp : p < 8000) (hR : RdAt N0 W B p) :
    Calls Try.prog 47 #[.pointer (some ⟨B, 0, none⟩)] W (MixedPost N0 B p W) := by
  have HLT := Lib.hid hR.lt
  have HLE := Lib.hid hR.le
  have HT := Lib.hid (l91Tree_c N0 B p 8 (by omega) (by omega) W (by omega) hR)
  have HPK := Lib.hid (fun q n h0 h1 W hq hR => pick_c N0 B q n h0 h1 W hq hR)
  have HMU := Lib.hid (fun c d w => specMust_c c d w)
  have HPP := Lib.hid hp
  clear hR hp
  go_enter Try.func47, Try.ntmps47
  go_wp2_with fail
  refine HT.out.mono ?_; rintro e W1 ⟨sl, ns, q1, rfl, hown, -, hl, hs, hq1, hR1, hg1⟩
  have HC := Lib.hid (l91Canon_c N0 B q1 W.heap.size sl ns (by omega) hs HLT.out W1 hg1.size hown (by have := HPP.out; omega) hR1)
  have HG1 := Lib.hid hg1
  have HQ1 := Lib.hid hq1
  clear hown hl hs hq1 hR1 hg1
  go_wp2_with fail
  refine HC.out.mono ?_; rintro e W2 ⟨s2, out, q2, rfl, ho2, hl2, hs2, hq2, hR2, hg2⟩
  have HO2 := Lib.hid (own_mono ho2 (show W.heap.size ≤ W1.heap.size from HG1.out.size))
  have HG2 := Lib.hid (grownBy_trans HG1.out hg2)
  have HQ2 := Lib.hid (show q2 ≤ p + 1760 by have := HQ1.out; omega)
  have HL2 := Lib.hid (And.intro hl2 hs2)
  have HP6 := Lib.hid (pick_c N0 B q2 6 (by omega) (by omega) W2 (by have := HQ2.out; have := HPP.out; omega) hR2)
  clear ho2 hl2 hs2 hq2 hR2 hg2
  go_wp2_with fail
  refine HP6.out.mono ?_; rintro e W3 ⟨N, rfl, N0', N1, hR3, hg3⟩
  have hO3 := own_reader HO2.out HLT.out hg3
  have HG3 := Lib.hid (grownBy_trans HG2.out hg3)
  have HR3 := Lib.hid hR3
  obtain ⟨a, cap, rfl, -⟩ := cmds_of_own hO3
  obtain ⟨L, hL⟩ : ∃ L, out.length = L := ⟨_, rfl⟩
  rw [hL] at hO3 ⊢
  have HO3 := Lib.hid hO3
  have HL := Lib.hid (And.intro hL (show L ≤ 21 by have := HL2.out.1; omega))
  have hL21 : (L : Int) ≤ 21 := by have := HL.out.2; omega
  have hLw : IntKind.i64.wrap ((L : Int) - 1) = (L : Int) - 1 := IntWalk.i64_in _ (by omega)
  clear hO3 hg3 hR3 hL
  go_wp2_with fail
  go_loopw [7] (fun i wr => MixRel N0 B (q2 + 1) L a cap W i wr) (fun i _ => 5 - (intOf i).toNat)
  case atStart => exact ⟨0, q2 + 1, out, rfl, Nat.zero_le _, HO3, Lib.hid ⟨HL.out.1, HL2.out.2, by omega⟩, HR3, HG3⟩
  case round =>
    obtain ⟨n, q, cs, rfl, hn, HO, HX, HR, HG⟩ := hrel
    have HN5 := Lib.hid hn
    by_cases hlt : (n : Int) < N
    · by_cases hl1 : 1 < L
      · have hn5 : (n : Int) < 5 := by omega
        have hl1' : (1 : Int) < L := by omega
        have hw1 : IntKind.i64.wrap ((n : Int) + 1) = (n : Int) + 1 := IntWalk.i64_in _ (by omega)
        have HN := Lib.hid (show n + 1 ≤ 5 by omega)
        have HCL := Lib.hid HX.out.1
        have HQ := Lib.hid (show q < 29990 by have := HX.out.2.2; have := HQ2.out; have := HPP.out; omega)
        have hO := HO.out
        obtain ⟨g, hg⟩ : ∃ g, a = some ⟨g, 0, none⟩ := by
          rcases hO.2 with ⟨h1, h2⟩ | ⟨g, c', cur, h1, _⟩
          · omega
          · injection h1 with h1; exact ⟨g, h1⟩
        subst hg
        have hcap : (L : Int) ≤ cap := by
          rcases hO.2 with ⟨h1, h2⟩ | ⟨g', c', cur, h1, _, _, h3, _⟩
          · omega
          · injection h1 with _ _ h1; omega
        have HP1 := Lib.hid (HPK.out q ((L : Int) - 1) (by omega) (by omega) wr (by have := HQ.out; omega) HR.out)
        clear hn hO
        go_wp2_with fail
        refine HP1.out.mono ?_; rintro e W4 ⟨k', rfl, k0, k1, hR4, hg4⟩
        obtain ⟨k, rfl⟩ := Int.eq_ofNat_of_zero_le k0
        have HK := Lib.hid (show k + 1 < cs.length by have := HCL.out; omega)
        have hkl : (k : Int) < L := by omega
        have hkl1 : (k : Int) + 1 < L := by omega
        have hk20 : (k : Int) ≤ 20 := by omega
        have hk1' : (0 : Int) ≤ (k : Int) + 1 := by omega
        have ht1 : ((k : Int) + 1).toNat = k + 1 := by omega
        have hwk : IntKind.i64.wrap ((k : Int) + 1) = (k : Int) + 1 := IntWalk.i64_in _ (by omega)
        have hO4 := own_reader HO.out HLT.out hg4
        have HO4 := Lib.hid (show W4.drew.ownsRow W.heap.size 26 5 (.slice (some ⟨g, 0, none⟩) L cap) L (flatC cs) from row_drew hO4)
        have HG4 := Lib.hid (show W.grownBy W4.drew (some B) from grownBy_trans (grownBy_trans HG.out hg4) ⟨rfl, rfl, rfl, Nat.le_refl _, fun _ _ _ => rfl⟩)
        have HR4 := Lib.hid hR4.drew
        have HP3 := Lib.hid (HPK.out (q + 1) 3 (by omega) (by omega) W4.drew (by have := HQ.out; omega) HR4.out)
        obtain ⟨ci, hci⟩ : ∃ c, atK cs k = c := ⟨_, rfl⟩
        obtain ⟨cj, hcj⟩ : ∃ c, atK cs (k + 1) = c := ⟨_, rfl⟩
        have HCI := Lib.hid (And.intro hci hcj)
        obtain ⟨c0, c1, c2, c3, c4⟩ := hp_cells HO4.out (i := k) (by have := HK.out; omega) HCL.out.symm
        obtain ⟨d0, d1, d2, d3, d4⟩ := hp_cells HO4.out (i := k + 1) (by have := HK.out; omega) HCL.out.symm
        rw [hci] at c0 c1 c2 c3 c4
        rw [hcj] at d0 d1 d2 d3 d4
        have HS0 := Lib.hid (show W4.drew.cell? ⟨g, k * 5, none⟩ = some (.string ci.p) ∧ W4.drew.cell? ⟨g, k * 5 + 1, none⟩ = some (.int .i64 ci.fk) ∧ W4.drew.cell? ⟨g, k * 5 + 2, none⟩ = some (.int .i64 ci.fv) ∧ W4.drew.cell? ⟨g, k * 5 + 3, none⟩ = some (.int .i64 ci.tk) ∧ W4.drew.cell? ⟨g, k * 5 + 4, none⟩ = some (.int .i64 ci.tv) ∧ W4.drew.cell? ⟨g, (k + 1) * 5, none⟩ = some (.string cj.p) ∧ W4.drew.cell? ⟨g, (k + 1) * 5 + 1, none⟩ = some (.int .i64 cj.fk) ∧ W4.drew.cell? ⟨g, (k + 1) * 5 + 2, none⟩ = some (.int .i64 cj.fv) ∧ W4.drew.cell? ⟨g, (k + 1) * 5 + 3, none⟩ = some (.int .i64 cj.tk) ∧ W4.drew.cell? ⟨g, (k + 1) * 5 + 4, none⟩ = some (.int .i64 cj.tv) from ⟨c0, c1, c2, c3, c4, d0, d1, d2, d3, d4⟩)
        obtain ⟨mm, hmm⟩ : ∃ mm, mustC ci cj = mm := ⟨_, rfl⟩
        have HM := Lib.hid (fun w => show Calls Try.prog 40 #[cmdV ci, cmdV cj] w (BoolPost mm w) by rw [← hmm]; exact HMU.out ci cj w)
        unfold cmdV at HM
        clear k0 k1 hR4 hg4 hO4 hci hcj hmm c0 c1 c2 c3 c4 d0 d1 d2 d3 d4
        go_upto_region 8 with (fail)
        refine wp_region_held_drew (S := (fun w' => w'.cell? ⟨g, k * 5, none⟩ = some (.string ci.p) ∧ w'.cell? ⟨g, k * 5 + 1, none⟩ = some (.int .i64 ci.fk) ∧ w'.cell? ⟨g, k * 5 + 2, none⟩ = some (.int .i64 ci.fv) ∧ w'.cell? ⟨g, k * 5 + 3, none⟩ = some (.int .i64 ci.tk) ∧ w'.cell? ⟨g, k * 5 + 4, none⟩ = some (.int .i64 ci.tv) ∧ w'.cell? ⟨g, (k + 1) * 5, none⟩ = some (.string cj.p) ∧ w'.cell? ⟨g, (k + 1) * 5 + 1, none⟩ = some (.int .i64 cj.fk) ∧ w'.cell? ⟨g, (k + 1) * 5 + 2, none⟩ = some (.int .i64 cj.fv) ∧ w'.cell? ⟨g, (k + 1) * 5 + 3, none⟩ = some (.int .i64 cj.tk) ∧ w'.cell? ⟨g, (k + 1) * 5 + 4, none⟩ = some (.int .i64 cj.tv))) (by kernel_rfl) HS0.out (fun hH => ?_)
        refine wpAnyH_take (i := 0) (oi := _) (v := ?_) rfl (by kernel_rfl) (by kernel_rfl) (by kernel_rfl) (fun _ _ _ h => h) (Or.inl ⟨by rfl, ?_⟩) (by assumption) ?_
        rotate_left
        · (intro w hSw; (try dsimp only at hSw); go_simp; try with_reducible rfl)
        try simp only [Act.put, List.getElem_toArray, List.getElem_cons_zero, List.setIfInBounds_toArray, List.set_cons_zero, List.set_cons_succ]
        refine wpAnyH_ready (rs := [1]) (by kernel_rfl) (by simp) ?_
        refine AllReadyH.cons rfl (fun K hK => ?_) (AllReadyH.nil)
        go_simp
        go_at_call 39; (with_reducible refine (HP3.out).mono ?_); rintro e W5 ⟨t, rfl, t0, t1, hR5, hg5⟩
        have hO5 := own_reader HO4.out HLT.out hg5
        have HG5 := Lib.hid (grownBy_trans HG4.out hg5)
        have HR5 := Lib.hid hR5
        obtain ⟨c0, c1, c2, c3, c4⟩ := hp_cells hO5 (i := k) (by have := HK.out; omega) HCL.out.symm
        obtain ⟨d0, d1, d2, d3, d4⟩ := hp_cells hO5 (i := k + 1) (by have := HK.out; omega) HCL.out.symm
        rw [HCI.out.1] at c0 c1 c2 c3 c4
        rw [HCI.out.2] at d0 d1 d2 d3 d4
        have HS5 := Lib.hid (show W5.cell? ⟨g, k * 5, none⟩ = some (.string ci.p) ∧ W5.cell? ⟨g, k * 5 + 1, none⟩ = some (.int .i64 ci.fk) ∧ W5.cell? ⟨g, k * 5 + 2, none⟩ = some (.int .i64 ci.fv) ∧ W5.cell? ⟨g, k * 5 + 3, none⟩ = some (.int .i64 ci.tk) ∧ W5.cell? ⟨g, k * 5 + 4, none⟩ = some (.int .i64 ci.tv) ∧ W5.cell? ⟨g, (k + 1) * 5, none⟩ = some (.string cj.p) ∧ W5.cell? ⟨g, (k + 1) * 5 + 1, none⟩ = some (.int .i64 cj.fk) ∧ W5.cell? ⟨g, (k + 1) * 5 + 2, none⟩ = some (.int .i64 cj.fv) ∧ W5.cell? ⟨g, (k + 1) * 5 + 3, none⟩ = some (.int .i64 cj.tk) ∧ W5.cell? ⟨g, (k + 1) * 5 + 4, none⟩ = some (.int .i64 cj.tv) from ⟨c0, c1, c2, c3, c4, d0, d1, d2, d3, d4⟩)
        clear hR5 hg5
        refine hK.out _ _ HS5.out (fun hHeld => ?_)
        try simp only [Act.put, List.getElem_toArray, List.getElem_cons_zero, List.getElem_cons_succ, List.setIfInBounds_toArray, List.set_cons_zero, List.set_cons_succ]
        by_cases ht : t = 0
        · subst ht
          clear t0 t1
          refine wpAnyH_take (i := 2) (oi := _) (v := ?_) rfl (by kernel_rfl) (by kernel_rfl) (by kernel_rfl) (fun _ _ _ h => h) (Or.inl ⟨by rfl, ?_⟩) (by assumption) ?_
          rotate_left
          · (intro w hSw; (try dsimp only at hSw); go_simp; try with_reducible rfl)
          try simp only [Act.put, List.getElem_toArray, List.getElem_cons_zero, List.getElem_cons_succ, List.setIfInBounds_toArray, List.set_cons_zero, List.set_cons_succ]
          refine wpAnyH_take (i := 3) (oi := _) (v := ?_) rfl (by kernel_rfl) (by kernel_rfl) (by kernel_rfl) (fun _ _ _ h => h) (Or.inl ⟨by rfl, ?_⟩) (by assumption) ?_
          rotate_left
          · (intro w hSw; (try dsimp only at hSw); go_simp; try with_reducible rfl)
          try simp only [Act.put, List.getElem_toArray, List.getElem_cons_zero, List.getElem_cons_succ, List.setIfInBounds_toArray, List.set_cons_zero, List.set_cons_succ]
          first | refine wpAnyH_take (i := 4) (oi := _) (v := undef) rfl (by kernel_rfl) (by kernel_rfl) (by kernel_rfl) (fun _ _ _ h => h) (Or.inr ⟨by rfl, rfl⟩) (by assumption) ?_ | (refine wpAnyH_ready (rs := [4]) (by kernel_rfl) (by simp) ?_; refine AllReadyH.cons rfl (fun K hK => ?_) (AllReadyH.nil); rw [if_neg (by decide)]; refine hK.out _ _ (by assumption) (fun hHeld => ?_))
          try simp only [Act.put, List.getElem_toArray, List.getElem_cons_zero, List.getElem_cons_succ, List.setIfInBounds_toArray, List.set_cons_zero, List.set_cons_succ]
          first | refine wpAnyH_take (i := 5) (oi := _) (v := undef) rfl (by kernel_rfl) (by kernel_rfl) (by kernel_rfl) (fun _ _ _ h => h) (Or.inr ⟨by rfl, rfl⟩) (by assumption) ?_ | (refine wpAnyH_ready (rs := [5]) (by kernel_rfl) (by simp) ?_; refine AllReadyH.cons rfl (fun K hK => ?_) (AllReadyH.nil); rw [if_neg (by decide)]; refine hK.out _ _ (by assumption) (fun hHeld => ?_))
          try simp only [Act.put, List.getElem_toArray, List.getElem_cons_zero, List.getElem_cons_succ, List.setIfInBounds_toArray, List.set_cons_zero, List.set_cons_succ]
          first | refine wpAnyH_take (i := 6) (oi := _) (v := undef) rfl (by kernel_rfl) (by kernel_rfl) (by kernel_rfl) (fun _ _ _ h => h) (Or.inr ⟨by rfl, rfl⟩) (by assumption) ?_ | (refine wpAnyH_ready (rs := [6]) (by kernel_rfl) (by simp) ?_; refine AllReadyH.cons rfl (fun K hK => ?_) (AllReadyH.nil); rw [if_neg (by decide)]; refine hK.out _ _ (by assumption) (fun hHeld => ?_))
          try simp only [Act.put, List.getElem_toArray, List.getElem_cons_zero, List.getElem_cons_succ, List.setIfInBounds_toArray, List.set_cons_zero, List.set_cons_succ]
          first | refine wpAnyH_take (i := 7) (oi := _) (v := undef) rfl (by kernel_rfl) (by kernel_rfl) (by kernel_rfl) (fun _ _ _ h => h) (Or.inr ⟨by rfl, rfl⟩) (by assumption) ?_ | (refine wpAnyH_ready (rs := [7]) (by kernel_rfl) (by simp) ?_; refine AllReadyH.cons rfl (fun K hK => ?_) (AllReadyH.nil); rw [if_neg (by decide)]; refine hK.out _ _ (by assumption) (fun hHeld => ?_))
          try simp only [Act.put, List.getElem_toArray, List.getElem_cons_zero, List.getElem_cons_succ, List.setIfInBounds_toArray, List.set_cons_zero, List.set_cons_succ]
          first | refine wpAnyH_take (i := 8) (oi := _) (v := undef) rfl (by kernel_rfl) (by kernel_rfl) (by kernel_rfl) (fun _ _ _ h => h) (Or.inr ⟨by rfl, rfl⟩) (by assumption) ?_ | (refine wpAnyH_ready (rs := [8]) (by kernel_rfl) (by simp) ?_; refine AllReadyH.cons rfl (fun K hK => ?_) (AllReadyH.nil); rw [if_neg (by decide)]; refine hK.out _ _ (by assumption) (fun hHeld => ?_))
          try simp only [Act.put, List.getElem_toArray, List.getElem_cons_zero, List.getElem_cons_succ, List.setIfInBounds_toArray, List.set_cons_zero, List.set_cons_succ]
          first | refine wpAnyH_take (i := 9) (oi := _) (v := undef) rfl (by kernel_rfl) (by kernel_rfl) (by kernel_rfl) (fun _ _ _ h => h) (Or.inr ⟨by rfl, rfl⟩) (by assumption) ?_ | (refine wpAnyH_ready (rs := [9]) (by kernel_rfl) (by simp) ?_; refine AllReadyH.cons rfl (fun K hK => ?_) (AllReadyH.nil); rw [if_neg (by decide)]; refine hK.out _ _ (by assumption) (fun hHeld => ?_))
          try simp only [Act.put, List.getElem_toArray, List.getElem_cons_zero, List.getElem_cons_succ, List.setIfInBounds_toArray, List.set_cons_zero, List.set_cons_succ]
          first | refine wpAnyH_take (i := 10) (oi := _) (v := undef) rfl (by kernel_rfl) (by kernel_rfl) (by kernel_rfl) (fun _ _ _ h => h) (Or.inr ⟨by rfl, rfl⟩) (by assumption) ?_ | (refine wpAnyH_ready (rs := [10]) (by kernel_rfl) (by simp) ?_; refine AllReadyH.cons rfl (fun K hK => ?_) (AllReadyH.nil); rw [if_neg (by decide)]; refine hK.out _ _ (by assumption) (fun hHeld => ?_))
          try simp only [Act.put, List.getElem_toArray, List.getElem_cons_zero, List.getElem_cons_succ, List.setIfInBounds_toArray, List.set_cons_zero, List.set_cons_succ]
          first | refine wpAnyH_take (i := 11) (oi := _) (v := undef) rfl (by kernel_rfl) (by kernel_rfl) (by kernel_rfl) (fun _ _ _ h => h) (Or.inr ⟨by rfl, rfl⟩) (by assumption) ?_ | (refine wpAnyH_ready (rs := [11]) (by kernel_rfl) (by simp) ?_; refine AllReadyH.cons rfl (fun K hK => ?_) (AllReadyH.nil); rw [if_neg (by decide)]; refine hK.out _ _ (by assumption) (fun hHeld => ?_))
          try simp only [Act.put, List.getElem_toArray, List.getElem_cons_zero, List.getElem_cons_succ, List.setIfInBounds_toArray, List.set_cons_zero, List.set_cons_succ]
          first | refine wpAnyH_take (i := 12) (oi := _) (v := undef) rfl (by kernel_rfl) (by kernel_rfl) (by kernel_rfl) (fun _ _ _ h => h) (Or.inr ⟨by rfl, rfl⟩) (by assumption) ?_ | (refine wpAnyH_ready (rs := [12]) (by kernel_rfl) (by simp) ?_; refine AllReadyH.cons rfl (fun K hK => ?_) (AllReadyH.nil); rw [if_neg (by decide)]; refine hK.out _ _ (by assumption) (fun hHeld => ?_))
          try simp only [Act.put, List.getElem_toArray, List.getElem_cons_zero, List.getElem_cons_succ, List.setIfInBounds_toArray, List.set_cons_zero, List.set_cons_succ]
          first | refine wpAnyH_take (i := 13) (oi := _) (v := undef) rfl (by kernel_rfl) (by kernel_rfl) (by kernel_rfl) (fun _ _ _ h => h) (Or.inr ⟨by rfl, rfl⟩) (by assumption) ?_ | (refine wpAnyH_ready (rs := [13]) (by kernel_rfl) (by simp) ?_; refine AllReadyH.cons rfl (fun K hK => ?_) (AllReadyH.nil); rw [if_neg (by decide)]; refine hK.out _ _ (by assumption) (fun hHeld => ?_))
          try simp only [Act.put, List.getElem_toArray, List.getElem_cons_zero, List.getElem_cons_succ, List.setIfInBounds_toArray, List.set_cons_zero, List.set_cons_succ]
          refine wpAnyH_take (i := 14) (oi := _) (v := ?_) rfl (by kernel_rfl) (by kernel_rfl) (by kernel_rfl) (fun _ _ _ h => h) (Or.inl ⟨by rfl, ?_⟩) (by assumption) ?_
          rotate_left
          · (intro w hSw; (try dsimp only at hSw); go_simp; try with_reducible rfl)
          try simp only [Act.put, List.getElem_toArray, List.getElem_cons_zero, List.getElem_cons_succ, List.setIfInBounds_toArray, List.set_cons_zero, List.set_cons_succ]
          refine wpAnyH_done (by kernel_rfl) ?_ _
          obtain ⟨WB, hWB⟩ : ∃ X, X = W5.alloc (.cells #[.string ci.p, .int .i64 ci.fk, .int .i64 ci.fv, .int .i64 ci.tk, .int .i64 ci.tv] 26) := ⟨_, rfl⟩
          go_upto_region 10 with (fail)
          rw [← hWB]
          have F0 : Five WB W5.heap.size (.string ci.p) (.int .i64 ci.fk) (.int .i64 ci.fv) (.int .i64 ci.tk) (.int .i64 ci.tv) := by rw [hWB]; exact five_new _ _ _ _ _ _ _
          have OB : WB.ownsRow W.heap.size 26 5 (.slice (some ⟨g, 0, none⟩) L cap) L (flatC cs) := by rw [hWB]; exact own_below hO5 (below_box _ _)
          have RB : RdAt N0 WB B (q + 1 + 1) := by rw [hWB]; exact HR5.out.alloc _
          have GB : W.grownBy WB (some B) := by rw [hWB]; exact grownBy_trans HG5.out (World.grownBy_alloc _ _ _)
          have NE : W5.heap.size ≠ g := by have : g < W5.heap.size := (hO5.lt g rfl).2; omega
          obtain ⟨c0, c1, c2, c3, c4⟩ := hp_cells OB (i := k) (by have := HK.out; omega) HCL.out.symm
          obtain ⟨d0, d1, d2, d3, d4⟩ := hp_cells OB (i := k + 1) (by have := HK.out; omega) HCL.out.symm
          rw [HCI.out.1] at c0 c1 c2 c3 c4
          rw [HCI.out.2] at d0 d1 d2 d3 d4
          have f0 := fun o => row_frozen OB o
          have hr1 := own_set5 OB (i := k) (by have := HK.out; omega) cj
          obtain ⟨x0, x1, x2, x3, x4⟩ := hp_cells hr1 (i := k + 1) (by rw [List.length_set]; exact HK.out) (by rw [List.length_set]; exact HCL.out.symm)
          obtain ⟨cx, hcx⟩ : ∃ c, atK (cs.set k cj) (k + 1) = c := ⟨_, rfl⟩
          rw [hcx] at x0 x1 x2 x3 x4
          obtain ⟨b0, b1, b2, b3, b4, -⟩ := F0.keep (grown_set5 WB g (k * 5) cj) NE
          have HSW := own_swap5 OB (i := k) (j := k + 1) (by have := HK.out; omega) HK.out
          rw [HCI.out.1, HCI.out.2] at HSW
          have HGX : WB.grownBy (set5 (set5 WB g (k * 5) cj) g ((k + 1) * 5) ci) (some g) := grown_then (grown_set5 _ _ _ _) (grown_set5 _ _ _ _) (fun j e => .inr e)
          obtain ⟨WX, hWX⟩ : ∃ X, X = set5 (set5 WB g (k * 5) cj) g ((k + 1) * 5) ci := ⟨_, rfl⟩
          rw [← hWX] at HSW HGX
          have HE := Lib.hid (mix_swap OB HSW HGX RB GB HLE.out)
          unfold set5 at x0 x1 x2 x3 x4 b0 b1 b2 b3 b4 hWX
          have hgl := World.block_lt_of_cell? WB _ c0
          have hswl := Lib.hid (shortC_swap HX.out.2.1 (i := k) (j := k + 1) (by have := HK.out; omega) HK.out)
          clear hcx hr1 OB RB GB F0 HSW HGX NE hWB
          go_wp2
          rw [← hWX]
          clear hWX c0 c1 c2 c3 c4 d0 d1 d2 d3 d4 x0 x1 x2 x3 x4 b0 b1 b2 b3 b4 f0 hgl
          go_roundw
          case rel => exact ⟨n + 1, q + 1 + 1, swapK cs k (k + 1), by go_num, HN.out, Lib.hid HE.out.1, Lib.hid ⟨by rw [swapK_length]; exact HX.out.1, hswl.out, by have := HX.out.2.2; omega⟩, Lib.hid HE.out.2.1, Lib.hid HE.out.2.2⟩
          case measure => have := HN.out; simp [intOf]; omega
        · have htp : 0 < t := by omega
          have htd : decide (0 < t) = true := decide_eq_true htp
          clear t0 t1 ht
          refine wpAnyH_take (i := 2) (oi := _) (v := ?_) rfl (by kernel_rfl) (by kernel_rfl) (by kernel_rfl) (fun _ _ _ h => h) (Or.inl ⟨by rfl, ?_⟩) (by assumption) ?_
          rotate_left
          · (intro w hSw; (try dsimp only at hSw); go_simp; try with_reducible rfl)
          try simp only [Act.put, List.getElem_toArray, List.getElem_cons_zero, List.getElem_cons_succ, List.setIfInBounds_toArray, List.set_cons_zero, List.set_cons_succ]
          refine wpAnyH_take (i := 3) (oi := _) (v := ?_) rfl (by kernel_rfl) (by kernel_rfl) (by kernel_rfl) (fun _ _ _ h => h) (Or.inl ⟨by rfl, ?_⟩) (by assumption) ?_
          rotate_left
          · (intro w hSw; (try dsimp only at hSw); go_simp; try with_reducible rfl)
          try simp only [Act.put, List.getElem_toArray, List.getElem_cons_zero, List.getElem_cons_succ, List.setIfInBounds_toArray, List.set_cons_zero, List.set_cons_succ]
          refine wpAnyH_take (i := 4) (oi := _) (v := ?_) rfl (by kernel_rfl) (by kernel_rfl) (by kernel_rfl) (fun _ _ _ h => h) (Or.inl ⟨by rfl, ?_⟩) (by assumption) ?_
          rotate_left
          · (intro w hSw; (try dsimp only at hSw); go_simp; try with_reducible rfl)
          try simp only [Act.put, List.getElem_toArray, List.getElem_cons_zero, List.getElem_cons_succ, List.setIfInBounds_toArray, List.set_cons_zero, List.set_cons_succ]
          refine wpAnyH_take (i := 5) (oi := _) (v := ?_) rfl (by kernel_rfl) (by kernel_rfl) (by kernel_rfl) (fun _ _ _ h => h) (Or.inl ⟨by rfl, ?_⟩) (by assumption) ?_
          rotate_left
          · (intro w hSw; (try dsimp only at hSw); go_simp; try with_reducible rfl)
          try simp only [Act.put, List.getElem_toArray, List.getElem_cons_zero, List.getElem_cons_succ, List.setIfInBounds_toArray, List.set_cons_zero, List.set_cons_succ]
          refine wpAnyH_take (i := 6) (oi := _) (v := ?_) rfl (by kernel_rfl) (by kernel_rfl) (by kernel_rfl) (fun _ _ _ h => h) (Or.inl ⟨by rfl, ?_⟩) (by assumption) ?_
          rotate_left
          · (intro w hSw; (try dsimp only at hSw); go_simp; try with_reducible rfl)
          try simp only [Act.put, List.getElem_toArray, List.getElem_cons_zero, List.getElem_cons_succ, List.setIfInBounds_toArray, List.set_cons_zero, List.set_cons_succ]
          refine wpAnyH_take (i := 7) (oi := _) (v := ?_) rfl (by kernel_rfl) (by kernel_rfl) (by kernel_rfl) (fun _ _ _ h => h) (Or.inl ⟨by rfl, ?_⟩) (by assumption) ?_
          rotate_left
          · (intro w hSw; (try dsimp only at hSw); go_simp; try with_reducible rfl)
          try simp only [Act.put, List.getElem_toArray, List.getElem_cons_zero, List.getElem_cons_succ, List.setIfInBounds_toArray, List.set_cons_zero, List.set_cons_succ]
          refine wpAnyH_take (i := 8) (oi := _) (v := ?_) rfl (by kernel_rfl) (by kernel_rfl) (by kernel_rfl) (fun _ _ _ h => h) (Or.inl ⟨by rfl, ?_⟩) (by assumption) ?_
          rotate_left
          · (intro w hSw; (try dsimp only at hSw); go_simp; try with_reducible rfl)
          try simp only [Act.put, List.getElem_toArray, List.getElem_cons_zero, List.getElem_cons_succ, List.setIfInBounds_toArray, List.set_cons_zero, List.set_cons_succ]
          refine wpAnyH_take (i := 9) (oi := _) (v := ?_) rfl (by kernel_rfl) (by kernel_rfl) (by kernel_rfl) (fun _ _ _ h => h) (Or.inl ⟨by rfl, ?_⟩) (by assumption) ?_
          rotate_left
          · (intro w hSw; (try dsimp only at hSw); go_simp; try with_reducible rfl)
          try simp only [Act.put, List.getElem_toArray, List.getElem_cons_zero, List.getElem_cons_succ, List.setIfInBounds_toArray, List.set_cons_zero, List.set_cons_succ]
          refine wpAnyH_take (i := 10) (oi := _) (v := ?_) rfl (by kernel_rfl) (by kernel_rfl) (by kernel_rfl) (fun _ _ _ h => h) (Or.inl ⟨by rfl, ?_⟩) (by assumption) ?_
          rotate_left
          · (intro w hSw; (try dsimp only at hSw); go_simp; try with_reducible rfl)
          try simp only [Act.put, List.getElem_toArray, List.getElem_cons_zero, List.getElem_cons_succ, List.setIfInBounds_toArray, List.set_cons_zero, List.set_cons_succ]
          refine wpAnyH_take (i := 11) (oi := _) (v := ?_) rfl (by kernel_rfl) (by kernel_rfl) (by kernel_rfl) (fun _ _ _ h => h) (Or.inl ⟨by rfl, ?_⟩) (by assumption) ?_
          rotate_left
          · (intro w hSw; (try dsimp only at hSw); go_simp; try with_reducible rfl)
          try simp only [Act.put, List.getElem_toArray, List.getElem_cons_zero, List.getElem_cons_succ, List.setIfInBounds_toArray, List.set_cons_zero, List.set_cons_succ]
          refine wpAnyH_take (i := 12) (oi := _) (v := ?_) rfl (by kernel_rfl) (by kernel_rfl) (by kernel_rfl) (fun _ _ _ h => h) (Or.inl ⟨by rfl, ?_⟩) (by assumption) ?_
          rotate_left
          · (intro w hSw; (try dsimp only at hSw); go_simp; try with_reducible rfl)
          try simp only [Act.put, List.getElem_toArray, List.getElem_cons_zero, List.getElem_cons_succ, List.setIfInBounds_toArray, List.set_cons_zero, List.set_cons_succ]
          refine wpAnyH_ready (rs := [13]) (by kernel_rfl) (by simp) ?_
          refine AllReadyH.cons rfl (fun K hK => ?_) (AllReadyH.nil)
          go_simp
          go_at_call 40; (with_reducible refine (HM.out _).mono ?_); rintro e W6 ⟨rfl, hb6⟩
          have HO6 := Lib.hid (own_below hO5 hb6)
          have HG6 := Lib.hid (grownBy_trans HG5.out (below_grown_any hb6 (some B)))
          have HR6 := Lib.hid (HR5.out.keep hb6)
          obtain ⟨s0, s1, s2, s3, s4, r0, r1, r2, r3, r4⟩ := HS5.out
          replace HS5 := Lib.hid (And.intro (cell_kept hb6 s0) (And.intro (cell_kept hb6 s1) (And.intro (cell_kept hb6 s2) (And.intro (cell_kept hb6 s3) (And.intro (cell_kept hb6 s4) (And.intro (cell_kept hb6 r0) (And.intro (cell_kept hb6 r1) (And.intro (cell_kept hb6 r2) (And.intro (cell_kept hb6 r3) (cell_kept hb6 r4))))))))))
          clear hb6 s0 s1 s2 s3 s4 r0 r1 r2 r3 r4
          refine hK.out _ _ HS5.out (fun hHeld => ?_)
          try simp only [Act.put, List.getElem_toArray, List.getElem_cons_zero, List.getElem_cons_succ, List.setIfInBounds_toArray, List.set_cons_zero, List.set_cons_succ]
          refine wpAnyH_take (i := 14) (oi := _) (v := ?_) rfl (by kernel_rfl) (by kernel_rfl) (by kernel_rfl) (fun _ _ _ h => h) (Or.inl ⟨by rfl, ?_⟩) (by assumption) ?_
          rotate_left
          · (intro w hSw; (try dsimp only at hSw); go_simp; try with_reducible rfl)
          try simp only [Act.put, List.getElem_toArray, List.getElem_cons_zero, List.getElem_cons_succ, List.setIfInBounds_toArray, List.set_cons_zero, List.set_cons_succ]
          refine wpAnyH_done (by kernel_rfl) ?_ _
          cases mm with
          | true =>
            go_wp2
            go_roundw
            case rel => exact ⟨n + 1, q + 2, cs, by go_num, HN.out, HO6, Lib.hid ⟨HX.out.1, HX.out.2.1, by have := HX.out.2.2; omega⟩, HR6, HG6⟩
            case measure => have := HN.out; simp [intOf]; omega
          | false =>
            obtain ⟨WB, hWB⟩ : ∃ X, X = W6.alloc (.cells #[.string ci.p, .int .i64 ci.fk, .int .i64 ci.fv, .int .i64 ci.tk, .int .i64 ci.tv] 26) := ⟨_, rfl⟩
            go_upto_region 10 with (fail)
            rw [← hWB]
            have F0 : Five WB W6.heap.size (.string ci.p) (.int .i64 ci.fk) (.int .i64 ci.fv) (.int .i64 ci.tk) (.int .i64 ci.tv) := by rw [hWB]; exact five_new _ _ _ _ _ _ _
            have OB : WB.ownsRow W.heap.size 26 5 (.slice (some ⟨g, 0, none⟩) L cap) L (flatC cs) := by rw [hWB]; exact own_below HO6.out (below_box _ _)
            have RB : RdAt N0 WB B (q + 1 + 1) := by rw [hWB]; exact HR6.out.alloc _
            have GB : W.grownBy WB (some B) := by rw [hWB]; exact grownBy_trans HG6.out (World.grownBy_alloc _ _ _)
            have NE : W6.heap.size ≠ g := by have : g < W6.heap.size := (HO6.out.lt g rfl).2; omega
            obtain ⟨c0, c1, c2, c3, c4⟩ := hp_cells OB (i := k) (by have := HK.out; omega) HCL.out.symm
            obtain ⟨d0, d1, d2, d3, d4⟩ := hp_cells OB (i := k + 1) (by have := HK.out; omega) HCL.out.symm
            rw [HCI.out.1] at c0 c1 c2 c3 c4
            rw [HCI.out.2] at d0 d1 d2 d3 d4
            have f0 := fun o => row_frozen OB o
            have hr1 := own_set5 OB (i := k) (by have := HK.out; omega) cj
            obtain ⟨x0, x1, x2, x3, x4⟩ := hp_cells hr1 (i := k + 1) (by rw [List.length_set]; exact HK.out) (by rw [List.length_set]; exact HCL.out.symm)
            obtain ⟨cx, hcx⟩ : ∃ c, atK (cs.set k cj) (k + 1) = c := ⟨_, rfl⟩
            rw [hcx] at x0 x1 x2 x3 x4
            obtain ⟨b0, b1, b2, b3, b4, -⟩ := F0.keep (grown_set5 WB g (k * 5) cj) NE
            have HSW := own_swap5 OB (i := k) (j := k + 1) (by have := HK.out; omega) HK.out
            rw [HCI.out.1, HCI.out.2] at HSW
            have HGX : WB.grownBy (set5 (set5 WB g (k * 5) cj) g ((k + 1) * 5) ci) (some g) := grown_then (grown_set5 _ _ _ _) (grown_set5 _ _ _ _) (fun j e => .inr e)
            obtain ⟨WX, hWX⟩ : ∃ X, X = set5 (set5 WB g (k * 5) cj) g ((k + 1) * 5) ci := ⟨_, rfl⟩
            rw [← hWX] at HSW HGX
            have HE := Lib.hid (mix_swap OB HSW HGX RB GB HLE.out)
            unfold set5 at x0 x1 x2 x3 x4 b0 b1 b2 b3 b4 hWX
            have hgl := World.block_lt_of_cell? WB _ c0
            have hswl := Lib.hid (shortC_swap HX.out.2.1 (i := k) (j := k + 1) (by have := HK.out; omega) HK.out)
            clear hcx hr1 OB RB GB F0 HSW HGX NE hWB
            go_wp2
            rw [← hWX]
            clear hWX c0 c1 c2 c3 c4 d0 d1 d2 d3 d4 x0 x1 x2 x3 x4 b0 b1 b2 b3 b4 f0 hgl
            go_roundw
            case rel => exact ⟨n + 1, q + 1 + 1, swapK cs k (k + 1), by go_num, HN.out, Lib.hid HE.out.1, Lib.hid ⟨by rw [swapK_length]; exact HX.out.1, hswl.out, by have := HX.out.2.2; omega⟩, Lib.hid HE.out.2.1, Lib.hid HE.out.2.2⟩
            case measure => have := HN.out; simp [intOf]; omega
      · have hl1' : ¬ ((1 : Int) < L) := by omega
        clear hn hl1
        go_wp2
        go_ret2
        exact ⟨_, _, cs, q, rfl, by rw [HX.out.1]; exact HO.out, by have := HX.out.1; have := HL.out.2; omega, HX.out.2.1, by have := HX.out.2.2; have := HQ2.out; have := HN5.out; omega, HR.out, HG.out⟩
    · have hge : N ≤ (n : Int) := by omega
      clear hn hlt
      go_wp2
      go_ret2
      exact ⟨_, _, cs, q, rfl, by rw [HX.out.1]; exact HO.out, by have := HX.out.1; have := HL.out.2; omega, HX.out.2.1, by have := HX.out.2.2; have := HQ2.out; have := HN5.out; omega, HR.out, HG.out⟩

end Go.Proofs.Ytpjoahddbdmbpaa

/-
  WALKS: spec.DrawMustPrecede.
-/
namespace Go.Proofs.Ytpjoahddbdmbpaa
open Go.RowKit
set_option linter.unusedVariables false

theorem ox_first : (0 : Nat) ≤ 0 := Nat.le_refl 0

/-- Two commands. -/
def TwoDraw (W : World) (e : Ending) (W' : World) : Prop :=
  ∃ c d : Cmd, e = .returned (.tuple #[cmdV c, cmdV d]) ∧ c.p.size ≤ 66 ∧ d.p.size ≤ 66 ∧ Below W.heap.size W W'

def FiveC (W : World) (n : Nat) (c : Cmd) : Prop := Five W n (.string c.p) (.int .i64 c.fk) (.int .i64 c.fv) (.int .i64 c.tk) (.int .i64 c.tv)

theorem two_results (fn : Func) (hf : fn.results = #[.cell 2 26, .cell 3 26]) (W : World) (n m : Nat) (c d : Cmd) (tmps : Array Value) (ht : tmps[2]? = some (.pointer (some ⟨n, 0, none⟩))) (hb : tmps[3]? = some (.pointer (some ⟨m, 0, none⟩)))
    (h : FiveC W n c) (k : FiveC W m d) : (results fn tmps).run Try.prog W = .ok (.tuple #[cmdV c, cmdV d]) W := by
  obtain ⟨c0, c1, c2, c3, c4, f0, f1, f2, f3, f4, hz⟩ := h
  obtain ⟨d0, d1, d2, d3, d4, g0, g1, g2, g3, g4, hz2⟩ := k
  simp [results, hf, go_sem, ht, hb, c0, c1, c2, c3, c4, d0, d1, d2, d3, d4, cmdV]

/-- A command written into a box. -/
def putB (W : World) (n : Nat) (c : Cmd) : World :=
  ((((W.setCell ⟨n, 0, none⟩ (.string c.p)).setCell ⟨n, 1, none⟩ (.int .i64 c.fk)).setCell ⟨n, 2, none⟩ (.int .i64 c.fv)).setCell ⟨n, 3, none⟩ (.int .i64 c.tk)).setCell ⟨n, 4, none⟩ (.int .i64 c.tv)
theorem putB_grown (W : World) (n : Nat) (c : Cmd) : W.grownBy (putB W n c) (some n) := by
  unfold putB
  exact grownBy_trans (grownBy_trans (grownBy_trans (grownBy_trans (grownBy_setCell_at _ _ _ _) (grownBy_setCell_at _ _ _ _)) (grownBy_setCell_at _ _ _ _)) (grownBy_setCell_at _ _ _ _)) (grownBy_setCell_at _ _ _ _)
theorem putB_at {W : World} {n : Nat} {c d : Cmd} (h : FiveC W n c) : FiveC (putB W n d) n d := Five.setAll h

/-- What stands while two commands are drawn. -/
structure MSt (W : World) (B base m7 m8 : Nat) (a3 : Option Addr) (cap : Nat) (cs : List Cmd) (z0 z1 a b : Cmd) (q : Nat) (wr : World) : Prop where
  f0 : FiveC wr W.heap.size z0
  f1 : FiveC wr (W.heap.size + 1) z1
  f7 : FiveC wr m7 a
  f8 : FiveC wr m8 b
  own : wr.ownsRow base 26 5 (.slice a3 cs.length cap) cs.length (flatC cs)
  rd : RdAt (B + 1) wr B q
  bel : Below W.heap.size W wr

theorem MSt.below {W wr w' : World} {B base m7 m8 cap q : Nat} {a3 : Option Addr} {cs : List Cmd} {z0 z1 a b : Cmd} (h : MSt W B base m7 m8 a3 cap cs z0 z1 a b q wr) (hb : Below wr.heap.size wr w') : MSt W B base m7 m8 a3 cap cs z0 z1 a b q w' :=
  ⟨Five.below h.f0 hb, Five.below h.f1 hb, Five.below h.f7 hb, Five.below h.f8 hb, own_below h.own hb, h.rd.keep hb, below_next h.bel hb⟩

theorem MSt.read {W wr w' : World} {B base m7 m8 cap q q' : Nat} {a3 : Option Addr} {cs : List Cmd} {z0 z1 a b : Cmd} (h : MSt W B base m7 m8 a3 cap cs z0 z1 a b q wr) (h1 : W.heap.size + 1 < B) (h2 : B < base) (h7 : B < m7) (h8 : B < m8) (hg : wr.grownBy w' (some B)) (hR : RdAt (B + 1) w' B q') : MSt W B base m7 m8 a3 cap cs z0 z1 a b q' w' :=
  ⟨Five.keep h.f0 hg (by omega), Five.keep h.f1 hg (by omega), Five.keep h.f7 hg (by omega), Five.keep h.f8 hg (by omega), own_reader h.own h2 hg, hR, h.bel.grown hg h.bel.size (fun k e => by cases e; omega)⟩

theorem rd_put {N0 B q n : Nat} {W : World} {c : Cmd} (h : RdAt N0 W B q) (hn : N0 ≤ n) : RdAt N0 (putB W n c) B q := by
  unfold putB
  exact ((((h.setNew _ _ hn).setNew _ _ hn).setNew _ _ hn).setNew _ _ hn).setNew _ _ hn

theorem MSt.put7 {W wr : World} {B base m7 m8 cap q : Nat} {a3 : Option Addr} {cs : List Cmd} {z0 z1 a b : Cmd} (h : MSt W B base m7 m8 a3 cap cs z0 z1 a b q wr) (h1 : W.heap.size + 1 < B) (h7 : B < m7) (h78 : m7 < m8) (ho : ∀ k, (Value.slice a3 cs.length cap).ownBlock = some k → k < m7) (x : Cmd) : MSt W B base m7 m8 a3 cap cs z0 z1 x b q (putB wr m7 x) :=
  ⟨Five.keep h.f0 (putB_grown wr m7 x) (by omega), Five.keep h.f1 (putB_grown wr m7 x) (by omega), putB_at h.f7, Five.keep h.f8 (putB_grown wr m7 x) (by omega),
   h.own.kept (putB_grown wr m7 x) (by cases hv : (Value.slice a3 cs.length cap).ownBlock with | none => exact .inl rfl | some k => right; intro e; cases e; have := ho _ hv; omega), rd_put h.rd (by omega), h.bel.grown (putB_grown wr m7 x) h.bel.size (fun k e => by cases e; omega)⟩

theorem MSt.put8 {W wr : World} {B base m7 m8 cap q : Nat} {a3 : Option Addr} {cs : List Cmd} {z0 z1 a b : Cmd} (h : MSt W B base m7 m8 a3 cap cs z0 z1 a b q wr) (h1 : W.heap.size + 1 < B) (h7 : B < m7) (h78 : m7 < m8) (ho : ∀ k, (Value.slice a3 cs.length cap).ownBlock = some k → k < m7) (x : Cmd) : MSt W B base m7 m8 a3 cap cs z0 z1 a x q (putB wr m8 x) :=
  ⟨Five.keep h.f0 (putB_grown wr m8 x) (by omega), Five.keep h.f1 (putB_grown wr m8 x) (by omega), Five.keep h.f7 (putB_grown wr m8 x) (by omega), putB_at h.f8,
   h.own.kept (putB_grown wr m8 x) (by cases hv : (Value.slice a3 cs.length cap).ownBlock with | none => exact .inl rfl | some k => right; intro e; cases e; have := ho _ hv; omega), rd_put h.rd (by omega), h.bel.grown (putB_grown wr m8 x) h.bel.size (fun k e => by cases e; omega)⟩

/-- Both results written. -/
theorem MSt.done {W wr : World} {B base m7 m8 cap q : Nat} {a3 : Option Addr} {cs : List Cmd} {z0 z1 a b : Cmd} (h : MSt W B base m7 m8 a3 cap cs z0 z1 a b q wr) : FiveC (putB (putB wr W.heap.size a) (W.heap.size + 1) b) W.heap.size a ∧ FiveC (putB (putB wr W.heap.size a) (W.heap.size + 1) b) (W.heap.size + 1) b ∧ Below W.heap.size W (putB (putB wr W.heap.size a) (W.heap.size + 1) b) := by
  have g1 := putB_grown wr W.heap.size a
  have g2 := putB_grown (putB wr W.heap.size a) (W.heap.size + 1) b
  refine ⟨Five.keep (putB_at h.f0) g2 (by omega), putB_at (Five.keep h.f1 g1 (by omega)), ?_⟩
  have b1 := h.bel.grown g1 h.bel.size (fun k e => by cases e; exact Nat.le_refl _)
  exact b1.grown g2 b1.size (fun k e => by cases e; omega)

theorem two_done {W wr : World} {z0 z1 a b : Cmd} (f0 : FiveC wr W.heap.size z0) (f1 : FiveC wr (W.heap.size + 1) z1) (bel : Below W.heap.size W wr) : FiveC (putB (putB wr W.heap.size a) (W.heap.size + 1) b) W.heap.size a ∧ FiveC (putB (putB wr W.heap.size a) (W.heap.size + 1) b) (W.heap.size + 1) b ∧ Below W.heap.size W (putB (putB wr W.heap.size a) (W.heap.size + 1) b) := by
  have g1 := putB_grown wr W.heap.size a
  have g2 := putB_grown (putB wr W.heap.size a) (W.heap.size + 1) b
  refine ⟨Five.keep (putB_at f0) g2 (by omega), putB_at (Five.keep f1 g1 (by omega)), ?_⟩
  have b1 := bel.grown g1 bel.size (fun k e => by cases e; exact Nat.le_refl _)
  exact b1.grown g2 b1.size (fun k e => by cases e; omega)

theorem MSt.done2 {W wr : World} {B base m7 m8 cap q : Nat} {a3 : Option Addr} {cs : List Cmd} {z0 z1 a b : Cmd} (h : MSt W B base m7 m8 a3 cap cs z0 z1 a b q wr) : FiveC (putB (putB wr (W.heap.size + 1) b) W.heap.size a) W.heap.size a ∧ FiveC (putB (putB wr (W.heap.size + 1) b) W.heap.size a) (W.heap.size + 1) b ∧ Below W.heap.size W (putB (putB wr (W.heap.size + 1) b) W.heap.size a) := by
  have g1 := putB_grown wr (W.heap.size + 1) b
  have g2 := putB_grown (putB wr (W.heap.size + 1) b) W.heap.size a
  refine ⟨putB_at (Five.keep h.f0 g1 (by omega)), Five.keep (putB_at h.f1) g2 (by omega), ?_⟩
  have b1 := h.bel.grown g1 h.bel.size (fun k e => by cases e; omega)
  exact b1.grown g2 b1.size (fun k e => by cases e; exact Nat.le_refl _)

def MRel (W : World) (B base m7 m8 : Nat) (a3 : Option Addr) (cap : Nat) (cs : List Cmd) (z0 z1 : Cmd) (q0 : Nat) (i : Value) (wr : World) : Prop :=
  ∃ (n q : Nat) (a b : Cmd), i = .int .i64 n ∧ n ≤ 12 ∧ Hid (MSt W B base m7 m8 a3 cap cs z0 z1 a b q wr) ∧ Hid (a.p.size ≤ 66 ∧ b.p.size ≤ 66 ∧ q ≤ q0 + 2 * n)

set_option maxHeartbeats 4000000 in
set_option maxRecDepth 100000 in
theorem drawMustPrecede_c (a : Option Addr) (len cap : Nat) (zs : List Int) (W : World) (h : IsRow .u8 W a len cap zs) :
    Calls Try.prog 14 #[.slice a len cap] W (TwoDraw W) := by
  have HI := Lib.hid h
  clear h
  go_enter Try.func14, Try.ntmps14
  go_upto_region 1 with (fail)
  obtain ⟨WA, hWA⟩ : ∃ X, X = (W.alloc (.cells #[.string ⟨#[]⟩, .int .i64 0, .int .i64 0, .int .i64 0, .int .i64 0] 26)).alloc (.cells #[.string ⟨#[]⟩, .int .i64 0, .int .i64 0, .int .i64 0, .int .i64 0] 26) := ⟨_, rfl⟩
  rw [← hWA]
  have F0 : FiveC WA W.heap.size zeroC := by rw [hWA]; exact (five_new W _ _ _ _ _ _).alloc _
  have F1 : FiveC WA (W.heap.size + 1) zeroC := by rw [hWA]; have := five_new (W.alloc (.cells #[.string ⟨#[]⟩, .int .i64 0, .int .i64 0, .int .i64 0, .int .i64 0] 26)) (.string ⟨#[]⟩) (.int .i64 0) (.int .i64 0) (.int .i64 0) (.int .i64 0) 26; rw [World.size_alloc] at this; exact this
  have BA : Below W.heap.size W WA := by rw [hWA]; exact below_next (below_box W _) (below_box _ _)
  obtain ⟨B, hBB⟩ : ∃ B, WA.heap.size = B := ⟨_, rfl⟩
  have SZ : W.heap.size + 1 < B := by rw [← hBB, hWA, World.size_alloc, World.size_alloc]; omega
  have HSZ := Lib.hid SZ
  have HIA : Hid (IsRow .u8 WA a len cap zs) := by rw [hWA]; exact Lib.hid ((HI.out.alloc _).alloc _)
  have HO := Lib.hid (l6Open_c a len cap zs WA HIA.out)
  have HF := Lib.hid (And.intro F0 (And.intro F1 BA))
  unfold OpenPost at HO
  rw [hBB] at HO
  clear hWA F0 F1 BA SZ HI
  go_wp2_with fail
  refine HO.out.mono ?_; rintro e W1 ⟨rfl, hR, hB⟩
  rw [← hBB] at hB
  have F0 := Five.below HF.out.1 hB
  have F1 := Five.below HF.out.2.1 hB
  have BB := below_next HF.out.2.2 hB
  have HLT := Lib.hid (show B < W1.heap.size from hR.lt)
  have HT := Lib.hid (l91Tree_c (B + 1) B 0 8 (by omega) (by omega) W1 (by omega) hR)
  have HS1 := Lib.hid (And.intro F0 (And.intro F1 BB))
  clear hR hB F0 F1 BB HF HO hBB
  go_wp2_with fail
  refine HT.out.mono ?_; rintro e W2 ⟨sl, ns, q, rfl, hown, -, hl, hs, hq, hR2, hg⟩
  have HLG := Lib.hid (l91Log_c (B + 1) B q W1.heap.size sl ns 14 (by omega) (by omega) (by omega) hs HLT.out W2 hg.size hown (by omega) hR2)
  have HNS := Lib.hid (And.intro hown (And.intro hl hs))
  have HG2 := Lib.hid hg
  have HQ := Lib.hid hq
  clear hown hl hs hq hR2 hg
  go_wp2_with fail
  refine HLG.out.mono ?_; rintro e W3 ⟨v, cs, q3, rfl, ho3, hl3, hs3, hq3, hR3, hg3⟩
  have HG3 := Lib.hid (grownBy_trans HG2.out hg3)
  have HN3 := Lib.hid (own_reader HNS.out.1 HLT.out hg3)
  have HQ3 := Lib.hid (show q3 ≤ 1680 by have := HQ.out; omega)
  have F0 := Lib.hid (Five.keep HS1.out.1 HG3.out (by have := HSZ.out; omega))
  have F1 := Lib.hid (Five.keep HS1.out.2.1 HG3.out (by have := HSZ.out; omega))
  have B3 := Lib.hid (show Below W.heap.size W W3 from HS1.out.2.2.grown HG3.out HS1.out.2.2.size (fun k e => by cases e; have := HSZ.out; omega))
  have HO3 := Lib.hid ho3
  have HR3 := Lib.hid hR3
  have HX := Lib.hid (And.intro hl3 hs3)
  obtain ⟨a3, c3, rfl, hC3⟩ := cmds_of_own ho3
  have HC3 := Lib.hid hC3
  have HLT2 := Lib.hid (show B < W2.heap.size by have h1 := HLT.out; have h2 := HG2.out.size; omega)
  have hcl : (cs.length : Int) ≤ 20 := by omega
  have HPK := Lib.hid (fun q n h0 h1 W1 hq hR => pick_c (B + 1) B q n h0 h1 W1 hq hR)
  have HMU := Lib.hid (fun c d w => specMust_c c d w)
  clear ho3 hl3 hs3 hq3 hR3 hg3 hC3
  by_cases hl1 : 1 < cs.length
  · have hl1' : (1 : Int) < cs.length := by omega
    have HL1 := Lib.hid hl1
    clear hl1
    go_wp2_with fail
    refine (HPK.out q3 cs.length (by omega) (by omega) _ (by have := HQ3.out; omega) HR3.out).mono ?_; rintro e W4 ⟨k', rfl, k0, k1, hR4, hg4⟩
    obtain ⟨k, rfl⟩ := Int.eq_ofNat_of_zero_le k0
    have HO4 := Lib.hid (own_reader HO3.out HLT2.out hg4)
    obtain ⟨ax, cx, hv, hC4⟩ := cmds_of_own HO4.out
    injection hv with e1 _ e3
    subst e1; subst e3
    obtain ⟨b, off, x, rfl, hx, c0, c1, c2, c3', c4⟩ := hC4.node (i := k) (by omega)
    have hxs := HX.out.2.at hx
    have F04 := Lib.hid (Five.keep F0.out hg4 (by have := HSZ.out; omega))
    have F14 := Lib.hid (Five.keep F1.out hg4 (by have := HSZ.out; omega))
    have B4 := Lib.hid (show Below W.heap.size W W4 from B3.out.grown hg4 B3.out.size (fun k e => by cases e; have := HSZ.out; omega))
    have HR4 := Lib.hid hR4
    have HBX := Lib.hid (below_box W4 (.cells #[.string x.p, .int .i64 x.fk, .int .i64 x.fv, .int .i64 x.tk, .int .i64 x.tv] 26))
    have HXS := Lib.hid hxs
    have h7 := five_new W4 (.string x.p) (.int .i64 x.fk) (.int .i64 x.fv) (.int .i64 x.tk) (.int .i64 x.tv) 26
    have H7 := Lib.hid h7
    clear hR4 hg4 hC4 hx hxs h7 k0
    go_upto_region 6 with (fail)
    obtain ⟨WB, hWB⟩ : ∃ X, X = W4.alloc (.cells #[.string x.p, .int .i64 x.fk, .int .i64 x.fv, .int .i64 x.tk, .int .i64 x.tv] 26) := ⟨_, rfl⟩
    rw [← hWB]
    have HWS := Lib.hid (show WB.heap.size = W4.heap.size + 1 by rw [hWB, World.size_alloc])
    rw [← hWB] at HBX H7
    have HR5 := Lib.hid (HR4.out.keep HBX.out)
    have F05 := Lib.hid (Five.below F04.out HBX.out)
    have F15 := Lib.hid (Five.below F14.out HBX.out)
    have HO5 := Lib.hid (own_below HO4.out HBX.out)
    have B5 := Lib.hid (below_next B4.out HBX.out)
    clear hWB HBX c0 c1 c2 c3' c4
    go_wp2_with fail
    refine (HPK.out (q3 + 1) cs.length (by omega) (by omega) _ (by have := HQ3.out; omega) HR5.out).mono ?_; rintro e W6 ⟨k', rfl, j0, j1, hR6, hg6⟩
    obtain ⟨j, rfl⟩ := Int.eq_ofNat_of_zero_le j0
    have HO6 := Lib.hid (own_reader HO5.out HLT2.out hg6)
    obtain ⟨ay, cy, hv, hC6⟩ := cmds_of_own HO6.out
    injection hv with e1 _ e3
    subst e1; subst e3
    obtain ⟨b', off', y, hbb, hy, c0, c1, c2, c3', c4⟩ := hC6.node (i := j) (by omega)
    cases hbb
    have hys := HX.out.2.at hy
    have HYS := Lib.hid hys
    have HNUM := Lib.hid (show B < W4.heap.size ∧ W4.heap.size < W6.heap.size ∧ (∀ k, (Value.slice (some ⟨b, off, none⟩) cs.length c3).ownBlock = some k → k < W4.heap.size) by
      refine ⟨?_, ?_, fun k e => (HO4.out.lt k e).2⟩
      · have h1 := HR4.out.lt; exact h1
      · have h1 := hg6.size; have h2 := HWS.out; omega)
    have F16 : FiveC W6 (W.heap.size + 1) zeroC := Five.keep F15.out hg6 (by have := HSZ.out; omega)
    have F06 : FiveC W6 W.heap.size zeroC := Five.keep F05.out hg6 (by have := HSZ.out; omega)
    have F76 : FiveC W6 W4.heap.size x := Five.keep H7.out hg6 (by have := HNUM.out.1; omega)
    have B6 : Below W.heap.size W W6 := B5.out.grown hg6 B5.out.size (fun k e => by cases e; have := HSZ.out; omega)
    have hbx := below_box W6 (.cells #[.string y.p, .int .i64 y.fk, .int .i64 y.fv, .int .i64 y.tk, .int .i64 y.tv] 26)
    have HST : Hid (MSt W B W2.heap.size W4.heap.size W6.heap.size (some ⟨b, off, none⟩) c3 cs zeroC zeroC x y (q3 + 1 + 1) (W6.alloc (.cells #[.string y.p, .int .i64 y.fk, .int .i64 y.fv, .int .i64 y.tk, .int .i64 y.tv] 26))) :=
      Lib.hid ⟨Five.below F06 hbx, Five.below F16 hbx, Five.below F76 hbx, five_new W6 _ _ _ _ _ _, own_below HO6.out hbx, hR6.alloc _, below_next B6 hbx⟩
    clear hR6 hg6 hC6 hy hys j0 F16 F06 F76 B6 hbx
    go_wp2_with fail
    go_loopw [9] (fun i wr => MRel W B W2.heap.size W4.heap.size W6.heap.size (some ⟨b, off, none⟩) c3 cs zeroC zeroC (q3 + 1 + 1) i wr) (fun i _ => 12 - (intOf i).toNat)
    case atStart => exact ⟨0, q3 + 1 + 1, x, y, rfl, by omega, HST, Lib.hid ⟨HXS.out, HYS.out, by omega⟩⟩
    case round =>
      obtain ⟨n, q, ca, cb, rfl, hn, HM, HC⟩ := hrel
      have HN := Lib.hid hn
      obtain ⟨u0, u1, u2, u3, u4, -⟩ := HM.out.f7
      obtain ⟨v0, v1, v2, v3, v4, -⟩ := HM.out.f8
      by_cases hlt : n < 12
      · have hlt' : (n : Int) < 12 := by omega
        have hw1 : IntKind.i64.wrap ((n : Int) + 1) = (n : Int) + 1 := IntWalk.i64_in _ (by omega)
        have HNT := Lib.hid hlt
        obtain ⟨mm, hmm⟩ : ∃ mm, mustC ca cb = mm := ⟨_, rfl⟩
        have HMC := Lib.hid (fun w => show Calls Try.prog 40 #[cmdV ca, cmdV cb] w (BoolPost mm w) by rw [← hmm]; exact HMU.out ca cb w)
        unfold cmdV at HMC
        clear hn hlt hmm
        go_wp2_with fail
        refine (HMC.out _).mono ?_
        rintro e W7 ⟨rfl, hb7⟩
        have H7M := Lib.hid (HM.out.below hb7)
        clear hb7 u0 u1 u2 u3 u4 v0 v1 v2 v3 v4
        cases mm with
        | true =>
          go_upto_region 12 with (fail)
          obtain ⟨u0, u1, u2, u3, u4, -⟩ := H7M.out.f7
          obtain ⟨v0, v1, v2, v3, v4, -⟩ := H7M.out.f8
          obtain ⟨r0, r1, r2, r3, r4, rf0, rf1, rf2, rf3, rf4, -⟩ := H7M.out.f0
          obtain ⟨s0, s1, s2, s3, s4, sf0, sf1, sf2, sf3, sf4, -⟩ := H7M.out.f1
          have hne8 : W6.heap.size ≠ W.heap.size := by have h1 := HSZ.out; have h2 := HNUM.out; omega
          have hne7 : W4.heap.size ≠ W.heap.size + 1 := by have h1 := HSZ.out; have h2 := HNUM.out; omega
          obtain ⟨x0, x1, x2, x3, x4, -⟩ := Five.keep H7M.out.f8 (putB_grown W7 W.heap.size ca) hne8
          obtain ⟨y0, y1, y2, y3, y4, -⟩ := Five.keep H7M.out.f7 (putB_grown W7 (W.heap.size + 1) cb) hne7
          have HD1 := H7M.out.done
          have HD2 := H7M.out.done2
          obtain ⟨WX, hWX⟩ : ∃ X, X = putB (putB W7 W.heap.size ca) (W.heap.size + 1) cb := ⟨_, rfl⟩
          obtain ⟨WY, hWY⟩ : ∃ X, X = putB (putB W7 (W.heap.size + 1) cb) W.heap.size ca := ⟨_, rfl⟩
          rw [← hWX] at HD1
          rw [← hWY] at HD2
          unfold putB at x0 x1 x2 x3 x4 y0 y1 y2 y3 y4 hWX hWY
          go_region
          all_goals
            rw [← hWX]
            clear hWX hWY x0 x1 x2 x3 x4 y0 y1 y2 y3 y4 u0 u1 u2 u3 u4 v0 v1 v2 v3 v4 r0 r1 r2 r3 r4 rf0 rf1 rf2 rf3 rf4 s0 s1 s2 s3 s4 sf0 sf1 sf2 sf3 sf4 HD2 WY
            go_wp2
            exact bodyPost_ret (two_results _ rfl _ W.heap.size (W.heap.size + 1) ca cb _ rfl rfl (Five.drew HD1.1) (Five.drew HD1.2.1)) rfl ⟨ca, cb, rfl, HC.out.1, HC.out.2.1, HD1.2.2.drew⟩
        | false =>
          have hqq : q < 29990 := by have := HC.out.2.2; have := HQ3.out; have := HNT.out; omega
          have HQQ := Lib.hid hqq
          clear hqq
          go_wp2_with fail
          refine (HPK.out q cs.length (by omega) (by omega) _ (by have := HQQ.out; omega) H7M.out.rd).mono ?_; rintro e W8 ⟨k', rfl, j0, j1, hR8, hg8⟩
          obtain ⟨i, rfl⟩ := Int.eq_ofNat_of_zero_le j0
          have H8 := Lib.hid (H7M.out.read HSZ.out HLT2.out HNUM.out.1 (by have := HNUM.out; omega) hg8 hR8)
          obtain ⟨az, cz, hv, hC8⟩ := cmds_of_own H8.out.own
          injection hv with e1 _ e3
          subst e1; subst e3
          obtain ⟨b2, off2, z, hbb, hz, c0, c1, c2, c3', c4⟩ := hC8.node (i := i) (by omega)
          cases hbb
          have HZS := Lib.hid (HX.out.2.at hz)
          obtain ⟨u0, u1, u2, u3, u4, g0, g1, g2, g3, g4, -⟩ := H8.out.f7
          have H9 := Lib.hid (H8.out.put7 HSZ.out HNUM.out.1 HNUM.out.2.1 HNUM.out.2.2 z)
          obtain ⟨W9, hW9⟩ : ∃ X, X = putB W8 W4.heap.size z := ⟨_, rfl⟩
          rw [← hW9] at H9
          unfold putB at hW9
          clear hR8 hg8 hC8 hz j0
          go_upto_region 11 with (fail)
          rw [← hW9]
          clear hW9 c0 c1 c2 c3' c4 u0 u1 u2 u3 u4 g0 g1 g2 g3 g4
          go_wp2_with fail
          refine (HPK.out (q + 1) cs.length (by omega) (by omega) _ (by have := HQQ.out; omega) H9.out.rd).mono ?_; rintro e W10 ⟨k', rfl, l0, l1, hR10, hg10⟩
          obtain ⟨l, rfl⟩ := Int.eq_ofNat_of_zero_le l0
          have H10 := Lib.hid (H9.out.read HSZ.out HLT2.out HNUM.out.1 (by have := HNUM.out; omega) hg10 hR10)
          obtain ⟨az, cz, hv, hC10⟩ := cmds_of_own H10.out.own
          injection hv with e1 _ e3
          subst e1; subst e3
          obtain ⟨b3, off3, t, hbb, ht, c0, c1, c2, c3', c4⟩ := hC10.node (i := l) (by omega)
          cases hbb
          have HTS := Lib.hid (HX.out.2.at ht)
          obtain ⟨u0, u1, u2, u3, u4, g0, g1, g2, g3, g4, -⟩ := H10.out.f8
          have H11 := Lib.hid (H10.out.put8 HSZ.out HNUM.out.1 HNUM.out.2.1 HNUM.out.2.2 t)
          obtain ⟨W11, hW11⟩ : ∃ X, X = putB W10 W6.heap.size t := ⟨_, rfl⟩
          rw [← hW11] at H11
          unfold putB at hW11
          clear hR10 hg10 hC10 ht l0
          go_wp2
          rw [← hW11]
          clear hW11 c0 c1 c2 c3' c4 u0 u1 u2 u3 u4 g0 g1 g2 g3 g4
          go_roundw
          case rel => exact ⟨n + 1, q + 1 + 1, z, t, by go_num, by have := HNT.out; omega, H11, Lib.hid ⟨HZS.out, HTS.out, by have := HC.out.2.2; omega⟩⟩
          case measure => have := HNT.out; simp [intOf]; omega
      · have hge : (12 : Int) ≤ n := by omega
        clear hn hlt u0 u1 u2 u3 u4 v0 v1 v2 v3 v4
        go_upto_region 12 with (fail)
        obtain ⟨u0, u1, u2, u3, u4, -⟩ := HM.out.f7
        obtain ⟨v0, v1, v2, v3, v4, -⟩ := HM.out.f8
        obtain ⟨r0, r1, r2, r3, r4, rf0, rf1, rf2, rf3, rf4, -⟩ := HM.out.f0
        obtain ⟨s0, s1, s2, s3, s4, sf0, sf1, sf2, sf3, sf4, -⟩ := HM.out.f1
        have hne8 : W6.heap.size ≠ W.heap.size := by have h1 := HSZ.out; have h2 := HNUM.out; omega
        have hne7 : W4.heap.size ≠ W.heap.size + 1 := by have h1 := HSZ.out; have h2 := HNUM.out; omega
        obtain ⟨x0, x1, x2, x3, x4, -⟩ := Five.keep HM.out.f8 (putB_grown wr W.heap.size ca) hne8
        obtain ⟨y0, y1, y2, y3, y4, -⟩ := Five.keep HM.out.f7 (putB_grown wr (W.heap.size + 1) cb) hne7
        have HD1 := HM.out.done
        have HD2 := HM.out.done2
        obtain ⟨WX, hWX⟩ : ∃ X, X = putB (putB wr W.heap.size ca) (W.heap.size + 1) cb := ⟨_, rfl⟩
        obtain ⟨WY, hWY⟩ : ∃ X, X = putB (putB wr (W.heap.size + 1) cb) W.heap.size ca := ⟨_, rfl⟩
        rw [← hWX] at HD1
        rw [← hWY] at HD2
        unfold putB at x0 x1 x2 x3 x4 y0 y1 y2 y3 y4 hWX hWY
        go_region
        all_goals
          rw [← hWX]
          clear hWX hWY x0 x1 x2 x3 x4 y0 y1 y2 y3 y4 u0 u1 u2 u3 u4 v0 v1 v2 v3 v4 r0 r1 r2 r3 r4 rf0 rf1 rf2 rf3 rf4 s0 s1 s2 s3 s4 sf0 sf1 sf2 sf3 sf4 HD2 WY
          go_wp2
          exact bodyPost_ret (two_results _ rfl _ W.heap.size (W.heap.size + 1) ca cb _ rfl rfl (Five.drew HD1.1) (Five.drew HD1.2.1)) rfl ⟨ca, cb, rfl, HC.out.1, HC.out.2.1, HD1.2.2.drew⟩
  · have hl1' : (cs.length : Int) ≤ 1 := by omega
    have HC1 := Lib.hid (l91Command_c (B + 1) B q3 W1.heap.size sl ns (by have := HNS.out.2.1; omega) HNS.out.2.2 HLT.out W3 HN3.out (by have := HQ3.out; omega) HR3.out)
    clear hl1
    go_wp2_with fail
    refine HC1.out.mono ?_; rintro e W4 ⟨c, q4, rfl, hp4, hq4, hR4, hg4⟩
    have F04 := Five.keep F0.out hg4 (by have := HSZ.out; omega)
    have F14 := Five.keep F1.out hg4 (by have := HSZ.out; omega)
    have B4 : Below W.heap.size W W4 := B3.out.grown hg4 B3.out.size (fun k e => by cases e; have := HSZ.out; omega)
    have N4 := own_reader HN3.out HLT.out hg4
    have hbx := below_box W4 (.cells #[.string c.p, .int .i64 c.fk, .int .i64 c.fv, .int .i64 c.tk, .int .i64 c.tv] 26)
    have F2 := five_new W4 (.string c.p) (.int .i64 c.fk) (.int .i64 c.fv) (.int .i64 c.tk) (.int .i64 c.tv) 26
    obtain ⟨WB, hWB⟩ : ∃ X, X = W4.alloc (.cells #[.string c.p, .int .i64 c.fk, .int .i64 c.fv, .int .i64 c.tk, .int .i64 c.tv] 26) := ⟨_, rfl⟩
    have HP4 := Lib.hid hp4
    have HQ4 := Lib.hid (show q4 < 18000 by have := HQ3.out; omega)
    have HB4 := Lib.hid (show B < W4.heap.size from hR4.lt)
    unfold cmdV
    go_upto_region 14 with (fail)
    rw [← hWB] at hbx F2 ⊢
    have HF0 := Lib.hid (Five.below F04 hbx)
    have HF1 := Lib.hid (Five.below F14 hbx)
    have HF2 := Lib.hid F2
    have HBB := Lib.hid (below_next B4 hbx)
    have HCC := Lib.hid (l91Command_c (B + 1) B q4 W1.heap.size sl ns (by have := HNS.out.2.1; omega) HNS.out.2.2 HLT.out WB.drew (own_below N4 hbx.drew) (by have := HQ4.out; omega) (hR4.keep hbx).drew)
    unfold cmdV at HCC
    clear hWB hbx F2 F04 F14 B4 N4 hR4 hg4 hp4 hq4
    obtain ⟨u0, u1, u2, u3, u4, -⟩ := HF2.out
    obtain ⟨r0, r1, r2, r3, r4, rf0, rf1, rf2, rf3, rf4, -⟩ := HF0.out
    go_region_with (refine HCC.out.mono ?_; rintro e W6 ⟨d, q6, rfl, hp6, hq6, hR6, hg6⟩; have hg6' : WB.grownBy W6 (some B) := grownBy_trans (⟨rfl, rfl, rfl, Nat.le_refl _, fun _ _ _ => rfl⟩ : WB.grownBy WB.drew (some B)) hg6; have F06 := Five.keep HF0.out hg6' (by have := HSZ.out; omega); have F16 := Five.keep HF1.out hg6' (by have := HSZ.out; omega); have F26 := Five.keep HF2.out hg6' (by have := HB4.out; omega); obtain ⟨a0, a1, a2, a3', a4, af0, af1, af2, af3, af4, -⟩ := F06; obtain ⟨s0, s1, s2, s3, s4, sf0, sf1, sf2, sf3, sf4, -⟩ := F16; obtain ⟨t0, t1, t2, t3, t4, -⟩ := F26; unfold cmdV)
    all_goals
      have E0 := Five.keep HF0.out hg6' (by have := HSZ.out; omega)
      have E1 := Five.keep HF1.out hg6' (by have := HSZ.out; omega)
      have E2 : Below W.heap.size W W6 := HBB.out.grown hg6' HBB.out.size (fun k e => by cases e; have := HSZ.out; omega)
      have HD1 := two_done (a := c) (b := d) E0 E1 E2
      obtain ⟨WX, hWX⟩ : ∃ X, X = putB (putB W6 W.heap.size c) (W.heap.size + 1) d := ⟨_, rfl⟩
      rw [← hWX] at HD1
      unfold putB at hWX
      rw [← hWX]
      clear hWX a0 a1 a2 a3' a4 af0 af1 af2 af3 af4 s0 s1 s2 s3 s4 sf0 sf1 sf2 sf3 sf4 t0 t1 t2 t3 t4 u0 u1 u2 u3 u4 r0 r1 r2 r3 r4 rf0 rf1 rf2 rf3 rf4 E0 E1 E2
      go_wp2
      exact bodyPost_ret (two_results _ rfl _ W.heap.size (W.heap.size + 1) c d _ rfl rfl HD1.1 HD1.2.1) rfl ⟨c, d, rfl, HP4.out, hp6, HD1.2.2⟩

end Go.Proofs.Ytpjoahddbdmbpaa

/-
  WALKS: spec.DrawOrdersCount, DrawOrderSwap, DrawMustPrecede.
-/
namespace Go.Proofs.Ytpjoahddbdmbpaa
open Go.RowKit
set_option linter.unusedVariables false

theorem ow_first : (0 : Nat) ≤ 0 := Nat.le_refl 0

set_option maxHeartbeats 2000000 in
set_option maxRecDepth 100000 in
theorem drawOrdersCount_c (a : Option Addr) (len cap : Nat) (zs : List Int) (W : World) (h : IsRow .u8 W a len cap zs) :
    Calls Try.prog 25 #[.slice a len cap] W (LogsPost W) := by
  have HO := Lib.hid (l6Open_c a len cap zs W h)
  have HM := Lib.hid (fun W1 hR => l91Mixed_c (W.heap.size + 1) W.heap.size 0 W1 (by omega) hR)
  have HPK := Lib.hid (fun q n h0 h1 W1 hq hR => pick_c (W.heap.size + 1) W.heap.size q n h0 h1 W1 hq hR)
  clear h
  go_enter Try.func25, Try.ntmps25
  go_wp2_with fail
  refine HO.out.mono ?_; rintro e W1 ⟨rfl, hR, hB⟩
  have HS1 := Lib.hid (show W.heap.size < W1.heap.size from hR.lt)
  have HB1 := Lib.hid hB
  clear hB
  go_wp2_with fail
  refine (HM.out _ hR).mono ?_; rintro e W2 ⟨v, sl, out, q, rfl, ho, hl, hs, hq, hR2, hg⟩
  have HO2 := Lib.hid ho
  have HG2 := Lib.hid hg
  have HX := Lib.hid (And.intro hl (And.intro hs hq))
  have HR2 := Lib.hid hR2
  obtain ⟨a2, c2, rfl, -⟩ := cmds_of_own ho
  clear ho hl hs hq hR hR2 hg
  by_cases h6 : out.length ≤ 6
  · have h6' : ¬ ((6 : Int) < out.length) := by omega
    have B2 := Lib.hid (below_of_reader HB1.out HG2.out)
    clear h6
    go_wp2
    go_ret
    exact ⟨_, out, rfl, own_mono HO2.out (Nat.le_of_lt HS1.out), HX.out.1, HX.out.2.1, B2.out⟩
  · have h6' : (6 : Int) < out.length := by omega
    have H6 := Lib.hid (show 6 < out.length by omega)
    obtain ⟨g, c3, hv, hgb, hlc, hcm⟩ := own_sliceC HO2.out (by omega)
    injection hv with e1 e2 e3
    subst e1; subst e3
    have hlc' : (out.length : Int) ≤ c2 := by omega
    clear h6 hgb hlc hcm e2
    go_wp2_with fail
    refine (HPK.out q 12 (by omega) (by omega) _ (by have := HX.out.2.2; omega) HR2.out).mono ?_; rintro e W3 ⟨t, rfl, t0, t1, hR3, hg3⟩
    have HO3 := Lib.hid (own_reader HO2.out HS1.out hg3)
    have HG3 := Lib.hid (grownBy_trans HG2.out hg3)
    have HR3 := Lib.hid hR3
    clear hg3 hR3
    by_cases ht : t = 0
    · subst ht
      have B3 := Lib.hid (below_of_reader HB1.out HG3.out)
      go_wp2
      go_ret
      exact ⟨_, out, rfl, own_mono HO3.out (Nat.le_of_lt HS1.out), HX.out.1, HX.out.2.1, B3.out⟩
    · have htp : 0 < t := by omega
      clear ht t0 t1
      go_wp2_with fail
      refine (HPK.out (q + 1) 6 (by omega) (by omega) _ (by have := HX.out.2.2; omega) HR3.out).mono ?_; rintro e W4 ⟨k', rfl, k0, k1, hR4, hg4⟩
      obtain ⟨k, rfl⟩ := Int.eq_ofNat_of_zero_le k0
      have HK := Lib.hid (show k ≤ out.length by have := H6.out; omega)
      have hkc : (k : Int) ≤ c2 := by omega
      have HO4 := Lib.hid (own_reader HO3.out HS1.out hg4)
      have B4 := Lib.hid (below_of_reader HB1.out (grownBy_trans HG3.out hg4))
      have HTK := Lib.hid (show W4.ownsRow W.heap.size 26 5 (.slice (some ⟨g, 0, none⟩) k c2) k (flatC (out.take k)) by
        have := own_takeC (own_mono HO4.out (Nat.le_of_lt HS1.out)) k HK.out
        rw [show (out.take k).length = k by rw [List.length_take]; have := HK.out; omega] at this
        exact this)
      have htl : (out.take k).length = k := by rw [List.length_take]; have := HK.out; omega
      have HTL := Lib.hid htl
      clear hg4 hR4 k1 htl
      go_wp2
      go_ret
      exact ⟨_, out.take k, rfl, by rw [HTL.out]; exact HTK.out, by rw [HTL.out]; have := HK.out; have := HX.out.1; omega, fun c hc => HX.out.2.1 c (List.mem_of_mem_take hc), B4.out⟩

/-- Commands, and a place. -/
def SwapDraw (W : World) (e : Ending) (W' : World) : Prop :=
  ∃ (sl : Value) (cs : List Cmd) (k : Int), e = .returned (.tuple #[sl, .int .i64 k]) ∧ W'.ownsRow W.heap.size 26 5 sl cs.length (flatC cs) ∧ cs.length ≤ 21 ∧ ShortC 66 cs ∧ -1 ≤ k ∧ k ≤ 22 ∧ Below W.heap.size W W'

def SwRel (N0 B : Nat) (W1 : World) (o i : Value) (wr : World) : Prop :=
  ∃ (n q cap : Nat) (a : Option Addr) (cs : List Cmd), i = .int .i64 n ∧ n ≤ 3 ∧ o = .slice a cs.length cap ∧ Hid (wr.ownsRow W1.heap.size 26 5 (.slice a cs.length cap) cs.length (flatC cs)) ∧ Hid (cs.length ≤ 21 ∧ ShortC 66 cs ∧ q ≤ 1800 * (n + 1)) ∧ Hid (RdAt N0 wr B q) ∧ Hid (W1.grownBy wr (some B))

set_option maxHeartbeats 2000000 in
set_option maxRecDepth 100000 in
theorem drawOrderSwap_c (a : Option Addr) (len cap : Nat) (zs : List Int) (W : World) (h : IsRow .u8 W a len cap zs) :
    Calls Try.prog 19 #[.slice a len cap] W (SwapDraw W) := by
  have HO := Lib.hid (l6Open_c a len cap zs W h)
  have HM := Lib.hid (fun p W1 (hp : p < 8000) hR => l91Mixed_c (W.heap.size + 1) W.heap.size p W1 hp hR)
  have HPK := Lib.hid (fun q n h0 h1 W1 hq hR => pick_c (W.heap.size + 1) W.heap.size q n h0 h1 W1 hq hR)
  clear h
  go_enter Try.func19, Try.ntmps19
  go_wp2_with fail
  refine HO.out.mono ?_; rintro e W1 ⟨rfl, hR, hB⟩
  have HS1 := Lib.hid (show W.heap.size < W1.heap.size from hR.lt)
  have HB1 := Lib.hid hB
  clear hB
  go_wp2_with fail
  refine (HM.out 0 _ (by omega) hR).mono ?_; rintro e W2 ⟨v, sl, out, q, rfl, ho, hl, hs, hq, hR2, hg⟩
  obtain ⟨a2, c2, rfl, -⟩ := cmds_of_own ho
  have HO2 := Lib.hid ho
  have HG2 := Lib.hid hg
  have HX := Lib.hid (And.intro hl (And.intro hs hq))
  have HR2 := Lib.hid hR2
  clear ho hl hs hq hR hR2 hg
  go_wp2_with fail
  go_loopw [6, 7] (fun o i wr => SwRel (W.heap.size + 1) W.heap.size W1 o i wr) (fun _ i _ => 3 - (intOf i).toNat)
  case atStart => exact ⟨0, q, c2, a2, out, rfl, by omega, rfl, HO2, Lib.hid ⟨HX.out.1, HX.out.2.1, by have := HX.out.2.2; omega⟩, HR2, HG2⟩
  case round =>
    obtain ⟨n, q, c, x, cs, rfl, hn, rfl, HO, HX, HR, HG⟩ := hrel
    have HN := Lib.hid hn
    by_cases hlt : n < 3 ∧ cs.length < 3
    · have h1 : (n : Int) < 3 := by omega
      have h2 : (cs.length : Int) < 3 := by omega
      have hw1 : IntKind.i64.wrap ((n : Int) + 1) = (n : Int) + 1 := IntWalk.i64_in _ (by omega)
      have HNT := Lib.hid hlt.1
      have HM2 := Lib.hid (HM.out q wr (by have := HX.out.2.2; omega) HR.out)
      clear hlt hn
      go_wp2_with fail
      refine HM2.out.mono ?_; rintro e W4 ⟨v, sl, out, q2, rfl, ho, hl, hs, hq, hR2, hg⟩
      obtain ⟨a4, c4, rfl, -⟩ := cmds_of_own ho
      have HO4 := Lib.hid (own_mono ho HG.out.size)
      have HG4 := Lib.hid (grownBy_trans HG.out hg)
      have HX4 := Lib.hid (show out.length ≤ 21 ∧ ShortC 66 out ∧ q2 ≤ 1800 * (n + 1 + 1) from ⟨hl, hs, by have := HX.out.2.2; omega⟩)
      have HR4 := Lib.hid hR2
      clear ho hl hs hq hR2 hg
      go_wp2
      go_roundw
      case rel => exact ⟨n + 1, q2, c4, a4, out, by go_num, by have := HNT.out; omega, rfl, HO4, HX4, HR4, HG4⟩
      case measure => have := HNT.out; simp [intOf]; omega
    · have HQ := Lib.hid (show q ≤ 7200 by have := HX.out.2.2; omega)
      have hcl : (cs.length : Int) ≤ 21 := by have := HX.out.1; omega
      have hwp : IntKind.i64.wrap ((cs.length : Int) + 1) = (cs.length : Int) + 1 := IntWalk.i64_in _ (by omega)
      have hwm : IntKind.i64.wrap ((cs.length : Int) - 1) = (cs.length : Int) - 1 := IntWalk.i64_in _ (by omega)
      by_cases h3 : n < 3
      · have h1 : (n : Int) < 3 := by omega
        have h2 : (3 : Int) ≤ cs.length := by omega
        have hl1 : (1 : Int) < cs.length := by omega
        clear hlt hn h3
        go_wp2_with fail
        refine (HPK.out q 5 (by omega) (by omega) _ (by have := HQ.out; omega) HR.out).mono ?_; rintro e W5 ⟨t, rfl, t0, t1, hR5, hg5⟩
        have HO5 := Lib.hid (own_reader HO.out HS1.out hg5)
        have HG5 := Lib.hid (grownBy_trans HG.out hg5)
        have HR5 := Lib.hid hR5
        clear hR5 hg5
        by_cases ht : t = 0
        · subst ht
          clear t0 t1
          go_wp2_with fail
          refine (HPK.out (q + 1) ((cs.length : Int) + 1) (by omega) (by omega) _ (by have := HQ.out; omega) HR5.out).mono ?_; rintro e W7 ⟨k, rfl, k0, k1, hR7, hg7⟩
          have HO7 := Lib.hid (own_reader HO5.out HS1.out hg7)
          have HG7 := Lib.hid (grownBy_trans HG5.out hg7)
          have HR7 := Lib.hid hR7
          clear hR7 hg7
          go_wp2_with fail
          refine (HPK.out ((q + 1) + 1) 16 (by omega) (by omega) _ (by have := HQ.out; omega) HR7.out).mono ?_; rintro e W8 ⟨t8, rfl, t80, t81, hR8, hg8⟩
          have HO8 := Lib.hid (own_mono (own_reader HO7.out HS1.out hg8) (Nat.le_of_lt HS1.out))
          have B8 := Lib.hid (below_of_reader HB1.out (grownBy_trans HG7.out hg8))
          obtain ⟨qq, hqq⟩ : ∃ qq, t8.tdiv 15 = qq := ⟨_, rfl⟩
          have hq01 : 0 ≤ qq ∧ qq ≤ 1 := by rw [← hqq, Int.tdiv_eq_ediv_of_nonneg t80]; omega
          have hqw : IntKind.i64.wrap (t8.tdiv 15) = qq := by rw [hqq]; exact IntWalk.i64_in _ (by omega)
          have hkw : IntKind.i64.wrap (k - qq) = k - qq := IntWalk.i64_in _ (by omega)
          have HK := Lib.hid (show -1 ≤ k - qq ∧ k - qq ≤ 22 by omega)
          clear hR8 hg8 hqq hq01 t80 t81 k0 k1
          go_wp2
          go_ret2
          exact ⟨_, cs, k - qq, rfl, HO8.out, HX.out.1, HX.out.2.1, HK.out.1, HK.out.2, B8.out⟩
        · have htp : 0 < t := by omega
          clear ht t0 t1
          go_wp2_with fail
          refine (HPK.out (q + 1) ((cs.length : Int) - 1) (by omega) (by omega) _ (by have := HQ.out; omega) HR5.out).mono ?_; rintro e W6 ⟨k, rfl, k0, k1, hR6, hg6⟩
          have HO6 := Lib.hid (own_mono (own_reader HO5.out HS1.out hg6) (Nat.le_of_lt HS1.out))
          have B6 := Lib.hid (below_of_reader HB1.out (grownBy_trans HG5.out hg6))
          have HK := Lib.hid (show -1 ≤ k ∧ k ≤ 22 by omega)
          clear hR6 hg6 k0 k1
          go_wp2
          go_ret2
          exact ⟨_, cs, k, rfl, HO6.out, HX.out.1, HX.out.2.1, HK.out.1, HK.out.2, B6.out⟩
      · have h1 : (3 : Int) ≤ n := by omega
        by_cases hl : 1 < cs.length
        · have hl1 : (1 : Int) < cs.length := by omega
          clear hlt hn h3 hl
          go_wp2_with fail
          refine (HPK.out q 5 (by omega) (by omega) _ (by have := HQ.out; omega) HR.out).mono ?_; rintro e W5 ⟨t, rfl, t0, t1, hR5, hg5⟩
          have HO5 := Lib.hid (own_reader HO.out HS1.out hg5)
          have HG5 := Lib.hid (grownBy_trans HG.out hg5)
          have HR5 := Lib.hid hR5
          clear hR5 hg5
          by_cases ht : t = 0
          · subst ht
            clear t0 t1
            go_wp2_with fail
            refine (HPK.out (q + 1) ((cs.length : Int) + 1) (by omega) (by omega) _ (by have := HQ.out; omega) HR5.out).mono ?_; rintro e W7 ⟨k, rfl, k0, k1, hR7, hg7⟩
            have HO7 := Lib.hid (own_reader HO5.out HS1.out hg7)
            have HG7 := Lib.hid (grownBy_trans HG5.out hg7)
            have HR7 := Lib.hid hR7
            clear hR7 hg7
            go_wp2_with fail
            refine (HPK.out ((q + 1) + 1) 16 (by omega) (by omega) _ (by have := HQ.out; omega) HR7.out).mono ?_; rintro e W8 ⟨t8, rfl, t80, t81, hR8, hg8⟩
            have HO8 := Lib.hid (own_mono (own_reader HO7.out HS1.out hg8) (Nat.le_of_lt HS1.out))
            have B8 := Lib.hid (below_of_reader HB1.out (grownBy_trans HG7.out hg8))
            obtain ⟨qq, hqq⟩ : ∃ qq, t8.tdiv 15 = qq := ⟨_, rfl⟩
            have hq01 : 0 ≤ qq ∧ qq ≤ 1 := by rw [← hqq, Int.tdiv_eq_ediv_of_nonneg t80]; omega
            have hqw : IntKind.i64.wrap (t8.tdiv 15) = qq := by rw [hqq]; exact IntWalk.i64_in _ (by omega)
            have hkw : IntKind.i64.wrap (k - qq) = k - qq := IntWalk.i64_in _ (by omega)
            have HK := Lib.hid (show -1 ≤ k - qq ∧ k - qq ≤ 22 by omega)
            clear hR8 hg8 hqq hq01 t80 t81 k0 k1
            go_wp2
            go_ret2
            exact ⟨_, cs, k - qq, rfl, HO8.out, HX.out.1, HX.out.2.1, HK.out.1, HK.out.2, B8.out⟩
          · have htp : 0 < t := by omega
            clear ht t0 t1
            go_wp2_with fail
            refine (HPK.out (q + 1) ((cs.length : Int) - 1) (by omega) (by omega) _ (by have := HQ.out; omega) HR5.out).mono ?_; rintro e W6 ⟨k, rfl, k0, k1, hR6, hg6⟩
            have HO6 := Lib.hid (own_mono (own_reader HO5.out HS1.out hg6) (Nat.le_of_lt HS1.out))
            have B6 := Lib.hid (below_of_reader HB1.out (grownBy_trans HG5.out hg6))
            have HK := Lib.hid (show -1 ≤ k ∧ k ≤ 22 by omega)
            clear hR6 hg6 k0 k1
            go_wp2
            go_ret2
            exact ⟨_, cs, k, rfl, HO6.out, HX.out.1, HX.out.2.1, HK.out.1, HK.out.2, B6.out⟩
        · have hl1 : (cs.length : Int) ≤ 1 := by omega
          clear hlt hn h3 hl
          go_wp2_with fail
          refine (HPK.out q ((cs.length : Int) + 1) (by omega) (by omega) _ (by have := HQ.out; omega) HR.out).mono ?_; rintro e W7 ⟨k, rfl, k0, k1, hR7, hg7⟩
          have HO7 := Lib.hid (own_reader HO.out HS1.out hg7)
          have HG7 := Lib.hid (grownBy_trans HG.out hg7)
          have HR7 := Lib.hid hR7
          clear hR7 hg7
          go_wp2_with fail
          refine (HPK.out (q + 1) 16 (by omega) (by omega) _ (by have := HQ.out; omega) HR7.out).mono ?_; rintro e W8 ⟨t8, rfl, t80, t81, hR8, hg8⟩
          have HO8 := Lib.hid (own_mono (own_reader HO7.out HS1.out hg8) (Nat.le_of_lt HS1.out))
          have B8 := Lib.hid (below_of_reader HB1.out (grownBy_trans HG7.out hg8))
          obtain ⟨qq, hqq⟩ : ∃ qq, t8.tdiv 15 = qq := ⟨_, rfl⟩
          have hq01 : 0 ≤ qq ∧ qq ≤ 1 := by rw [← hqq, Int.tdiv_eq_ediv_of_nonneg t80]; omega
          have hqw : IntKind.i64.wrap (t8.tdiv 15) = qq := by rw [hqq]; exact IntWalk.i64_in _ (by omega)
          have hkw : IntKind.i64.wrap (k - qq) = k - qq := IntWalk.i64_in _ (by omega)
          have HK := Lib.hid (show -1 ≤ k - qq ∧ k - qq ≤ 22 by omega)
          clear hR8 hg8 hqq hq01 t80 t81 k0 k1
          go_wp2
          go_ret2
          exact ⟨_, cs, k - qq, rfl, HO8.out, HX.out.1, HX.out.2.1, HK.out.1, HK.out.2, B8.out⟩

end Go.Proofs.Ytpjoahddbdmbpaa
