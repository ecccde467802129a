/-
  laws.FnDiskPart returns true for every input, and leaves its arguments as they were.
  Conditions: none.
-/
import Derived.Test.YtaehgdglbplomaaRows
import Derived.Test.YtaehgdglbplomaaJy
import Derived.Test.YtaehgdglbplomaaJxp
import Derived.Test.YtaehgdglbplomaaJz
import Derived.WalkKit
import Derived.ProofKit
import Derived.OpenShut
import Derived.ShutString
import Derived.ChangeOld
import Derived.Below
namespace Go.Proofs.Ytaehgdglbplomaa.fnDiskPart
open Go.ChangeShapes Go.WideShapes Go.ChangeAt Go.RowKit
open Go.ChangeMaps (open_string shut_string)
set_option linter.unusedVariables false

theorem own : ownKnob Try.prog.godebug = none := by kernel_rfl
theorem laidOut : laidOutB Try.prog = true := by kernel_rfl

set_option maxHeartbeats 4000000 in
set_option maxRecDepth 100000 in
theorem walk (a0 : Option Addr) (len0 cap0 : Nat) (z0 : List Int) (a1 : Option Addr) (len1 cap1 : Nat) (z1 : List Int) (w : World) (w0 : IsRow .u8 w a0 len0 cap0 z0) (w1 : IsRow .u8 w a1 len1 cap1 z1) :
    Calls Try.prog 10 #[.slice a0 len0 cap0, .slice a1 len1 cap1] w fun e w' => e = .returned (.bool true) ∧ Below w.heap.size w w' := by
  obtain ⟨i0, hi0', hz0, hz1, hz2⟩ := info_parts infoBlob
  clear w1
  by_cases h : len0 ≤ 1048576
  · have hl : (len0 : Int) ≤ 1048576 := by omega
    by_cases h1 : len1 ≤ 1048576
    case neg =>
      have hl1 : (1048576 : Int) < len1 := by omega
      clear h h1 w0
      go_enter Try.func10, Try.ntmps10
      go_wp2
      go_ret
      exact ⟨rfl, Below.refl _ _⟩
    have hl1 : (len1 : Int) ≤ 1048576 := by omega
    clear h1
    have HD := Lib.hid (drawDiskValid_c a0 len0 cap0 z0 w w0)
    clear h w0
    go_enter Try.func10, Try.ntmps10
    go_wp2_with fail
    refine HD.out.mono ?_
    rintro e W1 ⟨sl, bs, rfl, hd⟩
    obtain ⟨vs, hdd, hl4, hsm, hb1⟩ := hd
    obtain ⟨a, cap, rfl, hB, hlc, hcm, -⟩ := hdd.at
    have hfine : Fine bs := ⟨by omega, fun x hx => by have := hsm x hx; omega⟩
    have HN := Lib.hid (show Dk W1 a bs.length bs from ⟨hB, by omega, hfine⟩)
    have HD1 := Lib.hid hdd
    have HB1 := Lib.hid hb1
    have HLE := Lib.hid hl4
    have HLN := Lib.hid hl4
    have HFF := Lib.hid hfine
    have hl4' : (bs.length : Int) ≤ 4 := by omega
    have hlc' : (bs.length : Int) ≤ cap := by omega
    have hcb : cap ≤ 9223372036854775807 := Nat.le_trans hcm (by unfold maxLen; omega)
    obtain ⟨q, hq⟩ : ∃ q, diskV bs = q := ⟨_, rfl⟩
    have HQ := Lib.hid hq
    have HI := Lib.hid (show Calls Try.prog 28 #[.slice a bs.length cap] W1 (BoolPost q W1) from hq ▸ iValid cap HN.out)
    have HS := Lib.hid (fun W' (hb : Below W1.heap.size W1 W') => show Calls Try.prog 35 #[.slice a bs.length cap] W' (BoolPost q W') from hq ▸ sValid cap (HN.out.keep hb))
    clear hdd hl4 hsm hb1 hB hlc hcm hfine hq
    go_wp2_with fail
    refine HI.out.mono ?_
    rintro e W2 ⟨rfl, hb2⟩
    have HB2 := Lib.hid hb2
    clear hb2
    go_wp2_with fail
    refine (HS.out _ HB2.out).mono ?_
    rintro e W3 ⟨rfl, hb3⟩
    have HB3 := Lib.hid (below_next HB2.out hb3)
    have HE3 := Lib.hid (below_next HB1.out (below_next HB2.out hb3))
    clear hb3 HI HS
    cases q with
    | false =>
      go_wp2
      go_ret
      exact ⟨rfl, HE3.out⟩
    | true =>
      by_cases h0 : bs.length = 0
      · rw [h0]
        clear h0
        go_wp2
        go_ret
        exact ⟨rfl, HE3.out⟩
      · have hpos : 0 < bs.length := by omega
        have hpos' : (0 : Int) < bs.length := by omega
        have hne : ((bs.length : Int) == 0) = false := by rw [beq_eq_false_iff_ne]; omega
        have hne2 : ¬ ((bs.length : Int) = 0) := by omega
        obtain ⟨g, cap', x, pv, qv, hgg, -⟩ := diskAt_first HD1.out hpos
        cases hgg
        have hapA := rem_natX len1 bs.length hpos
        obtain ⟨k, hk⟩ : ∃ k, k = len1 % bs.length := ⟨_, rfl⟩
        rw [← hk] at hapA
        have hkl : k < bs.length := by rw [hk]; exact Nat.mod_lt _ hpos
        obtain ⟨m, hm⟩ : ∃ m, m = k + 1 := ⟨_, rfl⟩
        have HKL := Lib.hid (And.intro hkl hm)
        have hkl' : (k : Int) < bs.length := by omega
        have hkl2 : (k : Int) ≤ bs.length := by omega
        have hk0 : (0 : Int) ≤ k := by omega
        have hk2 : (k : Int) ≤ cap := by omega
        have hwr : IntKind.i64.wrap ((k : Int) + 1) = (m : Int) := (IntWalk.i64_in _ (by omega)).trans (by omega)
        have hm0 : (0 : Int) ≤ m := by omega
        have hm1 : (m : Int) ≤ bs.length := by omega
        have hm2 : (m : Int) ≤ cap := by omega
        have hkc : ¬ cap = k := by omega
        have hkc' : ¬ k = cap := by omega
        have hkc2 : ¬ ((k : Int) = cap) := by omega
        have HDK := Lib.hid (HD1.out.below HB3.out)
        have HVL := Lib.hid HD1.out.vlen
        have HONE := Lib.hid (ls_cell1 HD1.out.2.ls)
        have hl3 : bs.length ≤ 3 := valid_len HQ.out
        have HPX := Lib.hid (show diskV (bs.take k ++ bs.drop m) = true by rw [hm]; exact part_go k HQ.out)
        have HPY := Lib.hid (show diskV (bs.take m ++ bs.drop k) = false by rw [hm]; exact twice_go k hkl)
        have HFX := Lib.hid (show Fine (bs.take k ++ bs.drop m) from ⟨by rw [List.length_append, List.length_take, List.length_drop]; omega, fun z hz => HFF.out.2 z ((List.mem_append.1 hz).elim List.mem_of_mem_take List.mem_of_mem_drop)⟩)
        have HFY := Lib.hid (show Fine (bs.take m ++ bs.drop k) from ⟨by rw [List.length_append, List.length_take, List.length_drop]; omega, fun z hz => HFF.out.2 z ((List.mem_append.1 hz).elim List.mem_of_mem_take List.mem_of_mem_drop)⟩)
        clear hk hkl hm h0 hpos hl3
        by_cases hcap : cap = m
        · skip
          subst hcap
          have HS0 := Lib.hid (show Below W3.heap.size W3 W3.drew from (Below.refl _ _).drew)
          have HDB := Lib.hid (HDK.out.below (show Below W3.heap.size W3 W3 from Below.refl _ _))
          have HB4 := Lib.hid (show Below W3.heap.size W3 (W3.alloc (.cells #[] 45)).drew from ((Below.refl _ _).alloc (Nat.le_refl _) _).drew)
          have HLIT := Lib.hid (show (W3.alloc (.cells #[] 45)).drew.ownsRow W3.heap.size 45 3 (.slice (some ⟨W3.heap.size, 0, none⟩) 0 0) 0 [] from World.ownsRow_lit (e := 45) (size := 3) W3 #[] 0 (Nat.le_refl _) (by simp [maxLen]) rfl)
          go_upto_region 9 with (fail)
          refine wp_region_held_drew (S := (fun w' => Below W3.heap.size W3 w')) (by kernel_rfl) HS0.out (fun hH => ?_)
          refine wpAnyH_take (i := 1) (oi := _) (v := ?_) rfl (by kernel_rfl) (by kernel_rfl) (by kernel_rfl) (fun _ _ _ h => h) (Or.inl ⟨by rfl, ?_⟩) (by assumption) ?_
          rotate_left
          · (intro w hSw; (try dsimp only at hSw); go_simp; try with_reducible rfl)
          try simp only [Act.put, List.getElem_toArray, List.getElem_cons_zero, List.getElem_cons_succ, List.setIfInBounds_toArray, List.set_cons_zero, List.set_cons_succ]
          refine wpAnyH_take (i := 2) (oi := _) (v := ?_) rfl (by kernel_rfl) (by kernel_rfl) (by kernel_rfl) (fun _ _ _ h => h) (Or.inl ⟨by rfl, ?_⟩) (by assumption) ?_
          rotate_left
          · (intro w hSw; (try dsimp only at hSw); go_simp; try with_reducible rfl)
          try simp only [Act.put, List.getElem_toArray, List.getElem_cons_zero, List.getElem_cons_succ, List.setIfInBounds_toArray, List.set_cons_zero, List.set_cons_succ]
          refine wpAnyH_take (i := 3) (oi := _) (v := ?_) rfl (by kernel_rfl) (by kernel_rfl) (by kernel_rfl) (fun _ _ _ h => h) (Or.inl ⟨by rfl, ?_⟩) (by assumption) ?_
          rotate_left
          · (intro w hSw; (try dsimp only at hSw); go_simp; try with_reducible rfl)
          try simp only [Act.put, List.getElem_toArray, List.getElem_cons_zero, List.getElem_cons_succ, List.setIfInBounds_toArray, List.set_cons_zero, List.set_cons_succ]
          refine wpAnyH_take (i := 5) (oi := _) (v := ?_) rfl (by kernel_rfl) (by kernel_rfl) (by kernel_rfl) (fun _ _ _ h => h) (Or.inl ⟨by rfl, ?_⟩) (by assumption) ?_
          rotate_left
          · (intro w hSw; (try dsimp only at hSw); go_simp; try with_reducible rfl)
          try simp only [Act.put, List.getElem_toArray, List.getElem_cons_zero, List.getElem_cons_succ, List.setIfInBounds_toArray, List.set_cons_zero, List.set_cons_succ]
          refine wpAnyH_take (i := 6) (oi := _) (v := ?_) rfl (by kernel_rfl) (by kernel_rfl) (by kernel_rfl) (fun _ _ _ h => h) (Or.inl ⟨by rfl, ?_⟩) (by assumption) ?_
          rotate_left
          · (intro w hSw; (try dsimp only at hSw); go_simp; try with_reducible rfl)
          try simp only [Act.put, List.getElem_toArray, List.getElem_cons_zero, List.getElem_cons_succ, List.setIfInBounds_toArray, List.set_cons_zero, List.set_cons_succ]
          refine wpAnyH_take (i := 7) (oi := _) (v := ?_) rfl (by kernel_rfl) (by kernel_rfl) (by kernel_rfl) (fun _ _ _ h => h) (Or.inl ⟨by rfl, ?_⟩) (by assumption) ?_
          rotate_left
          · (intro w hSw; (try dsimp only at hSw); go_simp; try with_reducible rfl)
          try simp only [Act.put, List.getElem_toArray, List.getElem_cons_zero, List.getElem_cons_succ, List.setIfInBounds_toArray, List.set_cons_zero, List.set_cons_succ]
          refine wpAnyH_take (i := 8) (oi := _) (v := ?_) rfl (by kernel_rfl) (by kernel_rfl) (by kernel_rfl) (fun _ _ _ h => h) (Or.inl ⟨by rfl, ?_⟩) (by assumption) ?_
          rotate_left
          · (intro w hSw; (try dsimp only at hSw); go_simp; try with_reducible rfl)
          try simp only [Act.put, List.getElem_toArray, List.getElem_cons_zero, List.getElem_cons_succ, List.setIfInBounds_toArray, List.set_cons_zero, List.set_cons_succ]
          refine wpAnyH_ready (rs := [0]) (by kernel_rfl) (by simp) ?_
          refine AllReadyH.cons rfl (fun K hK => ?_) (AllReadyH.nil)
          go_simp
          refine hK.out _ _ HB4.out (fun hHeld => ?_)
          try simp only [Act.put, List.getElem_toArray, List.getElem_cons_zero, List.getElem_cons_succ, List.setIfInBounds_toArray, List.set_cons_zero, List.set_cons_succ]
          refine wpAnyH_ready (rs := [4]) (by kernel_rfl) (by simp) ?_
          refine AllReadyH.cons rfl (fun K hK => ?_) (AllReadyH.nil)
          (try rw [if_pos (by rfl)])
          refine wp_append_own _ _ _ 23 rfl W3.heap.size 45 i0 (.agg #[.int .i64 0, .slice none 0 0, .slice none 0 0]) 3 56 Try.underlying23 hi0' hz0 hz1 hz2 rfl (by decide) (.slice (some ⟨W3.heap.size, 0, none⟩) 0 0) 0 [] rfl HLIT.out ⟨g, 0, none⟩ k cap (flatB (bs.take k) (vs.take (2 * k))) rfl (front_len HVL.out (by have := HKL.out; have := HLE.out; omega)) (part_front (HDB.out.below HB4.out).1 rfl HVL.out (by have := HKL.out; have := HLE.out; omega)) (flat_one _ _ (fun v hv => HONE.out v (List.mem_of_mem_take hv))) (by have := HLN.out; have := HKL.out; unfold maxLen; omega) (by have := HLN.out; have := HKL.out; omega) HB4.out.size ?_
          intro v5 w5 ho5 hg5 hn5
          have HB5 := Lib.hid (show Below W3.heap.size W3 w5 from HB4.out.grown hg5 HB4.out.size (fun k e => by cases e; exact Nat.le_refl _))
          refine hK.out _ _ HB5.out (fun hHeld => ?_)
          try simp only [Act.put, List.getElem_toArray, List.getElem_cons_zero, List.getElem_cons_succ, List.setIfInBounds_toArray, List.set_cons_zero, List.set_cons_succ]
          have HO5 := Lib.hid (show w5.ownsRow W3.heap.size 45 3 v5 k (flatB (bs.take k) (vs.take (2 * k))) by simpa using ho5)
          clear ho5 hg5 hn5
          refine wpAnyH_ready (rs := [9]) (by kernel_rfl) (by simp) ?_
          refine AllReadyH.cons rfl (fun K hK => ?_) (AllReadyH.nil)
          (try rw [if_pos (by rfl)])
          refine wp_append_own _ _ _ 23 rfl W3.heap.size 45 i0 (.agg #[.int .i64 0, .slice none 0 0, .slice none 0 0]) 3 56 Try.underlying23 hi0' hz0 hz1 hz2 rfl (by decide) v5 k (flatB (bs.take k) (vs.take (2 * k))) rfl HO5.out ⟨g, 0, none⟩ (bs.length - cap) 0 (flatB (bs.drop cap) (vs.drop (2 * cap))) rfl (back_len HVL.out (by have := HKL.out; have := HLE.out; omega)) (fun j u hj => by have h9 := (List.getElem?_eq_some_iff.1 hj).1; rw [back_len HVL.out (by have := HKL.out; have := HLE.out; omega)] at h9; have := HKL.out; have := HLE.out; omega) (flat_one _ _ (fun v hv => HONE.out v (List.mem_of_mem_drop hv))) (by have := HLN.out; have := HKL.out; unfold maxLen; omega) (by have := HLN.out; have := HKL.out; omega) HB5.out.size ?_
          intro v6 w6x ho6 hg6 hn6
          have HB6x := Lib.hid (show Below W3.heap.size W3 w6x from HB5.out.grown hg6 HB5.out.size (fun k e => (HO5.out.lt k e).1))
          refine hK.out _ _ HB6x.out (fun hHeld => ?_)
          try simp only [Act.put, List.getElem_toArray, List.getElem_cons_zero, List.getElem_cons_succ, List.setIfInBounds_toArray, List.set_cons_zero, List.set_cons_succ]
          have HLS := Lib.hid ((HDB.out.below HB6x.out).2.ls)
          obtain ⟨nx, hnx⟩ : ∃ n, n = k + ((bs.length - cap)) := ⟨_, rfl⟩
          rw [← hnx] at ho6
          obtain ⟨ax, cx, rfl, hdx⟩ := dk_parts ho6 (by rw [hnx, List.length_append, List.length_take, List.length_drop]; have := HKL.out; have := HLE.out; omega) (ls_front HLS.out (by have := HKL.out; have := HLE.out; omega)) (ls_back HLS.out (by have := HKL.out; have := HLE.out; omega)) HFX.out
          have HDx := Lib.hid hdx
          clear ho6 hg6 hn6 hdx hnx HB4 HLIT HB5 HO5 HDB HLS HS0
          refine wpAnyH_take (i := 10) (oi := _) (v := ?_) rfl (by kernel_rfl) (by kernel_rfl) (by kernel_rfl) (fun _ _ _ h => h) (Or.inl ⟨by rfl, ?_⟩) (by assumption) ?_
          rotate_left
          · (intro w hSw; (try dsimp only at hSw); go_simp; try with_reducible rfl)
          try simp only [Act.put, List.getElem_toArray, List.getElem_cons_zero, List.getElem_cons_succ, List.setIfInBounds_toArray, List.set_cons_zero, List.set_cons_succ]
          refine wpAnyH_done (by kernel_rfl) ?_ _
          have HS0 := Lib.hid (show Below w6x.heap.size w6x w6x.drew from (Below.refl _ _).drew)
          have HDB := Lib.hid (HDK.out.below (show Below W3.heap.size W3 w6x from HB6x.out))
          have HB4 := Lib.hid (show Below w6x.heap.size w6x (w6x.alloc (.cells #[] 45)).drew from ((Below.refl _ _).alloc (Nat.le_refl _) _).drew)
          have HLIT := Lib.hid (show (w6x.alloc (.cells #[] 45)).drew.ownsRow w6x.heap.size 45 3 (.slice (some ⟨w6x.heap.size, 0, none⟩) 0 0) 0 [] from World.ownsRow_lit (e := 45) (size := 3) w6x #[] 0 (Nat.le_refl _) (by simp [maxLen]) rfl)
          go_upto_region 10 with (fail)
          refine wp_region_held_drew (S := (fun w' => Below w6x.heap.size w6x w')) (by kernel_rfl) HS0.out (fun hH => ?_)
          refine wpAnyH_take (i := 1) (oi := _) (v := ?_) rfl (by kernel_rfl) (by kernel_rfl) (by kernel_rfl) (fun _ _ _ h => h) (Or.inl ⟨by rfl, ?_⟩) (by assumption) ?_
          rotate_left
          · (intro w hSw; (try dsimp only at hSw); go_simp; try with_reducible rfl)
          try simp only [Act.put, List.getElem_toArray, List.getElem_cons_zero, List.getElem_cons_succ, List.setIfInBounds_toArray, List.set_cons_zero, List.set_cons_succ]
          refine wpAnyH_take (i := 2) (oi := _) (v := ?_) rfl (by kernel_rfl) (by kernel_rfl) (by kernel_rfl) (fun _ _ _ h => h) (Or.inl ⟨by rfl, ?_⟩) (by assumption) ?_
          rotate_left
          · (intro w hSw; (try dsimp only at hSw); go_simp; try with_reducible rfl)
          try simp only [Act.put, List.getElem_toArray, List.getElem_cons_zero, List.getElem_cons_succ, List.setIfInBounds_toArray, List.set_cons_zero, List.set_cons_succ]
          refine wpAnyH_take (i := 3) (oi := _) (v := ?_) rfl (by kernel_rfl) (by kernel_rfl) (by kernel_rfl) (fun _ _ _ h => h) (Or.inl ⟨by rfl, ?_⟩) (by assumption) ?_
          rotate_left
          · (intro w hSw; (try dsimp only at hSw); go_simp; try with_reducible rfl)
          try simp only [Act.put, List.getElem_toArray, List.getElem_cons_zero, List.getElem_cons_succ, List.setIfInBounds_toArray, List.set_cons_zero, List.set_cons_succ]
          refine wpAnyH_take (i := 4) (oi := _) (v := ?_) rfl (by kernel_rfl) (by kernel_rfl) (by kernel_rfl) (fun _ _ _ h => h) (Or.inl ⟨by rfl, ?_⟩) (by assumption) ?_
          rotate_left
          · (intro w hSw; (try dsimp only at hSw); go_simp; try with_reducible rfl)
          try simp only [Act.put, List.getElem_toArray, List.getElem_cons_zero, List.getElem_cons_succ, List.setIfInBounds_toArray, List.set_cons_zero, List.set_cons_succ]
          refine wpAnyH_take (i := 6) (oi := _) (v := ?_) rfl (by kernel_rfl) (by kernel_rfl) (by kernel_rfl) (fun _ _ _ h => h) (Or.inl ⟨by rfl, ?_⟩) (by assumption) ?_
          rotate_left
          · (intro w hSw; (try dsimp only at hSw); go_simp; try with_reducible rfl)
          try simp only [Act.put, List.getElem_toArray, List.getElem_cons_zero, List.getElem_cons_succ, List.setIfInBounds_toArray, List.set_cons_zero, List.set_cons_succ]
          refine wpAnyH_take (i := 7) (oi := _) (v := ?_) rfl (by kernel_rfl) (by kernel_rfl) (by kernel_rfl) (fun _ _ _ h => h) (Or.inl ⟨by rfl, ?_⟩) (by assumption) ?_
          rotate_left
          · (intro w hSw; (try dsimp only at hSw); go_simp; try with_reducible rfl)
          try simp only [Act.put, List.getElem_toArray, List.getElem_cons_zero, List.getElem_cons_succ, List.setIfInBounds_toArray, List.set_cons_zero, List.set_cons_succ]
          refine wpAnyH_take (i := 8) (oi := _) (v := ?_) rfl (by kernel_rfl) (by kernel_rfl) (by kernel_rfl) (fun _ _ _ h => h) (Or.inl ⟨by rfl, ?_⟩) (by assumption) ?_
          rotate_left
          · (intro w hSw; (try dsimp only at hSw); go_simp; try with_reducible rfl)
          try simp only [Act.put, List.getElem_toArray, List.getElem_cons_zero, List.getElem_cons_succ, List.setIfInBounds_toArray, List.set_cons_zero, List.set_cons_succ]
          refine wpAnyH_ready (rs := [0]) (by kernel_rfl) (by simp) ?_
          refine AllReadyH.cons rfl (fun K hK => ?_) (AllReadyH.nil)
          go_simp
          refine hK.out _ _ HB4.out (fun hHeld => ?_)
          try simp only [Act.put, List.getElem_toArray, List.getElem_cons_zero, List.getElem_cons_succ, List.setIfInBounds_toArray, List.set_cons_zero, List.set_cons_succ]
          refine wpAnyH_ready (rs := [5]) (by kernel_rfl) (by simp) ?_
          refine AllReadyH.cons rfl (fun K hK => ?_) (AllReadyH.nil)
          (try rw [if_pos (by rfl)])
          refine wp_append_own _ _ _ 23 rfl w6x.heap.size 45 i0 (.agg #[.int .i64 0, .slice none 0 0, .slice none 0 0]) 3 56 Try.underlying23 hi0' hz0 hz1 hz2 rfl (by decide) (.slice (some ⟨w6x.heap.size, 0, none⟩) 0 0) 0 [] rfl HLIT.out ⟨g, 0, none⟩ cap cap (flatB (bs.take cap) (vs.take (2 * cap))) rfl (front_len HVL.out (by have := HKL.out; have := HLE.out; omega)) (part_front (HDB.out.below HB4.out).1 rfl HVL.out (by have := HKL.out; have := HLE.out; omega)) (flat_one _ _ (fun v hv => HONE.out v (List.mem_of_mem_take hv))) (by have := HLN.out; have := HKL.out; unfold maxLen; omega) (by have := HLN.out; have := HKL.out; omega) HB4.out.size ?_
          intro v5 w5 ho5 hg5 hn5
          have HB5 := Lib.hid (show Below w6x.heap.size w6x w5 from HB4.out.grown hg5 HB4.out.size (fun k e => by cases e; exact Nat.le_refl _))
          refine hK.out _ _ HB5.out (fun hHeld => ?_)
          try simp only [Act.put, List.getElem_toArray, List.getElem_cons_zero, List.getElem_cons_succ, List.setIfInBounds_toArray, List.set_cons_zero, List.set_cons_succ]
          have HO5 := Lib.hid (show w5.ownsRow w6x.heap.size 45 3 v5 cap (flatB (bs.take cap) (vs.take (2 * cap))) by simpa using ho5)
          clear ho5 hg5 hn5
          refine wpAnyH_ready (rs := [9]) (by kernel_rfl) (by simp) ?_
          refine AllReadyH.cons rfl (fun K hK => ?_) (AllReadyH.nil)
          (try rw [if_pos (by rfl)])
          refine wp_append_own _ _ _ 23 rfl w6x.heap.size 45 i0 (.agg #[.int .i64 0, .slice none 0 0, .slice none 0 0]) 3 56 Try.underlying23 hi0' hz0 hz1 hz2 rfl (by decide) v5 cap (flatB (bs.take cap) (vs.take (2 * cap))) rfl HO5.out ⟨g, k * 3, none⟩ (bs.length - k) (cap - k) (flatB (bs.drop k) (vs.drop (2 * k))) rfl (back_len HVL.out (by have := HKL.out; have := HLE.out; omega)) (part_back (HDB.out.below HB5.out).1 rfl HVL.out (by have := HKL.out; have := HLE.out; omega)) (flat_one _ _ (fun v hv => HONE.out v (List.mem_of_mem_drop hv))) (by have := HLN.out; have := HKL.out; unfold maxLen; omega) (by have := HLN.out; have := HKL.out; omega) HB5.out.size ?_
          intro v6 w6y ho6 hg6 hn6
          have HB6y := Lib.hid (show Below w6x.heap.size w6x w6y from HB5.out.grown hg6 HB5.out.size (fun k e => (HO5.out.lt k e).1))
          refine hK.out _ _ HB6y.out (fun hHeld => ?_)
          try simp only [Act.put, List.getElem_toArray, List.getElem_cons_zero, List.getElem_cons_succ, List.setIfInBounds_toArray, List.set_cons_zero, List.set_cons_succ]
          have HLS := Lib.hid ((HDB.out.below HB6y.out).2.ls)
          obtain ⟨ny, hny⟩ : ∃ n, n = cap + ((bs.length - k)) := ⟨_, rfl⟩
          rw [← hny] at ho6
          obtain ⟨ay, cy, rfl, hdy⟩ := dk_parts ho6 (by rw [hny, List.length_append, List.length_take, List.length_drop]; have := HKL.out; have := HLE.out; omega) (ls_front HLS.out (by have := HKL.out; have := HLE.out; omega)) (ls_back HLS.out (by have := HKL.out; have := HLE.out; omega)) HFY.out
          have HDy := Lib.hid hdy
          clear ho6 hg6 hn6 hdy hny HB4 HLIT HB5 HO5 HDB HLS HS0
          refine wpAnyH_take (i := 10) (oi := _) (v := ?_) rfl (by kernel_rfl) (by kernel_rfl) (by kernel_rfl) (fun _ _ _ h => h) (Or.inl ⟨by rfl, ?_⟩) (by assumption) ?_
          rotate_left
          · (intro w hSw; (try dsimp only at hSw); go_simp; try with_reducible rfl)
          try simp only [Act.put, List.getElem_toArray, List.getElem_cons_zero, List.getElem_cons_succ, List.setIfInBounds_toArray, List.set_cons_zero, List.set_cons_succ]
          refine wpAnyH_done (by kernel_rfl) ?_ _
          have HVX := Lib.hid (show Calls Try.prog 28 #[.slice ax nx cx] w6y (BoolPost true w6y) from HPX.out ▸ iValid cx (HDx.out.keep HB6y.out))
          have HVY := Lib.hid (fun W' (hb : Below w6y.heap.size w6y W') => show Calls Try.prog 28 #[.slice ay ny cy] W' (BoolPost false W') from HPY.out ▸ iValid cy (HDy.out.keep hb))
          go_wp2_with fail
          refine HVX.out.mono ?_
          rintro e W8 ⟨rfl, hb8⟩
          have HB8 := Lib.hid hb8
          clear hb8
          go_wp2_with fail
          refine (HVY.out _ HB8.out).mono ?_
          rintro e W9 ⟨rfl, hb9⟩
          have HE := Lib.hid (below_next HB1.out (below_next HB3.out (below_next HB6x.out (below_next HB6y.out (below_next HB8.out hb9)))))
          clear hb9
          go_wp2
          go_ret
          exact ⟨rfl, HE.out⟩
        · skip
          have hcap' : ¬ m = cap := fun e => hcap e.symm
          have hcap2 : ¬ ((m : Int) = cap) := by omega
          have HS0 := Lib.hid (show Below W3.heap.size W3 W3.drew from (Below.refl _ _).drew)
          have HDB := Lib.hid (HDK.out.below (show Below W3.heap.size W3 W3 from Below.refl _ _))
          have HB4 := Lib.hid (show Below W3.heap.size W3 (W3.alloc (.cells #[] 45)).drew from ((Below.refl _ _).alloc (Nat.le_refl _) _).drew)
          have HLIT := Lib.hid (show (W3.alloc (.cells #[] 45)).drew.ownsRow W3.heap.size 45 3 (.slice (some ⟨W3.heap.size, 0, none⟩) 0 0) 0 [] from World.ownsRow_lit (e := 45) (size := 3) W3 #[] 0 (Nat.le_refl _) (by simp [maxLen]) rfl)
          go_upto_region 9 with (fail)
          refine wp_region_held_drew (S := (fun w' => Below W3.heap.size W3 w')) (by kernel_rfl) HS0.out (fun hH => ?_)
          refine wpAnyH_take (i := 1) (oi := _) (v := ?_) rfl (by kernel_rfl) (by kernel_rfl) (by kernel_rfl) (fun _ _ _ h => h) (Or.inl ⟨by rfl, ?_⟩) (by assumption) ?_
          rotate_left
          · (intro w hSw; (try dsimp only at hSw); go_simp; try with_reducible rfl)
          try simp only [Act.put, List.getElem_toArray, List.getElem_cons_zero, List.getElem_cons_succ, List.setIfInBounds_toArray, List.set_cons_zero, List.set_cons_succ]
          refine wpAnyH_take (i := 2) (oi := _) (v := ?_) rfl (by kernel_rfl) (by kernel_rfl) (by kernel_rfl) (fun _ _ _ h => h) (Or.inl ⟨by rfl, ?_⟩) (by assumption) ?_
          rotate_left
          · (intro w hSw; (try dsimp only at hSw); go_simp; try with_reducible rfl)
          try simp only [Act.put, List.getElem_toArray, List.getElem_cons_zero, List.getElem_cons_succ, List.setIfInBounds_toArray, List.set_cons_zero, List.set_cons_succ]
          refine wpAnyH_take (i := 3) (oi := _) (v := ?_) rfl (by kernel_rfl) (by kernel_rfl) (by kernel_rfl) (fun _ _ _ h => h) (Or.inl ⟨by rfl, ?_⟩) (by assumption) ?_
          rotate_left
          · (intro w hSw; (try dsimp only at hSw); go_simp; try with_reducible rfl)
          try simp only [Act.put, List.getElem_toArray, List.getElem_cons_zero, List.getElem_cons_succ, List.setIfInBounds_toArray, List.set_cons_zero, List.set_cons_succ]
          refine wpAnyH_take (i := 5) (oi := _) (v := ?_) rfl (by kernel_rfl) (by kernel_rfl) (by kernel_rfl) (fun _ _ _ h => h) (Or.inl ⟨by rfl, ?_⟩) (by assumption) ?_
          rotate_left
          · (intro w hSw; (try dsimp only at hSw); go_simp; try with_reducible rfl)
          try simp only [Act.put, List.getElem_toArray, List.getElem_cons_zero, List.getElem_cons_succ, List.setIfInBounds_toArray, List.set_cons_zero, List.set_cons_succ]
          refine wpAnyH_take (i := 6) (oi := _) (v := ?_) rfl (by kernel_rfl) (by kernel_rfl) (by kernel_rfl) (fun _ _ _ h => h) (Or.inl ⟨by rfl, ?_⟩) (by assumption) ?_
          rotate_left
          · (intro w hSw; (try dsimp only at hSw); go_simp; try with_reducible rfl)
          try simp only [Act.put, List.getElem_toArray, List.getElem_cons_zero, List.getElem_cons_succ, List.setIfInBounds_toArray, List.set_cons_zero, List.set_cons_succ]
          refine wpAnyH_take (i := 7) (oi := _) (v := ?_) rfl (by kernel_rfl) (by kernel_rfl) (by kernel_rfl) (fun _ _ _ h => h) (Or.inl ⟨by rfl, ?_⟩) (by assumption) ?_
          rotate_left
          · (intro w hSw; (try dsimp only at hSw); go_simp; try with_reducible rfl)
          try simp only [Act.put, List.getElem_toArray, List.getElem_cons_zero, List.getElem_cons_succ, List.setIfInBounds_toArray, List.set_cons_zero, List.set_cons_succ]
          refine wpAnyH_take (i := 8) (oi := _) (v := ?_) rfl (by kernel_rfl) (by kernel_rfl) (by kernel_rfl) (fun _ _ _ h => h) (Or.inl ⟨by rfl, ?_⟩) (by assumption) ?_
          rotate_left
          · (intro w hSw; (try dsimp only at hSw); go_simp; try with_reducible rfl)
          try simp only [Act.put, List.getElem_toArray, List.getElem_cons_zero, List.getElem_cons_succ, List.setIfInBounds_toArray, List.set_cons_zero, List.set_cons_succ]
          refine wpAnyH_ready (rs := [0]) (by kernel_rfl) (by simp) ?_
          refine AllReadyH.cons rfl (fun K hK => ?_) (AllReadyH.nil)
          go_simp
          refine hK.out _ _ HB4.out (fun hHeld => ?_)
          try simp only [Act.put, List.getElem_toArray, List.getElem_cons_zero, List.getElem_cons_succ, List.setIfInBounds_toArray, List.set_cons_zero, List.set_cons_succ]
          refine wpAnyH_ready (rs := [4]) (by kernel_rfl) (by simp) ?_
          refine AllReadyH.cons rfl (fun K hK => ?_) (AllReadyH.nil)
          (try rw [if_pos (by rfl)])
          refine wp_append_own _ _ _ 23 rfl W3.heap.size 45 i0 (.agg #[.int .i64 0, .slice none 0 0, .slice none 0 0]) 3 56 Try.underlying23 hi0' hz0 hz1 hz2 rfl (by decide) (.slice (some ⟨W3.heap.size, 0, none⟩) 0 0) 0 [] rfl HLIT.out ⟨g, 0, none⟩ k cap (flatB (bs.take k) (vs.take (2 * k))) rfl (front_len HVL.out (by have := HKL.out; have := HLE.out; omega)) (part_front (HDB.out.below HB4.out).1 rfl HVL.out (by have := HKL.out; have := HLE.out; omega)) (flat_one _ _ (fun v hv => HONE.out v (List.mem_of_mem_take hv))) (by have := HLN.out; have := HKL.out; unfold maxLen; omega) (by have := HLN.out; have := HKL.out; omega) HB4.out.size ?_
          intro v5 w5 ho5 hg5 hn5
          have HB5 := Lib.hid (show Below W3.heap.size W3 w5 from HB4.out.grown hg5 HB4.out.size (fun k e => by cases e; exact Nat.le_refl _))
          refine hK.out _ _ HB5.out (fun hHeld => ?_)
          try simp only [Act.put, List.getElem_toArray, List.getElem_cons_zero, List.getElem_cons_succ, List.setIfInBounds_toArray, List.set_cons_zero, List.set_cons_succ]
          have HO5 := Lib.hid (show w5.ownsRow W3.heap.size 45 3 v5 k (flatB (bs.take k) (vs.take (2 * k))) by simpa using ho5)
          clear ho5 hg5 hn5
          refine wpAnyH_ready (rs := [9]) (by kernel_rfl) (by simp) ?_
          refine AllReadyH.cons rfl (fun K hK => ?_) (AllReadyH.nil)
          (try rw [if_pos (by rfl)])
          refine wp_append_own _ _ _ 23 rfl W3.heap.size 45 i0 (.agg #[.int .i64 0, .slice none 0 0, .slice none 0 0]) 3 56 Try.underlying23 hi0' hz0 hz1 hz2 rfl (by decide) v5 k (flatB (bs.take k) (vs.take (2 * k))) rfl HO5.out ⟨g, m * 3, none⟩ (bs.length - m) (cap - m) (flatB (bs.drop m) (vs.drop (2 * m))) rfl (back_len HVL.out (by have := HKL.out; have := HLE.out; omega)) (part_back (HDB.out.below HB5.out).1 rfl HVL.out (by have := HKL.out; have := HLE.out; omega)) (flat_one _ _ (fun v hv => HONE.out v (List.mem_of_mem_drop hv))) (by have := HLN.out; have := HKL.out; unfold maxLen; omega) (by have := HLN.out; have := HKL.out; omega) HB5.out.size ?_
          intro v6 w6x ho6 hg6 hn6
          have HB6x := Lib.hid (show Below W3.heap.size W3 w6x from HB5.out.grown hg6 HB5.out.size (fun k e => (HO5.out.lt k e).1))
          refine hK.out _ _ HB6x.out (fun hHeld => ?_)
          try simp only [Act.put, List.getElem_toArray, List.getElem_cons_zero, List.getElem_cons_succ, List.setIfInBounds_toArray, List.set_cons_zero, List.set_cons_succ]
          have HLS := Lib.hid ((HDB.out.below HB6x.out).2.ls)
          obtain ⟨nx, hnx⟩ : ∃ n, n = k + ((bs.length - m)) := ⟨_, rfl⟩
          rw [← hnx] at ho6
          obtain ⟨ax, cx, rfl, hdx⟩ := dk_parts ho6 (by rw [hnx, List.length_append, List.length_take, List.length_drop]; have := HKL.out; have := HLE.out; omega) (ls_front HLS.out (by have := HKL.out; have := HLE.out; omega)) (ls_back HLS.out (by have := HKL.out; have := HLE.out; omega)) HFX.out
          have HDx := Lib.hid hdx
          clear ho6 hg6 hn6 hdx hnx HB4 HLIT HB5 HO5 HDB HLS HS0
          refine wpAnyH_take (i := 10) (oi := _) (v := ?_) rfl (by kernel_rfl) (by kernel_rfl) (by kernel_rfl) (fun _ _ _ h => h) (Or.inl ⟨by rfl, ?_⟩) (by assumption) ?_
          rotate_left
          · (intro w hSw; (try dsimp only at hSw); go_simp; try with_reducible rfl)
          try simp only [Act.put, List.getElem_toArray, List.getElem_cons_zero, List.getElem_cons_succ, List.setIfInBounds_toArray, List.set_cons_zero, List.set_cons_succ]
          refine wpAnyH_done (by kernel_rfl) ?_ _
          have HS0 := Lib.hid (show Below w6x.heap.size w6x w6x.drew from (Below.refl _ _).drew)
          have HDB := Lib.hid (HDK.out.below (show Below W3.heap.size W3 w6x from HB6x.out))
          have HB4 := Lib.hid (show Below w6x.heap.size w6x (w6x.alloc (.cells #[] 45)).drew from ((Below.refl _ _).alloc (Nat.le_refl _) _).drew)
          have HLIT := Lib.hid (show (w6x.alloc (.cells #[] 45)).drew.ownsRow w6x.heap.size 45 3 (.slice (some ⟨w6x.heap.size, 0, none⟩) 0 0) 0 [] from World.ownsRow_lit (e := 45) (size := 3) w6x #[] 0 (Nat.le_refl _) (by simp [maxLen]) rfl)
          go_upto_region 10 with (fail)
          refine wp_region_held_drew (S := (fun w' => Below w6x.heap.size w6x w')) (by kernel_rfl) HS0.out (fun hH => ?_)
          refine wpAnyH_take (i := 1) (oi := _) (v := ?_) rfl (by kernel_rfl) (by kernel_rfl) (by kernel_rfl) (fun _ _ _ h => h) (Or.inl ⟨by rfl, ?_⟩) (by assumption) ?_
          rotate_left
          · (intro w hSw; (try dsimp only at hSw); go_simp; try with_reducible rfl)
          try simp only [Act.put, List.getElem_toArray, List.getElem_cons_zero, List.getElem_cons_succ, List.setIfInBounds_toArray, List.set_cons_zero, List.set_cons_succ]
          refine wpAnyH_take (i := 2) (oi := _) (v := ?_) rfl (by kernel_rfl) (by kernel_rfl) (by kernel_rfl) (fun _ _ _ h => h) (Or.inl ⟨by rfl, ?_⟩) (by assumption) ?_
          rotate_left
          · (intro w hSw; (try dsimp only at hSw); go_simp; try with_reducible rfl)
          try simp only [Act.put, List.getElem_toArray, List.getElem_cons_zero, List.getElem_cons_succ, List.setIfInBounds_toArray, List.set_cons_zero, List.set_cons_succ]
          refine wpAnyH_take (i := 3) (oi := _) (v := ?_) rfl (by kernel_rfl) (by kernel_rfl) (by kernel_rfl) (fun _ _ _ h => h) (Or.inl ⟨by rfl, ?_⟩) (by assumption) ?_
          rotate_left
          · (intro w hSw; (try dsimp only at hSw); go_simp; try with_reducible rfl)
          try simp only [Act.put, List.getElem_toArray, List.getElem_cons_zero, List.getElem_cons_succ, List.setIfInBounds_toArray, List.set_cons_zero, List.set_cons_succ]
          refine wpAnyH_take (i := 4) (oi := _) (v := ?_) rfl (by kernel_rfl) (by kernel_rfl) (by kernel_rfl) (fun _ _ _ h => h) (Or.inl ⟨by rfl, ?_⟩) (by assumption) ?_
          rotate_left
          · (intro w hSw; (try dsimp only at hSw); go_simp; try with_reducible rfl)
          try simp only [Act.put, List.getElem_toArray, List.getElem_cons_zero, List.getElem_cons_succ, List.setIfInBounds_toArray, List.set_cons_zero, List.set_cons_succ]
          refine wpAnyH_take (i := 6) (oi := _) (v := ?_) rfl (by kernel_rfl) (by kernel_rfl) (by kernel_rfl) (fun _ _ _ h => h) (Or.inl ⟨by rfl, ?_⟩) (by assumption) ?_
          rotate_left
          · (intro w hSw; (try dsimp only at hSw); go_simp; try with_reducible rfl)
          try simp only [Act.put, List.getElem_toArray, List.getElem_cons_zero, List.getElem_cons_succ, List.setIfInBounds_toArray, List.set_cons_zero, List.set_cons_succ]
          refine wpAnyH_take (i := 7) (oi := _) (v := ?_) rfl (by kernel_rfl) (by kernel_rfl) (by kernel_rfl) (fun _ _ _ h => h) (Or.inl ⟨by rfl, ?_⟩) (by assumption) ?_
          rotate_left
          · (intro w hSw; (try dsimp only at hSw); go_simp; try with_reducible rfl)
          try simp only [Act.put, List.getElem_toArray, List.getElem_cons_zero, List.getElem_cons_succ, List.setIfInBounds_toArray, List.set_cons_zero, List.set_cons_succ]
          refine wpAnyH_take (i := 8) (oi := _) (v := ?_) rfl (by kernel_rfl) (by kernel_rfl) (by kernel_rfl) (fun _ _ _ h => h) (Or.inl ⟨by rfl, ?_⟩) (by assumption) ?_
          rotate_left
          · (intro w hSw; (try dsimp only at hSw); go_simp; try with_reducible rfl)
          try simp only [Act.put, List.getElem_toArray, List.getElem_cons_zero, List.getElem_cons_succ, List.setIfInBounds_toArray, List.set_cons_zero, List.set_cons_succ]
          refine wpAnyH_ready (rs := [0]) (by kernel_rfl) (by simp) ?_
          refine AllReadyH.cons rfl (fun K hK => ?_) (AllReadyH.nil)
          go_simp
          refine hK.out _ _ HB4.out (fun hHeld => ?_)
          try simp only [Act.put, List.getElem_toArray, List.getElem_cons_zero, List.getElem_cons_succ, List.setIfInBounds_toArray, List.set_cons_zero, List.set_cons_succ]
          refine wpAnyH_ready (rs := [5]) (by kernel_rfl) (by simp) ?_
          refine AllReadyH.cons rfl (fun K hK => ?_) (AllReadyH.nil)
          (try rw [if_pos (by rfl)])
          refine wp_append_own _ _ _ 23 rfl w6x.heap.size 45 i0 (.agg #[.int .i64 0, .slice none 0 0, .slice none 0 0]) 3 56 Try.underlying23 hi0' hz0 hz1 hz2 rfl (by decide) (.slice (some ⟨w6x.heap.size, 0, none⟩) 0 0) 0 [] rfl HLIT.out ⟨g, 0, none⟩ m cap (flatB (bs.take m) (vs.take (2 * m))) rfl (front_len HVL.out (by have := HKL.out; have := HLE.out; omega)) (part_front (HDB.out.below HB4.out).1 rfl HVL.out (by have := HKL.out; have := HLE.out; omega)) (flat_one _ _ (fun v hv => HONE.out v (List.mem_of_mem_take hv))) (by have := HLN.out; have := HKL.out; unfold maxLen; omega) (by have := HLN.out; have := HKL.out; omega) HB4.out.size ?_
          intro v5 w5 ho5 hg5 hn5
          have HB5 := Lib.hid (show Below w6x.heap.size w6x w5 from HB4.out.grown hg5 HB4.out.size (fun k e => by cases e; exact Nat.le_refl _))
          refine hK.out _ _ HB5.out (fun hHeld => ?_)
          try simp only [Act.put, List.getElem_toArray, List.getElem_cons_zero, List.getElem_cons_succ, List.setIfInBounds_toArray, List.set_cons_zero, List.set_cons_succ]
          have HO5 := Lib.hid (show w5.ownsRow w6x.heap.size 45 3 v5 m (flatB (bs.take m) (vs.take (2 * m))) by simpa using ho5)
          clear ho5 hg5 hn5
          refine wpAnyH_ready (rs := [9]) (by kernel_rfl) (by simp) ?_
          refine AllReadyH.cons rfl (fun K hK => ?_) (AllReadyH.nil)
          (try rw [if_pos (by rfl)])
          refine wp_append_own _ _ _ 23 rfl w6x.heap.size 45 i0 (.agg #[.int .i64 0, .slice none 0 0, .slice none 0 0]) 3 56 Try.underlying23 hi0' hz0 hz1 hz2 rfl (by decide) v5 m (flatB (bs.take m) (vs.take (2 * m))) rfl HO5.out ⟨g, k * 3, none⟩ (bs.length - k) (cap - k) (flatB (bs.drop k) (vs.drop (2 * k))) rfl (back_len HVL.out (by have := HKL.out; have := HLE.out; omega)) (part_back (HDB.out.below HB5.out).1 rfl HVL.out (by have := HKL.out; have := HLE.out; omega)) (flat_one _ _ (fun v hv => HONE.out v (List.mem_of_mem_drop hv))) (by have := HLN.out; have := HKL.out; unfold maxLen; omega) (by have := HLN.out; have := HKL.out; omega) HB5.out.size ?_
          intro v6 w6y ho6 hg6 hn6
          have HB6y := Lib.hid (show Below w6x.heap.size w6x w6y from HB5.out.grown hg6 HB5.out.size (fun k e => (HO5.out.lt k e).1))
          refine hK.out _ _ HB6y.out (fun hHeld => ?_)
          try simp only [Act.put, List.getElem_toArray, List.getElem_cons_zero, List.getElem_cons_succ, List.setIfInBounds_toArray, List.set_cons_zero, List.set_cons_succ]
          have HLS := Lib.hid ((HDB.out.below HB6y.out).2.ls)
          obtain ⟨ny, hny⟩ : ∃ n, n = m + ((bs.length - k)) := ⟨_, rfl⟩
          rw [← hny] at ho6
          obtain ⟨ay, cy, rfl, hdy⟩ := dk_parts ho6 (by rw [hny, List.length_append, List.length_take, List.length_drop]; have := HKL.out; have := HLE.out; omega) (ls_front HLS.out (by have := HKL.out; have := HLE.out; omega)) (ls_back HLS.out (by have := HKL.out; have := HLE.out; omega)) HFY.out
          have HDy := Lib.hid hdy
          clear ho6 hg6 hn6 hdy hny HB4 HLIT HB5 HO5 HDB HLS HS0
          refine wpAnyH_take (i := 10) (oi := _) (v := ?_) rfl (by kernel_rfl) (by kernel_rfl) (by kernel_rfl) (fun _ _ _ h => h) (Or.inl ⟨by rfl, ?_⟩) (by assumption) ?_
          rotate_left
          · (intro w hSw; (try dsimp only at hSw); go_simp; try with_reducible rfl)
          try simp only [Act.put, List.getElem_toArray, List.getElem_cons_zero, List.getElem_cons_succ, List.setIfInBounds_toArray, List.set_cons_zero, List.set_cons_succ]
          refine wpAnyH_done (by kernel_rfl) ?_ _
          have HVX := Lib.hid (show Calls Try.prog 28 #[.slice ax nx cx] w6y (BoolPost true w6y) from HPX.out ▸ iValid cx (HDx.out.keep HB6y.out))
          have HVY := Lib.hid (fun W' (hb : Below w6y.heap.size w6y W') => show Calls Try.prog 28 #[.slice ay ny cy] W' (BoolPost false W') from HPY.out ▸ iValid cy (HDy.out.keep hb))
          go_wp2_with fail
          refine HVX.out.mono ?_
          rintro e W8 ⟨rfl, hb8⟩
          have HB8 := Lib.hid hb8
          clear hb8
          go_wp2_with fail
          refine (HVY.out _ HB8.out).mono ?_
          rintro e W9 ⟨rfl, hb9⟩
          have HE := Lib.hid (below_next HB1.out (below_next HB3.out (below_next HB6x.out (below_next HB6y.out (below_next HB8.out hb9)))))
          clear hb9
          go_wp2
          go_ret
          exact ⟨rfl, HE.out⟩
  · have hl : (1048576 : Int) < len0 := by omega
    clear h w0
    go_enter Try.func10, Try.ntmps10
    go_wp2
    go_ret
    exact ⟨rfl, Below.refl _ _⟩


set_option maxRecDepth 100000 in
theorem lifted (os : Os) (started : os.Started) (H : Type) (enc : TypeId × Value → H) :
    ReturnsInHanded {} Try.checked os 10 .any (Rows.fnDiskPartSpec.pre6 enc Try.prog Try.f10 Rows.fnDiskPartRow.domain false) (Rows.fnDiskPartSpec.post enc Try.prog Try.f10 false true false false) := by
  refine returnsInHanded_of_change (C := Try.checked) own started (by kernel_rfl) Try.func10
    (ChangeSpec.witness6 (enc := enc) (C := Try.checked) false ⟨#[], #[.slice none 0 0, .slice none 0 0], []⟩ 8 (by kernel_rfl) (by kernel_rfl) (by kernel_rfl) (by kernel_rfl)) ?_
  intro W base args ds gs before hval0 hW hcnd _
  have hval : ∀ (j : Nat) t v, Try.f10.params[j]? = some t → args[j]? = some v → Value.okWide Try.prog W .any base t v := hval0
  have hW' := hW
  obtain ⟨p, q, hA0, hV, rfl, hfz, hnd⟩ := hW
  have hA : DataW.TrodAll enc Try.prog W 0 (fun _ => true) true Try.f10.params.toList args.toList ds p := hA0
  rw [Try.params10] at hA hval
  obtain ⟨v0, vs0, d0, ds0, p0, q0, hargs, rfl, rfl, h0, r0⟩ := trodAll_cons hA
  obtain ⟨v1, vs1, d1, ds1, p1, q1, rfl, rfl, rfl, h1, r1⟩ := trodAll_cons r0
  obtain ⟨rfl, rfl, rfl⟩ := trodAll_nil r1
  obtain rfl : args = #[v0, v1] := by cases args; simp_all
  obtain ⟨rfl, rfl⟩ := trodVars_none hV
  obtain ⟨a0, len0, cap0, rfl⟩ := okWide_slice Try.underlying22 (hval 0 22 v0 rfl rfl)
  have k0 := h0
  have lt0 : ∀ x ∈ p0, x.block < W.heap.size := by obtain ⟨m, hm⟩ := k0; exact DataW.trod_lt m _ _ _ hm
  obtain ⟨z0, w0⟩ : ∃ zs, IsRow .u8 W a0 len0 cap0 zs := by
    obtain ⟨fuel, hf⟩ := h0
    rcases open_ints Try.underlying22 Try.underlying5 (by kernel_rfl) hf with ⟨hcs, _⟩ | ⟨x, l, c, zs, hcs, _, hl, hm, hz, _, hcell, hwz⟩
    · simp [Value.cells] at hcs
      obtain ⟨rfl, rfl, rfl⟩ := hcs
      exact ⟨[], .inl ⟨rfl, rfl, rfl, rfl⟩⟩
    · simp [Value.cells] at hcs
      obtain ⟨rfl, rfl, rfl⟩ := hcs
      exact ⟨zs, .inr ⟨_, rfl, hl, hm, by simpa using hz, hcell, hwz⟩⟩
  obtain ⟨a1, len1, cap1, rfl⟩ := okWide_slice Try.underlying22 (hval 1 22 v1 rfl rfl)
  have k1 := h1
  have lt1 : ∀ x ∈ p1, x.block < W.heap.size := by obtain ⟨m, hm⟩ := k1; exact DataW.trod_lt m _ _ _ hm
  obtain ⟨z1, w1⟩ : ∃ zs, IsRow .u8 W a1 len1 cap1 zs := by
    obtain ⟨fuel, hf⟩ := h1
    rcases open_ints Try.underlying22 Try.underlying5 (by kernel_rfl) hf with ⟨hcs, _⟩ | ⟨x, l, c, zs, hcs, _, hl, hm, hz, _, hcell, hwz⟩
    · simp [Value.cells] at hcs
      obtain ⟨rfl, rfl, rfl⟩ := hcs
      exact ⟨[], .inl ⟨rfl, rfl, rfl, rfl⟩⟩
    · simp [Value.cells] at hcs
      obtain ⟨rfl, rfl, rfl⟩ := hcs
      exact ⟨zs, .inr ⟨_, rfl, hl, hm, by simpa using hz, hcell, hwz⟩⟩
  clear hA0 hval0
  refine (walk a0 len0 cap0 z0 a1 len1 cap1 z1 W w0 w1).mono fun e W' ⟨he, bel⟩ => ?_
  subst he
  exact ⟨_, rfl, _, _, _, [], _, [], hW', trodAll_mk1 (shut_bool Try.underlying4 _), (trodAll_cons_mk (Below.trod laidOut (by kernel_rfl) (of_decide_eq_true (by kernel_rfl)) k0 bel lt0) (trodAll_cons_mk (Below.trod laidOut (by kernel_rfl) (of_decide_eq_true (by kernel_rfl)) k1 bel lt1) trodAll_mk0)), rfl, bel.frame _, fun h => by cases h⟩

theorem over : Rows.fnDiskPartRow.holds Try.pinned (OpenSpec.ofChange Rows.fnDiskPartSpec) :=
  OpenClaim.holds_of_wide 10 Try.f10 rfl rfl rfl rfl rfl rfl rfl ⟨rfl, rfl, rfl, rfl, rfl⟩ rfl rfl rfl rfl rfl (by kernel_rfl) Try.func10 (by unfold joinedFacts; rw [show Try.pinned.checked.prog = Try.prog from rfl, enter_ok, final_ok, make_ok]; kernel_rfl)
    (of_decide_eq_true (by kernel_rfl)) (by unfold Func.isWrapper; first | (rw [if_pos (by decide +kernel)]; kernel_rfl) | (rw [if_neg (by decide +kernel)]; exact ⟨rfl, rfl⟩))
    (fun os started H enc _ => lifted os started H enc)

theorem proved : Rows.FnDiskPartSaid := over
end Go.Proofs.Ytaehgdglbplomaa.fnDiskPart
