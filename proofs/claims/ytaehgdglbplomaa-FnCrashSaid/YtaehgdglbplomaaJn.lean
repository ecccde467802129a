/-
  WALKS: spec.DrawDiskCrash.
-/
import Derived.Test.YtaehgdglbplomaaJv
import Derived.Test.YtaehgdglbplomaaJx
namespace Go.Proofs.Ytaehgdglbplomaa
open Go.RowKit
set_option linter.unusedVariables false
set_option linter.unusedSimpArgs false

theorem jn_first : (0 : Nat) ≤ 0 := Nat.le_refl 0

theorem OwnZ.ints {k : Nat} {W W' : World} {s : Value} {zs : List Int} (h : OwnZ k W W' s zs) (hk : k ≤ 2097152) : ∃ a l c, s = .slice a l c ∧ IntsAt W' a l zs ∧ l ≤ 2097152 := by
  obtain ⟨a, l, c, rfl, h1, h2⟩ := h.at
  obtain ⟨rfl, h3, -⟩ := h1.ints
  exact ⟨a, _, c, rfl, h3, by omega⟩
theorem lit_own (W : World) (base : Nat) (hb : base ≤ W.heap.size) (zs : List Int) (hz : zs.length ≤ 100) : (W.alloc (.cells (intsV zs).toArray 3)).ownsRow base 3 1 (.slice (some ⟨W.heap.size, 0, none⟩) zs.length zs.length) zs.length (intsV zs) := by
  have := World.ownsRow_lit (e := 3) (size := 1) W (intsV zs).toArray zs.length hb (by unfold maxLen; omega) (by simp [intsV])
  simpa using this
theorem grown_drewX (W : World) (row : Option Nat) : W.grownBy W.drew row := ⟨rfl, rfl, rfl, Nat.le_refl _, fun _ _ _ => rfl⟩
theorem pick_bad4 {W W' : World} {B : Nat} {r : Int} (t : TypeId) (hB : B < W.heap.size) (hg : (W.alloc (.cells #[.int .i64 (-1), .int .i64 400, .int .i64 401] t)).grownBy W' (some B)) (h0 : 0 ≤ r) (h1 : r < 3) :
    ∃ z : Int, -1 ≤ z ∧ z ≤ 401 ∧ W'.cell? ⟨W.heap.size, r.toNat, none⟩ = some (.int .i64 z) := by
  have hb := hg.block W.heap.size (by simp) (by simp; omega)
  have hr : r = 0 ∨ r = 1 ∨ r = 2 := by omega
  rcases hr with rfl | rfl | rfl
  · exact ⟨-1, by omega, by omega, by rw [World.cell?_of_block hb, World.cell?_alloc_new]; rfl⟩
  · exact ⟨400, by omega, by omega, by rw [World.cell?_of_block hb, World.cell?_alloc_new]; rfl⟩
  · exact ⟨401, by omega, by omega, by rw [World.cell?_of_block hb, World.cell?_alloc_new]; rfl⟩
theorem lit_bad4 {W : World} {r : Int} (t : TypeId) (h0 : 0 ≤ r) (h1 : r < 3) :
    ∃ z : Int, -1 ≤ z ∧ z ≤ 401 ∧ (W.alloc (.cells #[.int .i64 (-1), .int .i64 400, .int .i64 401] t)).cell? ⟨W.heap.size, r.toNat, none⟩ = some (.int .i64 z) := by
  have hr : r = 0 ∨ r = 1 ∨ r = 2 := by omega
  rcases hr with rfl | rfl | rfl
  · exact ⟨-1, by omega, by omega, by rw [World.cell?_alloc_new]; rfl⟩
  · exact ⟨400, by omega, by omega, by rw [World.cell?_alloc_new]; rfl⟩
  · exact ⟨401, by omega, by omega, by rw [World.cell?_alloc_new]; rfl⟩

set_option maxHeartbeats 4000000 in
set_option maxRecDepth 100000 in
theorem drawDiskCrash_c (a : Option Addr) (len cap : Nat) (zs : List Int) (W : World) (h : IsRow .u8 W a len cap zs) :
    Calls Try.prog 32 #[.slice a len cap] W (DKeepPost W) := by
  obtain ⟨i0, hi, hz0, hz1, hz2⟩ := info_parts infoInt
  have HO := Lib.hid (l6Open_c a len cap zs W h)
  have HA := Lib.hid (fun W1 hR => l92Disk_c (W.heap.size + 1) W.heap.size 0 W1 (by omega) hR)
  have HP := Lib.hid (fun q n h1 h2 W1 hq hR => pick_c (W.heap.size + 1) W.heap.size q n h1 h2 W1 hq hR)
  clear h
  go_enter Try.func32, Try.ntmps32
  go_wp2_with fail
  refine HO.out.mono ?_; rintro e W1 ⟨rfl, hR, hB⟩
  have hlt := hR.lt
  have HLE := Lib.hid hB.size
  go_wp2_with fail
  refine (HA.out _ hR).mono ?_; rintro e W2 ⟨sl, vs, bs, q, rfl, hd, hl, hs, hq, hR2, hg⟩
  have HX := Lib.hid (fun W3 => drawn_of (W3 := W3) hd hl hs rfl hB hlt hg)
  have HQ := Lib.hid hq
  have HLT := Lib.hid (show W.heap.size < W2.heap.size from Nat.lt_of_lt_of_le hlt hg.size)
  have HRA := Lib.hid (hR2.alloc (.cells #[] 3))
  have HN0 := Lib.hid hR2.le
  have HOA := Lib.hid (World.ownsRow_lit (e := 3) (size := 1) W2 #[] 0 (Nat.le_refl _) (by simp [maxLen]) rfl)
  clear hd hl hs hg hR hB hlt hq hR2
  go_wp2_with fail
  refine (HP.out q 4 (by omega) (by omega) _ (by have := HQ.out; omega) HRA.out).mono ?_
  rintro e W3 ⟨r1, rfl, r10, r11, hR3, hg3⟩
  have OWN := Lib.hid (own_reader1 HOA.out HLT.out hg3)
  have GG := Lib.hid (grownBy_trans (grownBy_new W2 _ _) hg3)
  have RR := Lib.hid hR3
  obtain ⟨NN, rfl⟩ := Int.eq_ofNat_of_zero_le r10
  have HNN := Lib.hid (show NN ≤ 4 by omega)
  clear r10 r11 hR3 hg3 HRA HOA
  go_wp2
  go_loopw [6, 8] (fun o i wr => BytesRelD (W.heap.size + 1) W.heap.size q NN W2 o i wr) (fun _ i _ => NN - (intOf i).toNat)
  case atStart => exact ⟨[], _, rfl, by simp, OWN.out, by intro z hz; (try simp at hz), (show _ ≤ _ by simp), RR.out, GG.out⟩
  case round =>
    obtain ⟨zs, p, rfl, hj, hrow, HZ, HQ5, hRq, HG⟩ := hrel
    by_cases hlt : zs.length < NN
    · have hlt' : (zs.length : Int) < NN := by omega
      have HJ := Lib.hid (And.intro hlt HNN.out)
      have hz17 : (zs.length : Int) ≤ 4 := by have := HNN.out; omega
      have HRQ := Lib.hid hRq
      have HROW := Lib.hid hrow
      clear hj hlt hRq hrow
      go_wp2_with fail
      refine (HP.out p 10 (by omega) (by omega) _ (by have h5 := HQ5.out; have h6 := HQ.out; have h7 := HJ.out; omega) HRQ.out).mono ?_
      rintro e W5 ⟨y, rfl, y0, y1, hR5, hg5⟩
      have hrow5 := own_reader1 HROW.out HLT.out hg5
      have hG5 := grownBy_trans HG.out hg5
      have HG5 := Lib.hid hG5
      have hltb := hrow5.lt
      have HR5 := Lib.hid hR5
      have HY := Lib.hid (And.intro y0 y1)
      have HB5 := Lib.hid hG5.size
      clear hg5 hR5 hG5 y0 y1
      go_wp2_with (at_builtin; refine wpList_append_own _ rfl _ _ 24 rfl W2.heap.size 3 i0 (.int .i64 0) 1 8 Try.underlying24 hi hz0 hz1 hz2 rfl (by decide) _ _ _ rfl (hrow5.alloc _) ⟨W5.heap.size, 0, none⟩ 1 1 [.int .i64 y] rfl rfl (cell_int_new _ _ _) (fun x hx => by simp at hx; subst hx; rfl) (by have := HJ.out; unfold maxLen; omega) (by have := HJ.out; omega) (by have := HB5.out; simp; omega) ?_; intro v6 w6 ho6 hg6 hn6)
      have B6 : Below W2.heap.size W5 w6 := ((Below.refl _ W5).alloc HB5.out _).grown hg6 (by have := HB5.out; simp; omega) (fun g e => (hltb g e).1)
      have hRd := HR5.out.kept (B6.mono HN0.out)
      have hGd : W2.grownBy w6 (some W.heap.size) := ⟨B6.os.trans HG5.out.os, B6.tape.trans HG5.out.tape, B6.output.trans HG5.out.output, Nat.le_trans HG5.out.size B6.size, fun k hk hne => (B6.block k hk).trans (HG5.out.block k hk hne)⟩
      go_roundw
      case rel =>
        refine ⟨zs ++ [y], p + 1, by rw [List.length_append]; go_num, by have := HJ.out; simp; omega, own_join1 (more := [y]) ho6, ?_, by have := HQ5.out; show _ ≤ _; simp; omega, hRd, hGd⟩
        intro z hz
        rcases List.mem_append.1 hz with h | h
        · exact HZ.out z h
        · rw [List.mem_singleton.1 h]; have := HY.out; omega
      case measure => have := HJ.out; simp [intOf]; omega
    · have hjn : zs.length = NN := by omega
      have hge : ((NN : Nat) : Int) ≤ zs.length := by omega
      have HRQ := Lib.hid hRq
      have HROW := Lib.hid hrow
      have HZ2 := Lib.hid (show ∀ z ∈ zs, (-1 : Int) ≤ z ∧ z ≤ 401 by intro z hz; have := HZ.out z hz; omega)
      have HL4 := Lib.hid (show zs.length ≤ 4 by have := HNN.out; omega)
      have HQE := Lib.hid (show p ≤ q + 6 by have h1 := HQ5.out; have h2 := HNN.out; omega)
      clear hlt hj hjn hRq hrow
      go_wp2_with fail
      refine (HP.out p 24 (by omega) (by omega) _ (by have h5 := HQE.out; have h6 := HQ.out; omega) HRQ.out).mono ?_
      rintro e W5 ⟨r5, rfl, r50, r51, hR5, hg5⟩
      have HO5 := Lib.hid (own_reader1 HROW.out HLT.out hg5)
      have HG5 := Lib.hid (grownBy_trans HG.out hg5)
      have HR5 := Lib.hid hR5
      clear hR5 hg5
      by_cases e5 : r5 = 0
      · subst e5
        clear r50 r51
        have HY := Lib.hid (show DKeepPost W (.returned (.tuple #[sl, .slice (some ⟨W5.heap.size, 0, none⟩) 4 4])) (W5.alloc (.cells #[.int .i64 1, .int .i64 2, .int .i64 3, .int .i64 4] 3)) from
          ⟨sl, bs, _, [1, 2, 3, 4], rfl, ⟨lit_own W5 _ (by have := HLT.out; have := HG5.out.size; omega) [1, 2, 3, 4] (by simp), by simp, by intro z hz; simp at hz; omega⟩, HX.out _ (grownBy_trans HG5.out (grownBy_new W5 _ _))⟩)
        go_wp2
        go_ret2
        exact HY.out
      · have e5' : (r5 == 0) = false := by simpa using e5
        clear e5
        by_cases e6 : r5 = 1
        · subst e6
          clear r50 r51
          have HPA := Lib.hid (fun W' (hR : RdAt (W.heap.size + 1) W' W.heap.size (p + 1)) => HP.out (p + 1) 3 (by omega) (by omega) W' (by have h5 := HQE.out; have h6 := HQ.out; omega) hR)
          have HRD := Lib.hid HR5.out.drew
          go_upto_region 13 with (fail)
          refine wp_region_held_drew (S := (fun w' => W5.heap.size ≤ w'.heap.size)) (by kernel_rfl) (Nat.le_refl _) (fun hH => ?_)
          refine wpAnyH_take (i := 0) (oi := _) (v := ?_) rfl (by kernel_rfl) (by kernel_rfl) (by kernel_rfl) (fun _ _ _ h => h) (Or.inl ⟨by rfl, ?_⟩) (by assumption) ?_
          rotate_left
          · (intro w hSw; (try dsimp only at hSw); go_simp; try with_reducible rfl)
          try simp only [Act.put, List.getElem_toArray, List.getElem_cons_zero, List.getElem_cons_succ, List.setIfInBounds_toArray, List.set_cons_zero, List.set_cons_succ]
          refine wpAnyH_take (i := 2) (oi := _) (v := ?_) rfl (by kernel_rfl) (by kernel_rfl) (by kernel_rfl) (fun _ _ _ h => h) (Or.inl ⟨by rfl, ?_⟩) (by assumption) ?_
          rotate_left
          · (intro w hSw; (try dsimp only at hSw); go_simp; try with_reducible rfl)
          try simp only [Act.put, List.getElem_toArray, List.getElem_cons_zero, List.getElem_cons_succ, List.setIfInBounds_toArray, List.set_cons_zero, List.set_cons_succ]
          refine wpAnyH_ready (rs := [1, 3]) (by kernel_rfl) (by simp) ?_
          refine AllReadyH.cons rfl (fun K hK => ?_) (AllReadyH.cons rfl (fun K hK => ?_) AllReadyH.nil)
          · go_simp
            refine hK.out _ _ (Nat.le_trans (Nat.le_succ _) (Nat.le_of_eq (World.size_alloc _ _).symm)) (fun hHeld => ?_)
            try simp only [Act.put, List.getElem_toArray, List.getElem_cons_zero, List.getElem_cons_succ, List.setIfInBounds_toArray, List.set_cons_zero, List.set_cons_succ]
            refine wpAnyH_ready (rs := [3]) (by kernel_rfl) (by simp) ?_
            refine AllReadyH.cons rfl (fun K hK => ?_) (AllReadyH.nil)
            go_simp
            go_at_call 70; (with_reducible refine (HPA.out _ (HR5.out.alloc _).drew).mono ?_); rintro e W7 ⟨r7, rfl, r70, r71, hR7, hg7⟩
            obtain ⟨zb, hz1b, hz2b, hcb⟩ := pick_bad4 (W := W5) 3 HR5.out.lt (grownBy_trans (grown_drewX (W5.alloc (.cells #[.int .i64 (-1), .int .i64 400, .int .i64 401] 3)) _) hg7) r70 r71
            have HS7 := Lib.hid (show W5.heap.size ≤ W7.heap.size from Nat.le_trans (Nat.le_trans (Nat.le_succ _) (Nat.le_of_eq (World.size_alloc W5 _).symm)) hg7.size)
            refine hK.out _ _ HS7.out (fun hHeld => ?_)
            try simp only [Act.put, List.getElem_toArray, List.getElem_cons_zero, List.getElem_cons_succ, List.setIfInBounds_toArray, List.set_cons_zero, List.set_cons_succ]
            have HG7 := Lib.hid (grownBy_trans HG5.out (grownBy_trans (grownBy_new W5 _ _) (grownBy_trans (grown_drewX (W5.alloc (.cells #[.int .i64 (-1), .int .i64 400, .int .i64 401] 3)) _) hg7)))
            have HY := Lib.hid (show DKeepPost W (.returned (.tuple #[sl, .slice (some ⟨W7.heap.size, 0, none⟩) 1 1])) (W7.alloc (.cells #[.int .i64 zb] 3)) from ⟨sl, bs, _, [zb], rfl, ⟨lit_own W7 _ (by have := HLT.out; have := HG5.out.size; have := HS7.out; (try rw [World.size_alloc]); omega) [zb] (by simp), by simp, by intro z hz; simp at hz; omega⟩, HX.out _ (grownBy_trans HG7.out (grownBy_new W7 _ _))⟩)
            refine wpAnyH_take (i := 4) (oi := _) (v := ?_) rfl (by kernel_rfl) (by kernel_rfl) (by kernel_rfl) (fun _ _ _ h => h) (Or.inl ⟨by rfl, ?_⟩) (by assumption) ?_
            rotate_left
            · (intro w hSw; (try dsimp only at hSw); go_simp; try with_reducible rfl)
            try simp only [Act.put, List.getElem_toArray, List.getElem_cons_zero, List.getElem_cons_succ, List.setIfInBounds_toArray, List.set_cons_zero, List.set_cons_succ]
            refine wpAnyH_take (i := 7) (oi := _) (v := ?_) rfl (by kernel_rfl) (by kernel_rfl) (by kernel_rfl) (fun _ _ _ h => h) (Or.inl ⟨by rfl, ?_⟩) (by assumption) ?_
            rotate_left
            · (intro w hSw; (try dsimp only at hSw); go_simp; try with_reducible rfl)
            try simp only [Act.put, List.getElem_toArray, List.getElem_cons_zero, List.getElem_cons_succ, List.setIfInBounds_toArray, List.set_cons_zero, List.set_cons_succ]
            refine wpAnyH_ready (rs := [5]) (by kernel_rfl) (by simp) ?_
            refine AllReadyH.cons rfl (fun K hK => ?_) (AllReadyH.nil)
            go_simp
            refine hK.out _ _ HS7.out (fun hHeld => ?_)
            try simp only [Act.put, List.getElem_toArray, List.getElem_cons_zero, List.getElem_cons_succ, List.setIfInBounds_toArray, List.set_cons_zero, List.set_cons_succ]
            refine wpAnyH_ready (rs := [6]) (by kernel_rfl) (by simp) ?_
            refine AllReadyH.cons rfl (fun K hK => ?_) (AllReadyH.nil)
            go_simp
            refine hK.out _ _ (Nat.le_trans HS7.out (Nat.le_trans (Nat.le_succ _) (Nat.le_of_eq (World.size_alloc W7 _).symm))) (fun hHeld => ?_)
            try simp only [Act.put, List.getElem_toArray, List.getElem_cons_zero, List.getElem_cons_succ, List.setIfInBounds_toArray, List.set_cons_zero, List.set_cons_succ]
            refine wpAnyH_take (i := 8) (oi := _) (v := ?_) rfl (by kernel_rfl) (by kernel_rfl) (by kernel_rfl) (fun _ _ _ h => h) (Or.inl ⟨by rfl, ?_⟩) (by assumption) ?_
            rotate_left
            · (intro w hSw; (try dsimp only at hSw); go_simp; try with_reducible rfl)
            try simp only [Act.put, List.getElem_toArray, List.getElem_cons_zero, List.getElem_cons_succ, List.setIfInBounds_toArray, List.set_cons_zero, List.set_cons_succ]
            refine wpAnyH_done (by kernel_rfl) ?_ _
            go_wp2
            go_ret2
            exact HY.out
          · go_simp
            go_at_call 70; (with_reducible refine (HPA.out _ (HRD.out)).mono ?_); rintro e W7 ⟨r7, rfl, r70, r71, hR7, hg7⟩
            obtain ⟨zb, hz1b, hz2b, hcb⟩ := lit_bad4 (W := W7) 3 r70 r71
            have HS7 := Lib.hid (show W5.heap.size ≤ W7.heap.size from hg7.size)
            refine hK.out _ _ HS7.out (fun hHeld => ?_)
            try simp only [Act.put, List.getElem_toArray, List.getElem_cons_zero, List.getElem_cons_succ, List.setIfInBounds_toArray, List.set_cons_zero, List.set_cons_succ]
            have HG7 := Lib.hid (grownBy_trans HG5.out (grownBy_trans (grown_drewX W5 _) hg7))
            refine wpAnyH_take (i := 7) (oi := _) (v := ?_) rfl (by kernel_rfl) (by kernel_rfl) (by kernel_rfl) (fun _ _ _ h => h) (Or.inl ⟨by rfl, ?_⟩) (by assumption) ?_
            rotate_left
            · (intro w hSw; (try dsimp only at hSw); go_simp; try with_reducible rfl)
            try simp only [Act.put, List.getElem_toArray, List.getElem_cons_zero, List.getElem_cons_succ, List.setIfInBounds_toArray, List.set_cons_zero, List.set_cons_succ]
            refine wpAnyH_ready (rs := [1]) (by kernel_rfl) (by simp) ?_
            refine AllReadyH.cons rfl (fun K hK => ?_) (AllReadyH.nil)
            go_simp
            refine hK.out _ _ (Nat.le_trans HS7.out (Nat.le_trans (Nat.le_succ _) (Nat.le_of_eq (World.size_alloc W7 _).symm))) (fun hHeld => ?_)
            try simp only [Act.put, List.getElem_toArray, List.getElem_cons_zero, List.getElem_cons_succ, List.setIfInBounds_toArray, List.set_cons_zero, List.set_cons_succ]
            have HY := Lib.hid (show DKeepPost W (.returned (.tuple #[sl, .slice (some ⟨(W7.alloc (.cells #[.int .i64 (-1), .int .i64 400, .int .i64 401] 3)).heap.size, 0, none⟩) 1 1])) ((W7.alloc (.cells #[.int .i64 (-1), .int .i64 400, .int .i64 401] 3)).alloc (.cells #[.int .i64 zb] 3)) from ⟨sl, bs, _, [zb], rfl, ⟨lit_own (W7.alloc (.cells #[.int .i64 (-1), .int .i64 400, .int .i64 401] 3)) _ (by have := HLT.out; have := HG5.out.size; have := HS7.out; (try rw [World.size_alloc]); omega) [zb] (by simp), by simp, by intro z hz; simp at hz; omega⟩, HX.out _ (grownBy_trans HG7.out (grownBy_trans (grownBy_new W7 _ _) (grownBy_new _ _ _)))⟩)
            rw [show (W7.alloc (.cells #[.int .i64 (-1), .int .i64 400, .int .i64 401] 3)).heap.size = W7.heap.size + 1 from World.size_alloc _ _] at HY
            refine wpAnyH_take (i := 4) (oi := _) (v := ?_) rfl (by kernel_rfl) (by kernel_rfl) (by kernel_rfl) (fun _ _ _ h => h) (Or.inl ⟨by rfl, ?_⟩) (by assumption) ?_
            rotate_left
            · (intro w hSw; (try dsimp only at hSw); go_simp; try with_reducible rfl)
            try simp only [Act.put, List.getElem_toArray, List.getElem_cons_zero, List.getElem_cons_succ, List.setIfInBounds_toArray, List.set_cons_zero, List.set_cons_succ]
            refine wpAnyH_ready (rs := [5]) (by kernel_rfl) (by simp) ?_
            refine AllReadyH.cons rfl (fun K hK => ?_) (AllReadyH.nil)
            go_simp
            refine hK.out _ _ (Nat.le_trans HS7.out (Nat.le_trans (Nat.le_succ _) (Nat.le_of_eq (World.size_alloc W7 _).symm))) (fun hHeld => ?_)
            try simp only [Act.put, List.getElem_toArray, List.getElem_cons_zero, List.getElem_cons_succ, List.setIfInBounds_toArray, List.set_cons_zero, List.set_cons_succ]
            refine wpAnyH_ready (rs := [6]) (by kernel_rfl) (by simp) ?_
            refine AllReadyH.cons rfl (fun K hK => ?_) (AllReadyH.nil)
            go_simp
            refine hK.out _ _ (Nat.le_trans (Nat.le_trans HS7.out (Nat.le_trans (Nat.le_succ _) (Nat.le_of_eq (World.size_alloc W7 _).symm))) (Nat.le_trans (Nat.le_succ _) (Nat.le_of_eq (World.size_alloc _ _).symm))) (fun hHeld => ?_)
            try simp only [Act.put, List.getElem_toArray, List.getElem_cons_zero, List.getElem_cons_succ, List.setIfInBounds_toArray, List.set_cons_zero, List.set_cons_succ]
            refine wpAnyH_take (i := 8) (oi := _) (v := ?_) rfl (by kernel_rfl) (by kernel_rfl) (by kernel_rfl) (fun _ _ _ h => h) (Or.inl ⟨by rfl, ?_⟩) (by assumption) ?_
            rotate_left
            · (intro w hSw; (try dsimp only at hSw); go_simp; try with_reducible rfl)
            try simp only [Act.put, List.getElem_toArray, List.getElem_cons_zero, List.getElem_cons_succ, List.setIfInBounds_toArray, List.set_cons_zero, List.set_cons_succ]
            refine wpAnyH_done (by kernel_rfl) ?_ _
            go_wp2
            go_ret2
            exact HY.out
        · have e6' : (r5 == 1) = false := by simpa using e6
          have HY := Lib.hid (show ∀ v, W5.ownsRow W2.heap.size 3 1 v zs.length (intsV zs) → DKeepPost W (.returned (.tuple #[sl, v])) W5 from fun v hv =>
            ⟨sl, bs, v, zs, rfl, ⟨own_mono1 hv (Nat.le_of_lt HLT.out), HL4.out, HZ2.out⟩, HX.out _ HG5.out⟩)
          clear e6 r50 r51
          go_wp2
          go_ret2
          exact HY.out _ HO5.out

end Go.Proofs.Ytaehgdglbplomaa
