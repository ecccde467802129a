/-
  laws.FnCanonPart returns true for every input, and leaves its arguments as they were.
  Conditions: none.
-/
import Derived.Test.YtnboodcllmdjeaaRows
import Derived.WalkKit
import Derived.ProofKit
import Derived.OpenShut
import Derived.ShutString
import Derived.ChangeOld
import Derived.Below
import Derived.Test.YtnboodcllmdjeaaQ7
import Derived.Test.YtnboodcllmdjeaaQ6
namespace Go.Proofs.Ytnboodcllmdjeaa.fnCanonPart
open Go.ChangeShapes Go.WideShapes Go.ChangeAt Go.RowKit
open Go.ChangeMaps (open_string shut_string)
set_option linter.unusedVariables false

theorem own : ownKnob Try.prog.godebug = none := by kernel_rfl
theorem laidOut : laidOutB Try.prog = true := by kernel_rfl

set_option maxHeartbeats 4000000 in
set_option maxRecDepth 100000 in
theorem walk (a0 : Option Addr) (len0 cap0 : Nat) (z0 : List Int) (a1 : Option Addr) (len1 cap1 : Nat) (z1 : List Int) (w : World) (w0 : IsRow .u8 w a0 len0 cap0 z0) (w1 : IsRow .u8 w a1 len1 cap1 z1) :
    Calls Try.prog 6 #[.slice a0 len0 cap0, .slice a1 len1 cap1] w fun e w' => e = .returned (.bool true) ∧ Below w.heap.size w w' := by
  obtain ⟨i0, hi, hz0, hz1, hz2⟩ := info_parts infoCmd
  clear w1
  by_cases h : len0 ≤ 1048576
  · have hl : (len0 : Int) ≤ 1048576 := by omega
    by_cases h1 : len1 ≤ 1048576
    · have hl1 : (len1 : Int) ≤ 1048576 := by omega
      have HD := Lib.hid (drawCanonValid_c a0 len0 cap0 z0 w w0)
      clear h w0
      go_enter Try.func6, Try.ntmps6
      go_wp2_with fail
      refine HD.out.mono ?_
      rintro e W1 ⟨sl, cs, rfl, ho, hl21, hs66, hB⟩
      obtain ⟨a, cap, rfl, hn⟩ := cmds_of_own ho
      have HN := Lib.hid hn
      have HBL := Lib.hid hB
      have HOW := Lib.hid ho
      obtain ⟨vl, hvl⟩ : ∃ vl, canonV cs = vl := ⟨_, rfl⟩
      have HI := Lib.hid (show Calls Try.prog 14 #[.slice a cs.length cap] W1 (BoolPost vl W1) by rw [← hvl]; exact implCanonValid_c a cs.length cap cs (by omega) (hs66.mono (by omega)) W1 hn)
      have HV := Lib.hid (fun W' (hb : Below W1.heap.size W1 W') => show Calls Try.prog 19 #[.slice a cs.length cap] W' (BoolPost vl W') by rw [← hvl]; exact specCanonValid_c a cs.length cap cs (by omega) (hs66.mono (by omega)) W' (hn.keep hb))
      have HVL := Lib.hid hvl
      have HCL := Lib.hid hl21
      have HCS := Lib.hid hs66
      clear ho hn hB hvl hl21 hs66
      go_wp2_with fail
      refine HI.out.mono ?_
      rintro e W2 ⟨rfl, hb2⟩
      have B2 := Lib.hid hb2
      clear hb2
      go_wp2_with fail
      refine (HV.out _ B2.out).mono ?_
      rintro e W3 ⟨rfl, hb3⟩
      have B3 := Lib.hid (below_next B2.out hb3)
      clear hb3
      cases vl with
      | false =>
        go_wp2
        go_ret
        exact ⟨rfl, below_next HBL.out B3.out⟩
      | true =>
        by_cases hz : cs.length = 0
        · have hz' : (cs.length : Int) = 0 := by omega
          clear hz
          go_wp2
          go_ret
          exact ⟨rfl, below_next HBL.out B3.out⟩
        · have hpos : 0 < cs.length := by omega
          have hpos' : (0 : Int) < cs.length := by omega
          have hne : ((cs.length : Int) == 0) = false := beq_eq_false_iff_ne.2 (by omega)
          have HPOS := Lib.hid hpos
          obtain ⟨g, cap', hsl, hgb, hlc, hcm⟩ := own_sliceC HOW.out hpos
          cases hsl
          have HBC := Lib.hid (And.intro hlc hcm)
          obtain ⟨k, hkk⟩ : ∃ k : Nat, len1 % cs.length = k := ⟨_, rfl⟩
          have hk : k < cs.length := by rw [← hkk]; exact Nat.mod_lt _ hpos
          have hrem : Int.tmod (len1 : Int) (cs.length : Int) = (k : Int) := by rw [← hkk]; rfl
          have HK := Lib.hid hk
          obtain ⟨x, hx⟩ : ∃ x, cs[k]? = some x := ⟨_, List.getElem?_eq_getElem hk⟩
          have HX := Lib.hid hx
          have hkl : (k : Int) < cs.length := by omega
          have hk0 : (0 : Int) ≤ k := by omega
          have hk2 : (k : Int) ≤ cap := by omega
          obtain ⟨m, hm⟩ : ∃ m, m = k + 1 := ⟨_, rfl⟩
          have hwr : IntKind.i64.wrap ((k : Int) + 1) = (m : Int) := (IntWalk.i64_in _ (by have := HCL.out; omega)).trans (by omega)
          have hm0 : (0 : Int) ≤ m := by omega
          have hm1 : (m : Int) ≤ cs.length := by omega
          have hm2 : (m : Int) ≤ cap := by omega
          have hmm : m ≤ cs.length := by omega
          have HM := Lib.hid (And.intro hm hmm)
          have HF1 := Lib.hid (show (flatC (cs.take k)).length = k * 5 by rw [flatC_length, List.length_take]; congr 1; omega)
          have HF2 := Lib.hid (show (flatC (cs.drop m)).length = (cs.length - m) * 5 by rw [flatC_length, List.length_drop])
          have HMX1 := Lib.hid (show 0 + k ≤ maxLen ∧ (0 + k) * 48 ≤ 140737488355328 by unfold maxLen; have := HCL.out; omega)
          have HMX2 := Lib.hid (show k + (cs.length - m) ≤ maxLen ∧ (k + (cs.length - m)) * 48 ≤ 140737488355328 by unfold maxLen; have := HCL.out; omega)
          have HLB := Lib.hid (show (cs.take k ++ cs.drop m).length = k + (cs.length - m) by rw [List.length_append, List.length_take, List.length_drop]; omega)
          have HXL := Lib.hid (show (cs.take k ++ cs.drop m).length ≤ 42 by rw [HLB.out]; have := HCL.out; omega)
          have HXV := Lib.hid (show canonV (cs.take k ++ cs.drop m) = true by rw [hm]; exact canon_part HVL.out k)
          have HXS := Lib.hid (show ShortC 66 (cs.take k ++ cs.drop m) from shortC_part HCS.out (fun y hy => by
            rcases List.mem_append.1 hy with h | h
            · exact List.mem_of_mem_take h
            · exact List.mem_of_mem_drop h))
          have HB4 := Lib.hid (show Below W3.heap.size W3 (W3.drew.alloc (.cells #[] 36)) from (Below.refl _ _).drew.alloc (Nat.le_refl _) _)
          have HLIT := Lib.hid (show (W3.drew.alloc (.cells #[] 36)).ownsRow W3.heap.size 36 5 (.slice (some ⟨W3.heap.size, 0, none⟩) 0 0) 0 [] from World.ownsRow_lit (e := 36) (size := 5) W3.drew #[] 0 (Nat.le_refl _) (by simp [maxLen]) rfl)
          have HC1 := Lib.hid (cmds_cells (show CmdsAt (W3.drew.alloc (.cells #[] 36)) (some ⟨g, 0, none⟩) k (cs.take k) by
            have h1 := (cmds_own HOW.out).keep (below_next B3.out HB4.out)
            have := h1.part 0 k (Nat.zero_le _) (by omega)
            rw [Nat.zero_mul, Nat.add_zero, Nat.sub_zero, List.drop_zero] at this
            exact this))
          clear hz hpos hlc hcm hgb hkk hk hx hm hmm
          by_cases hcap : cap = m
          · subst hcap
            have HTL := Lib.hid (show CmdsAt W3 (some ⟨g, 0, none⟩) (cs.length - cap) (cs.drop cap) from (own_tailC HOW.out cap HM.out.2 (0) (.inr (by have h1 := HBC.out.1; have h2 := HM.out.2; omega))).keep B3.out)
            have HS0 := Lib.hid (show Below W3.heap.size W3 W3.drew from (Below.refl _ _).drew)
            go_upto_region 9 with (fail)
            refine wp_region_held_drew (S := (fun w' => Below W3.heap.size W3 w')) (by kernel_rfl) HS0.out (fun hH => ?_)
            refine wpAnyH_take (i := 1) (oi := _) (v := ?_) rfl (by kernel_rfl) (by kernel_rfl) (by kernel_rfl) (fun _ _ _ h => h) (Or.inl ⟨by rfl, ?_⟩) (by assumption) ?_
            rotate_left
            · (intro w hSw; (try dsimp only at hSw); go_simp; try with_reducible rfl)
            try simp only [Act.put, List.getElem_toArray, List.getElem_cons_zero, List.getElem_cons_succ, List.setIfInBounds_toArray, List.set_cons_zero, List.set_cons_succ]
            refine wpAnyH_take (i := 2) (oi := _) (v := ?_) rfl (by kernel_rfl) (by kernel_rfl) (by kernel_rfl) (fun _ _ _ h => h) (Or.inl ⟨by rfl, ?_⟩) (by assumption) ?_
            rotate_left
            · (intro w hSw; (try dsimp only at hSw); go_simp; try with_reducible rfl)
            try simp only [Act.put, List.getElem_toArray, List.getElem_cons_zero, List.getElem_cons_succ, List.setIfInBounds_toArray, List.set_cons_zero, List.set_cons_succ]
            refine wpAnyH_take (i := 3) (oi := _) (v := ?_) rfl (by kernel_rfl) (by kernel_rfl) (by kernel_rfl) (fun _ _ _ h => h) (Or.inl ⟨by rfl, ?_⟩) (by assumption) ?_
            rotate_left
            · (intro w hSw; (try dsimp only at hSw); go_simp; try with_reducible rfl)
            try simp only [Act.put, List.getElem_toArray, List.getElem_cons_zero, List.getElem_cons_succ, List.setIfInBounds_toArray, List.set_cons_zero, List.set_cons_succ]
            refine wpAnyH_take (i := 5) (oi := _) (v := ?_) rfl (by kernel_rfl) (by kernel_rfl) (by kernel_rfl) (fun _ _ _ h => h) (Or.inl ⟨by rfl, ?_⟩) (by assumption) ?_
            rotate_left
            · (intro w hSw; (try dsimp only at hSw); go_simp; try with_reducible rfl)
            try simp only [Act.put, List.getElem_toArray, List.getElem_cons_zero, List.getElem_cons_succ, List.setIfInBounds_toArray, List.set_cons_zero, List.set_cons_succ]
            refine wpAnyH_take (i := 6) (oi := _) (v := ?_) rfl (by kernel_rfl) (by kernel_rfl) (by kernel_rfl) (fun _ _ _ h => h) (Or.inl ⟨by rfl, ?_⟩) (by assumption) ?_
            rotate_left
            · (intro w hSw; (try dsimp only at hSw); go_simp; try with_reducible rfl)
            try simp only [Act.put, List.getElem_toArray, List.getElem_cons_zero, List.getElem_cons_succ, List.setIfInBounds_toArray, List.set_cons_zero, List.set_cons_succ]
            refine wpAnyH_take (i := 7) (oi := _) (v := ?_) rfl (by kernel_rfl) (by kernel_rfl) (by kernel_rfl) (fun _ _ _ h => h) (Or.inl ⟨by rfl, ?_⟩) (by assumption) ?_
            rotate_left
            · (intro w hSw; (try dsimp only at hSw); go_simp; try with_reducible rfl)
            try simp only [Act.put, List.getElem_toArray, List.getElem_cons_zero, List.getElem_cons_succ, List.setIfInBounds_toArray, List.set_cons_zero, List.set_cons_succ]
            refine wpAnyH_take (i := 8) (oi := _) (v := ?_) rfl (by kernel_rfl) (by kernel_rfl) (by kernel_rfl) (fun _ _ _ h => h) (Or.inl ⟨by rfl, ?_⟩) (by assumption) ?_
            rotate_left
            · (intro w hSw; (try dsimp only at hSw); go_simp; try with_reducible rfl)
            try simp only [Act.put, List.getElem_toArray, List.getElem_cons_zero, List.getElem_cons_succ, List.setIfInBounds_toArray, List.set_cons_zero, List.set_cons_succ]
            refine wpAnyH_ready (rs := [0]) (by kernel_rfl) (by simp) ?_
            refine AllReadyH.cons rfl (fun K hK => ?_) AllReadyH.nil
            go_simp
            refine hK.out _ _ HB4.out (fun hHeld => ?_)
            try simp only [Act.put, List.getElem_toArray, List.getElem_cons_zero, List.getElem_cons_succ, List.setIfInBounds_toArray, List.set_cons_zero, List.set_cons_succ]
            refine wpAnyH_ready (rs := [4]) (by kernel_rfl) (by simp) ?_
            refine AllReadyH.cons rfl (fun K hK => ?_) AllReadyH.nil
            rw [if_pos (by rfl)]
            refine wp_append_own _ _ _ 23 rfl W3.heap.size 36 i0 (.agg #[.string ⟨#[]⟩, .int .i64 0, .int .i64 0, .int .i64 0, .int .i64 0]) 5 48 Try.underlying23 hi hz0 hz1 hz2 rfl (by decide) (.slice (some ⟨W3.heap.size, 0, none⟩) 0 0) 0 [] rfl HLIT.out ⟨g, 0, none⟩ k cap (flatC (cs.take k)) rfl HF1.out HC1.out (flatC_cell1 _) HMX1.out.1 HMX1.out.2 HB4.out.size ?_
            intro v5 w5 ho5 hg5 hn5
            have HB5 := Lib.hid (show Below W3.heap.size W3 w5 from HB4.out.grown hg5 HB4.out.size (fun k e => by cases e; exact Nat.le_refl _))
            refine hK.out _ _ HB5.out (fun hHeld => ?_)
            try simp only [Act.put, List.getElem_toArray, List.getElem_cons_zero, List.getElem_cons_succ, List.setIfInBounds_toArray, List.set_cons_zero, List.set_cons_succ]
            have HO5 := Lib.hid (show w5.ownsRow W3.heap.size 36 5 v5 k (flatC (cs.take k)) by simpa using ho5)
            have HC2 := Lib.hid (cmds_cells (show CmdsAt w5 (some ⟨g, 0, none⟩) (cs.length - cap) (cs.drop cap) from HTL.out.keep HB5.out))
            clear ho5 hg5 hn5
            refine wpAnyH_ready (rs := [9]) (by kernel_rfl) (by simp) ?_
            refine AllReadyH.cons rfl (fun K hK => ?_) AllReadyH.nil
            rw [if_pos (by rfl)]
            refine wp_append_own _ _ _ 23 rfl W3.heap.size 36 i0 (.agg #[.string ⟨#[]⟩, .int .i64 0, .int .i64 0, .int .i64 0, .int .i64 0]) 5 48 Try.underlying23 hi hz0 hz1 hz2 rfl (by decide) v5 k (flatC (cs.take k)) rfl HO5.out ⟨g, 0, none⟩ (cs.length - cap) 0 (flatC (cs.drop cap)) rfl HF2.out HC2.out (flatC_cell1 _) HMX2.out.1 HMX2.out.2 HB5.out.size ?_
            intro v6 w6 ho6 hg6 hn6
            have HB6 := Lib.hid (show Below W3.heap.size W3 w6 from HB5.out.grown hg6 HB5.out.size (fun k e => (HO5.out.lt k e).1))
            refine hK.out _ _ HB6.out (fun hHeld => ?_)
            try simp only [Act.put, List.getElem_toArray, List.getElem_cons_zero, List.getElem_cons_succ, List.setIfInBounds_toArray, List.set_cons_zero, List.set_cons_succ]
            have HX6 := Lib.hid (show w6.ownsRow W3.heap.size 36 5 v6 (cs.take k ++ cs.drop cap).length (flatC (cs.take k ++ cs.drop cap)) by rw [HLB.out, flatC_append]; exact ho6)
            clear ho6 hg6 hn6
            generalize cs.take k ++ cs.drop cap = xs at HX6 HXV HXS HXL
            obtain ⟨ax, cx, rfl, hnx⟩ := cmds_of_own HX6.out
            have HVX := Lib.hid (show Calls Try.prog 14 #[.slice ax xs.length cx] w6 (BoolPost true w6) by rw [← HXV.out]; exact implCanonValid_c ax xs.length cx xs (by have := HXL.out; omega) (HXS.out.mono (by omega)) w6 hnx)
            clear hnx
            refine wpAnyH_ready (rs := [10]) (by kernel_rfl) (by simp) ?_
            refine AllReadyH.cons rfl (fun K hK => ?_) (AllReadyH.nil)
            go_simp
            go_at_call 14; (with_reducible refine HVX.out.mono ?_); rintro e w7 ⟨rfl, hb7⟩
            refine hK.out _ _ (below_next HB6.out hb7) (fun hHeld => ?_)
            try simp only [Act.put, List.getElem_toArray, List.getElem_cons_zero, List.getElem_cons_succ, List.setIfInBounds_toArray, List.set_cons_zero, List.set_cons_succ]
            refine wpAnyH_take (i := 11) (oi := _) (v := ?_) rfl (by kernel_rfl) (by kernel_rfl) (by kernel_rfl) (fun _ _ _ h => h) (Or.inl ⟨by rfl, ?_⟩) (by assumption) ?_
            rotate_left
            · (intro w hSw; (try dsimp only at hSw); go_simp; try with_reducible rfl)
            try simp only [Act.put, List.getElem_toArray, List.getElem_cons_zero, List.getElem_cons_succ, List.setIfInBounds_toArray, List.set_cons_zero, List.set_cons_succ]
            refine wpAnyH_done (by kernel_rfl) ?_ _
            go_wp2
            go_ret
            exact ⟨rfl, below_next HBL.out (below_next B3.out (below_next HB6.out hb7))⟩
          · have HTL := Lib.hid (show CmdsAt W3 (some ⟨g, m * 5, none⟩) (cs.length - m) (cs.drop m) from (own_tailC HOW.out m HM.out.2 (m * 5) (.inl rfl)).keep B3.out)
            have HS0 := Lib.hid (show Below W3.heap.size W3 W3.drew from (Below.refl _ _).drew)
            go_upto_region 9 with (fail)
            refine wp_region_held_drew (S := (fun w' => Below W3.heap.size W3 w')) (by kernel_rfl) HS0.out (fun hH => ?_)
            refine wpAnyH_take (i := 1) (oi := _) (v := ?_) rfl (by kernel_rfl) (by kernel_rfl) (by kernel_rfl) (fun _ _ _ h => h) (Or.inl ⟨by rfl, ?_⟩) (by assumption) ?_
            rotate_left
            · (intro w hSw; (try dsimp only at hSw); go_simp; try with_reducible rfl)
            try simp only [Act.put, List.getElem_toArray, List.getElem_cons_zero, List.getElem_cons_succ, List.setIfInBounds_toArray, List.set_cons_zero, List.set_cons_succ]
            refine wpAnyH_take (i := 2) (oi := _) (v := ?_) rfl (by kernel_rfl) (by kernel_rfl) (by kernel_rfl) (fun _ _ _ h => h) (Or.inl ⟨by rfl, ?_⟩) (by assumption) ?_
            rotate_left
            · (intro w hSw; (try dsimp only at hSw); go_simp; try with_reducible rfl)
            try simp only [Act.put, List.getElem_toArray, List.getElem_cons_zero, List.getElem_cons_succ, List.setIfInBounds_toArray, List.set_cons_zero, List.set_cons_succ]
            refine wpAnyH_take (i := 3) (oi := _) (v := ?_) rfl (by kernel_rfl) (by kernel_rfl) (by kernel_rfl) (fun _ _ _ h => h) (Or.inl ⟨by rfl, ?_⟩) (by assumption) ?_
            rotate_left
            · (intro w hSw; (try dsimp only at hSw); go_simp; try with_reducible rfl)
            try simp only [Act.put, List.getElem_toArray, List.getElem_cons_zero, List.getElem_cons_succ, List.setIfInBounds_toArray, List.set_cons_zero, List.set_cons_succ]
            refine wpAnyH_take (i := 5) (oi := _) (v := ?_) rfl (by kernel_rfl) (by kernel_rfl) (by kernel_rfl) (fun _ _ _ h => h) (Or.inl ⟨by rfl, ?_⟩) (by assumption) ?_
            rotate_left
            · (intro w hSw; (try dsimp only at hSw); go_simp; try with_reducible rfl)
            try simp only [Act.put, List.getElem_toArray, List.getElem_cons_zero, List.getElem_cons_succ, List.setIfInBounds_toArray, List.set_cons_zero, List.set_cons_succ]
            refine wpAnyH_take (i := 6) (oi := _) (v := ?_) rfl (by kernel_rfl) (by kernel_rfl) (by kernel_rfl) (fun _ _ _ h => h) (Or.inl ⟨by rfl, ?_⟩) (by assumption) ?_
            rotate_left
            · (intro w hSw; (try dsimp only at hSw); go_simp; try with_reducible rfl)
            try simp only [Act.put, List.getElem_toArray, List.getElem_cons_zero, List.getElem_cons_succ, List.setIfInBounds_toArray, List.set_cons_zero, List.set_cons_succ]
            refine wpAnyH_take (i := 7) (oi := _) (v := ?_) rfl (by kernel_rfl) (by kernel_rfl) (by kernel_rfl) (fun _ _ _ h => h) (Or.inl ⟨by rfl, ?_⟩) (by assumption) ?_
            rotate_left
            · (intro w hSw; (try dsimp only at hSw); go_simp; try with_reducible rfl)
            try simp only [Act.put, List.getElem_toArray, List.getElem_cons_zero, List.getElem_cons_succ, List.setIfInBounds_toArray, List.set_cons_zero, List.set_cons_succ]
            refine wpAnyH_take (i := 8) (oi := _) (v := ?_) rfl (by kernel_rfl) (by kernel_rfl) (by kernel_rfl) (fun _ _ _ h => h) (Or.inl ⟨by rfl, ?_⟩) (by assumption) ?_
            rotate_left
            · (intro w hSw; (try dsimp only at hSw); go_simp; try with_reducible rfl)
            try simp only [Act.put, List.getElem_toArray, List.getElem_cons_zero, List.getElem_cons_succ, List.setIfInBounds_toArray, List.set_cons_zero, List.set_cons_succ]
            refine wpAnyH_ready (rs := [0]) (by kernel_rfl) (by simp) ?_
            refine AllReadyH.cons rfl (fun K hK => ?_) AllReadyH.nil
            go_simp
            refine hK.out _ _ HB4.out (fun hHeld => ?_)
            try simp only [Act.put, List.getElem_toArray, List.getElem_cons_zero, List.getElem_cons_succ, List.setIfInBounds_toArray, List.set_cons_zero, List.set_cons_succ]
            refine wpAnyH_ready (rs := [4]) (by kernel_rfl) (by simp) ?_
            refine AllReadyH.cons rfl (fun K hK => ?_) AllReadyH.nil
            rw [if_pos (by rfl)]
            refine wp_append_own _ _ _ 23 rfl W3.heap.size 36 i0 (.agg #[.string ⟨#[]⟩, .int .i64 0, .int .i64 0, .int .i64 0, .int .i64 0]) 5 48 Try.underlying23 hi hz0 hz1 hz2 rfl (by decide) (.slice (some ⟨W3.heap.size, 0, none⟩) 0 0) 0 [] rfl HLIT.out ⟨g, 0, none⟩ k cap (flatC (cs.take k)) rfl HF1.out HC1.out (flatC_cell1 _) HMX1.out.1 HMX1.out.2 HB4.out.size ?_
            intro v5 w5 ho5 hg5 hn5
            have HB5 := Lib.hid (show Below W3.heap.size W3 w5 from HB4.out.grown hg5 HB4.out.size (fun k e => by cases e; exact Nat.le_refl _))
            refine hK.out _ _ HB5.out (fun hHeld => ?_)
            try simp only [Act.put, List.getElem_toArray, List.getElem_cons_zero, List.getElem_cons_succ, List.setIfInBounds_toArray, List.set_cons_zero, List.set_cons_succ]
            have HO5 := Lib.hid (show w5.ownsRow W3.heap.size 36 5 v5 k (flatC (cs.take k)) by simpa using ho5)
            have HC2 := Lib.hid (cmds_cells (show CmdsAt w5 (some ⟨g, m * 5, none⟩) (cs.length - m) (cs.drop m) from HTL.out.keep HB5.out))
            clear ho5 hg5 hn5
            refine wpAnyH_ready (rs := [9]) (by kernel_rfl) (by simp) ?_
            refine AllReadyH.cons rfl (fun K hK => ?_) AllReadyH.nil
            rw [if_pos (by rfl)]
            refine wp_append_own _ _ _ 23 rfl W3.heap.size 36 i0 (.agg #[.string ⟨#[]⟩, .int .i64 0, .int .i64 0, .int .i64 0, .int .i64 0]) 5 48 Try.underlying23 hi hz0 hz1 hz2 rfl (by decide) v5 k (flatC (cs.take k)) rfl HO5.out ⟨g, m * 5, none⟩ (cs.length - m) (cap - m) (flatC (cs.drop m)) rfl HF2.out HC2.out (flatC_cell1 _) HMX2.out.1 HMX2.out.2 HB5.out.size ?_
            intro v6 w6 ho6 hg6 hn6
            have HB6 := Lib.hid (show Below W3.heap.size W3 w6 from HB5.out.grown hg6 HB5.out.size (fun k e => (HO5.out.lt k e).1))
            refine hK.out _ _ HB6.out (fun hHeld => ?_)
            try simp only [Act.put, List.getElem_toArray, List.getElem_cons_zero, List.getElem_cons_succ, List.setIfInBounds_toArray, List.set_cons_zero, List.set_cons_succ]
            have HX6 := Lib.hid (show w6.ownsRow W3.heap.size 36 5 v6 (cs.take k ++ cs.drop m).length (flatC (cs.take k ++ cs.drop m)) by rw [HLB.out, flatC_append]; exact ho6)
            clear ho6 hg6 hn6
            generalize cs.take k ++ cs.drop m = xs at HX6 HXV HXS HXL
            obtain ⟨ax, cx, rfl, hnx⟩ := cmds_of_own HX6.out
            have HVX := Lib.hid (show Calls Try.prog 14 #[.slice ax xs.length cx] w6 (BoolPost true w6) by rw [← HXV.out]; exact implCanonValid_c ax xs.length cx xs (by have := HXL.out; omega) (HXS.out.mono (by omega)) w6 hnx)
            clear hnx
            refine wpAnyH_ready (rs := [10]) (by kernel_rfl) (by simp) ?_
            refine AllReadyH.cons rfl (fun K hK => ?_) (AllReadyH.nil)
            go_simp
            go_at_call 14; (with_reducible refine HVX.out.mono ?_); rintro e w7 ⟨rfl, hb7⟩
            refine hK.out _ _ (below_next HB6.out hb7) (fun hHeld => ?_)
            try simp only [Act.put, List.getElem_toArray, List.getElem_cons_zero, List.getElem_cons_succ, List.setIfInBounds_toArray, List.set_cons_zero, List.set_cons_succ]
            refine wpAnyH_take (i := 11) (oi := _) (v := ?_) rfl (by kernel_rfl) (by kernel_rfl) (by kernel_rfl) (fun _ _ _ h => h) (Or.inl ⟨by rfl, ?_⟩) (by assumption) ?_
            rotate_left
            · (intro w hSw; (try dsimp only at hSw); go_simp; try with_reducible rfl)
            try simp only [Act.put, List.getElem_toArray, List.getElem_cons_zero, List.getElem_cons_succ, List.setIfInBounds_toArray, List.set_cons_zero, List.set_cons_succ]
            refine wpAnyH_done (by kernel_rfl) ?_ _
            go_wp2
            go_ret
            exact ⟨rfl, below_next HBL.out (below_next B3.out (below_next HB6.out hb7))⟩
    · have hl1 : (1048576 : Int) < len1 := by omega
      clear h w0 h1
      go_enter Try.func6, Try.ntmps6
      go_wp2
      go_ret
      exact ⟨rfl, Below.refl _ _⟩
  · have hl : (1048576 : Int) < len0 := by omega
    clear h w0
    go_enter Try.func6, Try.ntmps6
    go_wp2
    go_ret
    exact ⟨rfl, Below.refl _ _⟩


set_option maxRecDepth 100000 in
theorem lifted (os : Os) (started : os.Started) (H : Type) (enc : TypeId × Value → H) :
    ReturnsInHanded {} Try.checked os 6 .any (Rows.fnCanonPartSpec.pre6 enc Try.prog Try.f6 Rows.fnCanonPartRow.domain false) (Rows.fnCanonPartSpec.post enc Try.prog Try.f6 false true false false) := by
  refine returnsInHanded_of_change (C := Try.checked) own started (by kernel_rfl) Try.func6
    (ChangeSpec.witness6 (enc := enc) (C := Try.checked) false ⟨#[], #[.slice none 0 0, .slice none 0 0], []⟩ 8 (by kernel_rfl) (by kernel_rfl) (by kernel_rfl) (by kernel_rfl)) ?_
  intro W base args ds gs before hval0 hW hcnd _
  have hval : ∀ (j : Nat) t v, Try.f6.params[j]? = some t → args[j]? = some v → Value.okWide Try.prog W .any base t v := hval0
  have hW' := hW
  obtain ⟨p, q, hA0, hV, rfl, hfz, hnd⟩ := hW
  have hA : DataW.TrodAll enc Try.prog W 0 (fun _ => true) true Try.f6.params.toList args.toList ds p := hA0
  rw [Try.params6] at hA hval
  obtain ⟨v0, vs0, d0, ds0, p0, q0, hargs, rfl, rfl, h0, r0⟩ := trodAll_cons hA
  obtain ⟨v1, vs1, d1, ds1, p1, q1, rfl, rfl, rfl, h1, r1⟩ := trodAll_cons r0
  obtain ⟨rfl, rfl, rfl⟩ := trodAll_nil r1
  obtain rfl : args = #[v0, v1] := by cases args; simp_all
  obtain ⟨rfl, rfl⟩ := trodVars_none hV
  obtain ⟨a0, len0, cap0, rfl⟩ := okWide_slice Try.underlying22 (hval 0 22 v0 rfl rfl)
  have k0 := h0
  have lt0 : ∀ x ∈ p0, x.block < W.heap.size := by obtain ⟨m, hm⟩ := k0; exact DataW.trod_lt m _ _ _ hm
  obtain ⟨z0, w0⟩ : ∃ zs, IsRow .u8 W a0 len0 cap0 zs := by
    obtain ⟨fuel, hf⟩ := h0
    rcases open_ints Try.underlying22 Try.underlying5 (by kernel_rfl) hf with ⟨hcs, _⟩ | ⟨x, l, c, zs, hcs, _, hl, hm, hz, _, hcell, hwz⟩
    · simp [Value.cells] at hcs
      obtain ⟨rfl, rfl, rfl⟩ := hcs
      exact ⟨[], .inl ⟨rfl, rfl, rfl, rfl⟩⟩
    · simp [Value.cells] at hcs
      obtain ⟨rfl, rfl, rfl⟩ := hcs
      exact ⟨zs, .inr ⟨_, rfl, hl, hm, by simpa using hz, hcell, hwz⟩⟩
  obtain ⟨a1, len1, cap1, rfl⟩ := okWide_slice Try.underlying22 (hval 1 22 v1 rfl rfl)
  have k1 := h1
  have lt1 : ∀ x ∈ p1, x.block < W.heap.size := by obtain ⟨m, hm⟩ := k1; exact DataW.trod_lt m _ _ _ hm
  obtain ⟨z1, w1⟩ : ∃ zs, IsRow .u8 W a1 len1 cap1 zs := by
    obtain ⟨fuel, hf⟩ := h1
    rcases open_ints Try.underlying22 Try.underlying5 (by kernel_rfl) hf with ⟨hcs, _⟩ | ⟨x, l, c, zs, hcs, _, hl, hm, hz, _, hcell, hwz⟩
    · simp [Value.cells] at hcs
      obtain ⟨rfl, rfl, rfl⟩ := hcs
      exact ⟨[], .inl ⟨rfl, rfl, rfl, rfl⟩⟩
    · simp [Value.cells] at hcs
      obtain ⟨rfl, rfl, rfl⟩ := hcs
      exact ⟨zs, .inr ⟨_, rfl, hl, hm, by simpa using hz, hcell, hwz⟩⟩
  clear hA0 hval0
  refine (walk a0 len0 cap0 z0 a1 len1 cap1 z1 W w0 w1).mono fun e W' ⟨he, bel⟩ => ?_
  subst he
  exact ⟨_, rfl, _, _, _, [], _, [], hW', trodAll_mk1 (shut_bool Try.underlying4 _), (trodAll_cons_mk (Below.trod laidOut (by kernel_rfl) (of_decide_eq_true (by kernel_rfl)) k0 bel lt0) (trodAll_cons_mk (Below.trod laidOut (by kernel_rfl) (of_decide_eq_true (by kernel_rfl)) k1 bel lt1) trodAll_mk0)), rfl, bel.frame _, fun h => by cases h⟩

theorem over : Rows.fnCanonPartRow.holds Try.pinned (OpenSpec.ofChange Rows.fnCanonPartSpec) :=
  OpenClaim.holds_of_wide 6 Try.f6 rfl rfl rfl rfl rfl rfl rfl ⟨rfl, rfl, rfl, rfl, rfl⟩ rfl rfl rfl rfl rfl (by kernel_rfl) Try.func6 (by kernel_rfl)
    (of_decide_eq_true (by kernel_rfl)) (by unfold Func.isWrapper; first | (rw [if_pos (by decide +kernel)]; kernel_rfl) | (rw [if_neg (by decide +kernel)]; exact ⟨rfl, rfl⟩))
    (fun os started H enc _ => lifted os started H enc)

theorem proved : Rows.FnCanonPartSaid := over
end Go.Proofs.Ytnboodcllmdjeaa.fnCanonPart
