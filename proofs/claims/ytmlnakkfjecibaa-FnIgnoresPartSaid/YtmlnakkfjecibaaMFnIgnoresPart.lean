/-
  laws.FnIgnoresPart returns true for every input, and leaves its arguments as they were.
  Conditions: none.
-/
import Derived.Test.YtmlnakkfjecibaaRows
import Derived.WalkKit
import Derived.ProofKit
import Derived.OpenShut
import Derived.ShutString
import Derived.ChangeOld
import Derived.Below
import Derived.Test.YtmlnakkfjecibaaQ7
import Derived.Test.YtmlnakkfjecibaaQ9
import Derived.Test.YtmlnakkfjecibaaZeq
import Derived.Test.YtmlnakkfjecibaaQ8
namespace Go.Proofs.Ytmlnakkfjecibaa.fnIgnoresPart
open Go.ChangeShapes Go.WideShapes Go.ChangeAt Go.RowKit
open Go.ChangeMaps (open_string shut_string)
set_option linter.unusedVariables false

theorem own : ownKnob Try.prog.godebug = none := by kernel_rfl
theorem laidOut : laidOutB Try.prog = true := by kernel_rfl

theorem texts_take {W : World} {a : Option Addr} {len k : Nat} {xs : List ByteArray} (h : TextsAt W a len xs) (hk : k ≤ len) : TextsAt W a k (xs.take k) := by
  obtain ⟨h1, h0 | ⟨b, off, ha, hc⟩⟩ := h
  · exact ⟨by rw [List.length_take]; omega, .inl (by omega)⟩
  · refine ⟨by rw [List.length_take]; omega, .inr ⟨b, off, ha, fun i x hx => hc i x ?_⟩⟩
    have hi : i < k := by have := (List.getElem?_eq_some_iff.1 hx).1; rw [List.length_take] at this; omega
    rw [List.getElem?_take_of_lt hi] at hx
    exact hx
theorem texts_own {W : World} {base : Nat} {e : TypeId} {a : Option Addr} {cap : Nat} {xs : List ByteArray} (h : W.ownsRow base e 1 (.slice a xs.length cap) xs.length (xs.map Value.string)) : TextsAt W a xs.length xs := by
  obtain ⟨_, _, e, h⟩ := texts_of_own h
  simp at e; rw [e.1]; exact h
theorem own_sliceT {W : World} {base : Nat} {e : TypeId} {v : Value} {cs : List ByteArray} (h : W.ownsRow base e 1 v cs.length (cs.map Value.string)) (h0 : 0 < cs.length) : ∃ g cap, v = .slice (some ⟨g, 0, none⟩) cs.length cap ∧ base ≤ g ∧ cs.length ≤ cap ∧ cap ≤ maxLen := by
  rcases h.2 with ⟨_, h1⟩ | ⟨g, cap, cur, rfl, h1, h2, h3, h4, _⟩
  · omega
  · exact ⟨g, cap, rfl, h1, h3, h4⟩
theorem texts_tail {W : World} {base : Nat} {e : TypeId} {g cap : Nat} {cs : List ByteArray} (h : W.ownsRow base e 1 (.slice (some ⟨g, 0, none⟩) cs.length cap) cs.length (cs.map Value.string)) (m : Nat) (hm : m ≤ cs.length) (o : Nat) (ho : o = m ∨ cs.length = m) : TextsAt W (some ⟨g, o, none⟩) (cs.length - m) (cs.drop m) := by
  refine ⟨by rw [List.length_drop], ?_⟩
  rcases ho with rfl | ho
  · right
    refine ⟨g, o, rfl, fun i x hx => ?_⟩
    rw [List.getElem?_drop] at hx
    have hi := (List.getElem?_eq_some_iff.1 hx).1
    rw [h.cellAt (o + i) (by omega), List.getElem?_map, hx]
    rfl
  · left; omega
theorem texts_cell1 (cs : List ByteArray) : ∀ u ∈ cs.map Value.string, u.oneCell' = true := by
  intro u hu
  obtain ⟨c, _, rfl⟩ := List.mem_map.1 hu
  rfl
theorem texts_cells {W : World} {ad : Addr} {len : Nat} {cs : List ByteArray} (h : TextsAt W (some ad) len cs) : ∀ j u, (cs.map Value.string)[j]? = some u → W.cell? (ad.add j) = some u := by
  intro j u hj
  rw [List.getElem?_map] at hj
  obtain ⟨h1, h0 | ⟨b, off, ha, hh⟩⟩ := h
  · cases hx : cs[j]? with
    | none => rw [hx] at hj; cases hj
    | some x => have := (List.getElem?_eq_some_iff.1 hx).1; omega
  · cases ha
    cases hx : cs[j]? with
    | none => rw [hx] at hj; cases hj
    | some x =>
      rw [hx] at hj
      obtain rfl : Value.string x = u := Option.some.inj hj
      have := hh j x hx
      unfold Addr.add
      split
      · rename_i h0; subst h0; exact this
      · exact this
theorem wpList_wantedT {P : Program} {w : World} {ops : Array Oper} {rest : List Oper} {o : Oper} {a : Act} {Q : Exit → Act → World → Prop} (hw : Region.wanted o (yielded ops a.tmps) = true)
    (h : ∀ K : Act → World → Prop, (∀ a w, wpList P ops Q rest a w → K a w) → o.wp P a w K Q) : wpList P ops Q (o :: rest) a w :=
  wpList_step fun K hK => by rw [if_pos hw]; exact h K hK
/-- append(v, x) of one text, at an operation that is guarded or not. -/
theorem wpList_append_text {w : World} {ops : Array Oper} {rest : List Oper} {o : Oper} {a : Act} {Q : Exit → Act → World → Prop} (hw : Region.wanted o (yielded ops a.tmps) = true) (s x : Operand)
    (ho : o.op = .call { callee := .builtin .append, args := #[s, x], argTypes := #[24, 24] })
    (base : Nat) (v : Value) (acc : List ByteArray) (hs : a.eval s = v) (hown : w.ownsRow base 9 1 v acc.length (acc.map Value.string))
    (ad : Addr) (cap : Nat) (z : ByteArray) (hx : a.eval x = .slice (some ad) 1 cap) (hi : ∀ j u, [Value.string z][j]? = some u → w.cell? (ad.add j) = some u) (hlen : acc.length ≤ 2097152) (hb : base ≤ w.heap.size)
    (h : ∀ v3 w3, w3.ownsRow base 9 1 v3 (acc ++ [z]).length ((acc ++ [z]).map Value.string) → w.grownBy w3 v.ownBlock → wpList Try.prog ops Q rest (a.put o.dst v3) w3) : wpList Try.prog ops Q (o :: rest) a w := by
  obtain ⟨i0, hi0, hz0, hz1, hz2⟩ := info_parts infoStr
  refine wpList_wantedT hw fun K hK => ?_
  exact wp_append_own w s x 24 ho base 9 i0 (.string ⟨#[]⟩) 1 16 Try.underlying24 hi0 hz0 hz1 hz2 rfl (by decide) v acc.length (acc.map Value.string) hs hown ad 1 cap [Value.string z] hx rfl hi (fun u hu => by simp at hu; subst hu; rfl) (by unfold maxLen; omega) (by omega) hb fun v' w' h1 h2 _ => hK _ _ (h v' w' (by rw [List.length_append, List.map_append]; exact h1) h2)

set_option maxHeartbeats 4000000 in
set_option maxRecDepth 100000 in
theorem walk (a0 : Option Addr) (len0 cap0 : Nat) (z0 : List Int) (a1 : Option Addr) (len1 cap1 : Nat) (z1 : List Int) (w : World) (w0 : IsRow .u8 w a0 len0 cap0 z0) (w1 : IsRow .u8 w a1 len1 cap1 z1) :
    Calls Try.prog 7 #[.slice a0 len0 cap0, .slice a1 len1 cap1] w fun e w' => e = .returned (.bool true) ∧ Below w.heap.size w w' := by
  clear w1
  obtain ⟨i0, hi, hz0, hz1, hz2⟩ := info_parts infoStr
  by_cases h : len0 ≤ 1048576
  · have hl : (len0 : Int) ≤ 1048576 := by omega
    by_cases h1 : len1 ≤ 1048576
    · have hl1 : (len1 : Int) ≤ 1048576 := by omega
      have HD := Lib.hid (drawIgnores_c a0 len0 cap0 z0 w w0)
      clear h w0
      go_enter Try.func7, Try.ntmps7
      go_wp2_with fail
      refine HD.out.mono ?_
      rintro e W1 ⟨sl, cs, rfl, ho, hl5, hs64, hB⟩
      obtain ⟨a, cap, rfl, hn⟩ := texts_of_own ho
      have HN := Lib.hid hn
      have HBL := Lib.hid hB
      have HOW := Lib.hid ho
      obtain ⟨vl, hvl⟩ : ∃ vl, igV cs = vl := ⟨_, rfl⟩
      have HI := Lib.hid (show Calls Try.prog 29 #[.slice a cs.length cap] W1 (BoolPost vl W1) by rw [← hvl]; exact implIgnores_c a cs.length cap cs (by omega) (hs64.mono (by omega)) W1 hn)
      have HV := Lib.hid (fun W' (hb : Below W1.heap.size W1 W') => show Calls Try.prog 18 #[.slice a cs.length cap] W' (BoolPost vl W') by rw [← hvl]; exact specIgnores_c a cs.length cap cs (by omega) (hs64.mono (by omega)) W' (hn.keep hb))
      have HVL := Lib.hid hvl
      have HCL := Lib.hid hl5
      have HCS := Lib.hid hs64
      clear ho hn hB hvl hl5 hs64
      go_wp2_with fail
      refine HI.out.mono ?_
      rintro e W2 ⟨rfl, hb2⟩
      have B2 := Lib.hid hb2
      clear hb2
      go_wp2_with fail
      refine (HV.out _ B2.out).mono ?_
      rintro e W3 ⟨rfl, hb3⟩
      have B3 := Lib.hid (below_next B2.out hb3)
      clear hb3
      cases vl with
      | false =>
        go_wp2
        go_ret
        exact ⟨rfl, below_next HBL.out B3.out⟩
      | true =>
        by_cases hz : cs.length = 0
        · have hz' : (cs.length : Int) = 0 := by omega
          clear hz
          go_wp2
          go_ret
          exact ⟨rfl, below_next HBL.out B3.out⟩
        · have hpos : 0 < cs.length := by omega
          have hpos' : (0 : Int) < cs.length := by omega
          have hne : ((cs.length : Int) == 0) = false := beq_eq_false_iff_ne.2 (by omega)
          have HPOS := Lib.hid hpos
          obtain ⟨g, cap', hsl, hgb, hlc, hcm⟩ := own_sliceT HOW.out hpos
          cases hsl
          have HBC := Lib.hid (And.intro hlc hcm)
          obtain ⟨k, hkk⟩ : ∃ k : Nat, len1 % cs.length = k := ⟨_, rfl⟩
          have hk : k < cs.length := by rw [← hkk]; exact Nat.mod_lt _ hpos
          have hrem : Int.tmod (len1 : Int) (cs.length : Int) = (k : Int) := by rw [← hkk]; rfl
          have HK := Lib.hid hk
          have hkl : (k : Int) < cs.length := by omega
          have hk0 : (0 : Int) ≤ k := by omega
          have hk2 : (k : Int) ≤ cap := by omega
          obtain ⟨m, hm⟩ : ∃ m, m = k + 1 := ⟨_, rfl⟩
          have hwr : IntKind.i64.wrap ((k : Int) + 1) = (m : Int) := (IntWalk.i64_in _ (by have := HCL.out; omega)).trans (by omega)
          have hm0 : (0 : Int) ≤ m := by omega
          have hm1 : (m : Int) ≤ cs.length := by omega
          have hm2 : (m : Int) ≤ cap := by omega
          have hmm : m ≤ cs.length := by omega
          have HM := Lib.hid (And.intro hm hmm)
          have HF1 := Lib.hid (show ((cs.take k).map Value.string).length = k * 1 by rw [List.length_map, List.length_take]; omega)
          have HF2 := Lib.hid (show ((cs.drop m).map Value.string).length = (cs.length - m) * 1 by rw [List.length_map, List.length_drop]; omega)
          have HMX1 := Lib.hid (show 0 + k ≤ maxLen ∧ (0 + k) * 16 ≤ 140737488355328 by unfold maxLen; have := HCL.out; omega)
          have HMX2 := Lib.hid (show k + (cs.length - m) ≤ maxLen ∧ (k + (cs.length - m)) * 16 ≤ 140737488355328 by unfold maxLen; have := HCL.out; omega)
          have HLB := Lib.hid (show (cs.take k ++ cs.drop m).length = k + (cs.length - m) by rw [List.length_append, List.length_take, List.length_drop]; omega)
          have HXL := Lib.hid (show (cs.take k ++ cs.drop m).length ≤ 42 by rw [HLB.out]; have := HCL.out; omega)
          have HXV := Lib.hid (show igV (cs.take k ++ cs.drop m) = true by rw [hm]; exact igV_part HVL.out k)
          have HXS := Lib.hid (show ShortX 64 (cs.take k ++ cs.drop m) from fun y hy => HCS.out y (by
            rcases List.mem_append.1 hy with h | h
            · exact List.mem_of_mem_take h
            · exact List.mem_of_mem_drop h))
          have HB4 := Lib.hid (show Below W3.heap.size W3 (W3.drew.alloc (.cells #[] 9)) from (Below.refl _ _).drew.alloc (Nat.le_refl _) _)
          have HLIT := Lib.hid (show (W3.drew.alloc (.cells #[] 9)).ownsRow W3.heap.size 9 1 (.slice (some ⟨W3.heap.size, 0, none⟩) 0 0) 0 [] from World.ownsRow_lit (e := 9) (size := 1) W3.drew #[] 0 (Nat.le_refl _) (by simp [maxLen]) rfl)
          have HC1 := Lib.hid (texts_cells (show TextsAt (W3.drew.alloc (.cells #[] 9)) (some ⟨g, 0, none⟩) k (cs.take k) from texts_take ((texts_own HOW.out).keep (below_next B3.out HB4.out)) (by omega)))
          clear hz hpos hlc hcm hgb hkk hk hm hmm
          by_cases hcap : cap = m
          · subst hcap
            have HTL := Lib.hid (show TextsAt W3 (some ⟨g, 0, none⟩) (cs.length - cap) (cs.drop cap) from (texts_tail HOW.out cap HM.out.2 (0) (.inr (by have h1 := HBC.out.1; have h2 := HM.out.2; omega))).keep B3.out)
            have HS0 := Lib.hid (show Below W3.heap.size W3 W3.drew from (Below.refl _ _).drew)
            go_upto_region 9 with (fail)
            refine wp_region_held_drew (S := (fun w' => Below W3.heap.size W3 w')) (by kernel_rfl) HS0.out (fun hH => ?_)
            refine wpAnyH_take (i := 1) (oi := _) (v := ?_) rfl (by kernel_rfl) (by kernel_rfl) (by kernel_rfl) (fun _ _ _ h => h) (Or.inl ⟨by rfl, ?_⟩) (by assumption) ?_
            rotate_left
            · (intro w hSw; (try dsimp only at hSw); go_simp; try with_reducible rfl)
            try simp only [Act.put, List.getElem_toArray, List.getElem_cons_zero, List.getElem_cons_succ, List.setIfInBounds_toArray, List.set_cons_zero, List.set_cons_succ]
            refine wpAnyH_take (i := 2) (oi := _) (v := ?_) rfl (by kernel_rfl) (by kernel_rfl) (by kernel_rfl) (fun _ _ _ h => h) (Or.inl ⟨by rfl, ?_⟩) (by assumption) ?_
            rotate_left
            · (intro w hSw; (try dsimp only at hSw); go_simp; try with_reducible rfl)
            try simp only [Act.put, List.getElem_toArray, List.getElem_cons_zero, List.getElem_cons_succ, List.setIfInBounds_toArray, List.set_cons_zero, List.set_cons_succ]
            refine wpAnyH_take (i := 3) (oi := _) (v := ?_) rfl (by kernel_rfl) (by kernel_rfl) (by kernel_rfl) (fun _ _ _ h => h) (Or.inl ⟨by rfl, ?_⟩) (by assumption) ?_
            rotate_left
            · (intro w hSw; (try dsimp only at hSw); go_simp; try with_reducible rfl)
            try simp only [Act.put, List.getElem_toArray, List.getElem_cons_zero, List.getElem_cons_succ, List.setIfInBounds_toArray, List.set_cons_zero, List.set_cons_succ]
            refine wpAnyH_take (i := 5) (oi := _) (v := ?_) rfl (by kernel_rfl) (by kernel_rfl) (by kernel_rfl) (fun _ _ _ h => h) (Or.inl ⟨by rfl, ?_⟩) (by assumption) ?_
            rotate_left
            · (intro w hSw; (try dsimp only at hSw); go_simp; try with_reducible rfl)
            try simp only [Act.put, List.getElem_toArray, List.getElem_cons_zero, List.getElem_cons_succ, List.setIfInBounds_toArray, List.set_cons_zero, List.set_cons_succ]
            refine wpAnyH_take (i := 6) (oi := _) (v := ?_) rfl (by kernel_rfl) (by kernel_rfl) (by kernel_rfl) (fun _ _ _ h => h) (Or.inl ⟨by rfl, ?_⟩) (by assumption) ?_
            rotate_left
            · (intro w hSw; (try dsimp only at hSw); go_simp; try with_reducible rfl)
            try simp only [Act.put, List.getElem_toArray, List.getElem_cons_zero, List.getElem_cons_succ, List.setIfInBounds_toArray, List.set_cons_zero, List.set_cons_succ]
            refine wpAnyH_take (i := 7) (oi := _) (v := ?_) rfl (by kernel_rfl) (by kernel_rfl) (by kernel_rfl) (fun _ _ _ h => h) (Or.inl ⟨by rfl, ?_⟩) (by assumption) ?_
            rotate_left
            · (intro w hSw; (try dsimp only at hSw); go_simp; try with_reducible rfl)
            try simp only [Act.put, List.getElem_toArray, List.getElem_cons_zero, List.getElem_cons_succ, List.setIfInBounds_toArray, List.set_cons_zero, List.set_cons_succ]
            refine wpAnyH_take (i := 8) (oi := _) (v := ?_) rfl (by kernel_rfl) (by kernel_rfl) (by kernel_rfl) (fun _ _ _ h => h) (Or.inl ⟨by rfl, ?_⟩) (by assumption) ?_
            rotate_left
            · (intro w hSw; (try dsimp only at hSw); go_simp; try with_reducible rfl)
            try simp only [Act.put, List.getElem_toArray, List.getElem_cons_zero, List.getElem_cons_succ, List.setIfInBounds_toArray, List.set_cons_zero, List.set_cons_succ]
            refine wpAnyH_ready (rs := [0]) (by kernel_rfl) (by simp) ?_
            refine AllReadyH.cons rfl (fun K hK => ?_) AllReadyH.nil
            go_simp
            refine hK.out _ _ HB4.out (fun hHeld => ?_)
            try simp only [Act.put, List.getElem_toArray, List.getElem_cons_zero, List.getElem_cons_succ, List.setIfInBounds_toArray, List.set_cons_zero, List.set_cons_succ]
            refine wpAnyH_ready (rs := [4]) (by kernel_rfl) (by simp) ?_
            refine AllReadyH.cons rfl (fun K hK => ?_) AllReadyH.nil
            rw [if_pos (by rfl)]
            refine wp_append_own _ _ _ 24 rfl W3.heap.size 9 i0 (.string ⟨#[]⟩) 1 16 Try.underlying24 hi hz0 hz1 hz2 rfl (by decide) (.slice (some ⟨W3.heap.size, 0, none⟩) 0 0) 0 [] rfl HLIT.out ⟨g, 0, none⟩ k cap ((cs.take k).map Value.string) rfl HF1.out HC1.out (texts_cell1 _) HMX1.out.1 HMX1.out.2 HB4.out.size ?_
            intro v5 w5 ho5 hg5 hn5
            have HB5 := Lib.hid (show Below W3.heap.size W3 w5 from HB4.out.grown hg5 HB4.out.size (fun k e => by cases e; exact Nat.le_refl _))
            refine hK.out _ _ HB5.out (fun hHeld => ?_)
            try simp only [Act.put, List.getElem_toArray, List.getElem_cons_zero, List.getElem_cons_succ, List.setIfInBounds_toArray, List.set_cons_zero, List.set_cons_succ]
            have HO5 := Lib.hid (show w5.ownsRow W3.heap.size 9 1 v5 k ((cs.take k).map Value.string) by simpa using ho5)
            have HC2 := Lib.hid (texts_cells (show TextsAt w5 (some ⟨g, 0, none⟩) (cs.length - cap) (cs.drop cap) from HTL.out.keep HB5.out))
            clear ho5 hg5 hn5
            refine wpAnyH_ready (rs := [9]) (by kernel_rfl) (by simp) ?_
            refine AllReadyH.cons rfl (fun K hK => ?_) AllReadyH.nil
            rw [if_pos (by rfl)]
            refine wp_append_own _ _ _ 24 rfl W3.heap.size 9 i0 (.string ⟨#[]⟩) 1 16 Try.underlying24 hi hz0 hz1 hz2 rfl (by decide) v5 k ((cs.take k).map Value.string) rfl HO5.out ⟨g, 0, none⟩ (cs.length - cap) 0 ((cs.drop cap).map Value.string) rfl HF2.out HC2.out (texts_cell1 _) HMX2.out.1 HMX2.out.2 HB5.out.size ?_
            intro v6 w6 ho6 hg6 hn6
            have HB6 := Lib.hid (show Below W3.heap.size W3 w6 from HB5.out.grown hg6 HB5.out.size (fun k e => (HO5.out.lt k e).1))
            refine hK.out _ _ HB6.out (fun hHeld => ?_)
            try simp only [Act.put, List.getElem_toArray, List.getElem_cons_zero, List.getElem_cons_succ, List.setIfInBounds_toArray, List.set_cons_zero, List.set_cons_succ]
            have HX6 := Lib.hid (show w6.ownsRow W3.heap.size 9 1 v6 (cs.take k ++ cs.drop cap).length ((cs.take k ++ cs.drop cap).map Value.string) by rw [HLB.out, List.map_append]; exact ho6)
            clear ho6 hg6 hn6
            generalize cs.take k ++ cs.drop cap = xs at HX6 HXV HXS HXL
            refine wpAnyH_take (i := 10) (oi := _) (v := ?_) rfl (by kernel_rfl) (by kernel_rfl) (by kernel_rfl) (fun _ _ _ h => h) (Or.inl ⟨by rfl, ?_⟩) (by assumption) ?_
            rotate_left
            · (intro w hSw; (try dsimp only at hSw); go_simp; try with_reducible rfl)
            try simp only [Act.put, List.getElem_toArray, List.getElem_cons_zero, List.getElem_cons_succ, List.setIfInBounds_toArray, List.set_cons_zero, List.set_cons_succ]
            refine wpAnyH_done (by kernel_rfl) ?_ _
            obtain ⟨ax, cx, rfl, hnx⟩ := texts_of_own HX6.out
            have HVX := Lib.hid (show Calls Try.prog 29 #[.slice ax xs.length cx] w6 (BoolPost true w6) by rw [← HXV.out]; exact implIgnores_c ax xs.length cx xs (by have := HXL.out; omega) (HXS.out.mono (by omega)) w6 hnx)
            clear hnx
            go_wp2_with fail
            refine HVX.out.mono ?_
            rintro e w7 ⟨rfl, hb7⟩
            have HX7 := Lib.hid (own_below HX6.out hb7)
            have HB7 := Lib.hid (below_next HB6.out hb7)
            have HXR := Lib.hid (show ShortX 2097152 (xs ++ [rootB]) from fun y hy => by
              rcases List.mem_append.1 hy with h | h
              · have := HXS.out y h
                omega
              · rw [List.mem_singleton.1 h]
                decide)
            have HIR := Lib.hid (fun (ay : Option Addr) cy W' (hi : TextsAt W' ay (xs ++ [rootB]).length (xs ++ [rootB])) => show Calls Try.prog 29 #[.slice ay (xs ++ [rootB]).length cy] W' (BoolPost false W') by rw [← igV_root (igs := xs)]; exact implIgnores_c ay (xs ++ [rootB]).length cy (xs ++ [rootB]) (by have := HXL.out; simp; omega) HXR.out W' hi)
            have hxl : (xs.length : Int) ≤ 42 := by have := HXL.out; omega
            clear hb7
            go_wp2_with (at_builtin; refine wpList_append_text (by simp [Region.wanted, yielded, go_sem]) _ _ rfl W3.heap.size _ xs rfl (HX7.out.alloc _) ⟨w7.heap.size, 0, none⟩ 1 rootB rfl (cell_one_new _ _ _) (by have := HXL.out; omega) (by have := HB7.out.size; simp; omega) ?_; intro v8 w8 ho8 hg8; have HB8 := Lib.hid ((HB7.out.alloc HB7.out.size _).grown hg8 (by have := HB7.out.size; simp; omega) (fun k e => (HX7.out.lt k e).1)); obtain ⟨ay, cy, rfl, hn8⟩ := texts_of_own ho8; have HI8 := Lib.hid (show Calls Try.prog 29 #[.slice ay (xs.length + 1) cy] w8 (BoolPost false w8) by have := HIR.out ay cy w8 hn8; rwa [show (xs ++ [rootB]).length = xs.length + 1 by simp] at this); clear ho8 hg8 hn8)
            refine HI8.out.mono ?_
            rintro e w9 ⟨rfl, hb9⟩
            have HB9 := Lib.hid (below_next HB8.out hb9)
            clear hb9
            go_wp2
            go_ret
            exact ⟨rfl, below_next HBL.out (below_next B3.out HB9.out)⟩
          · have HTL := Lib.hid (show TextsAt W3 (some ⟨g, m, none⟩) (cs.length - m) (cs.drop m) from (texts_tail HOW.out m HM.out.2 (m) (.inl rfl)).keep B3.out)
            have HS0 := Lib.hid (show Below W3.heap.size W3 W3.drew from (Below.refl _ _).drew)
            go_upto_region 9 with (fail)
            refine wp_region_held_drew (S := (fun w' => Below W3.heap.size W3 w')) (by kernel_rfl) HS0.out (fun hH => ?_)
            refine wpAnyH_take (i := 1) (oi := _) (v := ?_) rfl (by kernel_rfl) (by kernel_rfl) (by kernel_rfl) (fun _ _ _ h => h) (Or.inl ⟨by rfl, ?_⟩) (by assumption) ?_
            rotate_left
            · (intro w hSw; (try dsimp only at hSw); go_simp; try with_reducible rfl)
            try simp only [Act.put, List.getElem_toArray, List.getElem_cons_zero, List.getElem_cons_succ, List.setIfInBounds_toArray, List.set_cons_zero, List.set_cons_succ]
            refine wpAnyH_take (i := 2) (oi := _) (v := ?_) rfl (by kernel_rfl) (by kernel_rfl) (by kernel_rfl) (fun _ _ _ h => h) (Or.inl ⟨by rfl, ?_⟩) (by assumption) ?_
            rotate_left
            · (intro w hSw; (try dsimp only at hSw); go_simp; try with_reducible rfl)
            try simp only [Act.put, List.getElem_toArray, List.getElem_cons_zero, List.getElem_cons_succ, List.setIfInBounds_toArray, List.set_cons_zero, List.set_cons_succ]
            refine wpAnyH_take (i := 3) (oi := _) (v := ?_) rfl (by kernel_rfl) (by kernel_rfl) (by kernel_rfl) (fun _ _ _ h => h) (Or.inl ⟨by rfl, ?_⟩) (by assumption) ?_
            rotate_left
            · (intro w hSw; (try dsimp only at hSw); go_simp; try with_reducible rfl)
            try simp only [Act.put, List.getElem_toArray, List.getElem_cons_zero, List.getElem_cons_succ, List.setIfInBounds_toArray, List.set_cons_zero, List.set_cons_succ]
            refine wpAnyH_take (i := 5) (oi := _) (v := ?_) rfl (by kernel_rfl) (by kernel_rfl) (by kernel_rfl) (fun _ _ _ h => h) (Or.inl ⟨by rfl, ?_⟩) (by assumption) ?_
            rotate_left
            · (intro w hSw; (try dsimp only at hSw); go_simp; try with_reducible rfl)
            try simp only [Act.put, List.getElem_toArray, List.getElem_cons_zero, List.getElem_cons_succ, List.setIfInBounds_toArray, List.set_cons_zero, List.set_cons_succ]
            refine wpAnyH_take (i := 6) (oi := _) (v := ?_) rfl (by kernel_rfl) (by kernel_rfl) (by kernel_rfl) (fun _ _ _ h => h) (Or.inl ⟨by rfl, ?_⟩) (by assumption) ?_
            rotate_left
            · (intro w hSw; (try dsimp only at hSw); go_simp; try with_reducible rfl)
            try simp only [Act.put, List.getElem_toArray, List.getElem_cons_zero, List.getElem_cons_succ, List.setIfInBounds_toArray, List.set_cons_zero, List.set_cons_succ]
            refine wpAnyH_take (i := 7) (oi := _) (v := ?_) rfl (by kernel_rfl) (by kernel_rfl) (by kernel_rfl) (fun _ _ _ h => h) (Or.inl ⟨by rfl, ?_⟩) (by assumption) ?_
            rotate_left
            · (intro w hSw; (try dsimp only at hSw); go_simp; try with_reducible rfl)
            try simp only [Act.put, List.getElem_toArray, List.getElem_cons_zero, List.getElem_cons_succ, List.setIfInBounds_toArray, List.set_cons_zero, List.set_cons_succ]
            refine wpAnyH_take (i := 8) (oi := _) (v := ?_) rfl (by kernel_rfl) (by kernel_rfl) (by kernel_rfl) (fun _ _ _ h => h) (Or.inl ⟨by rfl, ?_⟩) (by assumption) ?_
            rotate_left
            · (intro w hSw; (try dsimp only at hSw); go_simp; try with_reducible rfl)
            try simp only [Act.put, List.getElem_toArray, List.getElem_cons_zero, List.getElem_cons_succ, List.setIfInBounds_toArray, List.set_cons_zero, List.set_cons_succ]
            refine wpAnyH_ready (rs := [0]) (by kernel_rfl) (by simp) ?_
            refine AllReadyH.cons rfl (fun K hK => ?_) AllReadyH.nil
            go_simp
            refine hK.out _ _ HB4.out (fun hHeld => ?_)
            try simp only [Act.put, List.getElem_toArray, List.getElem_cons_zero, List.getElem_cons_succ, List.setIfInBounds_toArray, List.set_cons_zero, List.set_cons_succ]
            refine wpAnyH_ready (rs := [4]) (by kernel_rfl) (by simp) ?_
            refine AllReadyH.cons rfl (fun K hK => ?_) AllReadyH.nil
            rw [if_pos (by rfl)]
            refine wp_append_own _ _ _ 24 rfl W3.heap.size 9 i0 (.string ⟨#[]⟩) 1 16 Try.underlying24 hi hz0 hz1 hz2 rfl (by decide) (.slice (some ⟨W3.heap.size, 0, none⟩) 0 0) 0 [] rfl HLIT.out ⟨g, 0, none⟩ k cap ((cs.take k).map Value.string) rfl HF1.out HC1.out (texts_cell1 _) HMX1.out.1 HMX1.out.2 HB4.out.size ?_
            intro v5 w5 ho5 hg5 hn5
            have HB5 := Lib.hid (show Below W3.heap.size W3 w5 from HB4.out.grown hg5 HB4.out.size (fun k e => by cases e; exact Nat.le_refl _))
            refine hK.out _ _ HB5.out (fun hHeld => ?_)
            try simp only [Act.put, List.getElem_toArray, List.getElem_cons_zero, List.getElem_cons_succ, List.setIfInBounds_toArray, List.set_cons_zero, List.set_cons_succ]
            have HO5 := Lib.hid (show w5.ownsRow W3.heap.size 9 1 v5 k ((cs.take k).map Value.string) by simpa using ho5)
            have HC2 := Lib.hid (texts_cells (show TextsAt w5 (some ⟨g, m, none⟩) (cs.length - m) (cs.drop m) from HTL.out.keep HB5.out))
            clear ho5 hg5 hn5
            refine wpAnyH_ready (rs := [9]) (by kernel_rfl) (by simp) ?_
            refine AllReadyH.cons rfl (fun K hK => ?_) AllReadyH.nil
            rw [if_pos (by rfl)]
            refine wp_append_own _ _ _ 24 rfl W3.heap.size 9 i0 (.string ⟨#[]⟩) 1 16 Try.underlying24 hi hz0 hz1 hz2 rfl (by decide) v5 k ((cs.take k).map Value.string) rfl HO5.out ⟨g, m, none⟩ (cs.length - m) (cap - m) ((cs.drop m).map Value.string) rfl HF2.out HC2.out (texts_cell1 _) HMX2.out.1 HMX2.out.2 HB5.out.size ?_
            intro v6 w6 ho6 hg6 hn6
            have HB6 := Lib.hid (show Below W3.heap.size W3 w6 from HB5.out.grown hg6 HB5.out.size (fun k e => (HO5.out.lt k e).1))
            refine hK.out _ _ HB6.out (fun hHeld => ?_)
            try simp only [Act.put, List.getElem_toArray, List.getElem_cons_zero, List.getElem_cons_succ, List.setIfInBounds_toArray, List.set_cons_zero, List.set_cons_succ]
            have HX6 := Lib.hid (show w6.ownsRow W3.heap.size 9 1 v6 (cs.take k ++ cs.drop m).length ((cs.take k ++ cs.drop m).map Value.string) by rw [HLB.out, List.map_append]; exact ho6)
            clear ho6 hg6 hn6
            generalize cs.take k ++ cs.drop m = xs at HX6 HXV HXS HXL
            refine wpAnyH_take (i := 10) (oi := _) (v := ?_) rfl (by kernel_rfl) (by kernel_rfl) (by kernel_rfl) (fun _ _ _ h => h) (Or.inl ⟨by rfl, ?_⟩) (by assumption) ?_
            rotate_left
            · (intro w hSw; (try dsimp only at hSw); go_simp; try with_reducible rfl)
            try simp only [Act.put, List.getElem_toArray, List.getElem_cons_zero, List.getElem_cons_succ, List.setIfInBounds_toArray, List.set_cons_zero, List.set_cons_succ]
            refine wpAnyH_done (by kernel_rfl) ?_ _
            obtain ⟨ax, cx, rfl, hnx⟩ := texts_of_own HX6.out
            have HVX := Lib.hid (show Calls Try.prog 29 #[.slice ax xs.length cx] w6 (BoolPost true w6) by rw [← HXV.out]; exact implIgnores_c ax xs.length cx xs (by have := HXL.out; omega) (HXS.out.mono (by omega)) w6 hnx)
            clear hnx
            go_wp2_with fail
            refine HVX.out.mono ?_
            rintro e w7 ⟨rfl, hb7⟩
            have HX7 := Lib.hid (own_below HX6.out hb7)
            have HB7 := Lib.hid (below_next HB6.out hb7)
            have HXR := Lib.hid (show ShortX 2097152 (xs ++ [rootB]) from fun y hy => by
              rcases List.mem_append.1 hy with h | h
              · have := HXS.out y h
                omega
              · rw [List.mem_singleton.1 h]
                decide)
            have HIR := Lib.hid (fun (ay : Option Addr) cy W' (hi : TextsAt W' ay (xs ++ [rootB]).length (xs ++ [rootB])) => show Calls Try.prog 29 #[.slice ay (xs ++ [rootB]).length cy] W' (BoolPost false W') by rw [← igV_root (igs := xs)]; exact implIgnores_c ay (xs ++ [rootB]).length cy (xs ++ [rootB]) (by have := HXL.out; simp; omega) HXR.out W' hi)
            have hxl : (xs.length : Int) ≤ 42 := by have := HXL.out; omega
            clear hb7
            go_wp2_with (at_builtin; refine wpList_append_text (by simp [Region.wanted, yielded, go_sem]) _ _ rfl W3.heap.size _ xs rfl (HX7.out.alloc _) ⟨w7.heap.size, 0, none⟩ 1 rootB rfl (cell_one_new _ _ _) (by have := HXL.out; omega) (by have := HB7.out.size; simp; omega) ?_; intro v8 w8 ho8 hg8; have HB8 := Lib.hid ((HB7.out.alloc HB7.out.size _).grown hg8 (by have := HB7.out.size; simp; omega) (fun k e => (HX7.out.lt k e).1)); obtain ⟨ay, cy, rfl, hn8⟩ := texts_of_own ho8; have HI8 := Lib.hid (show Calls Try.prog 29 #[.slice ay (xs.length + 1) cy] w8 (BoolPost false w8) by have := HIR.out ay cy w8 hn8; rwa [show (xs ++ [rootB]).length = xs.length + 1 by simp] at this); clear ho8 hg8 hn8)
            refine HI8.out.mono ?_
            rintro e w9 ⟨rfl, hb9⟩
            have HB9 := Lib.hid (below_next HB8.out hb9)
            clear hb9
            go_wp2
            go_ret
            exact ⟨rfl, below_next HBL.out (below_next B3.out HB9.out)⟩
    · have hl1 : ¬ ((len1 : Int) ≤ 1048576) := by omega
      have hl12 : (1048576 : Int) < len1 := by omega
      clear h1 w0
      go_enter Try.func7, Try.ntmps7
      go_wp2
      go_ret
      exact ⟨rfl, Below.refl _ _⟩
  · have hl : ¬ ((len0 : Int) ≤ 1048576) := by omega
    have hl2 : (1048576 : Int) < len0 := by omega
    clear h w0
    go_enter Try.func7, Try.ntmps7
    go_wp2
    go_ret
    exact ⟨rfl, Below.refl _ _⟩


set_option maxRecDepth 100000 in
theorem lifted (os : Os) (started : os.Started) (H : Type) (enc : TypeId × Value → H) :
    ReturnsInHanded {} Try.checked os 7 .any (Rows.fnIgnoresPartSpec.pre6 enc Try.prog Try.f7 Rows.fnIgnoresPartRow.domain false) (Rows.fnIgnoresPartSpec.post enc Try.prog Try.f7 false true false false) := by
  refine returnsInHanded_of_change (C := Try.checked) own started (by kernel_rfl) Try.func7
    (ChangeSpec.witness6 (enc := enc) (C := Try.checked) false ⟨#[], #[.slice none 0 0, .slice none 0 0], []⟩ 8 (by kernel_rfl) (by kernel_rfl) (by kernel_rfl) (by kernel_rfl)) ?_
  intro W base args ds gs before hval0 hW hcnd _
  have hval : ∀ (j : Nat) t v, Try.f7.params[j]? = some t → args[j]? = some v → Value.okWide Try.prog W .any base t v := hval0
  have hW' := hW
  obtain ⟨p, q, hA0, hV, rfl, hfz, hnd⟩ := hW
  have hA : DataW.TrodAll enc Try.prog W 0 (fun _ => true) true Try.f7.params.toList args.toList ds p := hA0
  rw [Try.params7] at hA hval
  obtain ⟨v0, vs0, d0, ds0, p0, q0, hargs, rfl, rfl, h0, r0⟩ := trodAll_cons hA
  obtain ⟨v1, vs1, d1, ds1, p1, q1, rfl, rfl, rfl, h1, r1⟩ := trodAll_cons r0
  obtain ⟨rfl, rfl, rfl⟩ := trodAll_nil r1
  obtain rfl : args = #[v0, v1] := by cases args; simp_all
  obtain ⟨rfl, rfl⟩ := trodVars_none hV
  obtain ⟨a0, len0, cap0, rfl⟩ := okWide_slice Try.underlying22 (hval 0 22 v0 rfl rfl)
  have k0 := h0
  have lt0 : ∀ x ∈ p0, x.block < W.heap.size := by obtain ⟨m, hm⟩ := k0; exact DataW.trod_lt m _ _ _ hm
  obtain ⟨z0, w0⟩ : ∃ zs, IsRow .u8 W a0 len0 cap0 zs := by
    obtain ⟨fuel, hf⟩ := h0
    rcases open_ints Try.underlying22 Try.underlying5 (by kernel_rfl) hf with ⟨hcs, _⟩ | ⟨x, l, c, zs, hcs, _, hl, hm, hz, _, hcell, hwz⟩
    · simp [Value.cells] at hcs
      obtain ⟨rfl, rfl, rfl⟩ := hcs
      exact ⟨[], .inl ⟨rfl, rfl, rfl, rfl⟩⟩
    · simp [Value.cells] at hcs
      obtain ⟨rfl, rfl, rfl⟩ := hcs
      exact ⟨zs, .inr ⟨_, rfl, hl, hm, by simpa using hz, hcell, hwz⟩⟩
  obtain ⟨a1, len1, cap1, rfl⟩ := okWide_slice Try.underlying22 (hval 1 22 v1 rfl rfl)
  have k1 := h1
  have lt1 : ∀ x ∈ p1, x.block < W.heap.size := by obtain ⟨m, hm⟩ := k1; exact DataW.trod_lt m _ _ _ hm
  obtain ⟨z1, w1⟩ : ∃ zs, IsRow .u8 W a1 len1 cap1 zs := by
    obtain ⟨fuel, hf⟩ := h1
    rcases open_ints Try.underlying22 Try.underlying5 (by kernel_rfl) hf with ⟨hcs, _⟩ | ⟨x, l, c, zs, hcs, _, hl, hm, hz, _, hcell, hwz⟩
    · simp [Value.cells] at hcs
      obtain ⟨rfl, rfl, rfl⟩ := hcs
      exact ⟨[], .inl ⟨rfl, rfl, rfl, rfl⟩⟩
    · simp [Value.cells] at hcs
      obtain ⟨rfl, rfl, rfl⟩ := hcs
      exact ⟨zs, .inr ⟨_, rfl, hl, hm, by simpa using hz, hcell, hwz⟩⟩
  clear hA0 hval0
  refine (walk a0 len0 cap0 z0 a1 len1 cap1 z1 W w0 w1).mono fun e W' ⟨he, bel⟩ => ?_
  subst he
  exact ⟨_, rfl, _, _, _, [], _, [], hW', trodAll_mk1 (shut_bool Try.underlying4 _), (trodAll_cons_mk (Below.trod laidOut (by kernel_rfl) (of_decide_eq_true (by kernel_rfl)) k0 bel lt0) (trodAll_cons_mk (Below.trod laidOut (by kernel_rfl) (of_decide_eq_true (by kernel_rfl)) k1 bel lt1) trodAll_mk0)), rfl, bel.frame _, fun h => by cases h⟩

theorem over : Rows.fnIgnoresPartRow.holds Try.pinned (OpenSpec.ofChange Rows.fnIgnoresPartSpec) :=
  OpenClaim.holds_of_wide 7 Try.f7 rfl rfl rfl rfl rfl rfl rfl ⟨rfl, rfl, rfl, rfl, rfl⟩ rfl rfl rfl rfl rfl (by kernel_rfl) Try.func7 (by kernel_rfl)
    (of_decide_eq_true (by kernel_rfl)) (by unfold Func.isWrapper; first | (rw [if_pos (by decide +kernel)]; kernel_rfl) | (rw [if_neg (by decide +kernel)]; exact ⟨rfl, rfl⟩))
    (fun os started H enc _ => lifted os started H enc)

theorem proved : Rows.FnIgnoresPartSaid := over
end Go.Proofs.Ytmlnakkfjecibaa.fnIgnoresPart
