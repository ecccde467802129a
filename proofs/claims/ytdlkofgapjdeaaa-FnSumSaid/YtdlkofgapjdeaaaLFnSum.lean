/-
  laws.FnSum returns true for every input, and leaves its arguments as they were.
  Conditions: none.
-/
import Derived.Test.YtdlkofgapjdeaaaRows
import Derived.Test.YtdlkofgapjdeaaaGk
import Derived.WalkKit
import Derived.ProofKit
import Derived.OpenShut
import Derived.ShutString
import Derived.ChangeOld
import Derived.Below
namespace Go.Proofs.Ytdlkofgapjdeaaa.fnSum
open Go.ChangeShapes Go.WideShapes Go.ChangeAt Go.RowKit
open Go.ChangeMaps (open_string shut_string)
set_option linter.unusedVariables false

theorem own : ownKnob Try.prog.godebug = none := by kernel_rfl
theorem laidOut : laidOutB Try.prog = true := by kernel_rfl

theorem sum_other {b : List Int} {k : Nat} {x y : Int} (hb : bodyOk b = true) (hk : b[k]? = some x) (hxy : y = x + 1 ∨ y = x - 1) : bodySum (b.set k y) ≠ sumB b := by
  cases hc : bodyOk (b.set k y) with
  | false => rw [bodySum_bad hc]; have := sumB_range b; omega
  | true => rw [bodySum_ok hc]; exact sum_changed hk hxy

theorem own_frozen1 {W : World} {base g n cap : Nat} {e : TypeId} {xs : List Value} (h : W.ownsRow base e 1 (.slice (some ⟨g, 0, none⟩) n cap) n xs) (i : Nat) : W.frozen? ⟨g, i, none⟩ = false := by
  rcases h.2 with ⟨h0, _⟩ | ⟨g', cap', cur, hv, _, hh, _⟩
  · cases h0
  · simp at hv
    obtain ⟨rfl, _⟩ := hv
    simp [World.frozen?, hh]

set_option maxHeartbeats 2000000 in
set_option maxRecDepth 100000 in
theorem walk (a0 : Option Addr) (len0 cap0 : Nat) (z0 : List Int) (a1 : Option Addr) (len1 cap1 : Nat) (z1 : List Int) (w : World) (w0 : IsRow .u8 w a0 len0 cap0 z0) (w1 : IsRow .u8 w a1 len1 cap1 z1) :
    Calls Try.prog 3 #[.slice a0 len0 cap0, .slice a1 len1 cap1] w fun e w' => e = .returned (.bool true) ∧ Below w.heap.size w w' := by
  clear w1
  by_cases h : len0 ≤ 1048576
  · have hl : (len0 : Int) ≤ 1048576 := by omega
    by_cases h1 : len1 ≤ 1048576
    · have hl1 : (len1 : Int) ≤ 1048576 := by omega
      have HD := Lib.hid (drawBodySum_c a0 len0 cap0 z0 w w0)
      obtain ⟨i0, hi, hz0, hz1, hz2⟩ := info_parts infoInt
      clear h h1 w0
      go_enter Try.func3, Try.ntmps3
      go_wp2_with fail
      refine HD.out.mono ?_
      rintro e W1 ⟨sl, zs, rfl, hown, hlen, -, hb1⟩
      obtain ⟨a, cap, rfl, hn⟩ := ints_of_own hown
      have HN := Lib.hid hn
      have HL := Lib.hid hlen
      have HB1 := Lib.hid hb1
      obtain ⟨sm, hsm⟩ : ∃ sm, bodySum zs = sm := ⟨_, rfl⟩
      have HSM := Lib.hid hsm
      have HI := Lib.hid (show Calls Try.prog 16 #[.slice a zs.length cap] W1 (fun e w' => e = .returned (.int .i64 sm) ∧ w' = W1) by rw [← hsm]; exact implBodySum_c a zs.length cap zs W1 hn)
      have HS := Lib.hid (show Calls Try.prog 17 #[.slice a zs.length cap] W1 (fun e W' => e = .returned (.int .i64 sm) ∧ Below W1.heap.size W1 W') by rw [← hsm]; exact specBodySum_c a zs.length cap zs (by omega) W1 hn)
      obtain ⟨ln, hln⟩ : ∃ ln, zs.length = ln := ⟨_, rfl⟩
      rw [hln] at HI HS ⊢
      have HLN := Lib.hid hln
      clear hown hn hlen hb1 hsm hln
      go_wp2_with fail
      refine HI.out.mono ?_
      rintro e W2 ⟨rfl, rfl⟩
      go_wp2_with fail
      refine HS.out.mono ?_
      rintro e W3 ⟨rfl, hb3⟩
      have HB3 := Lib.hid (below_next HB1.out hb3)
      have HN3 := Lib.hid (HN.out.keep hb3)
      clear hb3
      have hss : (sm != sm) = false := by simp
      by_cases hneg : sm < 0
      · go_wp2
        go_ret
        exact ⟨rfl, HB3.out⟩
      · have hpos : 0 ≤ sm := by omega
        have HOK := Lib.hid (bodySum_pos (zs := zs) (by rw [HSM.out]; exact hpos))
        have HSB := Lib.hid (show sumB zs = sm by rw [← HSM.out, bodySum_ok HOK.out])
        have hs250 : sm ≤ 250 := by rw [← HSB.out]; exact (sumB_range zs).2
        have hln1 := bodyOk_len HOK.out
        rw [HLN.out] at hln1
        obtain ⟨hln1, hln2⟩ := hln1
        have hln1' : (1 : Int) ≤ ln := by omega
        have hln2' : (ln : Int) ≤ 16 := by omega
        obtain ⟨bb, off, rfl⟩ : ∃ bb off, a = some ⟨bb, off, none⟩ := by
          obtain ⟨_, h0 | ⟨bb, off, hb, _⟩⟩ := HN3.out
          · have := HLN.out; omega
          · exact ⟨bb, off, hb⟩
        have hrem := rem_nat len1 ln (by omega)
        obtain ⟨k, hk⟩ : ∃ k, k = len1 % ln := ⟨_, rfl⟩
        rw [← hk] at hrem
        have hkl : k < ln := by rw [hk]; exact Nat.mod_lt _ (by omega)
        have hkl' : (k : Int) < ln := by omega
        have HKL := Lib.hid hkl
        clear hneg hk
        go_upto_region 10 with (at_builtin; refine wpList_append_own _ rfl _ _ 23 rfl W3.heap.size 3 i0 (.int .i64 0) 1 8 Try.underlying23 hi hz0 hz1 hz2 rfl (by decide) _ _ _ rfl (World.ownsRow_lit (e := 3) (size := 1) W3 #[] 0 (Nat.le_refl _) (by simp [maxLen]) rfl) ⟨bb, off, none⟩ ln cap (intsV zs) rfl (by rw [intsV_length, HLN.out]; omega) (fun j u h => cell_kept (below_box _ _) (ints_cells HN3.out j u h)) (intsV_cells _) (by unfold maxLen; omega) (by omega) (by simp) ?_; intro v5 w5 ho5 hg5 hn5)
        have ho6 : w5.ownsRow W3.heap.size 3 1 v5 zs.length (intsV zs) := by
          rw [HLN.out, show ln = 0 + ln by omega]; exact ho5
        obtain ⟨g, cp, rfl, hgb, hgs⟩ := own_slice1 ho6 (by have := HLN.out; omega)
        rw [HLN.out]
        have HO6 := Lib.hid ho6
        have HB5 := Lib.hid (HB3.out.trans (((below_box W3 _).grown hg5 (by simp) (fun k e => by cases e; exact Nat.le_refl _)).mono HB3.out.size))
        have HGB := Lib.hid (Nat.le_trans HB3.out.size hgb)
        have HZK := Lib.hid (show zs[k]? = some (zs[k]'(by have := HLN.out; omega)) from List.getElem?_eq_getElem _)
        have ck := own_cell1 ho6 (k := k) (by have := HLN.out; omega)
        have fk := own_frozen1 ho6 k
        obtain ⟨x, hx⟩ : ∃ x, x = zs[k]'(by have := HLN.out; omega) := ⟨_, rfl⟩
        rw [← hx] at ck HZK
        have hby := bodyOk_byte HOK.out (List.mem_of_getElem? HZK.out)
        obtain ⟨x0, x1⟩ := hby
        clear ho5 ho6 hg5 hn5 hgb hgs hx
        have HNX := Lib.hid (fun y (hy : y = x + 1 ∨ y = x - 1) => show Calls Try.prog 16 #[.slice (some ⟨g, 0, none⟩) ln cp] (w5.setCell ⟨g, k, none⟩ (.int .i64 y)) (fun e w' => ∃ r : Int, e = .returned (.int .i64 r) ∧ (r == sm) = false ∧ w' = w5.setCell ⟨g, k, none⟩ (.int .i64 y)) from by
          have ho := own_store1 HO6.out k y
          obtain ⟨a7, c7, h7, hi7⟩ := ints_of_own (by rw [List.length_set] at ho; rw [List.length_set]; exact ho)
          rw [List.length_set, HLN.out] at h7 hi7
          have h8 : a7 = some ⟨g, 0, none⟩ ∧ c7 = cp := by cases h7; exact ⟨rfl, rfl⟩
          obtain ⟨rfl, rfl⟩ := h8
          refine (implBodySum_c _ ln _ (zs.set k y) _ hi7).mono ?_
          rintro e w' ⟨rfl, rfl⟩
          exact ⟨_, rfl, beq_eq_false_iff_ne.2 (by have := sum_other HOK.out HZK.out hy; rwa [HSB.out] at this), rfl⟩)
        have d251 : decide (sm < 251) = true := decide_eq_true (by omega)
        by_cases h255 : x = 255
        · subst h255
          have HNY := Lib.hid (HNX.out 254 (.inr (by omega)))
          go_wp2_with fail
          refine HNY.out.mono ?_
          rintro e w6 ⟨r, rfl, hr, rfl⟩
          have hr' : (r != sm) = true := by simp [bne, hr]
          go_wp2
          go_ret
          exact ⟨rfl, HB5.out.setCell (p := ⟨g, k, none⟩) HGB.out _⟩
        · have hne : (x == 255) = false := beq_eq_false_iff_ne.2 h255
          have x2 : x ≤ 254 := by omega
          have HNY := Lib.hid (HNX.out (x + 1) (.inl rfl))
          clear h255
          go_wp2_with fail
          refine HNY.out.mono ?_
          rintro e w6 ⟨r, rfl, hr, rfl⟩
          have hr' : (r != sm) = true := by simp [bne, hr]
          go_wp2
          go_ret
          exact ⟨rfl, HB5.out.setCell (p := ⟨g, k, none⟩) HGB.out _⟩
    · have hl1 : (1048576 : Int) < len1 := by omega
      clear h h1 w0
      go_enter Try.func3, Try.ntmps3
      go_wp2
      go_ret
      exact ⟨rfl, Below.refl _ _⟩
  · have hl : (1048576 : Int) < len0 := by omega
    clear h w0
    go_enter Try.func3, Try.ntmps3
    go_wp2
    go_ret
    exact ⟨rfl, Below.refl _ _⟩


set_option maxRecDepth 100000 in
theorem lifted (os : Os) (started : os.Started) (H : Type) (enc : TypeId × Value → H) :
    ReturnsInHanded {} Try.checked os 3 .any (Rows.fnSumSpec.pre6 enc Try.prog Try.f3 Rows.fnSumRow.domain false) (Rows.fnSumSpec.post enc Try.prog Try.f3 false true false false) := by
  refine returnsInHanded_of_change (C := Try.checked) own started (by kernel_rfl) Try.func3
    (ChangeSpec.witness6 (enc := enc) (C := Try.checked) false ⟨#[], #[.slice none 0 0, .slice none 0 0], []⟩ 8 (by kernel_rfl) (by kernel_rfl) (by kernel_rfl) (by kernel_rfl)) ?_
  intro W base args ds gs before hval0 hW hcnd _
  have hval : ∀ (j : Nat) t v, Try.f3.params[j]? = some t → args[j]? = some v → Value.okWide Try.prog W .any base t v := hval0
  have hW' := hW
  obtain ⟨p, q, hA0, hV, rfl, hfz, hnd⟩ := hW
  have hA : DataW.TrodAll enc Try.prog W 0 (fun _ => true) true Try.f3.params.toList args.toList ds p := hA0
  rw [Try.params3] at hA hval
  obtain ⟨v0, vs0, d0, ds0, p0, q0, hargs, rfl, rfl, h0, r0⟩ := trodAll_cons hA
  obtain ⟨v1, vs1, d1, ds1, p1, q1, rfl, rfl, rfl, h1, r1⟩ := trodAll_cons r0
  obtain ⟨rfl, rfl, rfl⟩ := trodAll_nil r1
  obtain rfl : args = #[v0, v1] := by cases args; simp_all
  obtain ⟨rfl, rfl⟩ := trodVars_none hV
  obtain ⟨a0, len0, cap0, rfl⟩ := okWide_slice Try.underlying22 (hval 0 22 v0 rfl rfl)
  have k0 := h0
  have lt0 : ∀ x ∈ p0, x.block < W.heap.size := by obtain ⟨m, hm⟩ := k0; exact DataW.trod_lt m _ _ _ hm
  obtain ⟨z0, w0⟩ : ∃ zs, IsRow .u8 W a0 len0 cap0 zs := by
    obtain ⟨fuel, hf⟩ := h0
    rcases open_ints Try.underlying22 Try.underlying5 (by kernel_rfl) hf with ⟨hcs, _⟩ | ⟨x, l, c, zs, hcs, _, hl, hm, hz, _, hcell, hwz⟩
    · simp [Value.cells] at hcs
      obtain ⟨rfl, rfl, rfl⟩ := hcs
      exact ⟨[], .inl ⟨rfl, rfl, rfl, rfl⟩⟩
    · simp [Value.cells] at hcs
      obtain ⟨rfl, rfl, rfl⟩ := hcs
      exact ⟨zs, .inr ⟨_, rfl, hl, hm, by simpa using hz, hcell, hwz⟩⟩
  obtain ⟨a1, len1, cap1, rfl⟩ := okWide_slice Try.underlying22 (hval 1 22 v1 rfl rfl)
  have k1 := h1
  have lt1 : ∀ x ∈ p1, x.block < W.heap.size := by obtain ⟨m, hm⟩ := k1; exact DataW.trod_lt m _ _ _ hm
  obtain ⟨z1, w1⟩ : ∃ zs, IsRow .u8 W a1 len1 cap1 zs := by
    obtain ⟨fuel, hf⟩ := h1
    rcases open_ints Try.underlying22 Try.underlying5 (by kernel_rfl) hf with ⟨hcs, _⟩ | ⟨x, l, c, zs, hcs, _, hl, hm, hz, _, hcell, hwz⟩
    · simp [Value.cells] at hcs
      obtain ⟨rfl, rfl, rfl⟩ := hcs
      exact ⟨[], .inl ⟨rfl, rfl, rfl, rfl⟩⟩
    · simp [Value.cells] at hcs
      obtain ⟨rfl, rfl, rfl⟩ := hcs
      exact ⟨zs, .inr ⟨_, rfl, hl, hm, by simpa using hz, hcell, hwz⟩⟩
  clear hA0 hval0
  refine (walk a0 len0 cap0 z0 a1 len1 cap1 z1 W w0 w1).mono fun e W' ⟨he, bel⟩ => ?_
  subst he
  exact ⟨_, rfl, _, _, _, [], _, [], hW', trodAll_mk1 (shut_bool Try.underlying4 _), (trodAll_cons_mk (Below.trod laidOut (by kernel_rfl) (of_decide_eq_true (by kernel_rfl)) k0 bel lt0) (trodAll_cons_mk (Below.trod laidOut (by kernel_rfl) (of_decide_eq_true (by kernel_rfl)) k1 bel lt1) trodAll_mk0)), rfl, bel.frame _, fun h => by cases h⟩

theorem over : Rows.fnSumRow.holds Try.pinned (OpenSpec.ofChange Rows.fnSumSpec) :=
  OpenClaim.holds_of_wide 3 Try.f3 rfl rfl rfl rfl rfl rfl rfl ⟨rfl, rfl, rfl, rfl, rfl⟩ rfl rfl rfl rfl rfl (by kernel_rfl) Try.func3 (by kernel_rfl)
    (of_decide_eq_true (by kernel_rfl)) (by unfold Func.isWrapper; first | (rw [if_pos (by decide +kernel)]; kernel_rfl) | (rw [if_neg (by decide +kernel)]; exact ⟨rfl, rfl⟩))
    (fun os started H enc _ => lifted os started H enc)

theorem proved : Rows.FnSumSaid := over
end Go.Proofs.Ytdlkofgapjdeaaa.fnSum
