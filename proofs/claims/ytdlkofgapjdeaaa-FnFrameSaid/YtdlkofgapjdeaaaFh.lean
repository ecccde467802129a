/-
  WALKS: damaged lists (spec.l91Damage); spec.DrawBodySum, DrawFrameOf, DrawFramesOf, DrawFramesScan.
-/
import Derived.Test.YtdlkofgapjdeaaaFg
namespace Go.Proofs.Ytdlkofgapjdeaaa
open Go.RowKit
set_option linter.unusedVariables false

theorem own_readerN {W W' : World} {B base n : Nat} {e : TypeId} {v : Value} {xs : List Value} (h : W.ownsRow base e 1 v n xs) (hB : B < base) (hg : W.grownBy W' (some B)) : W'.ownsRow base e 1 v n xs := by
  refine h.kept hg ?_
  have hlt := h.lt
  cases hv : v.ownBlock with
  | none => simp
  | some g => have := (hlt g hv).1; simp; omega

theorem own_take1 {W : World} {base : Nat} {e : TypeId} {g cap : Nat} {zs : List Int} (h : W.ownsRow base e 1 (.slice (some ⟨g, 0, none⟩) zs.length cap) zs.length (intsV zs)) {k : Nat} (hk : k ≤ zs.length) :
    W.ownsRow base e 1 (.slice (some ⟨g, 0, none⟩) k cap) (zs.take k).length (intsV (zs.take k)) := by
  have hl : (zs.take k).length = k := by rw [List.length_take]; omega
  refine ⟨by rw [intsV_length]; omega, ?_⟩
  rcases h.2 with ⟨h1, _⟩ | ⟨g', cap', cur, h1, h2, h3, h4, h5, h6, h7⟩
  · simp at h1
  · simp only [Value.slice.injEq, Option.some.injEq, Addr.mk.injEq, and_true, true_and] at h1
    obtain ⟨rfl, rfl⟩ := h1
    refine .inr ⟨g, cap, cur, by rw [hl], h2, h3, by rw [hl]; omega, h5, h6, ?_⟩
    rw [hl]
    have e1 : intsV (zs.take k) = (intsV zs).take k := by unfold intsV; rw [List.map_take]
    rw [e1, ← h7, List.take_take]
    congr 1
    omega

/-- A list that was damaged or not. -/
def DamagePost (n base : Nat) (zs : List Int) (W0 : World) (e : Ending) (W' : World) : Prop :=
  ∃ (sl : Value) (zs' : List Int), e = .returned sl ∧ W'.ownsRow base 3 1 sl zs'.length (intsV zs') ∧ zs'.length ≤ zs.length + 1 ∧ (∀ z ∈ zs', z ∈ zs ∨ (-1 ≤ z ∧ z ≤ 256)) ∧ Below n W0 W'

set_option maxHeartbeats 2000000 in
set_option maxRecDepth 100000 in
theorem l91Damage_c (N0 B p n base : Nat) (sl : Value) (zs : List Int) (W0 W : World) (hp : p < 20000) (hR : RdAt N0 W B p) (hnB : n ≤ B) (hNb : N0 ≤ base) (hbw : base ≤ W.heap.size) (hb : Below n W0 W) (hown : W.ownsRow base 3 1 sl zs.length (intsV zs)) (hl : zs.length ≤ 20000) :
    Calls Try.prog 45 #[.pointer (some ⟨B, 0, none⟩), sl] W (DamagePost n base zs W0) := by
  obtain ⟨i0, hi, hz0, hz1, hz2⟩ := info_parts infoInt
  have HPK := Lib.hid (fun q n h1 h2 W hq hR => pick_c N0 B q n h1 h2 W hq hR)
  have HPP := Lib.hid hp
  have HBN := Lib.hid (show B < base from Nat.lt_of_lt_of_le hR.2.1 hNb)
  have HNB := Lib.hid hnB
  have HB := Lib.hid hb
  have HBW := Lib.hid hbw
  have HL := Lib.hid hl
  by_cases h0 : zs.length = 0
  · have hw := Lib.hid (show DamagePost n base zs W0 (.returned sl) W from ⟨sl, zs, rfl, hown, by omega, fun z hz => .inl hz, hb⟩)
    obtain ⟨a, cap, rfl, -⟩ := ints_of_own hown
    have h0' : (zs.length : Int) = 0 := by omega
    clear hown hl hb hbw hnB hNb hR hp
    rw [h0] at hw ⊢
    clear h0 h0'
    go_enter Try.func45, Try.ntmps45
    go_wp2
    go_ret
    exact hw.out
  · obtain ⟨g, cap, rfl, hgb, -⟩ := own_slice1 hown (by omega)
    have hl1 : (1 : Int) ≤ zs.length := by omega
    have hl2 : (zs.length : Int) ≤ 20000 := by omega
    have hne : ((zs.length : Int) == 0) = false := beq_eq_false_iff_ne.2 (by omega)
    obtain ⟨cc, hcc⟩ : ∃ cc, cap = cc := ⟨_, rfl⟩
    have hcap : zs.length ≤ cap := by
      rcases hown.2 with ⟨h1, _⟩ | ⟨g', cap', cur, h1, h2, h3, h4, h5, h6, h7⟩
      · simp at h1
      · simp only [Value.slice.injEq, Option.some.injEq, Addr.mk.injEq, and_true, true_and] at h1
        obtain ⟨rfl, rfl⟩ := h1
        exact h4
    have HO := Lib.hid hown
    have HRR := Lib.hid hR
    have HGB := Lib.hid hgb
    clear hown hl hb hbw hnB hNb hR hp h0 hgb hcc
    go_enter Try.func45, Try.ntmps45
    go_wp2_with fail
    refine (HPK.out p zs.length (by omega) (by omega) _ (by have := HPP.out; omega) HRR.out).mono ?_
    rintro e W1 ⟨k', rfl, k0, k1, hR1, hg1⟩
    obtain ⟨k, rfl⟩ := Int.eq_ofNat_of_zero_le k0
    have HK := Lib.hid (show k < zs.length by omega)
    have HO1 := Lib.hid (own_readerN HO.out HBN.out hg1)
    have HB1 := Lib.hid (HB.out.grown hg1 (by have := HB.out.size; have := HBW.out; have := HBN.out; have := HNB.out; omega) (fun k e => by cases e; exact HNB.out))
    have HS1 := Lib.hid (Nat.le_trans HBW.out hg1.size)
    have HR1 := Lib.hid hR1
    clear hR1 hg1 k0
    go_wp2_with fail
    refine (HPK.out (p + 1) 5 (by omega) (by omega) _ (by have := HPP.out; omega) HR1.out).mono ?_
    rintro e W2 ⟨s, rfl, s0, s1, hR2, hg2⟩
    have HO2 := Lib.hid (own_readerN HO1.out HBN.out hg2)
    have HB2 := Lib.hid (HB1.out.grown hg2 (by have := HS1.out; have := HBN.out; have := HNB.out; omega) (fun k e => by cases e; exact HNB.out))
    have HS2 := Lib.hid (Nat.le_trans HS1.out hg2.size)
    have HR2 := Lib.hid hR2
    clear hR2 hg2
    by_cases e0 : s = 0
    · subst e0
      clear s0 s1
      have hkc : (k : Int) ≤ cap := by have := HK.out; omega
      have hk0 : (0 : Int) ≤ k := by omega
      go_wp2
      go_ret
      exact ⟨_, zs.take k, rfl, own_take1 HO2.out (by have := HK.out; omega), by rw [List.length_take]; omega, fun z hz => .inl (List.mem_of_mem_take hz), HB2.out⟩
    · have e0' : (s == 0) = false := by simpa using e0
      by_cases e1 : s = 1
      · subst e1
        clear s0 s1 e0 e0'
        go_wp2_with fail
        refine (HPK.out (p + 1 + 1) 258 (by omega) (by omega) _ (by have := HPP.out; omega) HR2.out).mono ?_
        rintro e W3 ⟨y, rfl, y0, y1, hR3, hg3⟩
        have HO3 := Lib.hid (own_readerN HO2.out HBN.out hg3)
        have HB3 := Lib.hid (HB2.out.grown hg3 (by have := HS2.out; have := HBN.out; have := HNB.out; omega) (fun k e => by cases e; exact HNB.out))
        have c1 := own_cell1 HO3.out HK.out
        have z1 := HO3.out.frozenAt k
        have HY := Lib.hid (And.intro y0 y1)
        clear hR3 hg3
        go_wp2
        go_ret
        refine ⟨_, zs.set k (y - 1), rfl, own_store1 HO3.out k _, by rw [List.length_set]; omega, ?_, below_setCell HB3.out _ _ (by have := HBN.out; have := HNB.out; have := HGB.out; show n ≤ g; omega)⟩
        intro z hz
        rcases List.mem_or_eq_of_mem_set hz with h | rfl
        · exact .inl h
        · right; have := HY.out; omega
      · have e1' : (s == 1) = false := by simpa using e1
        by_cases e2 : s = 2
        · subst e2
          clear s0 s1 e0 e0' e1 e1'
          go_wp2_with fail
          refine (HPK.out (p + 1 + 1) 20 (by omega) (by omega) _ (by have := HPP.out; omega) HR2.out).mono ?_
          rintro e W3 ⟨y, rfl, y0, y1, hR3, hg3⟩
          have HO3 := Lib.hid (own_readerN HO2.out HBN.out hg3)
          have HB3 := Lib.hid (HB2.out.grown hg3 (by have := HS2.out; have := HBN.out; have := HNB.out; omega) (fun k e => by cases e; exact HNB.out))
          have HS3 := Lib.hid (Nat.le_trans HS2.out hg3.size)
          have HY := Lib.hid (And.intro y0 y1)
          have hlt3 := HO3.out.lt
          clear hR3 hg3
          go_wp2_with (at_builtin; refine wpList_append_own _ rfl _ _ 23 rfl base 3 i0 (.int .i64 0) 1 8 Try.underlying23 hi hz0 hz1 hz2 rfl (by decide) _ _ _ rfl (HO3.out.alloc _) ⟨W3.heap.size, 0, none⟩ 1 1 [.int .i64 y] rfl rfl (cell_int_new _ _ _) (fun x hx => by simp at hx; subst hx; rfl) (by have := HL.out; unfold maxLen; omega) (by have := HL.out; omega) (by have := HS3.out; simp; omega) ?_; intro v5 w5 ho5 hg5 hn5)
          have B5 : Below n W0 w5 := (HB3.out.alloc (by have := HS3.out; have := HBN.out; have := HNB.out; omega) _).grown hg5 (by have := HS3.out; have := HBN.out; have := HNB.out; simp; omega) (fun g e => by have := (hlt3 g e).1; have := HBN.out; have := HNB.out; omega)
          go_ret
          refine ⟨v5, zs ++ [y], rfl, own_join1 (more := [y]) ho5, by simp, ?_, B5⟩
          intro z hz
          rcases List.mem_append.1 hz with h | h
          · exact .inl h
          · rw [List.mem_singleton.1 h]; right; have := HY.out; omega
        · have e2' : (s == 2) = false := by simpa using e2
          clear e0 e1 e2 s0 s1
          go_wp2
          go_ret
          exact ⟨_, zs, rfl, HO2.out, by omega, fun z hz => .inl hz, HB2.out⟩

theorem framesL_mem {bs : List (List Int)} (h : bs.all bodyOk = true) : ∀ z ∈ framesL bs, (-1 : Int) ≤ z ∧ z ≤ 256 := by
  induction bs with
  | nil => intro z hz; simp [framesL] at hz
  | cons b bs ih =>
    simp only [List.all_cons, Bool.and_eq_true] at h
    intro z hz
    rw [framesL_cons] at hz
    rcases List.mem_append.1 hz with h1 | h1
    · unfold frame at h1
      rcases List.mem_cons.1 h1 with rfl | h2
      · have := bodyOk_len h.1; omega
      · rcases List.mem_append.1 h2 with h3 | h3
        · have := bodyOk_byte h.1 h3; omega
        · rw [List.mem_singleton.1 h3]; have := sumB_range b; omega
    · exact ih h.2 z h1

/-- A drawn list of numbers. -/
def IntsPost (m : Nat) (W : World) (e : Ending) (W' : World) : Prop :=
  ∃ (sl : Value) (zs : List Int), e = .returned sl ∧ W'.ownsRow W.heap.size 3 1 sl zs.length (intsV zs) ∧ zs.length ≤ m ∧ (∀ z ∈ zs, (-1 : Int) ≤ z ∧ z ≤ 256) ∧ Below W.heap.size W W'

/-- A drawn list of lists. -/
def TabPost (W : World) (e : Ending) (W' : World) : Prop :=
  ∃ (sl : Value) (vs : List Value) (bs : List (List Int)), e = .returned sl ∧ W'.ownsRow W.heap.size 23 1 sl bs.length vs ∧ Inner W' W.heap.size vs bs ∧ bs.length ≤ 41 ∧ ShortT 17 bs ∧ Below W.heap.size W W'

theorem Inner.mono {W : World} {b c : Nat} {vs : List Value} {bs : List (List Int)} (h : Inner W c vs bs) (hbc : b ≤ c) : Inner W b vs bs :=
  ⟨h.1, fun i z v hz hv => own_mono1 (h.2.1 i z v hz hv) hbc, h.2.2⟩

set_option maxHeartbeats 1000000 in
theorem drawBodySum_c (a : Option Addr) (len cap : Nat) (zs : List Int) (W : World) (h : IsRow .u8 W a len cap zs) :
    Calls Try.prog 15 #[.slice a len cap] W (IntsPost 17 W) := by
  have HO := Lib.hid (l6Open_c a len cap zs W h)
  have HA := Lib.hid (fun W1 hR => l91Body_c (W.heap.size + 1) W.heap.size 0 W1 (by omega) hR)
  clear h
  go_enter Try.func15, Try.ntmps15
  go_wp2_with fail
  refine HO.out.mono ?_; rintro e W1 ⟨rfl, hR, hB⟩
  go_wp2_with fail
  refine (HA.out _ hR).mono ?_; rintro e W2 ⟨sl, zs, q, rfl, hown, hl, hz, -, -, hg⟩
  have HX := Lib.hid (show IntsPost 17 W (.returned sl) W2 from ⟨sl, zs, rfl, own_mono1 hown hB.size, hl, hz, below_of_reader hB hg⟩)
  clear hown hl hz hg hR hB
  go_wp2
  go_ret
  exact HX.out

set_option maxHeartbeats 1000000 in
theorem drawFrameOf_c (a : Option Addr) (len cap : Nat) (zs : List Int) (W : World) (h : IsRow .u8 W a len cap zs) :
    Calls Try.prog 18 #[.slice a len cap] W (IntsPost 17 W) := by
  have HO := Lib.hid (l6Open_c a len cap zs W h)
  have HA := Lib.hid (fun W1 hR => l91Body_c (W.heap.size + 1) W.heap.size 0 W1 (by omega) hR)
  clear h
  go_enter Try.func18, Try.ntmps18
  go_wp2_with fail
  refine HO.out.mono ?_; rintro e W1 ⟨rfl, hR, hB⟩
  go_wp2_with fail
  refine (HA.out _ hR).mono ?_; rintro e W2 ⟨sl, zs, q, rfl, hown, hl, hz, -, -, hg⟩
  have HX := Lib.hid (show IntsPost 17 W (.returned sl) W2 from ⟨sl, zs, rfl, own_mono1 hown hB.size, hl, hz, below_of_reader hB hg⟩)
  clear hown hl hz hg hR hB
  go_wp2
  go_ret
  exact HX.out

set_option maxHeartbeats 1000000 in
theorem drawFramesOf_c (a : Option Addr) (len cap : Nat) (zs : List Int) (W : World) (h : IsRow .u8 W a len cap zs) :
    Calls Try.prog 23 #[.slice a len cap] W (TabPost W) := by
  have HO := Lib.hid (l6Open_c a len cap zs W h)
  have HA := Lib.hid (fun W1 hR => l91Bodies_c (W.heap.size + 1) W.heap.size 0 W1 (by omega) hR)
  clear h
  go_enter Try.func23, Try.ntmps23
  go_wp2_with fail
  refine HO.out.mono ?_; rintro e W1 ⟨rfl, hR, hB⟩
  go_wp2_with fail
  refine (HA.out _ hR).mono ?_; rintro e W2 ⟨sl, vs, bs, q, rfl, hown, hin, hl, hs, -, -, hg⟩
  have HX := Lib.hid (show TabPost W (.returned sl) W2 from ⟨sl, vs, bs, rfl, own_mono1 hown hB.size, hin.mono hB.size, hl, hs, below_of_reader hB hg⟩)
  clear hown hin hl hs hg hR hB
  go_wp2
  go_ret
  exact HX.out

set_option maxHeartbeats 1000000 in
theorem drawFramesScan_c (a : Option Addr) (len cap : Nat) (zs : List Int) (W : World) (h : IsRow .u8 W a len cap zs) :
    Calls Try.prog 27 #[.slice a len cap] W (IntsPost 721 W) := by
  have HO := Lib.hid (l6Open_c a len cap zs W h)
  have HA := Lib.hid (fun W1 hR => l91Bodies_c (W.heap.size + 1) W.heap.size 0 W1 (by omega) hR)
  clear h
  go_enter Try.func27, Try.ntmps27
  go_wp2_with fail
  refine HO.out.mono ?_; rintro e W1 ⟨rfl, hR, hB⟩
  go_wp2_with fail
  refine (HA.out _ hR).mono ?_; rintro e W2 ⟨sl, vs, bs, q, rfl, hown, hin, hl, hs, hq, hR2, hg⟩
  obtain ⟨a2, c2, rfl, hT⟩ := tab_of_own hown hin
  have HF := Lib.hid (specFramesOf_c a2 bs.length c2 bs (by omega) (fun b hb => by have := hs b hb; omega) W2 hT)
  have HB2 := Lib.hid (below_of_reader hB hg)
  have HR2 := Lib.hid hR2
  have HQ := Lib.hid hq
  have HLE := Lib.hid (show W.heap.size + 1 ≤ W2.heap.size from hR2.le)
  clear hown hin hl hs hg hR hB hR2 hq hT
  go_wp2_with fail
  refine HF.out.mono ?_; rintro e W3 ⟨s3, out, b3, rfl, hb3, ho3, hb⟩
  have hout : out.length ≤ 720 ∧ ∀ z ∈ out, (-1 : Int) ≤ z ∧ z ≤ 256 := by
    rcases hb3 with ⟨-, h⟩ | ⟨-, -, rfl⟩
    · obtain ⟨h1, h2, rfl⟩ := framesOf_some h
      exact ⟨by have := framesL_len h1; omega, framesL_mem h1⟩
    · exact ⟨by simp, by intro z hz; cases hz⟩
  have HOUT := Lib.hid hout
  have HD := Lib.hid (l91Damage_c (W.heap.size + 1) W.heap.size q W.heap.size W2.heap.size s3 out W W3 (by have := HQ.out; omega) (HR2.out.kept (hb.mono HLE.out)) (Nat.le_refl _) HLE.out hb.size (below_next HB2.out hb) ho3 (by omega))
  clear hb3 ho3 hb hout
  go_wp2_with fail
  refine HD.out.mono ?_; rintro e W4 ⟨s4, zs4, rfl, ho4, hl4, hz4, hb4⟩
  have HX := Lib.hid (show IntsPost 721 W (.returned s4) W4 from ⟨s4, zs4, rfl, own_mono1 ho4 (by have := HLE.out; omega), by have := HOUT.out.1; omega, fun z hz => (hz4 z hz).elim (fun h => HOUT.out.2 z h) id, hb4⟩)
  clear ho4 hl4 hz4 hb4
  go_wp2
  go_ret
  exact HX.out

end Go.Proofs.Ytdlkofgapjdeaaa
