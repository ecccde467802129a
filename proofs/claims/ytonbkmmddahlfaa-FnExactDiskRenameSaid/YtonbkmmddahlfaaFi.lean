/-
  WALKS: laws.toIntS, eqIntS, markIntS, heldIntS, szIntS: lists of numbers that come from outside, and what a test writes into them.
-/
import Derived.Test.YtonbkmmddahlfaaFe
namespace Go.Proofs.Ytonbkmmddahlfaa
open Go.RowKit
set_option linter.unusedVariables false

theorem own_casesI {W : World} {base : Nat} {e : TypeId} {size n : Nat} {v : Value} {xs : List Value} (h : W.ownsRow base e size v n xs) : (v = .slice none 0 0 ∧ n = 0) ∨ ∃ g cap, v = .slice (some ⟨g, 0, none⟩) n cap := own_casesT h

theorem below_noneI {W w : World} (h : W.grownBy w none) : Below W.heap.size W w := ⟨h.os, h.tape, h.output, h.size, fun k hk => h.block k hk (by simp)⟩

theorem take_setI {α : Type} (l : List α) (i : Nat) (x : α) (zs : List α) (h : l.length = i) (hz : 1 ≤ zs.length) : (l ++ zs).set i x = (l ++ [x]) ++ zs.drop 1 := by
  match zs, hz with
  | a :: r, _ =>
    rw [List.set_append_right _ _ (by omega), h, Nat.sub_self]
    simp

def ToIRel (ns : List Int) (len : Nat) (W : World) (i : Value) (wr : World) : Prop :=
  ∃ (n : Nat) (zs : List Value), i = .int .i64 n ∧ n ≤ len ∧ zs.length = len - n ∧ wr.ownsRow W.heap.size 3 1 (.slice (some ⟨W.heap.size, 0, none⟩) len len) len (intsV (ns.take n) ++ zs) ∧ Hid (Below W.heap.size W wr)

set_option maxHeartbeats 2000000 in
set_option maxRecDepth 100000 in
theorem toIntS_c (a : Option Addr) (len cap : Nat) (ns : List Int) (hl : len ≤ 2097152) (W : World) (hN : IntsAt W a len ns) :
    Calls Try.prog 21 #[.slice a len cap] W fun e W' => OwnsInts W.heap.size ns e W' ∧ Below W.heap.size W W' := by
  obtain ⟨i0, hi, hz0, hz1, hz2⟩ := info_parts infoInt
  have HN := Lib.hid hN
  have HE := Lib.hid hN.1
  have HL := Lib.hid hl
  clear hN
  go_enter Try.func21, Try.ntmps21
  go_wp2_with (refine wpList_make_full _ rfl _ _ 29 rfl W.heap.size 3 i0 (.int .i64 0) 1 Try.underlying29 hi hz0 hz1 .i64 .i64 _ _ len rfl rfl rfl rfl (by rw [hz2]; omega) (by unfold maxLen; omega) (Nat.le_refl _) ?_; intro w1 hown1 hg1)
  have hb1 := below_noneI hg1
  clear hg1
  simp only [Nat.mul_one] at hown1
  go_loopw [4] (fun i wr => ToIRel ns len W i wr) (fun i _ => len - (intOf i).toNat)
  case atStart =>
    refine ⟨0, _, rfl, by omega, ?_, hown1, hb1⟩
    exact hown1.1.trans (Nat.mul_one len)
  case round =>
    obtain ⟨i, zs, rfl, hi1, hzl, hown, HB⟩ := hrel
    by_cases hlt : i < len
    · obtain ⟨b, off, n, rfl, hn, c0⟩ := (HN.out.keep HB.out).at hlt
      have hlt' : (i : Int) < len := by omega
      have HLT := Lib.hid hlt
      have HNN := Lib.hid hn
      have hz3 : 1 ≤ zs.length := by omega
      have HZ := Lib.hid (And.intro hzl hz3)
      have HO2 := Lib.hid hown
      have hll : (intsV (ns.take i)).length = i := by rw [intsV_length, List.length_take]; have := HE.out; have := HLT.out; omega
      have HLL := Lib.hid hll
      obtain ⟨u0, e0⟩ : ∃ u, wr.cell? ⟨W.heap.size, i, none⟩ = some u := by
        have hx := HZ.out.1
        have hy := HLT.out
        rw [HO2.out.cellAt _ (by omega)]
        exact ⟨_, List.getElem?_eq_getElem (by rw [List.length_append, hll]; omega)⟩
      have y0 := HO2.out.frozenAt i
      clear hi1 hlt hn hzl hz3 hown1 hown hll
      go_wp2
      have HS1 := (HO2.out.stored i (.int .i64 n)).1
      rw [take_setI _ i _ zs HLL.out HZ.out.2] at HS1
      go_roundw
      case rel =>
        refine ⟨i + 1, zs.drop 1, by go_num, by have := HLT.out; omega, by rw [List.length_drop]; have h1 := HZ.out.1; have h2 := HZ.out.2; have h3 := HLT.out; omega, ?_, below_setCell HB.out _ _ (Nat.le_refl _)⟩
        rw [List.take_add_one, HNN.out, intsV_append]; exact HS1
      case measure => have := HLT.out; simp [intOf]; omega
    · have hge : (len : Int) ≤ i := by omega
      have hz0' : zs = [] := List.eq_nil_of_length_eq_zero (by omega)
      subst hz0'
      rw [List.append_nil, List.take_of_length_le (by have := HE.out; omega)] at hown
      clear hi1 hlt
      go_wp2
      go_ret
      exact ⟨⟨_, rfl, by have h := HE.out; rw [h]; exact hown⟩, HB.out⟩

set_option maxHeartbeats 1000000 in
theorem eqIntS_c (a1 a2 : Option Addr) (len c1 c2 : Nat) (zs : List Int) (hl : len ≤ 2097152) (W : World) (h1 : IntsAt W a1 len zs) (h2 : IntsAt W a2 len zs) :
    Calls Try.prog 16 #[.slice a1 len c1, .slice a2 len c2] W (BoolPost true W) := by
  have H1 := Lib.hid h1
  have H2 := Lib.hid h2
  clear h1 h2
  go_enter Try.func16, Try.ntmps16
  go_wp2
  go_loopw [5] (fun i wr => SameRel len W i wr) (fun i _ => len - (intOf i).toNat)
  case atStart => exact ⟨0, rfl, by omega, Below.refl _ _⟩
  case round =>
    obtain ⟨i, rfl, hi, HB⟩ := hrel
    by_cases hlt : i < len
    · obtain ⟨b, off, n, rfl, hn, x0⟩ := (H1.out.keep HB.out).at hlt
      obtain ⟨b', off', n', rfl, hn', y0⟩ := (H2.out.keep HB.out).at hlt
      obtain rfl : n = n' := Option.some.inj (hn.symm.trans hn')
      have hlt' : (i : Int) < len := by omega
      have hi0 : (0 : Int) ≤ i := by omega
      have HLT := Lib.hid hlt
      clear hi hlt hn hn'
      go_wp2
      go_quiet (fail)
      have HB2 := Lib.hid (below_drewN1 HB.out nq)
      clear x0 y0
      go_wp2
      go_roundw
      case rel => exact ⟨i + 1, by go_num, by have := HLT.out; omega, HB2⟩
      case measure => have := HLT.out; simp [intOf]; omega
    · have hge : (len : Int) ≤ i := by omega
      clear hi hlt
      go_wp2
      go_ret
      exact ⟨rfl, HB.out⟩

/-- The numbers that a test writes, from k on. -/
def markI (k n : Nat) : List Int := (List.range n).map (fun i => ((k + i : Nat) : Int))
theorem markI_len (k n : Nat) : (markI k n).length = n := by simp [markI]
theorem markI_get {k n i : Nat} (h : i < n) : (markI k n)[i]? = some ((k + i : Nat) : Int) := by
  unfold markI; rw [List.getElem?_map, List.getElem?_range h]; rfl

def MarkIRel (k0 len base : Nat) (v : Value) (W : World) (kv i : Value) (wr : World) : Prop :=
  ∃ (n : Nat) (zs : List Value), i = .int .i64 n ∧ kv = .int .i64 ((k0 + n : Nat) : Int) ∧ n ≤ len ∧ zs.length = len - n ∧ wr.ownsRow base 3 1 v len (intsV ((markI k0 len).take n) ++ zs) ∧ Hid (W.grownBy wr v.ownBlock)

theorem grown_setI {A B : World} {g : Nat} {n cap : Nat} (h : A.grownBy B (Value.slice (some ⟨g, 0, none⟩) n cap).ownBlock) (i : Nat) (u : Value) : A.grownBy (B.setCell ⟨g, i, none⟩ u) (Value.slice (some ⟨g, 0, none⟩) n cap).ownBlock :=
  grownBy_trans h (grownBy_setCell_at B g i u)

set_option maxHeartbeats 2000000 in
set_option maxRecDepth 100000 in
theorem markIntS_c (v : Value) (base len k0 : Nat) (xs : List Value) (hl : len ≤ 2097152) (hk : k0 ≤ 1099511627776) (W : World) (h : W.ownsRow base 3 1 v len xs) :
    Calls Try.prog 18 #[v, .int .i64 k0] W fun e W' => e = .returned (.int .i64 ((k0 + len : Nat) : Int)) ∧ W.grownBy W' v.ownBlock ∧ W'.ownsRow base 3 1 v len (intsV (markI k0 len)) := by
  have HX := Lib.hid h
  have hxl := h.1
  obtain ⟨a, cap, hv⟩ : ∃ a cap, v = .slice a len cap := by
    rcases own_casesI h with ⟨h1, h2⟩ | ⟨g, cap, h1⟩
    · exact ⟨none, 0, by rw [h1, h2]⟩
    · exact ⟨_, cap, h1⟩
  have hl' : (len : Int) ≤ 2097152 := by omega
  have hk' : (k0 : Int) ≤ 1099511627776 := by omega
  clear h
  subst hv
  go_enter Try.func18, Try.ntmps18
  go_wp2
  go_loopw [1, 5] (fun kv i wr => MarkIRel k0 len base (.slice a len cap) W kv i wr) (fun _ i _ => len - (intOf i).toNat)
  case atStart => exact ⟨0, xs, rfl, rfl, by omega, by rw [hxl]; omega, HX.out, ⟨rfl, rfl, rfl, Nat.le_refl _, fun _ _ _ => rfl⟩⟩
  case round =>
    obtain ⟨i, zs, rfl, rfl, hi, hzl, hown, HG⟩ := hrel
    by_cases hlt : i < len
    · have hlt' : (i : Int) < len := by omega
      have hil : (i : Int) ≤ 2097152 := by omega
      have HLT := Lib.hid hlt
      have HZ := Lib.hid (And.intro hzl (show 1 ≤ zs.length by omega))
      rcases own_casesI hown with ⟨_, h2⟩ | ⟨g, cap', h2⟩
      · omega
      simp at h2
      obtain ⟨rfl, rfl⟩ := h2
      have HO := Lib.hid hown
      have hll : (intsV ((markI k0 len).take i)).length = i := by rw [intsV_length, List.length_take, markI_len]; have := HLT.out; omega
      have HLL := Lib.hid hll
      obtain ⟨u0, e0⟩ : ∃ u, wr.cell? ⟨g, i, none⟩ = some u := by
        have hx := HZ.out.1
        have hy := HLT.out
        rw [HO.out.cellAt _ (by omega)]
        exact ⟨_, List.getElem?_eq_getElem (by rw [List.length_append, hll]; omega)⟩
      have y0 := HO.out.frozenAt i
      obtain ⟨kk, hkk⟩ : ∃ kk : Nat, kk = k0 + i := ⟨_, rfl⟩
      have HKK := Lib.hid hkk
      have hkb : (kk : Int) ≤ 2199023255552 := by omega
      rw [← hkk]
      clear hi hlt hzl hown hll hkk
      go_wp2
      have HS1 := (HO.out.stored i (.int .i64 kk)).1
      rw [take_setI _ i _ zs HLL.out HZ.out.2] at HS1
      go_roundw
      case rel =>
        refine ⟨i + 1, zs.drop 1, by go_num, by rw [show k0 + (i + 1) = kk + 1 by have := HKK.out; omega]; go_num, by have := HLT.out; omega, by rw [List.length_drop]; have h1 := HZ.out.1; have h2 := HZ.out.2; have h3 := HLT.out; omega, ?_, grown_setI HG.out i _⟩
        rw [List.take_add_one, markI_get HLT.out, intsV_append, ← HKK.out]; exact HS1
      case measure => have := HLT.out; simp [intOf]; omega
    · have hge : (len : Int) ≤ i := by omega
      have hie : i = len := by omega
      have hz0' : zs = [] := List.eq_nil_of_length_eq_zero (by omega)
      subst hz0'
      subst hie
      rw [List.append_nil, List.take_of_length_le (by rw [markI_len]; omega)] at hown
      clear hi hlt
      go_wp2
      refine bodyPost_ret (v := .int .i64 ((k0 + i : Nat) : Int)) (by simp [results, Try.f18, go_sem]) rfl ⟨rfl, HG.out, hown⟩

def HeldIRel (k0 len : Nat) (W : World) (kv i : Value) (wr : World) : Prop :=
  ∃ n : Nat, i = .int .i64 n ∧ kv = .int .i64 ((k0 + n : Nat) : Int) ∧ n ≤ len ∧ wr = W

set_option maxHeartbeats 2000000 in
set_option maxRecDepth 100000 in
theorem heldIntS_c (a : Option Addr) (len cap k0 : Nat) (hl : len ≤ 2097152) (hk : k0 ≤ 1099511627776) (W : World) (hN : IntsAt W a len (markI k0 len)) :
    Calls Try.prog 19 #[.slice a len cap, .int .i64 k0] W fun e W' => e = .returned (.int .i64 ((k0 + len : Nat) : Int)) ∧ W' = W := by
  have HN := Lib.hid hN
  have hl' : (len : Int) ≤ 2097152 := by omega
  have hk' : (k0 : Int) ≤ 1099511627776 := by omega
  clear hN
  go_enter Try.func19, Try.ntmps19
  go_wp2
  go_loopw [1, 5] (fun kv i wr => HeldIRel k0 len W kv i wr) (fun _ i _ => len - (intOf i).toNat)
  case atStart => exact ⟨0, rfl, rfl, by omega, rfl⟩
  case round =>
    obtain ⟨i, rfl, rfl, hi, rfl⟩ := hrel
    by_cases hlt : i < len
    · obtain ⟨b, off, n, rfl, hn, c0⟩ := HN.out.at hlt
      have hlt' : (i : Int) < len := by omega
      have hil : (i : Int) ≤ 2097152 := by omega
      have HLT := Lib.hid hlt
      rw [markI_get hlt] at hn
      obtain rfl := Option.some.inj hn
      obtain ⟨kk, hkk⟩ : ∃ kk : Nat, kk = k0 + i := ⟨_, rfl⟩
      have HKK := Lib.hid hkk
      have hkb : (kk : Int) ≤ 2199023255552 := by omega
      rw [← hkk] at c0 ⊢
      clear hlt hi hn hkk
      go_wp2
      go_roundw
      case rel => exact ⟨i + 1, by go_num, by rw [show k0 + (i + 1) = kk + 1 by have := HKK.out; omega]; go_num, by have := HLT.out; omega, rfl⟩
      case measure => have := HLT.out; simp [intOf]; omega
    · have hge : (len : Int) ≤ i := by omega
      have hie : i = len := by omega
      subst hie
      clear hi hlt
      go_wp2
      refine bodyPost_ret (v := .int .i64 ((k0 + i : Nat) : Int)) (by simp [results, Try.f19, go_sem]) rfl ⟨rfl, rfl⟩

end Go.Proofs.Ytonbkmmddahlfaa
