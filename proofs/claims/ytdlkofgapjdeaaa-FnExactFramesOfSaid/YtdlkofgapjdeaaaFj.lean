/-
  WALKS: laws.toIntSS, eqIntSS: lists of lists that come from outside.
-/
import Derived.Deep.RegionHeld3
import Derived.Deep.Cut
import Derived.Test.YtdlkofgapjdeaaaFi
namespace Go.Proofs.Ytdlkofgapjdeaaa
open Go.RowKit
set_option linter.unusedVariables false

/-- A table that the call has made. -/
def OwnsTab (base : Nat) (bs : List (List Int)) (e : Ending) (w' : World) : Prop := ∃ sl vs, e = .returned sl ∧ w'.ownsRow base 23 1 sl bs.length vs ∧ Inner w' base vs bs

def ToTRel (bs : List (List Int)) (len : Nat) (W : World) (i : Value) (wr : World) : Prop :=
  ∃ (n : Nat) (vs zs : List Value), i = .int .i64 n ∧ n ≤ len ∧ zs.length = len - n ∧ vs.length = n ∧ wr.ownsRow W.heap.size 23 1 (.slice (some ⟨W.heap.size, 0, none⟩) len len) len (vs ++ zs) ∧ Hid (Inner wr W.heap.size vs (bs.take n)) ∧ Hid (Below W.heap.size W wr)

set_option maxHeartbeats 2000000 in
set_option maxRecDepth 100000 in
theorem toIntSS_c (a : Option Addr) (len cap : Nat) (bs : List (List Int)) (hl : len ≤ 2097152) (hs : ShortT 2097152 bs) (W : World) (hN : TabAt W a len bs) :
    Calls Try.prog 34 #[.slice a len cap] W fun e W' => OwnsTab W.heap.size bs e W' ∧ Below W.heap.size W W' := by
  obtain ⟨j0, ji, jz0, jz1, jz2⟩ := info_parts infoInts
  have HN := Lib.hid hN
  have HE := Lib.hid hN.1
  have HL := Lib.hid hl
  have HS := Lib.hid hs
  clear hN hs
  go_enter Try.func34, Try.ntmps34
  go_wp2_with (refine wpList_make_full _ rfl _ _ 29 rfl W.heap.size 23 j0 (.slice none 0 0) 1 Try.underlying29 ji jz0 jz1 .i64 .i64 _ _ len rfl rfl rfl rfl (by rw [jz2]; omega) (by unfold maxLen; omega) (Nat.le_refl _) ?_; intro w1 hown1 hg1)
  have hb1 := below_noneI hg1
  clear hg1
  simp only [Nat.mul_one] at hown1
  go_loopw [4] (fun i wr => ToTRel bs len W i wr) (fun i _ => len - (intOf i).toNat)
  case atStart =>
    refine ⟨0, [], _, rfl, by omega, ?_, rfl, hown1, ⟨rfl, fun i z v hz => by simp at hz, List.Pairwise.nil⟩, hb1⟩
    exact hown1.1.trans (Nat.mul_one len)
  case round =>
    obtain ⟨i, vs, zs, rfl, hi1, hzl, hvl, hown, HIN, HB⟩ := hrel
    by_cases hlt : i < len
    · obtain ⟨b, off, z, ai, ci, rfl, hn, c0, hzi⟩ := (HN.out.keep HB.out).at hlt
      have hlt' : (i : Int) < len := by omega
      have HLT := Lib.hid hlt
      have HNN := Lib.hid hn
      have hz3 : 1 ≤ zs.length := by omega
      have HZ := Lib.hid (And.intro hzl (And.intro hz3 hvl))
      have HO := Lib.hid hown
      have HT := Lib.hid (toIntS_c ai z.length ci z (HS.out z (List.mem_of_getElem? hn)) wr hzi)
      clear hi1 hlt hn hzl hz3 hvl hown1 hown hzi
      go_wp2_with fail
      refine HT.out.mono ?_
      rintro e W2 ⟨⟨s2, rfl, ho2⟩, hb2⟩
      obtain ⟨a2, c2, rfl, -⟩ := ints_of_own ho2
      have HO2 := Lib.hid (own_below1 HO.out hb2)
      have HI2 := Lib.hid (HIN.out.below hb2)
      have HB2 := Lib.hid (below_next HB.out hb2)
      have HV2 := Lib.hid ho2
      have HVD := Lib.hid (show ∀ u ∈ vs, ∀ k, u.ownBlock = some k → (Value.slice a2 z.length c2).ownBlock ≠ some k from fun u hu k e1 e2 => by
        have h1 := HIN.out.lt u hu k e1
        have h2 := (HV2.out.lt k e2).1
        omega)
      have HLE := Lib.hid HB.out.size
      obtain ⟨u0, e0⟩ : ∃ u, W2.cell? ⟨W.heap.size, i, none⟩ = some u := by
        have hx := HZ.out
        have hy := HLT.out
        rw [HO2.out.cellAt _ (by omega)]
        exact ⟨_, List.getElem?_eq_getElem (by rw [List.length_append]; omega)⟩
      have y0 := HO2.out.frozenAt i
      clear hb2 ho2 c0
      go_wp2
      have HS1 := HO2.out.stored i (.slice a2 z.length c2)
      have hset := HS1.1
      rw [take_setI vs i _ zs HZ.out.2.2 HZ.out.2.1] at hset
      have hin := HI2.out.grown HO2.out HS1.2
      have hnew := own_farT HV2.out (row := .slice (some ⟨W.heap.size, 0, none⟩) len len) HS1.2 (own_types HV2.out HO2.out (by decide))
      go_roundw
      case rel =>
        refine ⟨i + 1, vs ++ [.slice a2 z.length c2], zs.drop 1, by go_num, by have := HLT.out; omega, by rw [List.length_drop]; have h1 := HZ.out; have h3 := HLT.out; omega, by rw [List.length_append, HZ.out.2.2]; rfl, hset, ?_, below_setCell HB2.out _ _ (Nat.le_refl _)⟩
        show Inner _ _ _ _
        rw [takeT_next HNN.out]
        exact hin.push (own_mono1 hnew HLE.out) HVD.out
      case measure => have := HLT.out; simp [intOf]; omega
    · have hge : (len : Int) ≤ i := by omega
      have hz0' : zs = [] := List.eq_nil_of_length_eq_zero (by omega)
      subst hz0'
      rw [List.append_nil] at hown
      have HI2 : Hid (Inner wr W.heap.size vs bs) := by
        have := HIN.out
        rw [List.take_of_length_le (by have := HE.out; omega)] at this
        exact this
      clear hi1 hlt
      go_wp2
      go_ret
      exact ⟨⟨_, vs, rfl, by have h := HE.out; rw [h]; exact hown, HI2.out⟩, HB.out⟩

set_option maxHeartbeats 2000000 in
set_option maxRecDepth 100000 in
theorem eqIntSS_c (a1 a2 : Option Addr) (len c1 c2 : Nat) (bs : List (List Int)) (hl : len ≤ 2097152) (hs : ShortT 2097152 bs) (W : World) (h1 : TabAt W a1 len bs) (h2 : TabAt W a2 len bs) :
    Calls Try.prog 35 #[.slice a1 len c1, .slice a2 len c2] W (BoolPost true W) := by
  have H1 := Lib.hid h1
  have H2 := Lib.hid h2
  have HS := Lib.hid hs
  clear h1 h2 hs
  go_enter Try.func35, Try.ntmps35
  go_wp2
  go_loopw [5] (fun i wr => SameRel len W i wr) (fun i _ => len - (intOf i).toNat)
  case atStart => exact ⟨0, rfl, by omega, Below.refl _ _⟩
  case round =>
    obtain ⟨i, rfl, hi, HB⟩ := hrel
    by_cases hlt : i < len
    · obtain ⟨b, off, z, ai, ci, rfl, hz, x0, hz1⟩ := (H1.out.keep HB.out).at hlt
      obtain ⟨b', off', z', ai', ci', rfl, hz', y0, hz2⟩ := (H2.out.keep HB.out).at hlt
      obtain rfl : z = z' := Option.some.inj (hz.symm.trans hz')
      have hlt' : (i : Int) < len := by omega
      have hil : (i : Int) ≤ 2097152 := by omega
      have HLT := Lib.hid hlt
      have hzl := HS.out z (List.mem_of_getElem? hz)
      have HC := Lib.hid (fun W' (hw : Below wr.heap.size wr W') => eqIntS_c ai ai' z.length ci ci' z hzl W' (hz1.keep hw) (hz2.keep hw))
      clear hi hlt hz hz' hz1 hz2 hzl
      have HS0 := Lib.hid (show wr.drew.cell? ⟨b, off + i, none⟩ = some (.slice ai z.length ci) ∧ wr.drew.cell? ⟨b', off' + i, none⟩ = some (.slice ai' z.length ci') from ⟨x0, y0⟩)
      have HCX := Lib.hid (HC.out wr.drew (Below.refl _ _).drew)
      go_upto_region 6 with (fail)
      refine wp_region_held_drew (S := (fun w' => w'.cell? ⟨b, off + i, none⟩ = some (.slice ai z.length ci) ∧ w'.cell? ⟨b', off' + i, none⟩ = some (.slice ai' z.length ci'))) (by kernel_rfl) HS0.out (fun hH => ?_)
      refine wpAnyH_take (i := 0) (oi := _) (v := ?_) rfl (by kernel_rfl) (by kernel_rfl) (by kernel_rfl) (fun _ _ _ h => h) (Or.inl ⟨by rfl, ?_⟩) (by assumption) ?_
      rotate_left
      · (intro w hSw; (try dsimp only at hSw); go_simp; try with_reducible rfl)
      try simp only [Act.put, List.getElem_toArray, List.getElem_cons_zero, List.setIfInBounds_toArray, List.set_cons_zero, List.set_cons_succ]
      refine wpAnyH_take (i := 1) (oi := _) (v := ?_) rfl (by kernel_rfl) (by kernel_rfl) (by kernel_rfl) (fun _ _ _ h => h) (Or.inl ⟨by rfl, ?_⟩) (by assumption) ?_
      rotate_left
      · (intro w hSw; (try dsimp only at hSw); go_simp; try with_reducible rfl)
      try simp only [Act.put, List.getElem_toArray, List.getElem_cons_zero, List.getElem_cons_succ, List.setIfInBounds_toArray, List.set_cons_zero, List.set_cons_succ]
      refine wpAnyH_take (i := 2) (oi := _) (v := ?_) rfl (by kernel_rfl) (by kernel_rfl) (by kernel_rfl) (fun _ _ _ h => h) (Or.inl ⟨by rfl, ?_⟩) (by assumption) ?_
      rotate_left
      · (intro w hSw; (try dsimp only at hSw); go_simp; try with_reducible rfl)
      try simp only [Act.put, List.getElem_toArray, List.getElem_cons_zero, List.getElem_cons_succ, List.setIfInBounds_toArray, List.set_cons_zero, List.set_cons_succ]
      refine wpAnyH_take (i := 3) (oi := _) (v := ?_) rfl (by kernel_rfl) (by kernel_rfl) (by kernel_rfl) (fun _ _ _ h => h) (Or.inl ⟨by rfl, ?_⟩) (by assumption) ?_
      rotate_left
      · (intro w hSw; (try dsimp only at hSw); go_simp; try with_reducible rfl)
      try simp only [Act.put, List.getElem_toArray, List.getElem_cons_zero, List.getElem_cons_succ, List.setIfInBounds_toArray, List.set_cons_zero, List.set_cons_succ]
      refine wpAnyH_take (i := 4) (oi := _) (v := ?_) rfl (by kernel_rfl) (by kernel_rfl) (by kernel_rfl) (fun _ _ _ h => h) (Or.inl ⟨by rfl, ?_⟩) (by assumption) ?_
      rotate_left
      · (intro w hSw; (try dsimp only at hSw); go_simp; try with_reducible rfl)
      try simp only [Act.put, List.getElem_toArray, List.getElem_cons_zero, List.getElem_cons_succ, List.setIfInBounds_toArray, List.set_cons_zero, List.set_cons_succ]
      refine wpAnyH_take (i := 5) (oi := _) (v := ?_) rfl (by kernel_rfl) (by kernel_rfl) (by kernel_rfl) (fun _ _ _ h => h) (Or.inl ⟨by rfl, ?_⟩) (by assumption) ?_
      rotate_left
      · (intro w hSw; (try dsimp only at hSw); go_simp; try with_reducible rfl)
      try simp only [Act.put, List.getElem_toArray, List.getElem_cons_zero, List.getElem_cons_succ, List.setIfInBounds_toArray, List.set_cons_zero, List.set_cons_succ]
      refine wpAnyH_take (i := 6) (oi := _) (v := ?_) rfl (by kernel_rfl) (by kernel_rfl) (by kernel_rfl) (fun _ _ _ h => h) (Or.inl ⟨by rfl, ?_⟩) (by assumption) ?_
      rotate_left
      · (intro w hSw; (try dsimp only at hSw); go_simp; try with_reducible rfl)
      try simp only [Act.put, List.getElem_toArray, List.getElem_cons_zero, List.getElem_cons_succ, List.setIfInBounds_toArray, List.set_cons_zero, List.set_cons_succ]
      refine wpAnyH_take (i := 7) (oi := _) (v := ?_) rfl (by kernel_rfl) (by kernel_rfl) (by kernel_rfl) (fun _ _ _ h => h) (Or.inl ⟨by rfl, ?_⟩) (by assumption) ?_
      rotate_left
      · (intro w hSw; (try dsimp only at hSw); go_simp; try with_reducible rfl)
      try simp only [Act.put, List.getElem_toArray, List.getElem_cons_zero, List.getElem_cons_succ, List.setIfInBounds_toArray, List.set_cons_zero, List.set_cons_succ]
      refine wpAnyH_ready (rs := [8]) (by kernel_rfl) (by simp) ?_
      refine AllReadyH.cons rfl (fun K hK => ?_) (AllReadyH.nil)
      go_simp
      go_at_call 30; (with_reducible refine (HCX.out).mono ?_); rintro e W7 ⟨rfl, hb7⟩
      refine hK.out _ _ ⟨cell_kept hb7 HS0.out.1, cell_kept hb7 HS0.out.2⟩ (fun hHeld => ?_)
      try simp only [Act.put, List.getElem_toArray, List.getElem_cons_zero, List.getElem_cons_succ, List.setIfInBounds_toArray, List.set_cons_zero, List.set_cons_succ]
      have H7 := Lib.hid (below_next (show Below W.heap.size W wr.drew from HB.out.drew) hb7)
      refine wpAnyH_take (i := 9) (oi := _) (v := ?_) rfl (by kernel_rfl) (by kernel_rfl) (by kernel_rfl) (fun _ _ _ h => h) (Or.inl ⟨by rfl, ?_⟩) (by assumption) ?_
      rotate_left
      · (intro w hSw; (try dsimp only at hSw); go_simp; try with_reducible rfl)
      try simp only [Act.put, List.getElem_toArray, List.getElem_cons_zero, List.getElem_cons_succ, List.setIfInBounds_toArray, List.set_cons_zero, List.set_cons_succ]
      refine wpAnyH_done (by kernel_rfl) ?_ _
      clear x0 y0
      go_wp2
      go_roundw
      case rel => exact ⟨i + 1, by go_num, by have := HLT.out; omega, H7.out⟩
      case measure => have := HLT.out; simp [intOf]; omega
    · have hge : (len : Int) ≤ i := by omega
      clear hi hlt
      go_wp2
      go_ret
      exact ⟨rfl, HB.out⟩

end Go.Proofs.Ytdlkofgapjdeaaa
