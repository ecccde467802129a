/-
  WALKS: the program's BodySum; its cursor's next and take; slices.Clone of numbers.
-/
import Derived.Lib.SliceRun
import Derived.Test.YtoipbocbgadjbaaFb
namespace Go.Proofs.Ytoipbocbgadjbaa
open Go.RowKit
set_option linter.unusedVariables false

theorem bodySum_bad {zs : List Int} (h : bodyOk zs = false) : bodySum zs = -1 := by unfold bodySum; rw [h]; rfl
theorem bodySum_ok {zs : List Int} (h : bodyOk zs = true) : bodySum zs = sumB zs := by unfold bodySum; rw [h]; rfl
theorem bodyOk_short {zs : List Int} (h : zs.length = 0 ∨ 16 < zs.length) : bodyOk zs = false := by
  rw [Bool.eq_false_iff]
  intro hc
  have := bodyOk_len hc
  omega
theorem bodyOk_bytes {zs : List Int} (h1 : 1 ≤ zs.length) (h2 : zs.length ≤ 16) : bodyOk zs = zs.all byteOk := by
  unfold bodyOk
  rw [decide_eq_true ⟨h1, h2⟩, Bool.and_true]

/-- The sum that the program returns. -/
def SumPost (zs : List Int) (W : World) (e : Ending) (w' : World) : Prop := e = .returned (.int .i64 (bodySum zs)) ∧ w' = W

def ISumRel (zs : List Int) (W : World) (n i : Value) (wr : World) : Prop := ∃ k : Nat, i = .int .i64 k ∧ k ≤ zs.length ∧ n = .int .i64 (sumB (zs.take k)) ∧ Hid ((zs.take k).all byteOk = true) ∧ wr = W

set_option maxHeartbeats 1000000 in
theorem implBodySum_c (a : Option Addr) (len cap : Nat) (zs : List Int) (W : World) (hN : IntsAt W a len zs) :
    Calls Try.prog 79 #[.slice a len cap] W (SumPost zs W) := by
  have HE := Lib.hid hN.1
  have HN := Lib.hid hN
  clear hN
  by_cases h0 : len = 0
  · have hr := Lib.hid (bodySum_bad (bodyOk_short (zs := zs) (.inl (by rw [HE.out]; exact h0))))
    subst h0
    go_enter Try.func79, Try.ntmps79
    go_wp2
    refine bodyPost_ret (v := .int .i64 (-1)) (by simp [results, Try.f79, go_sem]) rfl ⟨by rw [hr.out], rfl⟩
  · have e0 : ((len : Int) == 0) = false := beq_eq_false_iff_ne.2 (by omega)
    by_cases h16 : 16 < len
    · have hr := Lib.hid (bodySum_bad (bodyOk_short (zs := zs) (.inr (by rw [HE.out]; exact h16))))
      have h16' : (16 : Int) < len := by omega
      clear h0 h16
      go_enter Try.func79, Try.ntmps79
      go_wp2
      refine bodyPost_ret (v := .int .i64 (-1)) (by simp [results, Try.f79, go_sem]) rfl ⟨by rw [hr.out], rfl⟩
    · have h16' : (len : Int) ≤ 16 := by omega
      have HL := Lib.hid (show 1 ≤ zs.length ∧ zs.length ≤ 16 by have := HE.out; omega)
      have hl16 : len ≤ 16 := by omega
      clear h0 h16
      go_enter Try.func79, Try.ntmps79
      go_wp2
      go_loopw [3, 16] (fun n i wr => ISumRel zs W n i wr) (fun _ i _ => len - (intOf i).toNat)
      case atStart => exact ⟨0, rfl, by omega, rfl, by simp [Hid], rfl⟩
      case round =>
        obtain ⟨i, rfl, hi, rfl, HA, rfl⟩ := hrel
        by_cases hlt : i < len
        · obtain ⟨b, off, z, rfl, hz, c0⟩ := HN.out.at hlt
          have hlt' : (i : Int) < len := by omega
          have hil : (i : Int) ≤ 16 := by omega
          have HLT := Lib.hid hlt
          by_cases hz0 : z < 0
          · have hr := Lib.hid (bodySum_bad (zs := zs) (by rw [bodyOk_bytes HL.out.1 HL.out.2]; exact all_take_false (i := i + 1) (by rw [take_all hz]; simp [byteOk]; intro _; omega)))
            clear hlt hi hz
            go_wp2
            refine bodyPost_ret (v := .int .i64 (-1)) (by simp [results, Try.f79, go_sem]) rfl ⟨by rw [hr.out], rfl⟩
          · have z0 : 0 ≤ z := by omega
            clear hz0
            by_cases hz1 : 255 < z
            · have hr := Lib.hid (bodySum_bad (zs := zs) (by rw [bodyOk_bytes HL.out.1 HL.out.2]; exact all_take_false (i := i + 1) (by rw [take_all hz]; simp [byteOk]; intro _; omega)))
              clear hlt hi hz
              go_wp2
              refine bodyPost_ret (v := .int .i64 (-1)) (by simp [results, Try.f79, go_sem]) rfl ⟨by rw [hr.out], rfl⟩
            · have z1 : z ≤ 255 := by omega
              clear hz1
              have HAN := Lib.hid (show (zs.take (i + 1)).all byteOk = true by rw [take_all hz, show (zs.take i).all byteOk = true from HA.out]; simp [byteOk]; omega)
              obtain ⟨m0, m1⟩ := sumB_range (zs.take i)
              have hnx := sumB_next hz
              generalize sumB (zs.take i) = m at m0 m1 hnx
              have w1 : IntKind.i64.wrap (31 * m) = 31 * m := IntWalk.i64_in _ (by omega)
              have w2 : IntKind.i64.wrap (31 * m + z) = 31 * m + z := IntWalk.i64_in _ (by omega)
              have hrem : (31 * m + z).tmod 251 = (31 * m + z) % 251 := Int.tmod_eq_emod_of_nonneg (by omega)
              rw [← hnx] at hrem
              have HNX := Lib.hid hnx
              generalize hq : sumB (zs.take (i + 1)) = q at hrem HNX
              have HQ := Lib.hid hq
              clear hlt hi hz hnx hq
              go_wp2
              go_roundw
              case rel => exact ⟨i + 1, by push_cast; rfl, by have := HE.out; have := HLT.out; omega, by rw [HQ.out], HAN.out, rfl⟩
              case measure => have := HLT.out; simp [intOf]; omega
        · have hge : (len : Int) ≤ i := by omega
          have htk : zs.take i = zs := List.take_of_length_le (by have := HE.out; omega)
          rw [htk] at HA ⊢
          have hr := Lib.hid (bodySum_ok (zs := zs) (by rw [bodyOk_bytes HL.out.1 HL.out.2]; exact HA.out))
          clear hi hlt htk
          go_wp2
          refine bodyPost_ret (v := .int .i64 (sumB zs)) (by simp [results, Try.f79, go_sem]) rfl ⟨by rw [hr.out], rfl⟩

/-- A cursor in block B: a list that lies elsewhere, and a place in it. -/
structure CurAt (W : World) (B : Nat) (a : Option Addr) (len cap : Nat) (zs : List Int) (p : Nat) : Prop where
  c0 : W.cell? ⟨B, 0, none⟩ = some (.slice a len cap)
  c1 : W.cell? ⟨B, 1, none⟩ = some (.int .i64 p)
  f0 : W.frozen? ⟨B, 0, none⟩ = false
  f1 : W.frozen? ⟨B, 1, none⟩ = false
  le : p ≤ len
  ints : IntsAt W a len zs
  far : len ≠ 0 → ∀ x, a = some x → x.block ≠ B

theorem CurAt.ints_set {W : World} {B : Nat} {a : Option Addr} {len cap p : Nat} {zs : List Int} (h : CurAt W B a len cap zs p) (j : Nat) (v : Value) : IntsAt (W.setCell ⟨B, j, none⟩ v) a len zs := by
  obtain ⟨h1, h2⟩ := h.ints
  refine ⟨h1, ?_⟩
  rcases h2 with h0 | ⟨b, off, ha, hc⟩
  · exact .inl h0
  · by_cases hl : len = 0
    · exact .inl hl
    · refine .inr ⟨b, off, ha, fun i z hz => ?_⟩
      rw [World.cell?_setCell_other _ _ _ _ (fun e => h.far hl _ ha (congrArg Addr.block e).symm)]
      exact hc i z hz

theorem CurAt.move {W : World} {B : Nat} {a : Option Addr} {len cap p : Nat} {zs : List Int} (h : CurAt W B a len cap zs p) (q : Nat) (hq : q ≤ len) : CurAt (W.setCell ⟨B, 1, none⟩ (.int .i64 q)) B a len cap zs q := by
  refine ⟨?_, ?_, ?_, ?_, hq, h.ints_set _ _, h.far⟩
  · rw [World.cell?_setCell_other _ _ _ _ (by simp)]; exact h.c0
  · rw [World.cell?_setCell_same W ⟨B, 1, none⟩ _ h.c1]
  · rw [World.frozen?_setCell]; exact h.f0
  · rw [World.frozen?_setCell]; exact h.f1

theorem CurAt.drew {W : World} {B : Nat} {a : Option Addr} {len cap p : Nat} {zs : List Int} (h : CurAt W B a len cap zs p) (n : Nat) : CurAt (W.drewN n) B a len cap zs p := by
  have hc : ∀ x, (W.drewN n).cell? x = W.cell? x := fun x => (drewN_cell W n x).1
  have hf : ∀ x, (W.drewN n).frozen? x = W.frozen? x := fun x => (drewN_cell W n x).2.1
  refine ⟨by rw [hc]; exact h.c0, by rw [hc]; exact h.c1, by rw [hf]; exact h.f0, by rw [hf]; exact h.f1, h.le, ?_, h.far⟩
  obtain ⟨h1, h2⟩ := h.ints
  refine ⟨h1, ?_⟩
  rcases h2 with h0 | ⟨b, off, ha, hh⟩
  · exact .inl h0
  · exact .inr ⟨b, off, ha, fun i z hz => by rw [hc]; exact hh i z hz⟩

theorem IntsAt.lt {W : World} {a : Option Addr} {len : Nat} {zs : List Int} (h : IntsAt W a len zs) (hl : len ≠ 0) : ∀ x, a = some x → x.block < W.heap.size := by
  intro x hx
  obtain ⟨b, off, z, rfl, _, hc⟩ := h.at (i := 0) (by omega)
  cases hx
  exact World.block_lt_of_cell? W _ hc

theorem CurAt.lt {W : World} {B : Nat} {a : Option Addr} {len cap p : Nat} {zs : List Int} (h : CurAt W B a len cap zs p) : B < W.heap.size := World.block_lt_of_cell? W _ h.c0

theorem CurAt.keep {W W' : World} {B : Nat} {a : Option Addr} {len cap p : Nat} {zs : List Int} (h : CurAt W B a len cap zs p) (hb : Below W.heap.size W W') : CurAt W' B a len cap zs p :=
  ⟨cell_kept hb h.c0, cell_kept hb h.c1, (hb.frozen (p := ⟨B, 0, none⟩) h.lt).trans h.f0, (hb.frozen (p := ⟨B, 1, none⟩) h.lt).trans h.f1, h.le, h.ints.keep hb, h.far⟩

/-- The other cursor's place is taken over. -/
theorem CurAt.over {W : World} {B : Nat} {a : Option Addr} {len cap p : Nat} {zs : List Int} (h : CurAt W B a len cap zs p) (q : Nat) (hq : q ≤ len) : CurAt ((W.setCell ⟨B, 0, none⟩ (.slice a len cap)).setCell ⟨B, 1, none⟩ (.int .i64 q)) B a len cap zs q := by
  have h1 : CurAt (W.setCell ⟨B, 0, none⟩ (.slice a len cap)) B a len cap zs p := by
    refine ⟨?_, ?_, ?_, ?_, h.le, h.ints_set _ _, h.far⟩
    · rw [World.cell?_setCell_same W ⟨B, 0, none⟩ _ h.c0]
    · rw [World.cell?_setCell_other _ _ _ _ (by simp)]; exact h.c1
    · rw [World.frozen?_setCell]; exact h.f0
    · rw [World.frozen?_setCell]; exact h.f1
  exact h1.move q hq

theorem grown_drewN (W : World) (n : Nat) (row : Option Nat) : W.grownBy (W.drewN n) row := grownBy_drewN ⟨rfl, rfl, rfl, Nat.le_refl _, fun _ _ _ => rfl⟩ n

/-- What next leaves: the next number or -1. -/
def NextPost (a : Option Addr) (len cap : Nat) (zs : List Int) (B p : Nat) (W : World) (e : Ending) (w' : World) : Prop :=
  (p = len ∧ e = .returned (.int .i64 (-1)) ∧ CurAt w' B a len cap zs p ∨ ∃ z, zs[p]? = some z ∧ e = .returned (.int .i64 z) ∧ CurAt w' B a len cap zs (p + 1)) ∧ W.grownBy w' (some B)

/-- What take leaves: the next numbers, where they lie, or nothing. -/
def TakePost (a : Option Addr) (len cap : Nat) (zs : List Int) (B p : Nat) (n : Int) (W : World) (e : Ending) (w' : World) : Prop :=
  ((n < 0 ∨ len - p < n) ∧ e = .returned (.slice none 0 0) ∧ CurAt w' B a len cap zs p ∨
    ∃ m : Nat, n = m ∧ p + m ≤ len ∧ ∃ b, e = .returned (.slice b m (cap - p)) ∧ (∀ W', IntsAt W' a len zs → IntsAt W' b m ((zs.drop p).take m)) ∧ CurAt w' B a len cap zs (p + m)) ∧ W.grownBy w' (some B)

theorem part_ints {W : World} {a : Option Addr} {len p m : Nat} {zs : List Int} (h : IntsAt W a len zs) (hpm : p + m ≤ len) : IntsAt W (a.map fun x => x.add p) m ((zs.drop p).take m) := by
  obtain ⟨h1, h2⟩ := h
  refine ⟨by rw [List.length_take, List.length_drop]; omega, ?_⟩
  rcases h2 with h0 | ⟨b, off, ha, hc⟩
  · left; omega
  · right
    refine ⟨b, off + p, by rw [ha, Option.map_some, add_off], fun i z hz => ?_⟩
    rw [List.getElem?_take] at hz
    split at hz
    · rw [List.getElem?_drop] at hz
      rw [show off + p + i = off + (p + i) by omega]
      exact hc _ z hz
    · cases hz

end Go.Proofs.Ytoipbocbgadjbaa
