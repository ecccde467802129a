/-
  WALKS: the program's BodySum; its cursor's next and take; slices.Clone of numbers.
-/
import Derived.Lib.SliceRun
import Derived.Test.YtonbkmmddahlfaaFb
namespace Go.Proofs.Ytonbkmmddahlfaa
open Go.RowKit
set_option linter.unusedVariables false

theorem bodySum_bad {zs : List Int} (h : bodyOk zs = false) : bodySum zs = -1 := by unfold bodySum; rw [h]; rfl
theorem bodySum_ok {zs : List Int} (h : bodyOk zs = true) : bodySum zs = sumB zs := by unfold bodySum; rw [h]; rfl
theorem bodyOk_short {zs : List Int} (h : zs.length = 0 ∨ 16 < zs.length) : bodyOk zs = false := by
  rw [Bool.eq_false_iff]
  intro hc
  have := bodyOk_len hc
  omega
theorem bodyOk_bytes {zs : List Int} (h1 : 1 ≤ zs.length) (h2 : zs.length ≤ 16) : bodyOk zs = zs.all byteOk := by
  unfold bodyOk
  rw [decide_eq_true ⟨h1, h2⟩, Bool.and_true]

/-- The sum that the program returns. -/
def SumPost (zs : List Int) (W : World) (e : Ending) (w' : World) : Prop := e = .returned (.int .i64 (bodySum zs)) ∧ w' = W

def ISumRel (zs : List Int) (W : World) (n i : Value) (wr : World) : Prop := ∃ k : Nat, i = .int .i64 k ∧ k ≤ zs.length ∧ n = .int .i64 (sumB (zs.take k)) ∧ Hid ((zs.take k).all byteOk = true) ∧ wr = W

/-- A cursor in block B: a list that lies elsewhere, and a place in it. -/
structure CurAt (W : World) (B : Nat) (a : Option Addr) (len cap : Nat) (zs : List Int) (p : Nat) : Prop where
  c0 : W.cell? ⟨B, 0, none⟩ = some (.slice a len cap)
  c1 : W.cell? ⟨B, 1, none⟩ = some (.int .i64 p)
  f0 : W.frozen? ⟨B, 0, none⟩ = false
  f1 : W.frozen? ⟨B, 1, none⟩ = false
  le : p ≤ len
  ints : IntsAt W a len zs
  far : len ≠ 0 → ∀ x, a = some x → x.block ≠ B

theorem CurAt.ints_set {W : World} {B : Nat} {a : Option Addr} {len cap p : Nat} {zs : List Int} (h : CurAt W B a len cap zs p) (j : Nat) (v : Value) : IntsAt (W.setCell ⟨B, j, none⟩ v) a len zs := by
  obtain ⟨h1, h2⟩ := h.ints
  refine ⟨h1, ?_⟩
  rcases h2 with h0 | ⟨b, off, ha, hc⟩
  · exact .inl h0
  · by_cases hl : len = 0
    · exact .inl hl
    · refine .inr ⟨b, off, ha, fun i z hz => ?_⟩
      rw [World.cell?_setCell_other _ _ _ _ (fun e => h.far hl _ ha (congrArg Addr.block e).symm)]
      exact hc i z hz

theorem CurAt.move {W : World} {B : Nat} {a : Option Addr} {len cap p : Nat} {zs : List Int} (h : CurAt W B a len cap zs p) (q : Nat) (hq : q ≤ len) : CurAt (W.setCell ⟨B, 1, none⟩ (.int .i64 q)) B a len cap zs q := by
  refine ⟨?_, ?_, ?_, ?_, hq, h.ints_set _ _, h.far⟩
  · rw [World.cell?_setCell_other _ _ _ _ (by simp)]; exact h.c0
  · rw [World.cell?_setCell_same W ⟨B, 1, none⟩ _ h.c1]
  · rw [World.frozen?_setCell]; exact h.f0
  · rw [World.frozen?_setCell]; exact h.f1

theorem CurAt.drew {W : World} {B : Nat} {a : Option Addr} {len cap p : Nat} {zs : List Int} (h : CurAt W B a len cap zs p) (n : Nat) : CurAt (W.drewN n) B a len cap zs p := by
  have hc : ∀ x, (W.drewN n).cell? x = W.cell? x := fun x => (drewN_cell W n x).1
  have hf : ∀ x, (W.drewN n).frozen? x = W.frozen? x := fun x => (drewN_cell W n x).2.1
  refine ⟨by rw [hc]; exact h.c0, by rw [hc]; exact h.c1, by rw [hf]; exact h.f0, by rw [hf]; exact h.f1, h.le, ?_, h.far⟩
  obtain ⟨h1, h2⟩ := h.ints
  refine ⟨h1, ?_⟩
  rcases h2 with h0 | ⟨b, off, ha, hh⟩
  · exact .inl h0
  · exact .inr ⟨b, off, ha, fun i z hz => by rw [hc]; exact hh i z hz⟩

theorem IntsAt.lt {W : World} {a : Option Addr} {len : Nat} {zs : List Int} (h : IntsAt W a len zs) (hl : len ≠ 0) : ∀ x, a = some x → x.block < W.heap.size := by
  intro x hx
  obtain ⟨b, off, z, rfl, _, hc⟩ := h.at (i := 0) (by omega)
  cases hx
  exact World.block_lt_of_cell? W _ hc

theorem CurAt.lt {W : World} {B : Nat} {a : Option Addr} {len cap p : Nat} {zs : List Int} (h : CurAt W B a len cap zs p) : B < W.heap.size := World.block_lt_of_cell? W _ h.c0

theorem CurAt.keep {W W' : World} {B : Nat} {a : Option Addr} {len cap p : Nat} {zs : List Int} (h : CurAt W B a len cap zs p) (hb : Below W.heap.size W W') : CurAt W' B a len cap zs p :=
  ⟨cell_kept hb h.c0, cell_kept hb h.c1, (hb.frozen (p := ⟨B, 0, none⟩) h.lt).trans h.f0, (hb.frozen (p := ⟨B, 1, none⟩) h.lt).trans h.f1, h.le, h.ints.keep hb, h.far⟩

/-- The other cursor's place is taken over. -/
theorem CurAt.over {W : World} {B : Nat} {a : Option Addr} {len cap p : Nat} {zs : List Int} (h : CurAt W B a len cap zs p) (q : Nat) (hq : q ≤ len) : CurAt ((W.setCell ⟨B, 0, none⟩ (.slice a len cap)).setCell ⟨B, 1, none⟩ (.int .i64 q)) B a len cap zs q := by
  have h1 : CurAt (W.setCell ⟨B, 0, none⟩ (.slice a len cap)) B a len cap zs p := by
    refine ⟨?_, ?_, ?_, ?_, h.le, h.ints_set _ _, h.far⟩
    · rw [World.cell?_setCell_same W ⟨B, 0, none⟩ _ h.c0]
    · rw [World.cell?_setCell_other _ _ _ _ (by simp)]; exact h.c1
    · rw [World.frozen?_setCell]; exact h.f0
    · rw [World.frozen?_setCell]; exact h.f1
  exact h1.move q hq

theorem grown_drewN (W : World) (n : Nat) (row : Option Nat) : W.grownBy (W.drewN n) row := grownBy_drewN ⟨rfl, rfl, rfl, Nat.le_refl _, fun _ _ _ => rfl⟩ n

/-- What next leaves: the next number or -1. -/
def NextPost (a : Option Addr) (len cap : Nat) (zs : List Int) (B p : Nat) (W : World) (e : Ending) (w' : World) : Prop :=
  (p = len ∧ e = .returned (.int .i64 (-1)) ∧ CurAt w' B a len cap zs p ∨ ∃ z, zs[p]? = some z ∧ e = .returned (.int .i64 z) ∧ CurAt w' B a len cap zs (p + 1)) ∧ W.grownBy w' (some B)

/-- What take leaves: the next numbers, where they lie, or nothing. -/
def TakePost (a : Option Addr) (len cap : Nat) (zs : List Int) (B p : Nat) (n : Int) (W : World) (e : Ending) (w' : World) : Prop :=
  ((n < 0 ∨ len - p < n) ∧ e = .returned (.slice none 0 0) ∧ CurAt w' B a len cap zs p ∨
    ∃ m : Nat, n = m ∧ p + m ≤ len ∧ ∃ b, e = .returned (.slice b m (cap - p)) ∧ (∀ W', IntsAt W' a len zs → IntsAt W' b m ((zs.drop p).take m)) ∧ CurAt w' B a len cap zs (p + m)) ∧ W.grownBy w' (some B)

theorem part_ints {W : World} {a : Option Addr} {len p m : Nat} {zs : List Int} (h : IntsAt W a len zs) (hpm : p + m ≤ len) : IntsAt W (a.map fun x => x.add p) m ((zs.drop p).take m) := by
  obtain ⟨h1, h2⟩ := h
  refine ⟨by rw [List.length_take, List.length_drop]; omega, ?_⟩
  rcases h2 with h0 | ⟨b, off, ha, hc⟩
  · left; omega
  · right
    refine ⟨b, off + p, by rw [ha, Option.map_some, add_off], fun i z hz => ?_⟩
    rw [List.getElem?_take] at hz
    split at hz
    · rw [List.getElem?_drop] at hz
      rw [show off + p + i = off + (p + i) by omega]
      exact hc _ z hz
    · cases hz

/-- slices.Clone of numbers that lie somewhere. -/
theorem clone_c (b off len cap : Nat) (zs : List Int) (hl : len ≤ 2097152) (W : World) (hN : IntsAt W (some ⟨b, off, none⟩) len zs) :
    Calls Try.prog 77 #[.slice (some ⟨b, off, none⟩) len cap] W fun e W' => OwnsInts W.heap.size zs e W' ∧ Below W.heap.size W W' := by
  obtain ⟨i0, hi, hz0, hz1, hz2⟩ := info_parts infoInt
  have HE := Lib.hid hN.1
  have HN := Lib.hid hN
  have q23 : ∀ (w : World) (a : Option Addr) (n c n' c' : Nat), (binOp .eql 29 (.slice a n c) (.slice none n' c')).run Try.prog w = .ok (.bool a.isNone) w := fun w a n c n' c' => Lib.run_eql_slice_nil w _ _ a n c n' c' Try.underlying29
  clear hN
  go_enter Try.func77, Try.ntmps77
  go_wp2_with (at_builtin; refine wpList_append_own _ rfl _ _ 29 rfl W.heap.size 3 i0 (.int .i64 0) 1 8 Try.underlying29 hi hz0 hz1 hz2 rfl (by decide) _ _ _ rfl (World.ownsRow_lit (e := 3) (size := 1) W #[] 0 (Nat.le_refl _) (by simp [maxLen]) rfl) ⟨b, off, none⟩ len cap (intsV zs) rfl (by rw [intsV_length, HE.out]; omega) (fun j u h => cell_kept (below_box _ _) (ints_cells HN.out j u h)) (intsV_cells _) (by unfold maxLen; omega) (by omega) (by simp) ?_; intro v3 w3 ho3 hg3 hn3)
  have B3 : Below W.heap.size W w3 := (below_box W _).grown hg3 (by simp) (fun k e => by cases e; exact Nat.le_refl _)
  refine bodyPost_ret (v := v3) (by simp [results, Try.f77, go_sem]) rfl ⟨⟨v3, rfl, ?_⟩, B3⟩
  rw [HE.out, show len = 0 + len by omega]
  exact ho3

end Go.Proofs.Ytonbkmmddahlfaa
