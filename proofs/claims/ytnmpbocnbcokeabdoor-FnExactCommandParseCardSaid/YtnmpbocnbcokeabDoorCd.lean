/-
  WALKS: contents that are drawn (spec.l91Content).
-/
import Derived.Test.YtnmpbocnbcokeabDoorCv
namespace Go.Proofs.YtnmpbocnbcokeabDoor
open Go.RowKit
set_option linter.unusedVariables false

/-- A drawn content: its numbers are small; the reader some places on. -/
def ConDraw (N0 B p : Nat) (W : World) (e : Ending) (W' : World) : Prop :=
  ∃ (k v : Int) (q : Nat), e = .returned (con k v) ∧ -1 ≤ k ∧ k ≤ 3 ∧ -1 ≤ v ∧ v ≤ 100 ∧ q ≤ p + 4 ∧ RdAt N0 W' B q ∧ W.grownBy W' (some B)

theorem con_draw {N0 B p : Nat} {W W' : World} (k v : Int) (q : Nat) (hk : -1 ≤ k ∧ k ≤ 3) (hv : -1 ≤ v ∧ v ≤ 100) (hq : q ≤ p + 4) (hR : RdAt N0 W' B q) (hg : W.grownBy W' (some B)) :
    ConDraw N0 B p W (.returned (con k v)) W' := ⟨k, v, q, rfl, hk.1, hk.2, hv.1, hv.2, hq, hR, hg⟩

/-- What stands in a new block of two numbers, when a reader has gone on. -/
theorem new_pair {W W1 : World} {B : Nat} {a b : Value} {t : TypeId} (hg : (W.alloc (.cells #[a, b] t)).grownBy W1 (some B)) (hB : B < W.heap.size) :
    W1.cell? ⟨W.heap.size, 0, none⟩ = some a ∧ W1.cell? ⟨W.heap.size, 1, none⟩ = some b ∧ W1.frozen? ⟨W.heap.size, 0, none⟩ = false ∧ W1.frozen? ⟨W.heap.size, 1, none⟩ = false ∧ W.heap.size < W1.heap.size := by
  have hne : some W.heap.size ≠ some B := by simp; omega
  have hs : W.heap.size < (W.alloc (.cells #[a, b] t)).heap.size := by simp
  have hb := hg.block W.heap.size hs hne
  have hz := hg.size
  refine ⟨hg.cell (by rw [World.cell?_alloc_new]; rfl) hne, hg.cell (by rw [World.cell?_alloc_new]; rfl) hne, (World.frozen?_of_block hb).trans ?_, (World.frozen?_of_block hb).trans ?_, by omega⟩
  · simp only [World.frozen?, World.alloc_heap_new]; rfl
  · simp only [World.frozen?, World.alloc_heap_new]; rfl

theorem set_same {W : World} {a : Addr} {v u : Value} (h : W.cell? a = some u) : (W.setCell a v).cell? a = some v := by
  rw [World.cell?_setCell_same W a v h]

theorem set_two {W : World} {n : Nat} {a b u v : Value} (c0 : W.cell? ⟨n, 0, none⟩ = some u) (c1 : W.cell? ⟨n, 1, none⟩ = some v) :
    ((W.setCell ⟨n, 0, none⟩ a).setCell ⟨n, 1, none⟩ b).cell? ⟨n, 0, none⟩ = some a ∧ ((W.setCell ⟨n, 0, none⟩ a).setCell ⟨n, 1, none⟩ b).cell? ⟨n, 1, none⟩ = some b := by
  refine ⟨?_, set_same (u := v) ?_⟩
  · rw [World.cell?_setCell_other _ _ _ _ (by simp)]; exact set_same c0
  · rw [World.cell?_setCell_other _ _ _ _ (by simp)]; exact c1

theorem con_results (fn : Func) (hf : fn.results = #[.cell 2 23]) (W : World) (n : Nat) (k v : Int) (tmps : Array Value) (ht : tmps[2]? = some (.pointer (some ⟨n, 0, none⟩)))
    (h : W.cell? ⟨n, 0, none⟩ = some (.int .i64 k) ∧ W.cell? ⟨n, 1, none⟩ = some (.int .i64 v)) : (results fn tmps).run Tryd.prog W = .ok (con k v) W := by
  obtain ⟨c0, c1⟩ := h
  simp [results, hf, go_sem, ht, c0, c1]

/-- Two numbers in a block of the call's own. -/
def Two (W : World) (n : Nat) (a b : Value) : Prop :=
  W.cell? ⟨n, 0, none⟩ = some a ∧ W.cell? ⟨n, 1, none⟩ = some b ∧ W.frozen? ⟨n, 0, none⟩ = false ∧ W.frozen? ⟨n, 1, none⟩ = false ∧ n < W.heap.size

theorem Two.keep {W W' : World} {n B : Nat} {a b : Value} (h : Two W n a b) (hg : W.grownBy W' (some B)) (hB : n ≠ B) : Two W' n a b := by
  obtain ⟨c0, c1, f0, f1, hz⟩ := h
  have hne : some n ≠ some B := by simpa using hB
  have hb := hg.block n hz hne
  have hs := hg.size
  exact ⟨hg.cell c0 hne, hg.cell c1 hne, (World.frozen?_of_block hb).trans f0, (World.frozen?_of_block hb).trans f1, by omega⟩

theorem Two.below {W W' : World} {n : Nat} {a b : Value} (h : Two W n a b) (hg : Below W.heap.size W W') : Two W' n a b := by
  obtain ⟨c0, c1, f0, f1, hz⟩ := h
  exact ⟨(hg.cell (p := ⟨n, 0, none⟩) hz).trans c0, (hg.cell (p := ⟨n, 1, none⟩) hz).trans c1, (World.frozen?_of_block (hg.block n hz)).trans f0, (World.frozen?_of_block (hg.block n hz)).trans f1, Nat.lt_of_lt_of_le hz hg.size⟩

theorem two_new (W : World) (a b : Value) (t : TypeId) : Two (W.alloc (.cells #[a, b] t)) W.heap.size a b := by
  refine ⟨by rw [World.cell?_alloc_new]; rfl, by rw [World.cell?_alloc_new]; rfl, ?_, ?_, by simp⟩
  · simp only [World.frozen?, World.alloc_heap_new]; rfl
  · simp only [World.frozen?, World.alloc_heap_new]; rfl

theorem Two.set0 {W : World} {n : Nat} {a b c : Value} (h : Two W n a b) : Two (W.setCell ⟨n, 0, none⟩ c) n c b := by
  obtain ⟨c0, c1, f0, f1, hz⟩ := h
  exact ⟨set_same c0, by rw [World.cell?_setCell_other _ _ _ _ (by simp)]; exact c1, by rw [World.frozen?_setCell]; exact f0, by rw [World.frozen?_setCell]; exact f1, by simpa [World.setCell] using hz⟩

theorem Two.set1 {W : World} {n : Nat} {a b c : Value} (h : Two W n a b) : Two (W.setCell ⟨n, 1, none⟩ c) n a c := by
  obtain ⟨c0, c1, f0, f1, hz⟩ := h
  exact ⟨by rw [World.cell?_setCell_other _ _ _ _ (by simp)]; exact c0, set_same c1, by rw [World.frozen?_setCell]; exact f0, by rw [World.frozen?_setCell]; exact f1, by simpa [World.setCell] using hz⟩

theorem Two.setOther {W : World} {n : Nat} {a b c : Value} {x : Addr} (h : Two W n a b) (hx : x.block ≠ n) : Two (W.setCell x c) n a b := by
  obtain ⟨c0, c1, f0, f1, hz⟩ := h
  exact ⟨by rw [World.cell?_setCell_other _ _ _ _ (fun e => hx (congrArg Addr.block e))]; exact c0, by rw [World.cell?_setCell_other _ _ _ _ (fun e => hx (congrArg Addr.block e))]; exact c1, by rw [World.frozen?_setCell]; exact f0, by rw [World.frozen?_setCell]; exact f1, by simpa [World.setCell] using hz⟩

end Go.Proofs.YtnmpbocnbcokeabDoor
