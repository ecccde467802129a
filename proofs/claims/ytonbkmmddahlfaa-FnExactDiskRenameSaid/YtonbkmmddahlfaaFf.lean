/-
  WALKS: bodies that are drawn (spec.l91Body).
-/
import Derived.Test.YtonbkmmddahlfaaFe
namespace Go.Proofs.Ytonbkmmddahlfaa
open Go.RowKit
set_option linter.unusedVariables false

/-- A row of the call's own does not mind the reader. -/
theorem own_reader1 {W0 W W' : World} {B n : Nat} {e : TypeId} {v : Value} {xs : List Value} (h : W.ownsRow W0.heap.size e 1 v n xs) (hB : B < W0.heap.size) (hg : W.grownBy W' (some B)) : W'.ownsRow W0.heap.size e 1 v n xs := by
  refine h.kept hg ?_
  have hlt := h.lt
  cases hv : v.ownBlock with
  | none => simp
  | some g => have := (hlt g hv).1; simp; omega

/-- A drawn list of numbers, of the call's own. -/
def BodyDraw (N0 B p : Nat) (W : World) (e : Ending) (W' : World) : Prop :=
  ∃ (sl : Value) (zs : List Int) (q : Nat), e = .returned sl ∧ W'.ownsRow W.heap.size 3 1 sl zs.length (intsV zs) ∧ zs.length ≤ 17 ∧ (∀ z ∈ zs, -1 ≤ z ∧ z ≤ 256) ∧ q ≤ p + 23 ∧ RdAt N0 W' B q ∧ W.grownBy W' (some B)

def BodyRel (N0 B p : Nat) (NN : Nat) (W : World) (o i : Value) (wr : World) : Prop :=
  ∃ (zs : List Int) (q : Nat), i = .int .i64 (zs.length : Nat) ∧ zs.length ≤ NN ∧ wr.ownsRow W.heap.size 3 1 o zs.length (intsV zs) ∧ Hid (∀ z ∈ zs, (0 : Int) ≤ z ∧ z ≤ 255) ∧ Hid (q ≤ p + 3 + zs.length) ∧ RdAt N0 wr B q ∧ Hid (W.grownBy wr (some B))

/-- A number of a table that was made ahead of a draw. -/
theorem pick_cell {W W' : World} {B n : Nat} {r : Int} (t : TypeId) (ns : List Nat) (hB : B < W.heap.size) (hg : (W.alloc (.cells ((ns.map fun (k : Nat) => Value.int .i64 (k : Int)).toArray) t)).grownBy W' (some B)) (h0 : 0 ≤ r) (h1 : r < ns.length) (hm : ∀ k ∈ ns, k ≤ n) :
    ∃ NN : Nat, NN ≤ n ∧ W'.cell? ⟨W.heap.size, r.toNat, none⟩ = some (.int .i64 (NN : Int)) := by
  have hi : r.toNat < ns.length := by omega
  refine ⟨ns[r.toNat], hm _ (List.getElem_mem hi), ?_⟩
  have hb := hg.block W.heap.size (by simp) (by simp; omega)
  rw [World.cell?_of_block hb, World.cell?_alloc_new]
  simp [hi]

theorem own_slice1 {W : World} {base : Nat} {e : TypeId} {v : Value} {zs : List Int} (h : W.ownsRow base e 1 v zs.length (intsV zs)) (h0 : 0 < zs.length) : ∃ g cap, v = .slice (some ⟨g, 0, none⟩) zs.length cap ∧ base ≤ g ∧ g < W.heap.size := by
  rcases h.2 with ⟨_, h1⟩ | ⟨g, cap, cur, rfl, h1, h2, _⟩
  · omega
  · exact ⟨g, cap, rfl, h1, by rw [Array.getElem?_eq_some_iff] at h2; exact h2.1⟩

theorem own_store1 {W : World} {base : Nat} {e : TypeId} {g cap : Nat} {zs : List Int} (h : W.ownsRow base e 1 (.slice (some ⟨g, 0, none⟩) zs.length cap) zs.length (intsV zs)) (k : Nat) (z : Int) :
    (W.setCell ⟨g, k, none⟩ (.int .i64 z)).ownsRow base e 1 (.slice (some ⟨g, 0, none⟩) zs.length cap) (zs.set k z).length (intsV (zs.set k z)) := by
  have := (h.stored k (.int .i64 z)).1
  rw [List.length_set, show intsV (zs.set k z) = (intsV zs).set k (.int .i64 z) by unfold intsV; rw [List.map_set]]
  exact this

theorem own_cell1 {W : World} {base : Nat} {e : TypeId} {g cap : Nat} {zs : List Int} (h : W.ownsRow base e 1 (.slice (some ⟨g, 0, none⟩) zs.length cap) zs.length (intsV zs)) {k : Nat} (hk : k < zs.length) :
    W.cell? ⟨g, k, none⟩ = some (.int .i64 (zs[k]'hk)) := by
  rw [h.cellAt k (by omega)]
  unfold intsV
  rw [List.getElem?_map, List.getElem?_eq_getElem hk]; rfl

theorem pick_bad {W W' : World} {B : Nat} {r : Int} (t : TypeId) (hB : B < W.heap.size) (hg : (W.alloc (.cells #[.int .i64 (-1), .int .i64 256] t)).grownBy W' (some B)) (h0 : 0 ≤ r) (h1 : r < 2) :
    ∃ z : Int, -1 ≤ z ∧ z ≤ 256 ∧ W'.cell? ⟨W.heap.size, r.toNat, none⟩ = some (.int .i64 z) := by
  have hb := hg.block W.heap.size (by simp) (by simp; omega)
  have hr : r = 0 ∨ r = 1 := by omega
  rcases hr with rfl | rfl
  · refine ⟨-1, by omega, by omega, ?_⟩
    rw [World.cell?_of_block hb, World.cell?_alloc_new]; rfl
  · refine ⟨256, by omega, by omega, ?_⟩
    rw [World.cell?_of_block hb, World.cell?_alloc_new]; rfl

end Go.Proofs.Ytonbkmmddahlfaa
