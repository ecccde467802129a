/-
  WALKS: spec.TreeValid.
-/
import Derived.Deep.RegionHeld3
import Derived.Laws.Cover1
import Derived.Test.YtnmpbocnbcokeabDoorTa
import Derived.Test.YtnmpbocnbcokeabDoorSn
import Derived.Test.YtnmpbocnbcokeabDoorPv
namespace Go.Proofs.YtnmpbocnbcokeabDoor
open Go.RowKit
set_option linter.unusedVariables false

/-- All texts of a list of nodes are of modest length. -/
def Short (m : Nat) (ns : List Nd) : Prop := ∀ n ∈ ns, n.p.size ≤ m

/-- The first test on a node at a place (spec.TreeValid's first 'if'). -/
def bad1 (ns : List Nd) (i : Nat) (n : Nd) : Bool :=
  decide (depB n.p < 1) || !validB n.k n.v || (n.k == 0) || (match i with | 0 => false | j + 1 => (match ns[j]? with | some m => !ltB m.p n.p | none => false))

theorem field_kind (k v : Int) (W : World) : (Instr.field 23 (.agg #[.int .i64 k, .int .i64 v]) 0).run Tryd.prog W = .ok (.int .i64 k) W := by kernel_rfl

theorem bad1_succ {ns : List Nd} {j : Nat} {m n : Nd} (hm : ns[j]? = some m) : bad1 ns (j + 1) n = (decide (depB n.p < 1) || !validB n.k n.v || (n.k == 0) || !ltB m.p n.p) := by
  unfold bad1; simp [hm]

theorem okAt_eq {ns : List Nd} {i : Nat} {n : Nd} (hn : ns[i]? = some n) : okAt ns i = (!bad1 ns i n && ((getT ns (parB n.p)).1 == 1)) := by
  unfold okAt bad1
  rw [hn]
  have e : decide (1 ≤ depB n.p) = !decide (depB n.p < 1) := by
    by_cases h : depB n.p < 1
    · rw [decide_eq_true h, decide_eq_false (by omega)]; rfl
    · rw [decide_eq_false h, decide_eq_true (by omega)]; rfl
  simp only [e]
  cases i with
  | zero => simp
  | succ j =>
    cases h : ns[j]? with
    | none => simp [h]
    | some m => simp [h]

theorem validT_bad {ns : List Nd} {i : Nat} (hi : i < ns.length) (h : okAt ns i = false) : validT ns = false := by
  unfold validT
  rw [Bool.and_eq_false_iff]
  left
  rw [List.all_eq_false]
  exact ⟨i, List.mem_range.2 hi, by rw [h]; simp⟩

theorem validT_all {ns : List Nd} (h : ∀ j, j < ns.length → okAt ns j = true) : validT ns = decide (ns.length ≤ 10) := by
  unfold validT
  rw [List.all_eq_true.2 (fun j hj => h j (List.mem_range.1 hj))]
  simp

theorem dec_le (len : Nat) : decide (len ≤ 10) = decide ((len : Int) ≤ 10) := by
  by_cases h : len ≤ 10
  · rw [decide_eq_true h, decide_eq_true (by omega)]
  · rw [decide_eq_false h, decide_eq_false (by omega)]

theorem keep3 {w W W' : World} {a b c : Addr} {va vb vc : Value} (h : W.cell? a = some va ∧ W.cell? b = some vb ∧ W.cell? c = some vc ∧ Below w.heap.size w W) (hb : Below W.heap.size W W') :
    W'.cell? a = some va ∧ W'.cell? b = some vb ∧ W'.cell? c = some vc ∧ Below w.heap.size w W' :=
  ⟨cell_kept hb h.1, cell_kept hb h.2.1, cell_kept hb h.2.2.1, below_next h.2.2.2 hb⟩

theorem keep4 {w W W' : World} {a b c d : Addr} {va vb vc vd : Value} (h : W.cell? a = some va ∧ W.cell? b = some vb ∧ W.cell? c = some vc ∧ W.cell? d = some vd ∧ Below w.heap.size w W) (hb : Below W.heap.size W W') :
    W'.cell? a = some va ∧ W'.cell? b = some vb ∧ W'.cell? c = some vc ∧ W'.cell? d = some vd ∧ Below w.heap.size w W' :=
  ⟨cell_kept hb h.1, cell_kept hb h.2.1, cell_kept hb h.2.2.1, cell_kept hb h.2.2.2.1, below_next h.2.2.2.2 hb⟩

theorem size_of_depth {p : ByteArray} (h : 1 ≤ depB p) : 2 ≤ p.size := by
  obtain ⟨m, k1, -⟩ := Pm.last_facts p.data.toList h
  rw [Lib.size_eq]; omega

theorem below_succ {ns : List Nd} {i : Nat} (h : ∀ j, j < i → okAt ns j = true) (h1 : okAt ns i = true) : Hid (∀ j, j < i + 1 → okAt ns j = true) := by
  intro j hj
  by_cases e : j < i
  · exact h j e
  · have : j = i := by omega
    subst this; exact h1

def VRel (ns : List Nd) (W : World) (i : Value) (wr : World) : Prop :=
  ∃ n : Nat, i = .int .i64 n ∧ n ≤ ns.length ∧ Hid (∀ j, j < n → okAt ns j = true) ∧ Hid (Below W.heap.size W wr)

end Go.Proofs.YtnmpbocnbcokeabDoor
