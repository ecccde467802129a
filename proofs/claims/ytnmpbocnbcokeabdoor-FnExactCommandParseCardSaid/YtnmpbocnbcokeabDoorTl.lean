/-
  WALKS: spec.l3Put.
-/
import Derived.Maps.AppendAt
import Derived.OwnWalk
import Derived.RangeFuncBox
import Derived.Laws.OwnMore
import Derived.Test.YtnmpbocnbcokeabDoorTg
import Derived.Test.YtnmpbocnbcokeabDoorPa
import Derived.Test.YtnmpbocnbcokeabDoorPa
import Derived.Test.YtnmpbocnbcokeabDoorPa
import Derived.Test.YtnmpbocnbcokeabDoorPa
namespace Go.Proofs.YtnmpbocnbcokeabDoor
open Go.RowKit
/-- The cells of a list of nodes. -/
def flatN (ns : List Nd) : List Value := ns.flatMap (fun n => [.string n.p, .int .i64 n.k, .int .i64 n.v])

theorem flatN_nil : flatN [] = [] := rfl
theorem flatN_append (a b : List Nd) : flatN (a ++ b) = flatN a ++ flatN b := by unfold flatN; rw [List.flatMap_append]
theorem flatN_one (n : Nd) : flatN [n] = [.string n.p, .int .i64 n.k, .int .i64 n.v] := rfl
theorem flatN_length (ns : List Nd) : (flatN ns).length = ns.length * 3 := by
  induction ns with
  | nil => rfl
  | cons n r ih =>
    have : flatN (n :: r) = [.string n.p, .int .i64 n.k, .int .i64 n.v] ++ flatN r := rfl
    rw [this, List.length_append, ih]
    simp; omega

theorem flatN_get : ∀ (ns : List Nd) (i : Nat) (n : Nd), ns[i]? = some n → (flatN ns)[i * 3]? = some (.string n.p) ∧ (flatN ns)[i * 3 + 1]? = some (.int .i64 n.k) ∧ (flatN ns)[i * 3 + 2]? = some (.int .i64 n.v)
  | [], i, n, h => by simp at h
  | m :: r, 0, n, h => by
    simp at h
    subst h
    exact ⟨rfl, rfl, rfl⟩
  | m :: r, i + 1, n, h => by
    have ih := flatN_get r i n (by simpa using h)
    have e : flatN (m :: r) = .string m.p :: .int .i64 m.k :: .int .i64 m.v :: flatN r := rfl
    rw [e, show (i + 1) * 3 = i * 3 + 3 by omega]
    exact ih

/-- A list of nodes that is owned reads as one. -/
theorem nodes_of_own {W : World} {base : Nat} {e : TypeId} {v : Value} {ns : List Nd} (h : W.ownsRow base e 3 v ns.length (flatN ns)) :
    ∃ a cap, v = .slice a ns.length cap ∧ NodesAt W a ns.length ns := by
  rcases h.2 with ⟨rfl, h0⟩ | ⟨g, cap, cur, rfl, h1, h2, h3, h4, h5, h6⟩
  · exact ⟨none, 0, by rw [h0], rfl, .inl h0⟩
  · refine ⟨some ⟨g, 0, none⟩, cap, rfl, rfl, .inr ⟨g, 0, rfl, fun i n hn => ?_⟩⟩
    have hi := (List.getElem?_eq_some_iff.1 hn).1
    obtain ⟨f0, f1, f2⟩ := flatN_get ns i n hn
    refine ⟨?_, ?_, ?_⟩
    · rw [Nat.zero_add, h.cellAt (i * 3) (by omega)]; exact f0
    · rw [Nat.zero_add, h.cellAt (i * 3 + 1) (by omega)]; exact f1
    · rw [Nat.zero_add, h.cellAt (i * 3 + 2) (by omega)]; exact f2

theorem cell_three_new (w : World) (x y z : Value) (t : TypeId) : ∀ j u, [x, y, z][j]? = some u → (w.alloc (.cells #[x, y, z] t)).cell? ((⟨w.heap.size, 0, none⟩ : Addr).add j) = some u := by
  intro j u hj
  match j, hj with
  | 0, hj => simp at hj; subst hj; simp [Addr.add]
  | 1, hj => simp at hj; subst hj; simp [Addr.add]
  | 2, hj => simp at hj; subst hj; simp [Addr.add]

theorem putGo_lt {p : ByteArray} {k v : Int} {n : Nd} {r : List Nd} (h : ltB p n.p = true) : putGo p k v false (n :: r) = ⟨p, k, v⟩ :: n :: putGo p k v true r := by
  conv => lhs; unfold putGo
  rw [if_pos ⟨rfl, h⟩, if_neg (fun e => ltB_ne h e.symm)]
theorem putGo_eq {p : ByteArray} {k v : Int} {n : Nd} {r : List Nd} (h : ltB p n.p = false) (e : n.p = p) : putGo p k v false (n :: r) = ⟨p, k, v⟩ :: putGo p k v true r := by
  conv => lhs; unfold putGo
  rw [if_neg (fun c => by rw [h] at c; cases c.2), if_pos e, if_neg (by simp)]
theorem putGo_ne {p : ByteArray} {k v : Int} {n : Nd} {r : List Nd} (h : ltB p n.p = false) (e : n.p ≠ p) : putGo p k v false (n :: r) = n :: putGo p k v false r := by
  conv => lhs; unfold putGo
  rw [if_neg (fun c => by rw [h] at c; cases c.2), if_neg e]
theorem putGo_deq {p : ByteArray} {k v : Int} {n : Nd} {r : List Nd} (e : n.p = p) : putGo p k v true (n :: r) = putGo p k v true r := by
  conv => lhs; unfold putGo
  rw [if_neg (by simp), if_pos e, if_pos rfl]
theorem putGo_dne {p : ByteArray} {k v : Int} {n : Nd} {r : List Nd} (e : n.p ≠ p) : putGo p k v true (n :: r) = n :: putGo p k v true r := by
  conv => lhs; unfold putGo
  rw [if_neg (by simp), if_neg e]

theorem drop_cons {ns : List Nd} {i : Nat} {n : Nd} (h : ns[i]? = some n) : ns.drop i = n :: ns.drop (i + 1) := by
  obtain ⟨h1, h2⟩ := List.getElem?_eq_some_iff.1 h
  rw [List.drop_eq_getElem_cons h1, h2]

theorem own_reader {W W' : World} {base B : Nat} {e : TypeId} {size n : Nat} {v : Value} {xs : List Value} (h : W.ownsRow base e size v n xs) (hB : B < base) (hg : W.grownBy W' (some B)) : W'.ownsRow base e size v n xs := by
  refine h.kept hg ?_
  cases hv : v.ownBlock with
  | none => exact .inl rfl
  | some k =>
    right
    have := (h.lt k hv).1
    simp; omega

theorem own_below {W W' : World} {base : Nat} {e : TypeId} {size n : Nat} {v : Value} {xs : List Value} (h : W.ownsRow base e size v n xs) (hg : Below W.heap.size W W') : W'.ownsRow base e size v n xs :=
  h.kept (below_grown hg) (by cases hv : v.ownBlock <;> simp)

theorem NodesAt.at {W : World} {b off len : Nat} {ns : List Nd} {i : Nat} {n : Nd} (h : NodesAt W (some ⟨b, off, none⟩) len ns) (hn : ns[i]? = some n) :
    W.cell? ⟨b, off + i * 3, none⟩ = some (.string n.p) ∧ W.cell? ⟨b, off + i * 3 + 1, none⟩ = some (.int .i64 n.k) ∧ W.cell? ⟨b, off + i * 3 + 2, none⟩ = some (.int .i64 n.v) := by
  obtain ⟨h1, h0 | ⟨b', off', ha, hc⟩⟩ := h
  · have := (List.getElem?_eq_some_iff.1 hn).1; omega
  · simp at ha
    obtain ⟨rfl, rfl⟩ := ha
    exact hc i n hn

theorem own_mono {W : World} {b c : Nat} {e : TypeId} {size n : Nat} {v : Value} {xs : List Value} (h : W.ownsRow c e size v n xs) (hbc : b ≤ c) : W.ownsRow b e size v n xs := by
  obtain ⟨h1, h2 | ⟨g, cap, cur, h3, h4, h5⟩⟩ := h
  · exact ⟨h1, .inl h2⟩
  · exact ⟨h1, .inr ⟨g, cap, cur, h3, Nat.le_trans hbc h4, h5⟩⟩

theorem own_push {W : World} {b : Nat} {e : TypeId} {v : Value} {acc : List Nd} (x : Nd) (h : W.ownsRow b e 3 v (acc.length + 1) (flatN acc ++ [.string x.p, .int .i64 x.k, .int .i64 x.v])) : W.ownsRow b e 3 v (acc ++ [x]).length (flatN (acc ++ [x])) := by
  rw [flatN_append, flatN_one, List.length_append]; exact h

end Go.Proofs.YtnmpbocnbcokeabDoor
