/-
  WALKS: spec.TreePut.
-/
import Derived.Test.YtnmpbocnbcokeabDoorTl
namespace Go.Proofs.YtnmpbocnbcokeabDoor
open Go.RowKit
theorem short_put {m : Nat} {ns : List Nd} {p : ByteArray} {k v : Int} (h : Short m ns) (hp : p.size ≤ m) : Short m (putL ns p k v) := by
  intro n hn
  rcases putL_mem.1 hn with ⟨_, rfl⟩ | ⟨h1, _⟩
  · exact hp
  · exact h n h1

theorem putL_len_le {ns : List Nd} {p : ByteArray} {k v : Int} : (putL ns p k v).length ≤ ns.length + 1 := by
  unfold putL
  cases k == 0 with
  | true => rw [putGo_true]; have := List.length_filter_le (fun n : Nd => decide (n.p ≠ p)) ns; omega
  | false => rw [putGo_length]; have := List.length_filter_le (fun n : Nd => decide (n.p ≠ p)) ns; omega

end Go.Proofs.YtnmpbocnbcokeabDoor
