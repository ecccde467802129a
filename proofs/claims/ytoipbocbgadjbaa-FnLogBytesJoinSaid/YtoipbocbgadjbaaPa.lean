/-
  PLAIN: parents and prefixes of texts, as values.
-/
import Derived.Test.YtoipbocbgadjbaaBn
import Derived.Test.YtoipbocbgadjbaaPq
namespace Go.Proofs.Ytoipbocbgadjbaa
open Go.RowKit

theorem ret_str {a b : ByteArray} (h : a = b) : Ending.returned (.string a) = .returned (.string b) := by rw [h]

def pfxB (s p : ByteArray) : Bool := decide (p.size ≤ s.size) && ((s.extract 0 p.size).toList == p.toList)

theorem pfxB_eq (s p : ByteArray) : pfxB s p = (decide (p.data.toList.length ≤ s.data.toList.length) && s.data.toList.take p.data.toList.length == p.data.toList) := by
  unfold pfxB
  rw [Lib.extract_toList, Lib.toList_data, Lib.size_eq, Lib.size_eq]; simp

theorem toNat_47 {c : UInt8} (h : c = 47) : ((c.toNat : Int) == 47) = true := by subst h; decide
theorem toNat_not_47 {c : UInt8} (h : c ≠ 47) : ((c.toNat : Int) == 47) = false := by
  rw [beq_eq_false_iff_ne]
  intro e
  exact h (UInt8.toNat_inj.1 (by show c.toNat = 47; omega))

def parentB (s : ByteArray) : ByteArray := ⟨⟨Pm.parent s.data.toList⟩⟩

def l1pB (s : ByteArray) : ByteArray := if s.size ≤ 2 then ⟨#[47]⟩ else s.extract 0 (s.size - 2)

def underB (a b : ByteArray) : Bool := Pm.under a.data.toList b.data.toList

def l1uB (a b : ByteArray) : Bool := (a.toList == [47] && !(b.toList == [47])) || (decide (a.size < b.size) && (b.extract 0 a.size).toList == a.toList)

theorem underB_eq (a b : ByteArray) : underB a b = (Pm.valid a.data.toList && Pm.valid b.data.toList && l1uB a b) := by
  unfold underB Pm.under l1uB
  rw [Lib.extract_toList, Lib.toList_data, Lib.toList_data, Lib.size_eq, Lib.size_eq]
  simp

theorem parentB_size (s : ByteArray) (m : Nat) (h : s.size ≤ m) (h1 : 1 ≤ m) : (parentB s).size ≤ m := by
  show (Pm.parent s.data.toList).length ≤ m
  unfold Pm.parent
  split
  · exact Nat.zero_le _
  · split
    · exact h1
    · rw [List.length_take, ← Lib.size_eq]; omega

theorem toList_ne {a b : ByteArray} (h : a ≠ b) : (a.toList == b.toList) = false := by
  rw [Lib.toList_data, Lib.toList_data]
  simpa using fun e => h (by rw [← Lib.mk_data a, ← Lib.mk_data b, e])

theorem l1pB_parent (s : ByteArray) (h : 1 ≤ Pm.depth s.data.toList) : l1pB s = parentB s := by
  obtain ⟨m, k1, k2, ⟨c, k3, k4⟩, k5, k6⟩ := Pm.last_facts s.data.toList h
  have hsz : s.size = m + 2 := by rw [Lib.size_eq]; exact k1
  unfold parentB l1pB
  rw [k5, ← Lib.size_eq]
  by_cases h : s.size ≤ 2
  · rw [if_pos h, if_pos h]
  · rw [if_neg h, if_neg h, Lib.extract_eq, hsz]; simp

end Go.Proofs.Ytoipbocbgadjbaa
