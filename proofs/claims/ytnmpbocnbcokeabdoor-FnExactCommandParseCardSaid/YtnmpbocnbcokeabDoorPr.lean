/-
  PLAIN MATHEMATICS: what a text names as a content.
-/
import Derived.Lib.AtoiAll
import Derived.Lib.AtoiAllCases
import Derived.Test.YtnmpbocnbcokeabDoorCt
namespace Go.Proofs.YtnmpbocnbcokeabDoor

/-- The text of a file. -/
def fB (n : Nat) : ByteArray := ⟨#[102]⟩ ++ decB n

/-- The value that a text names, if it is that of a file. -/
def findF (s : ByteArray) : Option Nat := (List.range 100).find? (fun n => decide (s = fB n))

/-- What a text names: kind, value, and whether it is the text of a content. -/
def parseR (s : ByteArray) : Int × Int × Bool :=
  if s = ⟨#[45]⟩ then (0, 0, true) else if s = ⟨#[100]⟩ then (1, 0, true) else match findF s with
    | some n => (2, n, true)
    | none => (0, 0, false)

theorem toNat_digit {i : Nat} (h : i < 10) : (UInt8.ofNat (48 + i)).toNat = 48 + i := by
  rw [UInt8.toNat_ofNat']; omega

theorem atoi_dec {n : Nat} (h : n < 100) : Lib.atoiAll (Lib.decDigits n) = .ok (n : Int) := by
  by_cases h1 : n < 10
  · rw [Lib.decDigits_one h1]
    have t := toNat_digit h1
    rw [Lib.atoiAll_plain _ _ (by omega) (by omega)]
    have e3 : 48 ≤ 48 + n ∧ 48 + n ≤ 57 := by omega
    simp only [Lib.parseMag, List.cons_ne_nil, if_false, Lib.parseUint10, t, if_pos e3]
    rw [if_neg (by omega), if_neg (by omega), show 0 * 10 + (48 + n - 48) = n by omega]
    unfold Lib.signless
    simp
    omega
  · rw [Lib.decDigits_two h1 h]
    have ta := toNat_digit (show n / 10 < 10 by omega)
    have tb := toNat_digit (show n % 10 < 10 by omega)
    rw [Lib.atoiAll_plain _ _ (by omega) (by omega)]
    have e3 : 48 ≤ 48 + n / 10 ∧ 48 + n / 10 ≤ 57 := by omega
    have e4 : 48 ≤ 48 + n % 10 ∧ 48 + n % 10 ≤ 57 := by omega
    simp only [Lib.parseMag, List.cons_ne_nil, if_false, Lib.parseUint10, ta, tb, if_pos e3, if_pos e4]
    rw [if_neg (by omega), if_neg (by omega), if_neg (by omega), if_neg (by omega), show (0 * 10 + (48 + n / 10 - 48)) * 10 + (48 + n % 10 - 48) = n by omega]
    unfold Lib.signless
    simp
    omega

theorem fB_data (n : Nat) : (fB n).data.toList = 102 :: Lib.decDigits n := by
  unfold fB decB
  rw [ByteArray.data_append]
  simp

theorem fB_inj {a b : Nat} (ha : a < 100) (hb : b < 100) (h : fB a = fB b) : a = b := by
  have e : Lib.decDigits a = Lib.decDigits b := by
    have := congrArg (fun s : ByteArray => s.data.toList) h
    simpa [fB_data] using this
  have h1 := atoi_dec ha
  rw [e, atoi_dec hb] at h1
  injection h1 with h1
  omega

theorem findF_some {s : ByteArray} {n : Nat} (h : findF s = some n) : n < 100 ∧ s = fB n := by
  unfold findF at h
  have h1 := List.find?_some h
  have h2 := List.mem_of_find?_eq_some h
  exact ⟨List.mem_range.1 h2, by simpa using h1⟩

theorem findF_fB {n : Nat} (h : n < 100) : findF (fB n) = some n := by
  cases hf : findF (fB n) with
  | some m =>
    obtain ⟨hm, he⟩ := findF_some hf
    rw [fB_inj h hm he]
  | none =>
    unfold findF at hf
    rw [List.find?_eq_none] at hf
    exact absurd (by simp) (hf n (List.mem_range.2 h))

theorem findF_none {s : ByteArray} (h : ∀ n, n < 100 → s ≠ fB n) : findF s = none := by
  unfold findF
  rw [List.find?_eq_none]
  intro n hn
  simpa using h n (List.mem_range.1 hn)

theorem conText_file {n : Nat} (h : n < 100) : conText 2 n = fB n := by
  have : validB 2 (n : Int) = true := by unfold validB; simp; omega
  unfold conText; rw [this]; rfl

/-- What is read as a value and is written alike is the text of a file. -/
theorem conText_is {v : Int} {s : ByteArray} (h : conText 2 v = s) (hs : s ≠ ⟨#[]⟩) : ∃ n : Nat, n < 100 ∧ v = n ∧ s = fB n := by
  by_cases hv : validB 2 v = true
  · have hv' := hv
    unfold validB at hv'
    simp at hv'
    obtain ⟨n, rfl⟩ := Int.eq_ofNat_of_zero_le hv'.1
    exact ⟨n, by omega, rfl, by rw [← h, conText_file (by omega)]⟩
  · exact absurd (by rw [← h, ← conText_bad (by simpa using hv)]) hs

end Go.Proofs.YtnmpbocnbcokeabDoor
