/-
  TEXTS OF PLACES: what stands ahead of a name (strings.TrimSuffix of a slash, and a slash).
-/
import Derived.Test.YtkoopkaoojhfhaaSa
import Derived.Test.YtkoopkaoojhfhaaWd
namespace Go.Proofs.Ytkoopkaoojhfhaa
open Go.RowKit

def begB (v : List UInt8) : ByteArray := if v = [] then ⟨#[47]⟩ else pB v ++ ⟨#[47]⟩

theorem begB_name (v : List UInt8) (c : UInt8) : begB v ++ ⟨#[c]⟩ = pB (v ++ [c]) := by
  unfold begB
  by_cases h : v = []
  · rw [if_pos h, h]; rfl
  · rw [if_neg h]
    apply ByteArray.ext
    apply Array.ext'
    simp only [ByteArray.data_append, Array.toList_append]
    rw [pB_list, pB_list]
    unfold Pm.pathOf
    rw [if_neg h, if_neg (by simp), Pm.flat_append, List.append_assoc]
    rfl

theorem pB_last {v : List UInt8} (hv : Wrd v) (hn : v ≠ []) : ∃ m c, (pB v).size = m + 1 ∧ ((pB v).extract m (m + 1)).toList = [c] ∧ c ≠ 47 := by
  have e := Pm.flat_last v hn
  have hs : (pB v).data.toList = Pm.flat v.dropLast ++ [47, v.getLast hn] := by
    rw [pB_list]; unfold Pm.pathOf; rw [if_neg hn]; exact e
  have hz : (pB v).size = (Pm.flat v.dropLast ++ [47, v.getLast hn]).length := by rw [← hs]; rfl
  refine ⟨(Pm.flat v.dropLast).length + 1, v.getLast hn, by rw [hz]; simp, ?_, Pm.letter_not_47 (hv.2 _ (List.getLast_mem hn))⟩
  rw [Lib.toList_data, ByteArray.data_extract, Array.toList_extract, hs]
  simp [List.extract_eq_take_drop]

set_option maxHeartbeats 400000 in
theorem hasSuffix_word {v : List UInt8} (hv : Wrd v) (hn : v ≠ []) (w : World) :
    Calls Try.prog 84 #[.string (pB v), .string ⟨#[47]⟩] w fun e w' => e = .returned (.bool false) ∧ w' = w := by
  obtain ⟨m, c, h1, h2, h3⟩ := pB_last hv hn
  have hmax : m ≤ 7 := by
    have : (pB v).size ≤ 8 := by
      show (Pm.pathOf v).length ≤ 8
      unfold Pm.pathOf; rw [if_neg hn, Pm.flat_length]; have := hv.1; omega
    omega
  obtain ⟨s, hs⟩ : ∃ s, s = pB v := ⟨_, rfl⟩
  rw [← hs] at h1 h2 ⊢
  clear hs
  have e1 : ((m : Int) + 1 - 1).toNat = m := by omega
  have e2 : (c == 47) = false := by simpa using h3
  have e3 : (1 : Int) ≤ m + 1 := by omega
  clear h3
  go_enter Try.func84, Try.ntmps84
  go_wp2
  go_ret
  exact ⟨rfl, rfl⟩

set_option maxHeartbeats 400000 in
theorem hasSuffix_root (w : World) :
    Calls Try.prog 84 #[.string ⟨#[47]⟩, .string ⟨#[47]⟩] w fun e w' => e = .returned (.bool true) ∧ w' = w := by
  have h : (((⟨#[47]⟩ : ByteArray).extract 0 1).toList == [47]) = true := by rw [Lib.toList_data]; rfl
  go_enter Try.func84, Try.ntmps84
  go_wp2
  go_ret
  exact ⟨rfl, rfl⟩

set_option maxHeartbeats 400000 in
theorem slTrim_c {v : List UInt8} (hv : Wrd v) (w : World) :
    Calls Try.prog 81 #[.string (pB v), .string ⟨#[47]⟩] w fun e w' => e = .returned (.string (if v = [] then ⟨#[]⟩ else pB v)) ∧ w' = w := by
  by_cases hn : v = []
  · subst hn
    rw [if_pos rfl]
    have hc := fun w => hasSuffix_root w
    show Calls Try.prog 81 #[.string ⟨#[47]⟩, .string ⟨#[47]⟩] w _
    go_enter Try.func81, Try.ntmps81
    go_wp2_with (go_at_call 84; refine (hc _).mono ?_; rintro e w' ⟨rfl, rfl⟩)
    go_ret
    exact ⟨rfl, rfl⟩
  · rw [if_neg hn]
    have hc := fun w => hasSuffix_word hv hn w
    generalize pB v = s at hc ⊢
    go_enter Try.func81, Try.ntmps81
    go_wp2_with (go_at_call 84; refine (hc _).mono ?_; rintro e w' ⟨rfl, rfl⟩)
    go_ret
    exact ⟨rfl, rfl⟩

set_option maxHeartbeats 400000 in
theorem trim_c {v : List UInt8} (hv : Wrd v) (w : World) :
    Calls Try.prog 76 #[.string (pB v), .string ⟨#[47]⟩] w fun e w' => e = .returned (.string (if v = [] then ⟨#[]⟩ else pB v)) ∧ w' = w := by
  have hc := fun w => slTrim_c hv w
  generalize pB v = s at hc ⊢
  generalize (if v = [] then (⟨#[]⟩ : ByteArray) else s) = t at hc ⊢
  go_enter Try.func76, Try.ntmps76
  go_wp2_with (go_at_call 81; refine (hc _).mono ?_; rintro e w' ⟨rfl, rfl⟩)
  go_ret
  exact ⟨rfl, rfl⟩

theorem beg_eq (v : List UInt8) : (if v = [] then (⟨#[]⟩ : ByteArray) else pB v) ++ ⟨#[47]⟩ = begB v := by
  unfold begB; split <;> rfl

end Go.Proofs.Ytkoopkaoojhfhaa
