/-
  PathNormal's contracts, as the laws use them.
-/
import Derived.Test.YtlnjcikoeiffgaaNi
import Derived.Test.YtlnjcikoeiffgaaDn
namespace Go.Proofs.Ytlnjcikoeiffgaa
open Go.RowKit

theorem normI_no {s : ByteArray} (h : Pm.normal s.data.toList = none) (w : World) : Calls Try.prog 28 #[.string s] w fun e w' => e = .returned (.tuple #[.string ⟨#[]⟩, .bool false]) ∧ Below w.heap.size w w' := by
  obtain ⟨h1, h2⟩ := norm_none h
  have := pathNormal_c s w
  unfold NormPost at this
  rwa [h1, h2] at this
theorem normS_no {s : ByteArray} (h : Pm.normal s.data.toList = none) (w : World) : Calls Try.prog 29 #[.string s] w fun e w' => e = .returned (.tuple #[.string ⟨#[]⟩, .bool false]) ∧ Below w.heap.size w w' := by
  obtain ⟨h1, h2⟩ := norm_none h
  have := specNormal_c s w
  unfold NormPost at this
  rwa [h1, h2] at this
theorem normI_yes {s q : ByteArray} (h : Pm.normal s.data.toList = some q.data.toList) (w : World) : Calls Try.prog 28 #[.string s] w fun e w' => e = .returned (.tuple #[.string q, .bool true]) ∧ Below w.heap.size w w' := by
  obtain ⟨h1, h2⟩ := norm_some h
  have := pathNormal_c s w
  unfold NormPost at this
  rwa [h1, h2] at this
theorem normS_yes {s q : ByteArray} (h : Pm.normal s.data.toList = some q.data.toList) (w : World) : Calls Try.prog 29 #[.string s] w fun e w' => e = .returned (.tuple #[.string q, .bool true]) ∧ Below w.heap.size w w' := by
  obtain ⟨h1, h2⟩ := norm_some h
  have := specNormal_c s w
  unfold NormPost at this
  rwa [h1, h2] at this

theorem normal_cases (s : ByteArray) : Pm.normal s.data.toList = none ∨ ∃ q : ByteArray, Pm.normal s.data.toList = some q.data.toList := by
  cases h : Pm.normal s.data.toList with
  | none => exact .inl rfl
  | some p => exact .inr ⟨⟨⟨p⟩⟩, rfl⟩

theorem append_data (a b : ByteArray) : (a ++ b).data.toList = a.data.toList ++ b.data.toList := by
  rw [ByteArray.data_append, Array.toList_append]

end Go.Proofs.Ytlnjcikoeiffgaa
