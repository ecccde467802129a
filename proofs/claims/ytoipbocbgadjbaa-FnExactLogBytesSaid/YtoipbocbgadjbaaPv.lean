/-
  WALKS: spec.l1Parent, spec.l1Under.
-/
import Derived.Test.YtoipbocbgadjbaaPa
import Derived.Test.YtoipbocbgadjbaaSa
namespace Go.Proofs.Ytoipbocbgadjbaa
open Go.RowKit

set_option maxHeartbeats 400000 in
set_option maxRecDepth 100000 in
theorem l1Parent_c (s : ByteArray) (hs : s.size ≤ 2097152) (h2 : 2 ≤ s.size) (w : World) :
    Calls Try.prog 83 #[.string s] w fun e w' => e = .returned (.string (l1pB s)) ∧ w = w' := by
  by_cases h : s.size ≤ 2
  · have h1 : (s.size : Int) ≤ 2 := by omega
    have hv : Hid (l1pB s = ⟨#[47]⟩) := if_pos h
    clear h
    go_enter Try.func83, Try.ntmps83
    go_wp2
    go_ret
    exact ⟨ret_str hv.out.symm, rfl⟩
  · obtain ⟨m, hm⟩ : ∃ m, s.size = m + 2 := ⟨s.size - 2, by omega⟩
    have hv : Hid (l1pB s = s.extract 0 m) := by show _ = _; unfold l1pB; rw [if_neg h, hm]; rfl
    have h1 : (2 : Int) < (m : Int) + 2 := by omega
    clear h h2
    go_enter Try.func83, Try.ntmps83
    go_wp2
    go_ret
    exact ⟨ret_str hv.out.symm, rfl⟩

end Go.Proofs.Ytoipbocbgadjbaa
