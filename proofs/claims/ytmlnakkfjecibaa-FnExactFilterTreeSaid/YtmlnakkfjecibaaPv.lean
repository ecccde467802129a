/-
  WALKS: spec.l1Parent, spec.l1Under.
-/
import Derived.Test.YtmlnakkfjecibaaPa
import Derived.Test.YtmlnakkfjecibaaSa
namespace Go.Proofs.Ytmlnakkfjecibaa
open Go.RowKit

set_option maxHeartbeats 400000 in
set_option maxRecDepth 100000 in
theorem l1Parent_c (s : ByteArray) (hs : s.size ≤ 2097152) (h2 : 2 ≤ s.size) (w : World) :
    Calls Try.prog 61 #[.string s] w fun e w' => e = .returned (.string (l1pB s)) ∧ w = w' := by
  by_cases h : s.size ≤ 2
  · have h1 : (s.size : Int) ≤ 2 := by omega
    have hv : Hid (l1pB s = ⟨#[47]⟩) := if_pos h
    clear h
    go_enter Try.func61, Try.ntmps61
    go_wp2
    go_ret
    exact ⟨ret_str hv.out.symm, rfl⟩
  · obtain ⟨m, hm⟩ : ∃ m, s.size = m + 2 := ⟨s.size - 2, by omega⟩
    have hv : Hid (l1pB s = s.extract 0 m) := by show _ = _; unfold l1pB; rw [if_neg h, hm]; rfl
    have h1 : (2 : Int) < (m : Int) + 2 := by omega
    clear h h2
    go_enter Try.func61, Try.ntmps61
    go_wp2
    go_ret
    exact ⟨ret_str hv.out.symm, rfl⟩

set_option maxHeartbeats 400000 in
set_option maxRecDepth 100000 in
theorem l1Under_c (a b : ByteArray) (w : World) :
    Calls Try.prog 90 #[.string a, .string b] w fun e w' => e = .returned (.bool (l1uB a b)) ∧ w = w' := by
  obtain ⟨x1, h1⟩ : ∃ x, (a.toList == [47]) = x := ⟨_, rfl⟩
  obtain ⟨x2, h2⟩ : ∃ x, (b.toList == [47]) = x := ⟨_, rfl⟩
  obtain ⟨x4, h4⟩ : ∃ x, ((b.extract 0 a.size).toList == a.toList) = x := ⟨_, rfl⟩
  by_cases h3 : a.size < b.size
  · have hv : Hid (l1uB a b = ((x1 && !x2) || x4)) := by show _ = _; unfold l1uB; rw [h1, h2, h4, decide_eq_true h3]; rfl
    have h5 : (a.size : Int) < b.size := by omega
    have h6 : (0 : Int) ≤ a.size := by omega
    cases x1
    all_goals cases x2
    all_goals
      go_enter Try.func90, Try.ntmps90
      go_wp2
      go_ret
      exact ⟨ret_bool hv.out.symm, rfl⟩
  · have hv : Hid (l1uB a b = (x1 && !x2)) := by show _ = _; unfold l1uB; rw [h1, h2, decide_eq_false h3]; simp
    have h5 : (b.size : Int) ≤ a.size := by omega
    clear h3 h4
    cases x1
    all_goals cases x2
    all_goals
      go_enter Try.func90, Try.ntmps90
      go_wp2
      go_ret
      exact ⟨ret_bool hv.out.symm, rfl⟩

end Go.Proofs.Ytmlnakkfjecibaa
