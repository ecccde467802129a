/-
  TEXTS: what stands behind a path that is a text's beginning (strings.TrimPrefix).
-/
import Derived.Test.YtncceljffcjoiaaSa
import Derived.Test.YtncceljffcjoiaaMi
import Derived.Test.YtncceljffcjoiaaPi
namespace Go.Proofs.Ytncceljffcjoiaa
open Go.RowKit
set_option linter.unusedVariables false

set_option maxHeartbeats 400000 in
set_option maxRecDepth 100000 in
theorem hasPrefix_yes (s p : ByteArray) (h : p.size ≤ s.size) (he : ((s.extract 0 p.size).toList == p.toList) = true) (w : World) :
    Calls Try.prog 54 #[.string s, .string p] w fun e w' => e = .returned (.bool true) ∧ w' = w := by
  have h1 : (p.size : Int) ≤ s.size := by omega
  clear h
  go_enter Try.func54, Try.ntmps54
  go_wp2
  go_ret
  exact ⟨rfl, rfl⟩

set_option maxHeartbeats 400000 in
set_option maxRecDepth 100000 in
theorem slTrimPrefix_c (s p : ByteArray) (h : p.size ≤ s.size) (he : ((s.extract 0 p.size).toList == p.toList) = true) (w : World) :
    Calls Try.prog 67 #[.string s, .string p] w fun e w' => e = .returned (.string (s.extract p.size s.size)) ∧ w' = w := by
  have hc := Lib.hid (fun w => hasPrefix_yes s p h he w)
  have h1 : (p.size : Int) ≤ s.size := by omega
  clear h he
  go_enter Try.func67, Try.ntmps67
  go_wp2_with (go_at_call 54; refine (hc.out _).mono ?_; rintro e w' ⟨rfl, rfl⟩)
  go_ret
  exact ⟨rfl, rfl⟩

set_option maxHeartbeats 400000 in
set_option maxRecDepth 100000 in
theorem trimPrefix_c (s p : ByteArray) (h : p.size ≤ s.size) (he : ((s.extract 0 p.size).toList == p.toList) = true) (w : World) :
    Calls Try.prog 47 #[.string s, .string p] w fun e w' => e = .returned (.string (s.extract p.size s.size)) ∧ w' = w := by
  have hc := Lib.hid (fun w => slTrimPrefix_c s p h he w)
  clear h he
  go_enter Try.func47, Try.ntmps47
  go_wp2_with (go_at_call 67; refine (hc.out _).mono ?_; rintro e w' ⟨rfl, rfl⟩)
  go_ret
  exact ⟨rfl, rfl⟩

/-- A path at or under another one, which is not the root, begins with it. -/
theorem sub_prefix {p q : ByteArray} (hr : p ≠ rootB) (h : subB p q = true) : p.size ≤ q.size ∧ ((q.extract 0 p.size).toList == p.toList) = true := by
  unfold subB at h
  rw [Bool.or_eq_true, decide_eq_true_eq] at h
  rcases h with rfl | h
  · refine ⟨Nat.le_refl _, ?_⟩
    rw [ByteArray.extract_zero_size]
    simp
  · have := underB_eq p q
    have hu : underB p q = true := h
    rw [hu] at this
    have h3 : l1uB p q = true := by
      cases hh : l1uB p q with
      | true => rfl
      | false => rw [hh] at this; simp at this
    unfold l1uB at h3
    rw [Bool.or_eq_true, Bool.and_eq_true, Bool.and_eq_true, decide_eq_true_eq] at h3
    rcases h3 with ⟨h3, _⟩ | ⟨h3, h4⟩
    · refine absurd ?_ hr
      rw [beq_iff_eq, Lib.toList_data] at h3
      rw [← Lib.mk_data p, h3]; rfl
    · exact ⟨Nat.le_of_lt h3, h4⟩

end Go.Proofs.Ytncceljffcjoiaa
