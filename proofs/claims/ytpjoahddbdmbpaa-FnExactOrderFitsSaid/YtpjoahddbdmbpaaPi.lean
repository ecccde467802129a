/-
  WALKS: impl.PathParent, impl.PathUnder.
-/
import Derived.Test.YtpjoahddbdmbpaaPa
import Derived.Test.YtpjoahddbdmbpaaSn
namespace Go.Proofs.Ytpjoahddbdmbpaa
open Go.RowKit

set_option maxHeartbeats 400000 in
set_option maxRecDepth 100000 in
theorem slHasPrefix_c (s p : ByteArray) (w : World) :
    Calls Try.prog 71 #[.string s, .string p] w fun e w' => e = .returned (.bool (pfxB s p)) ∧ w' = w := by
  by_cases h : p.size ≤ s.size
  · obtain ⟨b, hb⟩ : ∃ b, ((s.extract 0 p.size).toList == p.toList) = b := ⟨_, rfl⟩
    have hv : Hid (pfxB s p = b) := by show _ = _; unfold pfxB; rw [decide_eq_true h, hb]; rfl
    have h1 : (p.size : Int) ≤ s.size := by omega
    have h2 : (0 : Int) ≤ p.size := by omega
    go_enter Try.func71, Try.ntmps71
    go_wp2
    go_ret
    exact ⟨ret_bool hv.out.symm, rfl⟩
  · have hv : Hid (pfxB s p = false) := by show _ = _; unfold pfxB; rw [decide_eq_false h]; rfl
    have h1 : (s.size : Int) < p.size := by omega
    clear h
    go_enter Try.func71, Try.ntmps71
    go_wp2
    go_ret
    exact ⟨ret_bool hv.out.symm, rfl⟩

set_option maxHeartbeats 400000 in
set_option maxRecDepth 100000 in
theorem hasPrefix_c (s p : ByteArray) (w : World) :
    Calls Try.prog 44 #[.string s, .string p] w fun e w' => e = .returned (.bool (pfxB s p)) ∧ w' = w := by
  have hc := fun w => slHasPrefix_c s p w
  go_enter Try.func44, Try.ntmps44
  go_wp2_with (go_at_call 71; refine (hc _).mono ?_; rintro e w' ⟨rfl, rfl⟩)
  go_ret
  exact ⟨rfl, rfl⟩

set_option maxHeartbeats 400000 in
set_option maxRecDepth 100000 in
/-- impl.PathUnder, at every two texts of modest length. -/
theorem pathUnder_c (a b : ByteArray) (ha : a.size ≤ 2097152) (hb : b.size ≤ 2097152) (w : World) :
    Calls Try.prog 17 #[.string a, .string b] w fun e w' => e = .returned (.bool (underB a b)) ∧ Below w.heap.size w w' := by
  obtain ⟨da, hda⟩ : ∃ d, Pm.depth a.data.toList = d := ⟨_, rfl⟩
  obtain ⟨db, hdb⟩ : ∃ d, Pm.depth b.data.toList = d := ⟨_, rfl⟩
  have hu := Pm.under_impl a.data.toList b.data.toList
  rw [hda, hdb, ← pfxB_eq] at hu
  have hv : Hid (underB a b = (decide (0 ≤ da) && (decide (da < db) && pfxB b a))) := hu.symm
  have ca : ∀ w, Calls Try.prog 43 #[.string a] w fun e w' => e = .returned (.int .i64 da) ∧ Below w.heap.size w w' := fun w => by rw [← hda]; exact pathDepth_c a (by omega) w
  have cb : ∀ w, Calls Try.prog 43 #[.string b] w fun e w' => e = .returned (.int .i64 db) ∧ Below w.heap.size w w' := fun w => by rw [← hdb]; exact pathDepth_c b (by omega) w
  have CA := Lib.hid ca
  have CB := Lib.hid cb
  have CP := Lib.hid (fun w => hasPrefix_c b a w)
  clear ca cb hu hda hdb
  by_cases h0 : 0 ≤ da
  · by_cases h1 : da < db
    · have hv2 : Hid (underB a b = pfxB b a) := by show _ = _; rw [hv.out, decide_eq_true h0, decide_eq_true h1]; rfl
      go_enter Try.func17, Try.ntmps17
      go_wp2_with fail
      refine (CA.out _).mono ?_; rintro e w1 ⟨rfl, hb1⟩
      go_wp2_with fail
      refine (CB.out _).mono ?_; rintro e w2 ⟨rfl, hb2⟩
      go_wp2_with (go_at_call 44; refine (CP.out _).mono ?_; rintro e w' ⟨rfl, rfl⟩)
      go_ret
      exact ⟨ret_bool hv2.out.symm, hb1.trans (hb2.mono hb1.size)⟩
    · have hv2 : Hid (underB a b = false) := by show _ = _; rw [hv.out, decide_eq_true h0, decide_eq_false h1]; rfl
      have h1' : db ≤ da := by omega
      clear h1
      go_enter Try.func17, Try.ntmps17
      go_wp2_with fail
      refine (CA.out _).mono ?_; rintro e w1 ⟨rfl, hb1⟩
      go_wp2_with fail
      refine (CB.out _).mono ?_; rintro e w2 ⟨rfl, hb2⟩
      go_wp2
      go_ret
      exact ⟨ret_bool hv2.out.symm, hb1.trans (hb2.mono hb1.size)⟩
  · have hv2 : Hid (underB a b = false) := by show _ = _; rw [hv.out, decide_eq_false h0]; rfl
    have h1' : da < 0 := by omega
    clear h0
    go_enter Try.func17, Try.ntmps17
    go_wp2_with fail
    refine (CA.out _).mono ?_; rintro e w1 ⟨rfl, hb1⟩
    go_wp2_with fail
    refine (CB.out _).mono ?_; rintro e w2 ⟨rfl, hb2⟩
    go_wp2
    go_ret
    exact ⟨ret_bool hv2.out.symm, hb1.trans (hb2.mono hb1.size)⟩

end Go.Proofs.Ytpjoahddbdmbpaa
