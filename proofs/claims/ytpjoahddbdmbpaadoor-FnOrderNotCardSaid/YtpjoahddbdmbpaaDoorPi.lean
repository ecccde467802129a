/-
  WALKS: impl.PathParent, impl.PathUnder.
-/
import Derived.Test.YtpjoahddbdmbpaaDoorPa
import Derived.Test.YtpjoahddbdmbpaaDoorSn
namespace Go.Proofs.YtpjoahddbdmbpaaDoor
open Go.RowKit

set_option maxHeartbeats 400000 in
set_option maxRecDepth 100000 in
theorem slHasPrefix_c (s p : ByteArray) (w : World) :
    Calls Tryd.prog 68 #[.string s, .string p] w fun e w' => e = .returned (.bool (pfxB s p)) ∧ w' = w := by
  by_cases h : p.size ≤ s.size
  · obtain ⟨b, hb⟩ : ∃ b, ((s.extract 0 p.size).toList == p.toList) = b := ⟨_, rfl⟩
    have hv : Hid (pfxB s p = b) := by show _ = _; unfold pfxB; rw [decide_eq_true h, hb]; rfl
    have h1 : (p.size : Int) ≤ s.size := by omega
    have h2 : (0 : Int) ≤ p.size := by omega
    go_enter Tryd.func68, Tryd.ntmps68
    go_wp2
    go_ret
    exact ⟨ret_bool hv.out.symm, rfl⟩
  · have hv : Hid (pfxB s p = false) := by show _ = _; unfold pfxB; rw [decide_eq_false h]; rfl
    have h1 : (s.size : Int) < p.size := by omega
    clear h
    go_enter Tryd.func68, Tryd.ntmps68
    go_wp2
    go_ret
    exact ⟨ret_bool hv.out.symm, rfl⟩

set_option maxHeartbeats 400000 in
set_option maxRecDepth 100000 in
theorem hasPrefix_c (s p : ByteArray) (w : World) :
    Calls Tryd.prog 59 #[.string s, .string p] w fun e w' => e = .returned (.bool (pfxB s p)) ∧ w' = w := by
  have hc := fun w => slHasPrefix_c s p w
  go_enter Tryd.func59, Tryd.ntmps59
  go_wp2_with (go_at_call 68; refine (hc _).mono ?_; rintro e w' ⟨rfl, rfl⟩)
  go_ret
  exact ⟨rfl, rfl⟩

set_option maxHeartbeats 400000 in
set_option maxRecDepth 100000 in
theorem lastIndexRow_c (s : ByteArray) (m : Nat) (hs : s.size = m + 2) (hm : m ≤ 2097152) (h0 : ((s[m].toNat : Int) == 47) = true) (h1 : ((s[m + 1].toNat : Int) == 47) = false) (w : World) :
    Calls Tryd.prog 72 #[.string s, .int .u8 47] w fun e w' => e = .returned (.int .i64 m) ∧ w' = w := by
  go_enter Tryd.func72, Tryd.ntmps72
  go_wp2
  go_loop [5] (fun i => ∃ k : Nat, m ≤ k ∧ k ≤ m + 1 ∧ i = .int .i64 k) (fun i => (intOf i).toNat)
  case atStart => exact ⟨m + 1, by omega, by omega, by go_num⟩
  case round =>
    obtain ⟨k, hk1, hk2, rfl⟩ := hrel
    by_cases hk : k = m
    · subst hk
      go_wp2
      go_ret
      exact ⟨rfl, rfl⟩
    · obtain rfl : k = m + 1 := by omega
      go_wp2
      go_round
      case rel => exact ⟨m, by omega, by omega, by go_num⟩
      case measure => simp [intOf]

set_option maxHeartbeats 400000 in
set_option maxRecDepth 100000 in
theorem lastIndex_c (s : ByteArray) (m : Nat) (hs : s.size = m + 2) (hm : m ≤ 2097152) (h0 : ((s[m].toNat : Int) == 47) = true) (h1 : ((s[m + 1].toNat : Int) == 47) = false) (w : World) :
    Calls Tryd.prog 64 #[.string s, .int .u8 47] w fun e w' => e = .returned (.int .i64 m) ∧ w' = w := by
  have hc := fun w => lastIndexRow_c s m hs hm h0 h1 w
  have HC := Lib.hid hc
  clear hc h0 h1 hs
  go_enter Tryd.func64, Tryd.ntmps64
  go_wp2_with (go_at_call 72; refine (HC.out _).mono ?_; rintro e w' ⟨rfl, rfl⟩)
  go_ret
  exact ⟨rfl, rfl⟩

set_option maxHeartbeats 400000 in
set_option maxRecDepth 100000 in
/-- impl.PathParent, at every text of modest length. -/
theorem pathParent_c (s : ByteArray) (hs : s.size ≤ 2097152) (w : World) :
    Calls Tryd.prog 51 #[.string s] w fun e w' => e = .returned (.string (parentB s)) ∧ Below w.heap.size w w' := by
  obtain ⟨d, hd⟩ : ∃ d, Pm.depth s.data.toList = d := ⟨_, rfl⟩
  have hc : ∀ w, Calls Tryd.prog 47 #[.string s] w fun e w' => e = .returned (.int .i64 d) ∧ Below w.heap.size w w' := fun w => by rw [← hd]; exact pathDepth_c s (by omega) w
  have HC := Lib.hid hc
  clear hc
  by_cases h1 : d < 1
  · have hv : Hid (parentB s = ⟨#[]⟩) := by show _ = _; unfold parentB Pm.parent; rw [hd, if_pos h1]
    have hcs : d = -1 ∨ d = 0 := by
      rw [← hd] at h1 ⊢; unfold Pm.depth at h1 ⊢; split at h1 <;> simp_all <;> omega
    clear hd h1
    rcases hcs with rfl | rfl
    all_goals
      go_enter Tryd.func51, Tryd.ntmps51
      go_wp2_with (go_at_call 47; refine (HC.out _).mono ?_; rintro e w' ⟨rfl, hb⟩)
      go_ret
      exact ⟨ret_str hv.out.symm, hb⟩
  · obtain ⟨m, k1, k2, ⟨c, k3, k4⟩, k5, k6⟩ := Pm.last_facts s.data.toList (by omega)
    rw [hd] at k6
    have hsz : s.size = m + 2 := by rw [Lib.size_eq]; exact k1
    rw [← Lib.size_eq] at k5 k6
    by_cases h2 : d = 1
    · have hv : Hid (parentB s = ⟨#[47]⟩) := by show _ = _; unfold parentB; rw [k5, if_pos (k6.1 h2)]
      subst h2
      clear k1 k2 k3 k4 k5 k6 h1 hd hsz
      go_enter Tryd.func51, Tryd.ntmps51
      go_wp2_with (go_at_call 47; refine (HC.out _).mono ?_; rintro e w' ⟨rfl, hb⟩)
      go_ret
      exact ⟨ret_str hv.out.symm, hb⟩
    · have hv : Hid (parentB s = s.extract 0 m) := by
        show _ = _; unfold parentB; rw [k5, if_neg (fun h => h2 (k6.2 h)), Lib.extract_eq]; simp
      rw [Pm.byte_getElem? s m (by omega)] at k2
      rw [Pm.byte_getElem? s (m + 1) (by omega)] at k3
      have g0 : ((s[m].toNat : Int) == 47) = true := toNat_47 (by simpa using k2)
      have g1 : ((s[m + 1].toNat : Int) == 47) = false := toNat_not_47 (by rw [Option.some.inj k3]; exact k4)
      have hl := Lib.hid (fun w => lastIndex_c s m hsz (by omega) g0 g1 w)
      have e1 : (d == -1) = false := beq_eq_false_iff_ne.2 (by omega)
      have e2 : (d == 0) = false := beq_eq_false_iff_ne.2 (by omega)
      have e3 : (d == 1) = false := beq_eq_false_iff_ne.2 h2
      have b1 : (m : Int) ≤ s.size := by omega
      clear g0 g1 k1 k2 k3 k4 k5 k6 h1 hd hsz h2
      go_enter Tryd.func51, Tryd.ntmps51
      go_wp2_with (first | (go_at_call 47; refine (HC.out _).mono ?_; rintro e w' ⟨rfl, hb⟩) | (go_at_call 64; refine (hl.out _).mono ?_; rintro e w2 ⟨rfl, rfl⟩))
      go_ret
      exact ⟨ret_str hv.out.symm, hb⟩

set_option maxHeartbeats 400000 in
set_option maxRecDepth 100000 in
/-- impl.PathUnder, at every two texts of modest length. -/
theorem pathUnder_c (a b : ByteArray) (ha : a.size ≤ 2097152) (hb : b.size ≤ 2097152) (w : World) :
    Calls Tryd.prog 43 #[.string a, .string b] w fun e w' => e = .returned (.bool (underB a b)) ∧ Below w.heap.size w w' := by
  obtain ⟨da, hda⟩ : ∃ d, Pm.depth a.data.toList = d := ⟨_, rfl⟩
  obtain ⟨db, hdb⟩ : ∃ d, Pm.depth b.data.toList = d := ⟨_, rfl⟩
  have hu := Pm.under_impl a.data.toList b.data.toList
  rw [hda, hdb, ← pfxB_eq] at hu
  have hv : Hid (underB a b = (decide (0 ≤ da) && (decide (da < db) && pfxB b a))) := hu.symm
  have ca : ∀ w, Calls Tryd.prog 47 #[.string a] w fun e w' => e = .returned (.int .i64 da) ∧ Below w.heap.size w w' := fun w => by rw [← hda]; exact pathDepth_c a (by omega) w
  have cb : ∀ w, Calls Tryd.prog 47 #[.string b] w fun e w' => e = .returned (.int .i64 db) ∧ Below w.heap.size w w' := fun w => by rw [← hdb]; exact pathDepth_c b (by omega) w
  have CA := Lib.hid ca
  have CB := Lib.hid cb
  have CP := Lib.hid (fun w => hasPrefix_c b a w)
  clear ca cb hu hda hdb
  by_cases h0 : 0 ≤ da
  · by_cases h1 : da < db
    · have hv2 : Hid (underB a b = pfxB b a) := by show _ = _; rw [hv.out, decide_eq_true h0, decide_eq_true h1]; rfl
      go_enter Tryd.func43, Tryd.ntmps43
      go_wp2_with fail
      refine (CA.out _).mono ?_; rintro e w1 ⟨rfl, hb1⟩
      go_wp2_with fail
      refine (CB.out _).mono ?_; rintro e w2 ⟨rfl, hb2⟩
      go_wp2_with (go_at_call 59; refine (CP.out _).mono ?_; rintro e w' ⟨rfl, rfl⟩)
      go_ret
      exact ⟨ret_bool hv2.out.symm, hb1.trans (hb2.mono hb1.size)⟩
    · have hv2 : Hid (underB a b = false) := by show _ = _; rw [hv.out, decide_eq_true h0, decide_eq_false h1]; rfl
      have h1' : db ≤ da := by omega
      clear h1
      go_enter Tryd.func43, Tryd.ntmps43
      go_wp2_with fail
      refine (CA.out _).mono ?_; rintro e w1 ⟨rfl, hb1⟩
      go_wp2_with fail
      refine (CB.out _).mono ?_; rintro e w2 ⟨rfl, hb2⟩
      go_wp2
      go_ret
      exact ⟨ret_bool hv2.out.symm, hb1.trans (hb2.mono hb1.size)⟩
  · have hv2 : Hid (underB a b = false) := by show _ = _; rw [hv.out, decide_eq_false h0]; rfl
    have h1' : da < 0 := by omega
    clear h0
    go_enter Tryd.func43, Tryd.ntmps43
    go_wp2_with fail
    refine (CA.out _).mono ?_; rintro e w1 ⟨rfl, hb1⟩
    go_wp2_with fail
    refine (CB.out _).mono ?_; rintro e w2 ⟨rfl, hb2⟩
    go_wp2
    go_ret
    exact ⟨ret_bool hv2.out.symm, hb1.trans (hb2.mono hb1.size)⟩

end Go.Proofs.YtpjoahddbdmbpaaDoor
