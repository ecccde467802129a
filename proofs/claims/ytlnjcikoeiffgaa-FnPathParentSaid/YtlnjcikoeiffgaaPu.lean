/-
  WALKS: PathParent and PathUnder, of the program and of the model.
-/
import Derived.Test.YtlnjcikoeiffgaaPq
import Derived.Test.YtlnjcikoeiffgaaSn
namespace Go.Proofs.Ytlnjcikoeiffgaa
open Go.RowKit

theorem ret_str {a b : ByteArray} (h : a = b) : Ending.returned (.string a) = .returned (.string b) := by rw [h]

def pfxB (s p : ByteArray) : Bool := decide (p.size ≤ s.size) && ((s.extract 0 p.size).toList == p.toList)

theorem pfxB_eq (s p : ByteArray) : pfxB s p = (decide (p.data.toList.length ≤ s.data.toList.length) && s.data.toList.take p.data.toList.length == p.data.toList) := by
  unfold pfxB
  rw [Lib.extract_toList, Lib.toList_data, Lib.size_eq, Lib.size_eq]; simp

set_option maxHeartbeats 400000 in
theorem slHasPrefix_c (s p : ByteArray) (w : World) :
    Calls Try.prog 48 #[.string s, .string p] w fun e w' => e = .returned (.bool (pfxB s p)) ∧ w' = w := by
  by_cases h : p.size ≤ s.size
  · obtain ⟨b, hb⟩ : ∃ b, ((s.extract 0 p.size).toList == p.toList) = b := ⟨_, rfl⟩
    have hv : Hid (pfxB s p = b) := by show _ = _; unfold pfxB; rw [decide_eq_true h, hb]; rfl
    have h1 : (p.size : Int) ≤ s.size := by omega
    have h2 : (0 : Int) ≤ p.size := by omega
    go_enter Try.func48, Try.ntmps48
    go_wp2
    go_ret
    exact ⟨ret_bool hv.out.symm, rfl⟩
  · have hv : Hid (pfxB s p = false) := by show _ = _; unfold pfxB; rw [decide_eq_false h]; rfl
    have h1 : (s.size : Int) < p.size := by omega
    clear h
    go_enter Try.func48, Try.ntmps48
    go_wp2
    go_ret
    exact ⟨ret_bool hv.out.symm, rfl⟩

set_option maxHeartbeats 400000 in
theorem hasPrefix_c (s p : ByteArray) (w : World) :
    Calls Try.prog 37 #[.string s, .string p] w fun e w' => e = .returned (.bool (pfxB s p)) ∧ w' = w := by
  have hc := fun w => slHasPrefix_c s p w
  go_enter Try.func37, Try.ntmps37
  go_wp2_with (go_at_call 48; refine (hc _).mono ?_; rintro e w' ⟨rfl, rfl⟩)
  go_ret
  exact ⟨rfl, rfl⟩

set_option maxHeartbeats 400000 in
theorem lastIndexRow_c (s : ByteArray) (m : Nat) (hs : s.size = m + 2) (hm : m ≤ 2097152) (h0 : ((s[m].toNat : Int) == 47) = true) (h1 : ((s[m + 1].toNat : Int) == 47) = false) (w : World) :
    Calls Try.prog 47 #[.string s, .int .u8 47] w fun e w' => e = .returned (.int .i64 m) ∧ w' = w := by
  go_enter Try.func47, Try.ntmps47
  go_wp2
  go_loop [5] (fun i => ∃ k : Nat, m ≤ k ∧ k ≤ m + 1 ∧ i = .int .i64 k) (fun i => (intOf i).toNat)
  case atStart => exact ⟨m + 1, by omega, by omega, by go_num⟩
  case round =>
    obtain ⟨k, hk1, hk2, rfl⟩ := hrel
    by_cases hk : k = m
    · subst hk
      go_wp2
      go_ret
      exact ⟨rfl, rfl⟩
    · obtain rfl : k = m + 1 := by omega
      go_wp2
      go_round
      case rel => exact ⟨m, by omega, by omega, by go_num⟩
      case measure => simp [intOf]

set_option maxHeartbeats 400000 in
theorem lastIndex_c (s : ByteArray) (m : Nat) (hs : s.size = m + 2) (hm : m ≤ 2097152) (h0 : ((s[m].toNat : Int) == 47) = true) (h1 : ((s[m + 1].toNat : Int) == 47) = false) (w : World) :
    Calls Try.prog 35 #[.string s, .int .u8 47] w fun e w' => e = .returned (.int .i64 m) ∧ w' = w := by
  have hc := fun w => lastIndexRow_c s m hs hm h0 h1 w
  have HC := Lib.hid hc
  clear hc h0 h1 hs
  go_enter Try.func35, Try.ntmps35
  go_wp2_with (go_at_call 47; refine (HC.out _).mono ?_; rintro e w' ⟨rfl, rfl⟩)
  go_ret
  exact ⟨rfl, rfl⟩

theorem toNat_47 {c : UInt8} (h : c = 47) : ((c.toNat : Int) == 47) = true := by subst h; decide
theorem toNat_not_47 {c : UInt8} (h : c ≠ 47) : ((c.toNat : Int) == 47) = false := by
  rw [beq_eq_false_iff_ne]
  intro e
  exact h (UInt8.toNat_inj.1 (by show c.toNat = 47; omega))

def parentB (s : ByteArray) : ByteArray := ⟨⟨Pm.parent s.data.toList⟩⟩

set_option maxHeartbeats 400000 in
/-- impl.PathParent, at every text of modest length. -/
theorem pathParent_c (s : ByteArray) (hs : s.size ≤ 2097152) (w : World) :
    Calls Try.prog 21 #[.string s] w fun e w' => e = .returned (.string (parentB s)) ∧ Below w.heap.size w w' := by
  obtain ⟨d, hd⟩ : ∃ d, Pm.depth s.data.toList = d := ⟨_, rfl⟩
  have hc : ∀ w, Calls Try.prog 17 #[.string s] w fun e w' => e = .returned (.int .i64 d) ∧ Below w.heap.size w w' := fun w => by rw [← hd]; exact pathDepth_c s (by omega) w
  have HC := Lib.hid hc
  clear hc
  by_cases h1 : d < 1
  · have hv : Hid (parentB s = ⟨#[]⟩) := by show _ = _; unfold parentB Pm.parent; rw [hd, if_pos h1]
    have hcs : d = -1 ∨ d = 0 := by
      rw [← hd] at h1 ⊢; unfold Pm.depth at h1 ⊢; split at h1 <;> simp_all <;> omega
    clear hd h1
    rcases hcs with rfl | rfl
    all_goals
      go_enter Try.func21, Try.ntmps21
      go_wp2_with (go_at_call 17; refine (HC.out _).mono ?_; rintro e w' ⟨rfl, hb⟩)
      go_ret
      exact ⟨ret_str hv.out.symm, hb⟩
  · obtain ⟨m, k1, k2, ⟨c, k3, k4⟩, k5, k6⟩ := Pm.last_facts s.data.toList (by omega)
    rw [hd] at k6
    have hsz : s.size = m + 2 := by rw [Lib.size_eq]; exact k1
    rw [← Lib.size_eq] at k5 k6
    by_cases h2 : d = 1
    · have hv : Hid (parentB s = ⟨#[47]⟩) := by show _ = _; unfold parentB; rw [k5, if_pos (k6.1 h2)]
      subst h2
      clear k1 k2 k3 k4 k5 k6 h1 hd hsz
      go_enter Try.func21, Try.ntmps21
      go_wp2_with (go_at_call 17; refine (HC.out _).mono ?_; rintro e w' ⟨rfl, hb⟩)
      go_ret
      exact ⟨ret_str hv.out.symm, hb⟩
    · have hv : Hid (parentB s = s.extract 0 m) := by
        show _ = _; unfold parentB; rw [k5, if_neg (fun h => h2 (k6.2 h)), Lib.extract_eq]; simp
      rw [Pm.byte_getElem? s m (by omega)] at k2
      rw [Pm.byte_getElem? s (m + 1) (by omega)] at k3
      have g0 : ((s[m].toNat : Int) == 47) = true := toNat_47 (by simpa using k2)
      have g1 : ((s[m + 1].toNat : Int) == 47) = false := toNat_not_47 (by rw [Option.some.inj k3]; exact k4)
      have hl := Lib.hid (fun w => lastIndex_c s m hsz (by omega) g0 g1 w)
      have e1 : (d == -1) = false := beq_eq_false_iff_ne.2 (by omega)
      have e2 : (d == 0) = false := beq_eq_false_iff_ne.2 (by omega)
      have e3 : (d == 1) = false := beq_eq_false_iff_ne.2 h2
      have b1 : (m : Int) ≤ s.size := by omega
      clear g0 g1 k1 k2 k3 k4 k5 k6 h1 hd hsz h2
      go_enter Try.func21, Try.ntmps21
      go_wp2_with (first | (go_at_call 17; refine (HC.out _).mono ?_; rintro e w' ⟨rfl, hb⟩) | (go_at_call 35; refine (hl.out _).mono ?_; rintro e w2 ⟨rfl, rfl⟩))
      go_ret
      exact ⟨ret_str hv.out.symm, hb⟩

def l1pB (s : ByteArray) : ByteArray := if s.size ≤ 2 then ⟨#[47]⟩ else s.extract 0 (s.size - 2)

set_option maxHeartbeats 400000 in
theorem l1Parent_c (s : ByteArray) (hs : s.size ≤ 2097152) (h2 : 2 ≤ s.size) (w : World) :
    Calls Try.prog 36 #[.string s] w fun e w' => e = .returned (.string (l1pB s)) ∧ w = w' := by
  by_cases h : s.size ≤ 2
  · have h1 : (s.size : Int) ≤ 2 := by omega
    have hv : Hid (l1pB s = ⟨#[47]⟩) := if_pos h
    clear h
    go_enter Try.func36, Try.ntmps36
    go_wp2
    go_ret
    exact ⟨ret_str hv.out.symm, rfl⟩
  · obtain ⟨m, hm⟩ : ∃ m, s.size = m + 2 := ⟨s.size - 2, by omega⟩
    have hv : Hid (l1pB s = s.extract 0 m) := by show _ = _; unfold l1pB; rw [if_neg h, hm]; rfl
    have h1 : (2 : Int) < (m : Int) + 2 := by omega
    clear h h2
    go_enter Try.func36, Try.ntmps36
    go_wp2
    go_ret
    exact ⟨ret_str hv.out.symm, rfl⟩

set_option maxHeartbeats 400000 in
/-- spec.PathParent, at every text of modest length. -/
theorem specParent_c (s : ByteArray) (hs : s.size ≤ 2097152) (w : World) :
    Calls Try.prog 22 #[.string s] w fun e w' => e = .returned (.string (parentB s)) ∧ Below w.heap.size w w' := by
  obtain ⟨d, hd⟩ : ∃ d, Pm.depth s.data.toList = d := ⟨_, rfl⟩
  have hc : ∀ w, Calls Try.prog 18 #[.string s] w fun e w' => e = .returned (.int .i64 d) ∧ Below w.heap.size w w' := fun w => by rw [← hd]; exact specDepth_c s (by omega) w
  have HC := Lib.hid hc
  clear hc
  by_cases h1 : d < 1
  · have hv : Hid (parentB s = ⟨#[]⟩) := by show _ = _; unfold parentB Pm.parent; rw [hd, if_pos h1]
    clear hd
    go_enter Try.func22, Try.ntmps22
    go_wp2_with (go_at_call 18; refine (HC.out _).mono ?_; rintro e w' ⟨rfl, hb⟩)
    go_ret
    exact ⟨ret_str hv.out.symm, hb⟩
  · obtain ⟨m, k1, k2, ⟨c, k3, k4⟩, k5, k6⟩ := Pm.last_facts s.data.toList (by omega)
    have hsz : s.size = m + 2 := by rw [Lib.size_eq]; exact k1
    have hv : Hid (parentB s = l1pB s) := by
      show _ = _
      unfold parentB l1pB
      rw [k5, ← Lib.size_eq]
      by_cases h : s.size ≤ 2
      · rw [if_pos h, if_pos h]
      · rw [if_neg h, if_neg h, Lib.extract_eq, hsz]; simp
    have hp := Lib.hid (fun w => l1Parent_c s hs (by omega) w)
    have h2 : 1 ≤ d := by omega
    clear k1 k2 k3 k4 k5 k6 h1 hd hsz
    go_enter Try.func22, Try.ntmps22
    go_wp2_with (first | (go_at_call 18; refine (HC.out _).mono ?_; rintro e w' ⟨rfl, hb⟩) | (go_at_call 36; refine (hp.out _).mono ?_; rintro e w2 ⟨rfl, rfl⟩))
    go_ret
    exact ⟨ret_str hv.out.symm, hb⟩

def underB (a b : ByteArray) : Bool := Pm.under a.data.toList b.data.toList

set_option maxHeartbeats 400000 in
/-- impl.PathUnder, at every two texts of modest length. -/
theorem pathUnder_c (a b : ByteArray) (ha : a.size ≤ 2097152) (hb : b.size ≤ 2097152) (w : World) :
    Calls Try.prog 23 #[.string a, .string b] w fun e w' => e = .returned (.bool (underB a b)) ∧ Below w.heap.size w w' := by
  obtain ⟨da, hda⟩ : ∃ d, Pm.depth a.data.toList = d := ⟨_, rfl⟩
  obtain ⟨db, hdb⟩ : ∃ d, Pm.depth b.data.toList = d := ⟨_, rfl⟩
  have hu := Pm.under_impl a.data.toList b.data.toList
  rw [hda, hdb, ← pfxB_eq] at hu
  have hv : Hid (underB a b = (decide (0 ≤ da) && (decide (da < db) && pfxB b a))) := hu.symm
  have ca : ∀ w, Calls Try.prog 17 #[.string a] w fun e w' => e = .returned (.int .i64 da) ∧ Below w.heap.size w w' := fun w => by rw [← hda]; exact pathDepth_c a (by omega) w
  have cb : ∀ w, Calls Try.prog 17 #[.string b] w fun e w' => e = .returned (.int .i64 db) ∧ Below w.heap.size w w' := fun w => by rw [← hdb]; exact pathDepth_c b (by omega) w
  have CA := Lib.hid ca
  have CB := Lib.hid cb
  have CP := Lib.hid (fun w => hasPrefix_c b a w)
  clear ca cb hu hda hdb
  by_cases h0 : 0 ≤ da
  · by_cases h1 : da < db
    · have hv2 : Hid (underB a b = pfxB b a) := by show _ = _; rw [hv.out, decide_eq_true h0, decide_eq_true h1]; rfl
      go_enter Try.func23, Try.ntmps23
      go_wp2_with fail
      refine (CA.out _).mono ?_; rintro e w1 ⟨rfl, hb1⟩
      go_wp2_with fail
      refine (CB.out _).mono ?_; rintro e w2 ⟨rfl, hb2⟩
      go_wp2_with (go_at_call 37; refine (CP.out _).mono ?_; rintro e w' ⟨rfl, rfl⟩)
      go_ret
      exact ⟨ret_bool hv2.out.symm, hb1.trans (hb2.mono hb1.size)⟩
    · have hv2 : Hid (underB a b = false) := by show _ = _; rw [hv.out, decide_eq_true h0, decide_eq_false h1]; rfl
      have h1' : db ≤ da := by omega
      clear h1
      go_enter Try.func23, Try.ntmps23
      go_wp2_with fail
      refine (CA.out _).mono ?_; rintro e w1 ⟨rfl, hb1⟩
      go_wp2_with fail
      refine (CB.out _).mono ?_; rintro e w2 ⟨rfl, hb2⟩
      go_wp2
      go_ret
      exact ⟨ret_bool hv2.out.symm, hb1.trans (hb2.mono hb1.size)⟩
  · have hv2 : Hid (underB a b = false) := by show _ = _; rw [hv.out, decide_eq_false h0]; rfl
    have h1' : da < 0 := by omega
    clear h0
    go_enter Try.func23, Try.ntmps23
    go_wp2_with fail
    refine (CA.out _).mono ?_; rintro e w1 ⟨rfl, hb1⟩
    go_wp2_with fail
    refine (CB.out _).mono ?_; rintro e w2 ⟨rfl, hb2⟩
    go_wp2
    go_ret
    exact ⟨ret_bool hv2.out.symm, hb1.trans (hb2.mono hb1.size)⟩

def l1uB (a b : ByteArray) : Bool := (a.toList == [47] && !(b.toList == [47])) || (decide (a.size < b.size) && (b.extract 0 a.size).toList == a.toList)

set_option maxHeartbeats 400000 in
theorem l1Under_c (a b : ByteArray) (w : World) :
    Calls Try.prog 39 #[.string a, .string b] w fun e w' => e = .returned (.bool (l1uB a b)) ∧ w = w' := by
  obtain ⟨x1, h1⟩ : ∃ x, (a.toList == [47]) = x := ⟨_, rfl⟩
  obtain ⟨x2, h2⟩ : ∃ x, (b.toList == [47]) = x := ⟨_, rfl⟩
  obtain ⟨x4, h4⟩ : ∃ x, ((b.extract 0 a.size).toList == a.toList) = x := ⟨_, rfl⟩
  by_cases h3 : a.size < b.size
  · have hv : Hid (l1uB a b = ((x1 && !x2) || x4)) := by show _ = _; unfold l1uB; rw [h1, h2, h4, decide_eq_true h3]; rfl
    have h5 : (a.size : Int) < b.size := by omega
    have h6 : (0 : Int) ≤ a.size := by omega
    cases x1
    all_goals cases x2
    all_goals
      go_enter Try.func39, Try.ntmps39
      go_wp2
      go_ret
      exact ⟨ret_bool hv.out.symm, rfl⟩
  · have hv : Hid (l1uB a b = (x1 && !x2)) := by show _ = _; unfold l1uB; rw [h1, h2, decide_eq_false h3]; simp
    have h5 : (b.size : Int) ≤ a.size := by omega
    clear h3 h4
    cases x1
    all_goals cases x2
    all_goals
      go_enter Try.func39, Try.ntmps39
      go_wp2
      go_ret
      exact ⟨ret_bool hv.out.symm, rfl⟩

theorem underB_eq (a b : ByteArray) : underB a b = (Pm.valid a.data.toList && Pm.valid b.data.toList && l1uB a b) := by
  unfold underB Pm.under l1uB
  rw [Lib.extract_toList, Lib.toList_data, Lib.toList_data, Lib.size_eq, Lib.size_eq]
  simp

set_option maxHeartbeats 400000 in
/-- spec.PathUnder, at every two texts of modest length. -/
theorem specUnder_c (a b : ByteArray) (ha : a.size ≤ 2097152) (hb : b.size ≤ 2097152) (w : World) :
    Calls Try.prog 25 #[.string a, .string b] w fun e w' => e = .returned (.bool (underB a b)) ∧ Below w.heap.size w w' := by
  have hv : Hid (underB a b = _) := underB_eq a b
  cases va : Pm.valid a.data.toList with
  | false =>
    have hv2 : Hid (underB a b = false) := by show _ = _; rw [hv.out, va]; rfl
    have CA := Lib.hid (fun w => specValid_no ha va w)
    clear va hv
    go_enter Try.func25, Try.ntmps25
    go_wp2_with (go_at_call 26; refine (CA.out _).mono ?_; rintro e w1 ⟨rfl, hb1⟩)
    go_ret
    exact ⟨ret_bool hv2.out.symm, hb1⟩
  | true =>
    cases vb : Pm.valid b.data.toList with
    | false =>
      have hv2 : Hid (underB a b = false) := by show _ = _; rw [hv.out, va, vb]; rfl
      have CA := Lib.hid (fun w => specValid_yes ha va w)
      have CB := Lib.hid (fun w => specValid_no hb vb w)
      clear va vb hv
      go_enter Try.func25, Try.ntmps25
      go_wp2_with fail
      refine (CA.out _).mono ?_; rintro e w1 ⟨rfl, hb1⟩
      go_wp2_with fail
      refine (CB.out _).mono ?_; rintro e w2 ⟨rfl, hb2⟩
      go_wp2
      go_ret
      exact ⟨ret_bool hv2.out.symm, hb1.trans (hb2.mono hb1.size)⟩
    | true =>
      have hv2 : Hid (underB a b = l1uB a b) := by show _ = _; rw [hv.out, va, vb]; rfl
      have CA := Lib.hid (fun w => specValid_yes ha va w)
      have CB := Lib.hid (fun w => specValid_yes hb vb w)
      have CU := Lib.hid (fun w => l1Under_c a b w)
      clear va vb hv
      go_enter Try.func25, Try.ntmps25
      go_wp2_with fail
      refine (CA.out _).mono ?_; rintro e w1 ⟨rfl, hb1⟩
      go_wp2_with fail
      refine (CB.out _).mono ?_; rintro e w2 ⟨rfl, hb2⟩
      go_wp2_with fail
      refine (CU.out _).mono ?_; rintro e w3 ⟨rfl, rfl⟩
      go_wp2
      go_ret
      exact ⟨ret_bool hv2.out.symm, hb1.trans (hb2.mono hb1.size)⟩

theorem below_next {a b c : World} (h : Below a.heap.size a b) (k : Below b.heap.size b c) : Below a.heap.size a c := h.trans (k.mono h.size)

theorem parentB_size (s : ByteArray) (m : Nat) (h : s.size ≤ m) (h1 : 1 ≤ m) : (parentB s).size ≤ m := by
  show (Pm.parent s.data.toList).length ≤ m
  unfold Pm.parent
  split
  · exact Nat.zero_le _
  · split
    · exact h1
    · rw [List.length_take, ← Lib.size_eq]; omega

theorem toList_ne {a b : ByteArray} (h : a ≠ b) : (a.toList == b.toList) = false := by
  rw [Lib.toList_data, Lib.toList_data]
  simpa using fun e => h (by rw [← Lib.mk_data a, ← Lib.mk_data b, e])

end Go.Proofs.Ytlnjcikoeiffgaa
