/-
  WALKS: spec.l1Names, spec.PathValid, spec.PathDepth.
-/
import Derived.Maps.AppendAt
import Derived.OwnWalk
import Derived.RangeFuncBox
import Derived.Test.YtoipbocbgadjbaaPd
namespace Go.Proofs.Ytoipbocbgadjbaa
open Go.RowKit

theorem infoStr : (Try.prog.info? 9).map (fun i => (i.zero, i.size, i.bytes)) = some (some (.string ⟨#[]⟩), 1, 16) := by kernel_rfl

/-- A slice of texts that the call has made. -/
def OwnsTexts (base : Nat) (xs : List ByteArray) (e : Ending) (w' : World) : Prop :=
  ∃ g cap, e = .returned (.slice (some ⟨g, 0, none⟩) xs.length cap) ∧ w'.ownsRow base 9 1 (.slice (some ⟨g, 0, none⟩) xs.length cap) xs.length (xs.map Value.string)

def namesB (s : ByteArray) : List ByteArray := Pm.splitB (s.extract 1 s.size)

def NamesRel (s : ByteArray) (w : World) (v fr i : Value) (wr : World) : Prop :=
  ∃ (done : List ByteArray) (f k : Nat), fr = .int .i64 f ∧ i = .int .i64 k ∧ 1 ≤ f ∧ f ≤ k ∧ k ≤ s.size ∧ done.length + 1 ≤ f ∧ wr.ownsRow w.heap.size 9 1 v done.length (done.map Value.string) ∧
    Below w.heap.size w wr ∧ Hid (namesB s = done ++ Pm.splitB (s.extract f s.size)) ∧ Hid (Pm.NoSl s f k)

set_option maxRecDepth 100000 in
set_option maxHeartbeats 1000000 in
theorem l1Names_c (s : ByteArray) (h1 : 1 ≤ s.size) (hs : s.size ≤ 2097152) (w : World) :
    Calls Try.prog 81 #[.string s] w fun e w' => OwnsTexts w.heap.size (namesB s) e w' ∧ Below w.heap.size w w' := by
  obtain ⟨i0, hi, hz0, hz1, hz2⟩ := info_parts infoStr
  go_enter Try.func81, Try.ntmps81
  go_wp2
  go_loopw [3, 4, 5] (fun v fr i wr => NamesRel s w v fr i wr) (fun _ _ i _ => s.size - (intOf i).toNat)
  case atStart =>
    exact ⟨[], 1, 1, rfl, rfl, by omega, by omega, h1, by simp, World.ownsRow_lit (e := 9) (size := 1) w #[] 0 (Nat.le_refl _) (by simp [maxLen]) rfl, (Below.refl _ _).alloc (Nat.le_refl _) _, rfl, fun j a b => by omega⟩
  case round =>
    obtain ⟨done, f, k, rfl, rfl, hf1, hfk, hk, hd, hrow, hB, HN, HS⟩ := hrel
    have hlt0 := hrow.lt
    by_cases hlt : k < s.size
    · cases hb : ((s[k].toNat : Int) == 47) with
      | false =>
        have HS2 : Hid (Pm.NoSl s f (k + 1)) := HS.out.step hlt hb
        go_wp2
        go_roundw
        case rel => exact ⟨done, f, k + 1, rfl, by go_num, hf1, by omega, by omega, hd, hrow, hB, HN, HS2⟩
        case measure => simp [intOf]; omega
      | true =>
        have hsp := Pm.split_at s f k hfk hlt HS.out hb
        have HN2 : Hid (namesB s = (done ++ [s.extract f k]) ++ Pm.splitB (s.extract (k + 1) s.size)) := by
          show _ = _; rw [HN.out, hsp, List.append_assoc]; rfl
        clear hsp
        have c1 : (0 : Int) ≤ ↑f := by omega
        have c2 : (↑f : Int) ≤ ↑k := by omega
        have c3 : (↑k : Int) ≤ ↑s.size := by omega
        go_wp2_with (at_builtin; refine wpList_append_own _ rfl _ _ 101 rfl w.heap.size 9 i0 (.string ⟨#[]⟩) 1 16 Try.underlying101 hi hz0 hz1 hz2 rfl (by decide) _ _ _ rfl (hrow.alloc _) ⟨wr.heap.size, 0, none⟩ 1 1 [.string (s.extract f k)] rfl rfl (cell_one_new _ _ _) (fun x hx => by simp at hx; subst hx; rfl) (by unfold maxLen; omega) (by omega) (by have := hB.size; simp; omega) ?_; intro v' w3 hown' hgrow3 hnil3)
        have hB3 : Below w.heap.size w w3 := (hB.alloc hB.size _).grown hgrow3 (by have := hB.size; simp; omega) (fun k e => (hlt0 k e).1)
        go_roundw
        case rel => exact ⟨done ++ [s.extract f k], k + 1, k + 1, by go_num, by go_num, by omega, by omega, by omega, by simp; omega, by simpa using hown', hB3, HN2, fun j a b => by omega⟩
        case measure => simp [intOf]; omega
    · obtain rfl : k = s.size := by omega
      have hsp := Pm.split_end s f HS.out
      have HN2 : Hid (namesB s = done ++ [s.extract f s.size]) := by show _ = _; rw [HN.out, hsp]
      clear hsp hlt
      have c1 : (0 : Int) ≤ ↑f := by omega
      have c2 : (↑f : Int) ≤ ↑s.size := by omega
      go_wp2_with (at_builtin; refine wpList_append_own _ rfl _ _ 101 rfl w.heap.size 9 i0 (.string ⟨#[]⟩) 1 16 Try.underlying101 hi hz0 hz1 hz2 rfl (by decide) _ _ _ rfl (hrow.alloc _) ⟨wr.heap.size, 0, none⟩ 1 1 [.string (s.extract f s.size)] rfl rfl (cell_one_new _ _ _) (fun x hx => by simp at hx; subst hx; rfl) (by unfold maxLen; omega) (by omega) (by have := hB.size; simp; omega) ?_; intro v' w3 hown' hgrow3 hnil3)
      have hB3 : Below w.heap.size w w3 := (hB.alloc hB.size _).grown hgrow3 (by have := hB.size; simp; omega) (fun k e => (hlt0 k e).1)
      go_ret
      refine ⟨?_, hB3⟩
      obtain ⟨g, cap, hv⟩ := ownsRow_succ hown'
      subst hv
      refine ⟨g, cap, ?_, ?_⟩
      · rw [HN2.out]; simp
      · rw [HN2.out]; simpa using hown'

theorem lname_yes {x : ByteArray} (h : Pm.nameBB x = true) (w : World) : Calls Try.prog 82 #[.string x] w fun e w' => e = .returned (.bool true) ∧ w = w' := by
  rw [← h]; exact (l1Name_c x w).mono fun _ _ ⟨a, b⟩ => ⟨a, b.symm⟩
theorem lname_no {x : ByteArray} (h : Pm.nameBB x = false) (w : World) : Calls Try.prog 82 #[.string x] w fun e w' => e = .returned (.bool false) ∧ w = w' := by
  rw [← h]; exact (l1Name_c x w).mono fun _ _ ⟨a, b⟩ => ⟨a, b.symm⟩

theorem size_one_47 {s : ByteArray} (hr : s ≠ ⟨#[47]⟩) : (s.toList == [47]) = false := by
  rw [Lib.toList_data]; simpa using fun e => hr (by rw [← Lib.mk_data s, e])

set_option maxRecDepth 100000 in
set_option maxHeartbeats 1000000 in
/-- spec.PathValid behind the first test: a slash stands at the beginning. -/
theorem specValid_slash (s : ByteArray) (hr : s ≠ ⟨#[47]⟩) (h1 : 1 ≤ s.size) (h0 : ((s[0].toNat : Int) != 47) = false) (hs : s.size ≤ 2097152) (w : World) :
    Calls Try.prog 69 #[.string s] w fun e w' => e = .returned (.bool (Pm.valid s.data.toList)) ∧ Below w.heap.size w w' := by
  have hr2 := size_one_47 hr
  have h1' : (0 : Int) < s.size := by omega
  have hz : ((s.size : Int) == 0) = false := beq_eq_false_iff_ne.2 (by omega)
  have hp : Pm.partsB s = namesB s := Pm.partsB_slash s h1 (by
    rw [Pm.byte_getElem? s 0 h1]; congr 1
    exact Pm.byte_47 (by simpa using h0))
  obtain ⟨ps, hps⟩ : ∃ ps, namesB s = ps := ⟨_, rfl⟩
  have hpos : 1 ≤ ps.length := by rw [← hps]; exact Pm.splitB_pos _
  have hN : ∀ w, Calls Try.prog 81 #[.string s] w fun e w' => OwnsTexts w.heap.size ps e w' ∧ Below w.heap.size w w' := fun w => by
    rw [← hps]; exact l1Names_c s h1 hs w
  rw [hps] at hp
  have hgood : Hid (ps.all Pm.nameBB = true → Pm.valid s.data.toList = decide (ps.length ≤ 4)) := fun h => by
    rw [← hp] at h hpos ⊢; exact Pm.valid_good s hr hpos h
  have hbad : Hid (ps.all Pm.nameBB = false → Pm.valid s.data.toList = false) := fun h => by
    rw [← hp] at h; exact Pm.valid_bad s hr (fun h' _ _ => by rw [h] at h'; cases h')
  clear hp hps hr
  have HN := Lib.hid hN
  clear hN
  go_enter Try.func69, Try.ntmps69
  go_wp2_with (go_at_call 81; refine (HN.out _).mono ?_; rintro e w1 ⟨⟨g, cap, rfl, hrow⟩, hB⟩)
  have hlen : (ps.length : Int) ≤ 9223372036854775807 := by
    rcases hrow.2 with ⟨h, _⟩ | ⟨_, _, _, h, _, _, h3, h4, _⟩
    · cases h
    · cases h; have := Nat.le_trans h3 h4; unfold maxLen at this; omega
  go_loop [4] (fun i => ∃ k : Nat, k ≤ ps.length ∧ i = .int .i64 k ∧ Hid ((ps.take k).all Pm.nameBB = true)) (fun i => ps.length - (intOf i).toNat)
  case atStart => exact ⟨0, Nat.zero_le _, rfl, rfl⟩
  case round =>
    obtain ⟨k, hk, rfl, ha⟩ := hrel
    by_cases hlt : k < ps.length
    · obtain ⟨x, hx⟩ : ∃ x, ps[k]? = some x := ⟨ps[k], List.getElem?_eq_getElem hlt⟩
      have hcell : w1.cell? ⟨g, k, none⟩ = some (.string x) := by
        rw [hrow.cellAt k (by omega), List.getElem?_map, hx]; rfl
      cases hn : Pm.nameBB x with
      | true =>
        have ha2 : Hid ((ps.take (k + 1)).all Pm.nameBB = true) := Pm.all_take_succ _ _ _ _ hx ha.out hn
        have hc := fun w => lname_yes hn w
        clear hn hx
        go_wp2_with (go_at_call 82; refine (hc _).mono ?_; rintro e w' ⟨rfl, rfl⟩)
        go_round
        case rel => exact ⟨k + 1, by omega, by go_num, ha2⟩
        case measure => simp [intOf]; omega
      | false =>
        have hf := hbad.out (Pm.all_false_of _ _ _ _ hx hn)
        have hc := fun w => lname_no hn w
        clear hn hx
        have HF := Lib.hid hf
        clear hf
        go_wp2_with (go_at_call 82; refine (hc _).mono ?_; rintro e w' ⟨rfl, rfl⟩)
        go_ret
        exact ⟨ret_bool HF.out.symm, hB⟩
    · obtain rfl : k = ps.length := by omega
      have hf := hgood.out (by have := ha.out; rwa [List.take_length] at this)
      have HF := Lib.hid hf
      clear hf hlt
      go_wp2
      go_ret
      refine ⟨ret_bool ?_, hB⟩
      rw [HF.out]
      exact decide_eq_decide.2 (by omega)

set_option maxHeartbeats 400000 in
set_option maxRecDepth 100000 in
theorem specValid_root (w : World) :
    Calls Try.prog 69 #[.string ⟨#[47]⟩] w fun e w' => e = .returned (.bool true) ∧ w = w' := by
  go_enter Try.func69, Try.ntmps69
  go_wp2
  go_ret
  exact ⟨rfl, rfl⟩

set_option maxHeartbeats 400000 in
set_option maxRecDepth 100000 in
theorem specValid_empty (s : ByteArray) (h : s.size = 0) (w : World) :
    Calls Try.prog 69 #[.string s] w fun e w' => e = .returned (.bool false) ∧ w = w' := by
  obtain rfl : s = ⟨#[]⟩ := by
    obtain ⟨⟨l⟩⟩ := s
    have : l.length = 0 := h
    rw [List.length_eq_zero_iff] at this
    rw [this]
  go_enter Try.func69, Try.ntmps69
  go_wp2
  go_ret
  exact ⟨rfl, rfl⟩

set_option maxHeartbeats 400000 in
set_option maxRecDepth 100000 in
theorem specValid_other (s : ByteArray) (h1 : 1 ≤ s.size) (h0 : ((s[0].toNat : Int) != 47) = true) (hr : s ≠ ⟨#[47]⟩) (w : World) :
    Calls Try.prog 69 #[.string s] w fun e w' => e = .returned (.bool false) ∧ w = w' := by
  have hr2 := size_one_47 hr
  have h1' : (0 : Int) < s.size := by omega
  have hz : ((s.size : Int) == 0) = false := beq_eq_false_iff_ne.2 (by omega)
  clear hr
  go_enter Try.func69, Try.ntmps69
  go_wp2
  go_ret
  exact ⟨rfl, rfl⟩

/-- spec.PathValid, at every text of modest length. -/
theorem specValid_c (s : ByteArray) (hs : s.size ≤ 2097152) (w : World) :
    Calls Try.prog 69 #[.string s] w fun e w' => e = .returned (.bool (Pm.valid s.data.toList)) ∧ Below w.heap.size w w' := by
  by_cases hr : s = ⟨#[47]⟩
  · subst hr
    exact (specValid_root w).mono fun e w' ⟨h, h2⟩ => by subst h2; exact ⟨h, Below.refl _ _⟩
  · by_cases hz : s.size = 0
    · refine (specValid_empty s hz w).mono fun e w' ⟨h, h2⟩ => ?_
      subst h2
      refine ⟨?_, Below.refl _ _⟩
      rw [h, Pm.valid_no_slash]
      rw [List.getElem?_eq_none (by rw [← Lib.size_eq]; omega)]
      simp
    · cases h0 : ((s[0].toNat : Int) != 47) with
      | false => exact specValid_slash s hr (by omega) h0 hs w
      | true =>
        refine (specValid_other s (by omega) h0 hr w).mono fun e w' ⟨h, h2⟩ => ?_
        subst h2
        refine ⟨?_, Below.refl _ _⟩
        rw [h, Pm.valid_no_slash]
        rw [Pm.byte_getElem? s 0 (by omega)]
        intro e
        have : s[0] = 47 := by simpa using e
        rw [this] at h0
        exact absurd h0 (by decide)

theorem specValid_yes {s : ByteArray} (hs : s.size ≤ 2097152) (h : Pm.valid s.data.toList = true) (w : World) :
    Calls Try.prog 69 #[.string s] w fun e w' => e = .returned (.bool true) ∧ Below w.heap.size w w' := by rw [← h]; exact specValid_c s hs w
theorem specValid_no {s : ByteArray} (hs : s.size ≤ 2097152) (h : Pm.valid s.data.toList = false) (w : World) :
    Calls Try.prog 69 #[.string s] w fun e w' => e = .returned (.bool false) ∧ Below w.heap.size w w' := by rw [← h]; exact specValid_c s hs w

set_option maxHeartbeats 400000 in
set_option maxRecDepth 100000 in
theorem specDepth_c (s : ByteArray) (hs : s.size ≤ 2097152) (w : World) :
    Calls Try.prog 50 #[.string s] w fun e w' => e = .returned (.int .i64 (Pm.depth s.data.toList)) ∧ Below w.heap.size w w' := by
  cases hv : Pm.valid s.data.toList with
  | true =>
    have hd : Hid (Pm.depth s.data.toList = ((s.size / 2 : Nat) : Int)) := by show _ = _; unfold Pm.depth; rw [if_pos hv, ← Lib.size_eq]
    have hc := fun w => specValid_yes hs hv w
    clear hv
    go_enter Try.func50, Try.ntmps50
    go_wp2_with (go_at_call 69; refine (hc _).mono ?_; rintro e w' ⟨rfl, hb⟩)
    go_ret
    refine ⟨ret_int ?_, hb⟩
    rw [hd.out]; omega
  | false =>
    have hd : Hid (Pm.depth s.data.toList = -1) := by show _ = _; unfold Pm.depth; rw [hv]; rfl
    have hc := fun w => specValid_no hs hv w
    clear hv
    go_enter Try.func50, Try.ntmps50
    go_wp2_with (go_at_call 69; refine (hc _).mono ?_; rintro e w' ⟨rfl, hb⟩)
    go_ret
    exact ⟨ret_int hd.out.symm, hb⟩

end Go.Proofs.Ytoipbocbgadjbaa
