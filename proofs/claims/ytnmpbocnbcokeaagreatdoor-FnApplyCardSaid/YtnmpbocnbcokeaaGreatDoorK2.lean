/-
  Texts of this proof, one behind the other: Sn, Pa, Pv, Tv, Tg, Tl, Tt, Qe, Cx, Tn, Co, Ia, Ct, Cu, Ck, Iw, Pi, Qr.
-/
import Derived.Maps.AppendAt
import Derived.OwnWalk
import Derived.RangeFuncBox
import Derived.Deep.RegionHeld3
import Derived.Laws.Cover1
import Derived.Laws.OwnMore
import Derived.Laws.StructEq
import Derived.Deep.Cut
import Derived.StillTailTactics
import Derived.Shelf.LaysM
import Derived.Shelf.Strconv.Itoa3
import Derived.Test.YtnmpbocnbcokeaaGreatDoorChecked
import Derived.Laws.Concat
import Derived.Laws.BytesString
import Derived.Laws.Cells
import Derived.Deep.RegionWith
import Derived.Sort.QuietIn
import Derived.RangeFuncCalls
import Derived.Test.YtnmpbocnbcokeaaGreatDoorK1
/-
  WALKS: spec.l1Names, spec.PathValid, spec.PathDepth.
-/
namespace Go.Proofs.YtnmpbocnbcokeaaGreatDoor
open Go.RowKit

theorem infoStr : (Tryz.prog.info? 9).map (fun i => (i.zero, i.size, i.bytes)) = some (some (.string ⟨#[]⟩), 1, 16) := by kernel_rfl

/-- A slice of texts that the call has made. -/
def OwnsTexts (base : Nat) (xs : List ByteArray) (e : Ending) (w' : World) : Prop :=
  ∃ g cap, e = .returned (.slice (some ⟨g, 0, none⟩) xs.length cap) ∧ w'.ownsRow base 9 1 (.slice (some ⟨g, 0, none⟩) xs.length cap) xs.length (xs.map Value.string)

def namesB (s : ByteArray) : List ByteArray := Pm.splitB (s.extract 1 s.size)

def NamesRel (s : ByteArray) (w : World) (v fr i : Value) (wr : World) : Prop :=
  ∃ (done : List ByteArray) (f k : Nat), fr = .int .i64 f ∧ i = .int .i64 k ∧ 1 ≤ f ∧ f ≤ k ∧ k ≤ s.size ∧ done.length + 1 ≤ f ∧ wr.ownsRow w.heap.size 9 1 v done.length (done.map Value.string) ∧
    Below w.heap.size w wr ∧ Hid (namesB s = done ++ Pm.splitB (s.extract f s.size)) ∧ Hid (Pm.NoSl s f k)

set_option maxRecDepth 100000 in
set_option maxHeartbeats 1000000 in
theorem l1Names_c (s : ByteArray) (h1 : 1 ≤ s.size) (hs : s.size ≤ 2097152) (w : World) :
    Calls Tryz.prog 70 #[.string s] w fun e w' => OwnsTexts w.heap.size (namesB s) e w' ∧ Below w.heap.size w w' := by
  obtain ⟨i0, hi, hz0, hz1, hz2⟩ := info_parts infoStr
  go_enter Tryz.func70, Tryz.ntmps70
  go_wp2
  go_loopw [3, 4, 5] (fun v fr i wr => NamesRel s w v fr i wr) (fun _ _ i _ => s.size - (intOf i).toNat)
  case atStart =>
    exact ⟨[], 1, 1, rfl, rfl, by omega, by omega, h1, by simp, World.ownsRow_lit (e := 9) (size := 1) w #[] 0 (Nat.le_refl _) (by simp [maxLen]) rfl, (Below.refl _ _).alloc (Nat.le_refl _) _, rfl, fun j a b => by omega⟩
  case round =>
    obtain ⟨done, f, k, rfl, rfl, hf1, hfk, hk, hd, hrow, hB, HN, HS⟩ := hrel
    have hlt0 := hrow.lt
    by_cases hlt : k < s.size
    · cases hb : ((s[k].toNat : Int) == 47) with
      | false =>
        have HS2 : Hid (Pm.NoSl s f (k + 1)) := HS.out.step hlt hb
        go_wp2
        go_roundw
        case rel => exact ⟨done, f, k + 1, rfl, by go_num, hf1, by omega, by omega, hd, hrow, hB, HN, HS2⟩
        case measure => simp [intOf]; omega
      | true =>
        have hsp := Pm.split_at s f k hfk hlt HS.out hb
        have HN2 : Hid (namesB s = (done ++ [s.extract f k]) ++ Pm.splitB (s.extract (k + 1) s.size)) := by
          show _ = _; rw [HN.out, hsp, List.append_assoc]; rfl
        clear hsp
        have c1 : (0 : Int) ≤ ↑f := by omega
        have c2 : (↑f : Int) ≤ ↑k := by omega
        have c3 : (↑k : Int) ≤ ↑s.size := by omega
        go_wp2_with (at_builtin; refine wpList_append_own _ rfl _ _ 35 rfl w.heap.size 9 i0 (.string ⟨#[]⟩) 1 16 Tryz.underlying35 hi hz0 hz1 hz2 rfl (by decide) _ _ _ rfl (hrow.alloc _) ⟨wr.heap.size, 0, none⟩ 1 1 [.string (s.extract f k)] rfl rfl (cell_one_new _ _ _) (fun x hx => by simp at hx; subst hx; rfl) (by unfold maxLen; omega) (by omega) (by have := hB.size; simp; omega) ?_; intro v' w3 hown' hgrow3 hnil3)
        have hB3 : Below w.heap.size w w3 := (hB.alloc hB.size _).grown hgrow3 (by have := hB.size; simp; omega) (fun k e => (hlt0 k e).1)
        go_roundw
        case rel => exact ⟨done ++ [s.extract f k], k + 1, k + 1, by go_num, by go_num, by omega, by omega, by omega, by simp; omega, by simpa using hown', hB3, HN2, fun j a b => by omega⟩
        case measure => simp [intOf]; omega
    · obtain rfl : k = s.size := by omega
      have hsp := Pm.split_end s f HS.out
      have HN2 : Hid (namesB s = done ++ [s.extract f s.size]) := by show _ = _; rw [HN.out, hsp]
      clear hsp hlt
      have c1 : (0 : Int) ≤ ↑f := by omega
      have c2 : (↑f : Int) ≤ ↑s.size := by omega
      go_wp2_with (at_builtin; refine wpList_append_own _ rfl _ _ 35 rfl w.heap.size 9 i0 (.string ⟨#[]⟩) 1 16 Tryz.underlying35 hi hz0 hz1 hz2 rfl (by decide) _ _ _ rfl (hrow.alloc _) ⟨wr.heap.size, 0, none⟩ 1 1 [.string (s.extract f s.size)] rfl rfl (cell_one_new _ _ _) (fun x hx => by simp at hx; subst hx; rfl) (by unfold maxLen; omega) (by omega) (by have := hB.size; simp; omega) ?_; intro v' w3 hown' hgrow3 hnil3)
      have hB3 : Below w.heap.size w w3 := (hB.alloc hB.size _).grown hgrow3 (by have := hB.size; simp; omega) (fun k e => (hlt0 k e).1)
      go_ret
      refine ⟨?_, hB3⟩
      obtain ⟨g, cap, hv⟩ := ownsRow_succ hown'
      subst hv
      refine ⟨g, cap, ?_, ?_⟩
      · rw [HN2.out]; simp
      · rw [HN2.out]; simpa using hown'

theorem lname_yes {x : ByteArray} (h : Pm.nameBB x = true) (w : World) : Calls Tryz.prog 71 #[.string x] w fun e w' => e = .returned (.bool true) ∧ w = w' := by
  rw [← h]; exact (l1Name_c x w).mono fun _ _ ⟨a, b⟩ => ⟨a, b.symm⟩
theorem lname_no {x : ByteArray} (h : Pm.nameBB x = false) (w : World) : Calls Tryz.prog 71 #[.string x] w fun e w' => e = .returned (.bool false) ∧ w = w' := by
  rw [← h]; exact (l1Name_c x w).mono fun _ _ ⟨a, b⟩ => ⟨a, b.symm⟩

theorem size_one_47 {s : ByteArray} (hr : s ≠ ⟨#[47]⟩) : (s.toList == [47]) = false := by
  rw [Lib.toList_data]; simpa using fun e => hr (by rw [← Lib.mk_data s, e])

set_option maxRecDepth 100000 in
set_option maxHeartbeats 1000000 in
/-- spec.PathValid behind the first test: a slash stands at the beginning. -/
theorem specValid_slash (s : ByteArray) (hr : s ≠ ⟨#[47]⟩) (h1 : 1 ≤ s.size) (h0 : ((s[0].toNat : Int) != 47) = false) (hs : s.size ≤ 2097152) (w : World) :
    Calls Tryz.prog 51 #[.string s] w fun e w' => e = .returned (.bool (Pm.valid s.data.toList)) ∧ Below w.heap.size w w' := by
  have hr2 := size_one_47 hr
  have h1' : (0 : Int) < s.size := by omega
  have hz : ((s.size : Int) == 0) = false := beq_eq_false_iff_ne.2 (by omega)
  have hp : Pm.partsB s = namesB s := Pm.partsB_slash s h1 (by
    rw [Pm.byte_getElem? s 0 h1]; congr 1
    exact Pm.byte_47 (by simpa using h0))
  obtain ⟨ps, hps⟩ : ∃ ps, namesB s = ps := ⟨_, rfl⟩
  have hpos : 1 ≤ ps.length := by rw [← hps]; exact Pm.splitB_pos _
  have hN : ∀ w, Calls Tryz.prog 70 #[.string s] w fun e w' => OwnsTexts w.heap.size ps e w' ∧ Below w.heap.size w w' := fun w => by
    rw [← hps]; exact l1Names_c s h1 hs w
  rw [hps] at hp
  have hgood : Hid (ps.all Pm.nameBB = true → Pm.valid s.data.toList = decide (ps.length ≤ 4)) := fun h => by
    rw [← hp] at h hpos ⊢; exact Pm.valid_good s hr hpos h
  have hbad : Hid (ps.all Pm.nameBB = false → Pm.valid s.data.toList = false) := fun h => by
    rw [← hp] at h; exact Pm.valid_bad s hr (fun h' _ _ => by rw [h] at h'; cases h')
  clear hp hps hr
  have HN := Lib.hid hN
  clear hN
  go_enter Tryz.func51, Tryz.ntmps51
  go_wp2_with (go_at_call 70; refine (HN.out _).mono ?_; rintro e w1 ⟨⟨g, cap, rfl, hrow⟩, hB⟩)
  have hlen : (ps.length : Int) ≤ 9223372036854775807 := by
    rcases hrow.2 with ⟨h, _⟩ | ⟨_, _, _, h, _, _, h3, h4, _⟩
    · cases h
    · cases h; have := Nat.le_trans h3 h4; unfold maxLen at this; omega
  go_loop [4] (fun i => ∃ k : Nat, k ≤ ps.length ∧ i = .int .i64 k ∧ Hid ((ps.take k).all Pm.nameBB = true)) (fun i => ps.length - (intOf i).toNat)
  case atStart => exact ⟨0, Nat.zero_le _, rfl, rfl⟩
  case round =>
    obtain ⟨k, hk, rfl, ha⟩ := hrel
    by_cases hlt : k < ps.length
    · obtain ⟨x, hx⟩ : ∃ x, ps[k]? = some x := ⟨ps[k], List.getElem?_eq_getElem hlt⟩
      have hcell : w1.cell? ⟨g, k, none⟩ = some (.string x) := by
        rw [hrow.cellAt k (by omega), List.getElem?_map, hx]; rfl
      cases hn : Pm.nameBB x with
      | true =>
        have ha2 : Hid ((ps.take (k + 1)).all Pm.nameBB = true) := Pm.all_take_succ _ _ _ _ hx ha.out hn
        have hc := fun w => lname_yes hn w
        clear hn hx
        go_wp2_with (go_at_call 71; refine (hc _).mono ?_; rintro e w' ⟨rfl, rfl⟩)
        go_round
        case rel => exact ⟨k + 1, by omega, by go_num, ha2⟩
        case measure => simp [intOf]; omega
      | false =>
        have hf := hbad.out (Pm.all_false_of _ _ _ _ hx hn)
        have hc := fun w => lname_no hn w
        clear hn hx
        have HF := Lib.hid hf
        clear hf
        go_wp2_with (go_at_call 71; refine (hc _).mono ?_; rintro e w' ⟨rfl, rfl⟩)
        go_ret
        exact ⟨ret_bool HF.out.symm, hB⟩
    · obtain rfl : k = ps.length := by omega
      have hf := hgood.out (by have := ha.out; rwa [List.take_length] at this)
      have HF := Lib.hid hf
      clear hf hlt
      go_wp2
      go_ret
      refine ⟨ret_bool ?_, hB⟩
      rw [HF.out]
      exact decide_eq_decide.2 (by omega)

set_option maxHeartbeats 400000 in
set_option maxRecDepth 100000 in
theorem specValid_root (w : World) :
    Calls Tryz.prog 51 #[.string ⟨#[47]⟩] w fun e w' => e = .returned (.bool true) ∧ w = w' := by
  go_enter Tryz.func51, Tryz.ntmps51
  go_wp2
  go_ret
  exact ⟨rfl, rfl⟩

set_option maxHeartbeats 400000 in
set_option maxRecDepth 100000 in
theorem specValid_empty (s : ByteArray) (h : s.size = 0) (w : World) :
    Calls Tryz.prog 51 #[.string s] w fun e w' => e = .returned (.bool false) ∧ w = w' := by
  obtain rfl : s = ⟨#[]⟩ := by
    obtain ⟨⟨l⟩⟩ := s
    have : l.length = 0 := h
    rw [List.length_eq_zero_iff] at this
    rw [this]
  go_enter Tryz.func51, Tryz.ntmps51
  go_wp2
  go_ret
  exact ⟨rfl, rfl⟩

set_option maxHeartbeats 400000 in
set_option maxRecDepth 100000 in
theorem specValid_other (s : ByteArray) (h1 : 1 ≤ s.size) (h0 : ((s[0].toNat : Int) != 47) = true) (hr : s ≠ ⟨#[47]⟩) (w : World) :
    Calls Tryz.prog 51 #[.string s] w fun e w' => e = .returned (.bool false) ∧ w = w' := by
  have hr2 := size_one_47 hr
  have h1' : (0 : Int) < s.size := by omega
  have hz : ((s.size : Int) == 0) = false := beq_eq_false_iff_ne.2 (by omega)
  clear hr
  go_enter Tryz.func51, Tryz.ntmps51
  go_wp2
  go_ret
  exact ⟨rfl, rfl⟩

/-- spec.PathValid, at every text of modest length. -/
theorem specValid_c (s : ByteArray) (hs : s.size ≤ 2097152) (w : World) :
    Calls Tryz.prog 51 #[.string s] w fun e w' => e = .returned (.bool (Pm.valid s.data.toList)) ∧ Below w.heap.size w w' := by
  by_cases hr : s = ⟨#[47]⟩
  · subst hr
    exact (specValid_root w).mono fun e w' ⟨h, h2⟩ => by subst h2; exact ⟨h, Below.refl _ _⟩
  · by_cases hz : s.size = 0
    · refine (specValid_empty s hz w).mono fun e w' ⟨h, h2⟩ => ?_
      subst h2
      refine ⟨?_, Below.refl _ _⟩
      rw [h, Pm.valid_no_slash]
      rw [List.getElem?_eq_none (by rw [← Lib.size_eq]; omega)]
      simp
    · cases h0 : ((s[0].toNat : Int) != 47) with
      | false => exact specValid_slash s hr (by omega) h0 hs w
      | true =>
        refine (specValid_other s (by omega) h0 hr w).mono fun e w' ⟨h, h2⟩ => ?_
        subst h2
        refine ⟨?_, Below.refl _ _⟩
        rw [h, Pm.valid_no_slash]
        rw [Pm.byte_getElem? s 0 (by omega)]
        intro e
        have : s[0] = 47 := by simpa using e
        rw [this] at h0
        exact absurd h0 (by decide)

theorem specValid_yes {s : ByteArray} (hs : s.size ≤ 2097152) (h : Pm.valid s.data.toList = true) (w : World) :
    Calls Tryz.prog 51 #[.string s] w fun e w' => e = .returned (.bool true) ∧ Below w.heap.size w w' := by rw [← h]; exact specValid_c s hs w
theorem specValid_no {s : ByteArray} (hs : s.size ≤ 2097152) (h : Pm.valid s.data.toList = false) (w : World) :
    Calls Tryz.prog 51 #[.string s] w fun e w' => e = .returned (.bool false) ∧ Below w.heap.size w w' := by rw [← h]; exact specValid_c s hs w

set_option maxHeartbeats 400000 in
set_option maxRecDepth 100000 in
theorem specDepth_c (s : ByteArray) (hs : s.size ≤ 2097152) (w : World) :
    Calls Tryz.prog 36 #[.string s] w fun e w' => e = .returned (.int .i64 (Pm.depth s.data.toList)) ∧ Below w.heap.size w w' := by
  cases hv : Pm.valid s.data.toList with
  | true =>
    have hd : Hid (Pm.depth s.data.toList = ((s.size / 2 : Nat) : Int)) := by show _ = _; unfold Pm.depth; rw [if_pos hv, ← Lib.size_eq]
    have hc := fun w => specValid_yes hs hv w
    clear hv
    go_enter Tryz.func36, Tryz.ntmps36
    go_wp2_with (go_at_call 51; refine (hc _).mono ?_; rintro e w' ⟨rfl, hb⟩)
    go_ret
    refine ⟨ret_int ?_, hb⟩
    rw [hd.out]; omega
  | false =>
    have hd : Hid (Pm.depth s.data.toList = -1) := by show _ = _; unfold Pm.depth; rw [hv]; rfl
    have hc := fun w => specValid_no hs hv w
    clear hv
    go_enter Tryz.func36, Tryz.ntmps36
    go_wp2_with (go_at_call 51; refine (hc _).mono ?_; rintro e w' ⟨rfl, hb⟩)
    go_ret
    exact ⟨ret_int hd.out.symm, hb⟩

end Go.Proofs.YtnmpbocnbcokeaaGreatDoor

/-
  PLAIN: parents and prefixes of texts, as values.
-/
namespace Go.Proofs.YtnmpbocnbcokeaaGreatDoor
open Go.RowKit

theorem ret_str {a b : ByteArray} (h : a = b) : Ending.returned (.string a) = .returned (.string b) := by rw [h]

def pfxB (s p : ByteArray) : Bool := decide (p.size ≤ s.size) && ((s.extract 0 p.size).toList == p.toList)

theorem pfxB_eq (s p : ByteArray) : pfxB s p = (decide (p.data.toList.length ≤ s.data.toList.length) && s.data.toList.take p.data.toList.length == p.data.toList) := by
  unfold pfxB
  rw [Lib.extract_toList, Lib.toList_data, Lib.size_eq, Lib.size_eq]; simp

theorem toNat_47 {c : UInt8} (h : c = 47) : ((c.toNat : Int) == 47) = true := by subst h; decide
theorem toNat_not_47 {c : UInt8} (h : c ≠ 47) : ((c.toNat : Int) == 47) = false := by
  rw [beq_eq_false_iff_ne]
  intro e
  exact h (UInt8.toNat_inj.1 (by show c.toNat = 47; omega))

def parentB (s : ByteArray) : ByteArray := ⟨⟨Pm.parent s.data.toList⟩⟩

def l1pB (s : ByteArray) : ByteArray := if s.size ≤ 2 then ⟨#[47]⟩ else s.extract 0 (s.size - 2)

def underB (a b : ByteArray) : Bool := Pm.under a.data.toList b.data.toList

def l1uB (a b : ByteArray) : Bool := (a.toList == [47] && !(b.toList == [47])) || (decide (a.size < b.size) && (b.extract 0 a.size).toList == a.toList)

theorem underB_eq (a b : ByteArray) : underB a b = (Pm.valid a.data.toList && Pm.valid b.data.toList && l1uB a b) := by
  unfold underB Pm.under l1uB
  rw [Lib.extract_toList, Lib.toList_data, Lib.toList_data, Lib.size_eq, Lib.size_eq]
  simp

theorem parentB_size (s : ByteArray) (m : Nat) (h : s.size ≤ m) (h1 : 1 ≤ m) : (parentB s).size ≤ m := by
  show (Pm.parent s.data.toList).length ≤ m
  unfold Pm.parent
  split
  · exact Nat.zero_le _
  · split
    · exact h1
    · rw [List.length_take, ← Lib.size_eq]; omega

theorem toList_ne {a b : ByteArray} (h : a ≠ b) : (a.toList == b.toList) = false := by
  rw [Lib.toList_data, Lib.toList_data]
  simpa using fun e => h (by rw [← Lib.mk_data a, ← Lib.mk_data b, e])

theorem l1pB_parent (s : ByteArray) (h : 1 ≤ Pm.depth s.data.toList) : l1pB s = parentB s := by
  obtain ⟨m, k1, k2, ⟨c, k3, k4⟩, k5, k6⟩ := Pm.last_facts s.data.toList h
  have hsz : s.size = m + 2 := by rw [Lib.size_eq]; exact k1
  unfold parentB l1pB
  rw [k5, ← Lib.size_eq]
  by_cases h : s.size ≤ 2
  · rw [if_pos h, if_pos h]
  · rw [if_neg h, if_neg h, Lib.extract_eq, hsz]; simp

end Go.Proofs.YtnmpbocnbcokeaaGreatDoor

/-
  WALKS: spec.l1Parent, spec.l1Under.
-/
namespace Go.Proofs.YtnmpbocnbcokeaaGreatDoor
open Go.RowKit

set_option maxHeartbeats 400000 in
set_option maxRecDepth 100000 in
theorem l1Parent_c (s : ByteArray) (hs : s.size ≤ 2097152) (h2 : 2 ≤ s.size) (w : World) :
    Calls Tryz.prog 38 #[.string s] w fun e w' => e = .returned (.string (l1pB s)) ∧ w = w' := by
  by_cases h : s.size ≤ 2
  · have h1 : (s.size : Int) ≤ 2 := by omega
    have hv : Hid (l1pB s = ⟨#[47]⟩) := if_pos h
    clear h
    go_enter Tryz.func38, Tryz.ntmps38
    go_wp2
    go_ret
    exact ⟨ret_str hv.out.symm, rfl⟩
  · obtain ⟨m, hm⟩ : ∃ m, s.size = m + 2 := ⟨s.size - 2, by omega⟩
    have hv : Hid (l1pB s = s.extract 0 m) := by show _ = _; unfold l1pB; rw [if_neg h, hm]; rfl
    have h1 : (2 : Int) < (m : Int) + 2 := by omega
    clear h h2
    go_enter Tryz.func38, Tryz.ntmps38
    go_wp2
    go_ret
    exact ⟨ret_str hv.out.symm, rfl⟩

end Go.Proofs.YtnmpbocnbcokeaaGreatDoor

/-
  WALKS: spec.TreeValid.
-/
namespace Go.Proofs.YtnmpbocnbcokeaaGreatDoor
open Go.RowKit
set_option linter.unusedVariables false

/-- All texts of a list of nodes are of modest length. -/
def Short (m : Nat) (ns : List Nd) : Prop := ∀ n ∈ ns, n.p.size ≤ m

/-- The first test on a node at a place (spec.TreeValid's first 'if'). -/
def bad1 (ns : List Nd) (i : Nat) (n : Nd) : Bool :=
  decide (depB n.p < 1) || !validB n.k n.v || (n.k == 0) || (match i with | 0 => false | j + 1 => (match ns[j]? with | some m => !ltB m.p n.p | none => false))

theorem field_kind (k v : Int) (W : World) : (Instr.field 25 (.agg #[.int .i64 k, .int .i64 v]) 0).run Tryz.prog W = .ok (.int .i64 k) W := by kernel_rfl

theorem bad1_succ {ns : List Nd} {j : Nat} {m n : Nd} (hm : ns[j]? = some m) : bad1 ns (j + 1) n = (decide (depB n.p < 1) || !validB n.k n.v || (n.k == 0) || !ltB m.p n.p) := by
  unfold bad1; simp [hm]

theorem okAt_eq {ns : List Nd} {i : Nat} {n : Nd} (hn : ns[i]? = some n) : okAt ns i = (!bad1 ns i n && ((getT ns (parB n.p)).1 == 1)) := by
  unfold okAt bad1
  rw [hn]
  have e : decide (1 ≤ depB n.p) = !decide (depB n.p < 1) := by
    by_cases h : depB n.p < 1
    · rw [decide_eq_true h, decide_eq_false (by omega)]; rfl
    · rw [decide_eq_false h, decide_eq_true (by omega)]; rfl
  simp only [e]
  cases i with
  | zero => simp
  | succ j =>
    cases h : ns[j]? with
    | none => simp [h]
    | some m => simp [h]

theorem validT_bad {ns : List Nd} {i : Nat} (hi : i < ns.length) (h : okAt ns i = false) : validT ns = false := by
  unfold validT
  rw [Bool.and_eq_false_iff]
  left
  rw [List.all_eq_false]
  exact ⟨i, List.mem_range.2 hi, by rw [h]; simp⟩

theorem validT_all {ns : List Nd} (h : ∀ j, j < ns.length → okAt ns j = true) : validT ns = decide (ns.length ≤ 10) := by
  unfold validT
  rw [List.all_eq_true.2 (fun j hj => h j (List.mem_range.1 hj))]
  simp

theorem dec_le (len : Nat) : decide (len ≤ 10) = decide ((len : Int) ≤ 10) := by
  by_cases h : len ≤ 10
  · rw [decide_eq_true h, decide_eq_true (by omega)]
  · rw [decide_eq_false h, decide_eq_false (by omega)]

theorem keep3 {w W W' : World} {a b c : Addr} {va vb vc : Value} (h : W.cell? a = some va ∧ W.cell? b = some vb ∧ W.cell? c = some vc ∧ Below w.heap.size w W) (hb : Below W.heap.size W W') :
    W'.cell? a = some va ∧ W'.cell? b = some vb ∧ W'.cell? c = some vc ∧ Below w.heap.size w W' :=
  ⟨cell_kept hb h.1, cell_kept hb h.2.1, cell_kept hb h.2.2.1, below_next h.2.2.2 hb⟩

theorem keep4 {w W W' : World} {a b c d : Addr} {va vb vc vd : Value} (h : W.cell? a = some va ∧ W.cell? b = some vb ∧ W.cell? c = some vc ∧ W.cell? d = some vd ∧ Below w.heap.size w W) (hb : Below W.heap.size W W') :
    W'.cell? a = some va ∧ W'.cell? b = some vb ∧ W'.cell? c = some vc ∧ W'.cell? d = some vd ∧ Below w.heap.size w W' :=
  ⟨cell_kept hb h.1, cell_kept hb h.2.1, cell_kept hb h.2.2.1, cell_kept hb h.2.2.2.1, below_next h.2.2.2.2 hb⟩

theorem size_of_depth {p : ByteArray} (h : 1 ≤ depB p) : 2 ≤ p.size := by
  obtain ⟨m, k1, -⟩ := Pm.last_facts p.data.toList h
  rw [Lib.size_eq]; omega

theorem below_succ {ns : List Nd} {i : Nat} (h : ∀ j, j < i → okAt ns j = true) (h1 : okAt ns i = true) : Hid (∀ j, j < i + 1 → okAt ns j = true) := by
  intro j hj
  by_cases e : j < i
  · exact h j e
  · have : j = i := by omega
    subst this; exact h1

def VRel (ns : List Nd) (W : World) (i : Value) (wr : World) : Prop :=
  ∃ n : Nat, i = .int .i64 n ∧ n ≤ ns.length ∧ Hid (∀ j, j < n → okAt ns j = true) ∧ Hid (Below W.heap.size W wr)

set_option maxHeartbeats 2000000 in
set_option maxRecDepth 100000 in
theorem specTreeValid_c (a : Option Addr) (len cap : Nat) (ns : List Nd) (hl : len ≤ 2097152) (hs : Short 2097152 ns) (W : World) (hN : NodesAt W a len ns) :
    Calls Tryz.prog 17 #[.slice a len cap] W (BoolPost (validT ns) W) := by
  have HN := Lib.hid hN
  have HE := Lib.hid hN.1
  have HS := Lib.hid hs
  have HL := Lib.hid hl
  have HG := Lib.hid (fun p W h => l3Get_c a len cap ns p hl W h)
  clear hN hs
  go_enter Tryz.func17, Tryz.ntmps17
  go_wp2
  go_loopw [3, 4] (fun i c wr => VRel ns W i wr) (fun i _ _ => len - (intOf i).toNat)
  case atStart => exact ⟨0, rfl, by omega, Lib.hid (fun j h => absurd h (by omega)), Below.refl _ _⟩
  case round =>
    obtain ⟨i, rfl, hi, HM, HB⟩ := hrel
    by_cases hlt : i < len
    · obtain ⟨b, off, n, rfl, hn, c0, c1, c2⟩ := (HN.out.keep HB.out).node hlt
      have hlt' : (i : Int) < len := by omega
      obtain ⟨p, k, v⟩ := n
      have hps := HS.out _ (List.mem_of_getElem? hn)
      have PSZ : Hid (p.size ≤ 2097152) := hps
      obtain ⟨d, hd⟩ : ∃ d, depB p = d := ⟨_, rfl⟩
      obtain ⟨vb, hvb⟩ : ∃ vb, validB k v = vb := ⟨_, rfl⟩
      have HD : Hid (∀ w, Calls Tryz.prog 36 #[.string p] w fun e w' => e = .returned (.int .i64 d) ∧ Below w.heap.size w w') := by intro w; rw [← hd]; exact specDepth_c p hps w
      have HV : Hid (∀ w, Calls Tryz.prog 37 #[.agg #[.int .i64 k, .int .i64 v]] w (BoolPost vb w)) := by intro w; rw [← hvb]; exact specConValid_c k v w
      have HI := Lib.hid hn
      have HLT := Lib.hid hlt
      clear hi hlt hn hps
      go_wp2
      obtain ⟨X, hX⟩ : ∃ X, X = wr.alloc (.cells #[.string p, .int .i64 k, .int .i64 v] 49) := ⟨_, rfl⟩
      have BX : Hid (X.cell? ⟨wr.heap.size, 0, none⟩ = some (.string p) ∧ X.cell? ⟨wr.heap.size, 1, none⟩ = some (.int .i64 k) ∧ X.cell? ⟨wr.heap.size, 2, none⟩ = some (.int .i64 v) ∧ Below W.heap.size W X) := by
        subst hX
        exact ⟨by rw [World.cell?_alloc_new]; rfl, by rw [World.cell?_alloc_new]; rfl, by rw [World.cell?_alloc_new]; rfl, below_next HB.out (below_box _ _)⟩
      have NX := Lib.hid (HN.out.keep BX.out.2.2.2)
      rw [← hX]
      clear hX c0 c1 c2
      by_cases hd1 : d < 1
      · have hdd : decide (d < 1) = true := decide_eq_true hd1
        have HS0 := Lib.hid (show X.drew.cell? ⟨wr.heap.size, 0, none⟩ = some (.string p) ∧ X.drew.cell? ⟨wr.heap.size, 1, none⟩ = some (.int .i64 k) ∧ X.drew.cell? ⟨wr.heap.size, 2, none⟩ = some (.int .i64 v) ∧ Below W.heap.size W X.drew from ⟨BX.out.1, BX.out.2.1, BX.out.2.2.1, BX.out.2.2.2.drew⟩)
        have HO := Lib.hid (show okAt ns i = false by rw [okAt_eq HI.out]; unfold bad1; rw [hd, decide_eq_true hd1]; rfl)
        clear hd hvb
        refine wp_region_held_drew (S := (fun w' => w'.cell? ⟨wr.heap.size, 0, none⟩ = some (.string p) ∧ w'.cell? ⟨wr.heap.size, 1, none⟩ = some (.int .i64 k) ∧ w'.cell? ⟨wr.heap.size, 2, none⟩ = some (.int .i64 v) ∧ Below W.heap.size W w')) (by kernel_rfl) HS0.out (fun hH => ?_)
        refine wpAnyH_take (i := 0) (oi := _) (v := ?_) rfl (by kernel_rfl) (by kernel_rfl) (by kernel_rfl) (fun _ _ _ h => h) (Or.inl ⟨by rfl, ?_⟩) (by assumption) ?_
        rotate_left
        · (intro w hSw; (try dsimp only at hSw); go_simp; try with_reducible rfl)
        try simp only [Act.put, List.getElem_toArray, List.getElem_cons_zero, List.setIfInBounds_toArray, List.set_cons_zero, List.set_cons_succ]
        refine wpAnyH_take (i := 1) (oi := _) (v := ?_) rfl (by kernel_rfl) (by kernel_rfl) (by kernel_rfl) (fun _ _ _ h => h) (Or.inl ⟨by rfl, ?_⟩) (by assumption) ?_
        rotate_left
        · (intro w hSw; (try dsimp only at hSw); go_simp; try with_reducible rfl)
        try simp only [Act.put, List.getElem_toArray, List.getElem_cons_zero, List.getElem_cons_succ, List.setIfInBounds_toArray, List.set_cons_zero, List.set_cons_succ]
        refine wpAnyH_ready (rs := [2]) (by kernel_rfl) (by simp) ?_
        refine AllReadyH.cons rfl (fun K hK => ?_) (AllReadyH.nil)
        go_simp
        go_at_call 36; (with_reducible refine (HD.out _).mono ?_); rintro e W5 ⟨rfl, hb5⟩
        refine hK.out _ _ (keep3 HS0.out hb5) (fun hHeld => ?_)
        try simp only [Act.put, List.getElem_toArray, List.getElem_cons_zero, List.getElem_cons_succ, List.setIfInBounds_toArray, List.set_cons_zero, List.set_cons_succ]
        refine wpAnyH_take (i := 3) (oi := _) (v := ?_) rfl (by kernel_rfl) (by kernel_rfl) (by kernel_rfl) (fun _ _ _ h => h) (Or.inl ⟨by rfl, ?_⟩) (by assumption) ?_
        rotate_left
        · (intro w hSw; (try dsimp only at hSw); go_simp; try with_reducible rfl)
        try simp only [Act.put, List.getElem_toArray, List.getElem_cons_zero, List.getElem_cons_succ, List.setIfInBounds_toArray, List.set_cons_zero, List.set_cons_succ]
        refine wpAnyH_take (i := 4) (oi := _) (v := ?_) rfl (by kernel_rfl) (by kernel_rfl) (by kernel_rfl) (fun _ _ _ h => h) (Or.inl ⟨by rfl, ?_⟩) (by assumption) ?_
        rotate_left
        · (intro w hSw; (try dsimp only at hSw); go_simp; try with_reducible rfl)
        try simp only [Act.put, List.getElem_toArray, List.getElem_cons_zero, List.getElem_cons_succ, List.setIfInBounds_toArray, List.set_cons_zero, List.set_cons_succ]
        first | refine wpAnyH_take (i := 5) (oi := _) (v := undef) rfl (by kernel_rfl) (by kernel_rfl) (by kernel_rfl) (fun _ _ _ h => h) (Or.inr ⟨by rfl, rfl⟩) (by assumption) ?_ | (refine wpAnyH_ready (rs := [5]) (by kernel_rfl) (by simp) ?_; refine AllReadyH.cons rfl (fun K hK => ?_) (AllReadyH.nil); rw [if_neg (by decide)]; refine hK.out _ _ (by assumption) (fun hHeld => ?_))
        try simp only [Act.put, List.getElem_toArray, List.getElem_cons_zero, List.getElem_cons_succ, List.setIfInBounds_toArray, List.set_cons_zero, List.set_cons_succ]
        first | refine wpAnyH_take (i := 6) (oi := _) (v := undef) rfl (by kernel_rfl) (by kernel_rfl) (by kernel_rfl) (fun _ _ _ h => h) (Or.inr ⟨by rfl, rfl⟩) (by assumption) ?_ | (refine wpAnyH_ready (rs := [6]) (by kernel_rfl) (by simp) ?_; refine AllReadyH.cons rfl (fun K hK => ?_) (AllReadyH.nil); rw [if_neg (by decide)]; refine hK.out _ _ (by assumption) (fun hHeld => ?_))
        try simp only [Act.put, List.getElem_toArray, List.getElem_cons_zero, List.getElem_cons_succ, List.setIfInBounds_toArray, List.set_cons_zero, List.set_cons_succ]
        first | refine wpAnyH_take (i := 7) (oi := _) (v := undef) rfl (by kernel_rfl) (by kernel_rfl) (by kernel_rfl) (fun _ _ _ h => h) (Or.inr ⟨by rfl, rfl⟩) (by assumption) ?_ | (refine wpAnyH_ready (rs := [7]) (by kernel_rfl) (by simp) ?_; refine AllReadyH.cons rfl (fun K hK => ?_) (AllReadyH.nil); rw [if_neg (by decide)]; refine hK.out _ _ (by assumption) (fun hHeld => ?_))
        try simp only [Act.put, List.getElem_toArray, List.getElem_cons_zero, List.getElem_cons_succ, List.setIfInBounds_toArray, List.set_cons_zero, List.set_cons_succ]
        first | refine wpAnyH_take (i := 8) (oi := _) (v := undef) rfl (by kernel_rfl) (by kernel_rfl) (by kernel_rfl) (fun _ _ _ h => h) (Or.inr ⟨by rfl, rfl⟩) (by assumption) ?_ | (refine wpAnyH_ready (rs := [8]) (by kernel_rfl) (by simp) ?_; refine AllReadyH.cons rfl (fun K hK => ?_) (AllReadyH.nil); rw [if_neg (by decide)]; refine hK.out _ _ (by assumption) (fun hHeld => ?_))
        try simp only [Act.put, List.getElem_toArray, List.getElem_cons_zero, List.getElem_cons_succ, List.setIfInBounds_toArray, List.set_cons_zero, List.set_cons_succ]
        refine wpAnyH_take (i := 9) (oi := _) (v := ?_) rfl (by kernel_rfl) (by kernel_rfl) (by kernel_rfl) (fun _ _ _ h => h) (Or.inl ⟨by rfl, ?_⟩) (by assumption) ?_
        rotate_left
        · (intro w hSw; (try dsimp only at hSw); go_simp; try with_reducible rfl)
        try simp only [Act.put, List.getElem_toArray, List.getElem_cons_zero, List.getElem_cons_succ, List.setIfInBounds_toArray, List.set_cons_zero, List.set_cons_succ]
        refine wpAnyH_take (i := 10) (oi := _) (v := ?_) rfl (by kernel_rfl) (by kernel_rfl) (by kernel_rfl) (fun _ _ _ h => h) (Or.inl ⟨by rfl, ?_⟩) (by assumption) ?_
        rotate_left
        · (intro w hSw; (try dsimp only at hSw); go_simp; try with_reducible rfl)
        try simp only [Act.put, List.getElem_toArray, List.getElem_cons_zero, List.getElem_cons_succ, List.setIfInBounds_toArray, List.set_cons_zero, List.set_cons_succ]
        first | refine wpAnyH_take (i := 11) (oi := _) (v := undef) rfl (by kernel_rfl) (by kernel_rfl) (by kernel_rfl) (fun _ _ _ h => h) (Or.inr ⟨by rfl, rfl⟩) (by assumption) ?_ | (refine wpAnyH_ready (rs := [11]) (by kernel_rfl) (by simp) ?_; refine AllReadyH.cons rfl (fun K hK => ?_) (AllReadyH.nil); rw [if_neg (by decide)]; refine hK.out _ _ (by assumption) (fun hHeld => ?_))
        try simp only [Act.put, List.getElem_toArray, List.getElem_cons_zero, List.getElem_cons_succ, List.setIfInBounds_toArray, List.set_cons_zero, List.set_cons_succ]
        first | refine wpAnyH_take (i := 12) (oi := _) (v := undef) rfl (by kernel_rfl) (by kernel_rfl) (by kernel_rfl) (fun _ _ _ h => h) (Or.inr ⟨by rfl, rfl⟩) (by assumption) ?_ | (refine wpAnyH_ready (rs := [12]) (by kernel_rfl) (by simp) ?_; refine AllReadyH.cons rfl (fun K hK => ?_) (AllReadyH.nil); rw [if_neg (by decide)]; refine hK.out _ _ (by assumption) (fun hHeld => ?_))
        try simp only [Act.put, List.getElem_toArray, List.getElem_cons_zero, List.getElem_cons_succ, List.setIfInBounds_toArray, List.set_cons_zero, List.set_cons_succ]
        first | refine wpAnyH_take (i := 13) (oi := _) (v := undef) rfl (by kernel_rfl) (by kernel_rfl) (by kernel_rfl) (fun _ _ _ h => h) (Or.inr ⟨by rfl, rfl⟩) (by assumption) ?_ | (refine wpAnyH_ready (rs := [13]) (by kernel_rfl) (by simp) ?_; refine AllReadyH.cons rfl (fun K hK => ?_) (AllReadyH.nil); rw [if_neg (by decide)]; refine hK.out _ _ (by assumption) (fun hHeld => ?_))
        try simp only [Act.put, List.getElem_toArray, List.getElem_cons_zero, List.getElem_cons_succ, List.setIfInBounds_toArray, List.set_cons_zero, List.set_cons_succ]
        first | refine wpAnyH_take (i := 14) (oi := _) (v := undef) rfl (by kernel_rfl) (by kernel_rfl) (by kernel_rfl) (fun _ _ _ h => h) (Or.inr ⟨by rfl, rfl⟩) (by assumption) ?_ | (refine wpAnyH_ready (rs := [14]) (by kernel_rfl) (by simp) ?_; refine AllReadyH.cons rfl (fun K hK => ?_) (AllReadyH.nil); rw [if_neg (by decide)]; refine hK.out _ _ (by assumption) (fun hHeld => ?_))
        try simp only [Act.put, List.getElem_toArray, List.getElem_cons_zero, List.getElem_cons_succ, List.setIfInBounds_toArray, List.set_cons_zero, List.set_cons_succ]
        refine wpAnyH_take (i := 15) (oi := _) (v := ?_) rfl (by kernel_rfl) (by kernel_rfl) (by kernel_rfl) (fun _ _ _ h => h) (Or.inl ⟨by rfl, ?_⟩) (by assumption) ?_
        rotate_left
        · (intro w hSw; (try dsimp only at hSw); go_simp; try with_reducible rfl)
        try simp only [Act.put, List.getElem_toArray, List.getElem_cons_zero, List.getElem_cons_succ, List.setIfInBounds_toArray, List.set_cons_zero, List.set_cons_succ]
        refine wpAnyH_take (i := 16) (oi := _) (v := ?_) rfl (by kernel_rfl) (by kernel_rfl) (by kernel_rfl) (fun _ _ _ h => h) (Or.inl ⟨by rfl, ?_⟩) (by assumption) ?_
        rotate_left
        · (intro w hSw; (try dsimp only at hSw); go_simp; try with_reducible rfl)
        try simp only [Act.put, List.getElem_toArray, List.getElem_cons_zero, List.getElem_cons_succ, List.setIfInBounds_toArray, List.set_cons_zero, List.set_cons_succ]
        first | refine wpAnyH_take (i := 17) (oi := _) (v := undef) rfl (by kernel_rfl) (by kernel_rfl) (by kernel_rfl) (fun _ _ _ h => h) (Or.inr ⟨by rfl, rfl⟩) (by assumption) ?_ | (refine wpAnyH_ready (rs := [17]) (by kernel_rfl) (by simp) ?_; refine AllReadyH.cons rfl (fun K hK => ?_) (AllReadyH.nil); rw [if_neg (by decide)]; refine hK.out _ _ (by assumption) (fun hHeld => ?_))
        try simp only [Act.put, List.getElem_toArray, List.getElem_cons_zero, List.getElem_cons_succ, List.setIfInBounds_toArray, List.set_cons_zero, List.set_cons_succ]
        first | refine wpAnyH_take (i := 18) (oi := _) (v := undef) rfl (by kernel_rfl) (by kernel_rfl) (by kernel_rfl) (fun _ _ _ h => h) (Or.inr ⟨by rfl, rfl⟩) (by assumption) ?_ | (refine wpAnyH_ready (rs := [18]) (by kernel_rfl) (by simp) ?_; refine AllReadyH.cons rfl (fun K hK => ?_) (AllReadyH.nil); rw [if_neg (by decide)]; refine hK.out _ _ (by assumption) (fun hHeld => ?_))
        try simp only [Act.put, List.getElem_toArray, List.getElem_cons_zero, List.getElem_cons_succ, List.setIfInBounds_toArray, List.set_cons_zero, List.set_cons_succ]
        first | refine wpAnyH_take (i := 19) (oi := _) (v := undef) rfl (by kernel_rfl) (by kernel_rfl) (by kernel_rfl) (fun _ _ _ h => h) (Or.inr ⟨by rfl, rfl⟩) (by assumption) ?_ | (refine wpAnyH_ready (rs := [19]) (by kernel_rfl) (by simp) ?_; refine AllReadyH.cons rfl (fun K hK => ?_) (AllReadyH.nil); rw [if_neg (by decide)]; refine hK.out _ _ (by assumption) (fun hHeld => ?_))
        try simp only [Act.put, List.getElem_toArray, List.getElem_cons_zero, List.getElem_cons_succ, List.setIfInBounds_toArray, List.set_cons_zero, List.set_cons_succ]
        first | refine wpAnyH_take (i := 20) (oi := _) (v := undef) rfl (by kernel_rfl) (by kernel_rfl) (by kernel_rfl) (fun _ _ _ h => h) (Or.inr ⟨by rfl, rfl⟩) (by assumption) ?_ | (refine wpAnyH_ready (rs := [20]) (by kernel_rfl) (by simp) ?_; refine AllReadyH.cons rfl (fun K hK => ?_) (AllReadyH.nil); rw [if_neg (by decide)]; refine hK.out _ _ (by assumption) (fun hHeld => ?_))
        try simp only [Act.put, List.getElem_toArray, List.getElem_cons_zero, List.getElem_cons_succ, List.setIfInBounds_toArray, List.set_cons_zero, List.set_cons_succ]
        first | refine wpAnyH_take (i := 21) (oi := _) (v := undef) rfl (by kernel_rfl) (by kernel_rfl) (by kernel_rfl) (fun _ _ _ h => h) (Or.inr ⟨by rfl, rfl⟩) (by assumption) ?_ | (refine wpAnyH_ready (rs := [21]) (by kernel_rfl) (by simp) ?_; refine AllReadyH.cons rfl (fun K hK => ?_) (AllReadyH.nil); rw [if_neg (by decide)]; refine hK.out _ _ (by assumption) (fun hHeld => ?_))
        try simp only [Act.put, List.getElem_toArray, List.getElem_cons_zero, List.getElem_cons_succ, List.setIfInBounds_toArray, List.set_cons_zero, List.set_cons_succ]
        first | refine wpAnyH_take (i := 22) (oi := _) (v := undef) rfl (by kernel_rfl) (by kernel_rfl) (by kernel_rfl) (fun _ _ _ h => h) (Or.inr ⟨by rfl, rfl⟩) (by assumption) ?_ | (refine wpAnyH_ready (rs := [22]) (by kernel_rfl) (by simp) ?_; refine AllReadyH.cons rfl (fun K hK => ?_) (AllReadyH.nil); rw [if_neg (by decide)]; refine hK.out _ _ (by assumption) (fun hHeld => ?_))
        try simp only [Act.put, List.getElem_toArray, List.getElem_cons_zero, List.getElem_cons_succ, List.setIfInBounds_toArray, List.set_cons_zero, List.set_cons_succ]
        first | refine wpAnyH_take (i := 23) (oi := _) (v := undef) rfl (by kernel_rfl) (by kernel_rfl) (by kernel_rfl) (fun _ _ _ h => h) (Or.inr ⟨by rfl, rfl⟩) (by assumption) ?_ | (refine wpAnyH_ready (rs := [23]) (by kernel_rfl) (by simp) ?_; refine AllReadyH.cons rfl (fun K hK => ?_) (AllReadyH.nil); rw [if_neg (by decide)]; refine hK.out _ _ (by assumption) (fun hHeld => ?_))
        try simp only [Act.put, List.getElem_toArray, List.getElem_cons_zero, List.getElem_cons_succ, List.setIfInBounds_toArray, List.set_cons_zero, List.set_cons_succ]
        first | refine wpAnyH_take (i := 24) (oi := _) (v := undef) rfl (by kernel_rfl) (by kernel_rfl) (by kernel_rfl) (fun _ _ _ h => h) (Or.inr ⟨by rfl, rfl⟩) (by assumption) ?_ | (refine wpAnyH_ready (rs := [24]) (by kernel_rfl) (by simp) ?_; refine AllReadyH.cons rfl (fun K hK => ?_) (AllReadyH.nil); rw [if_neg (by decide)]; refine hK.out _ _ (by assumption) (fun hHeld => ?_))
        try simp only [Act.put, List.getElem_toArray, List.getElem_cons_zero, List.getElem_cons_succ, List.setIfInBounds_toArray, List.set_cons_zero, List.set_cons_succ]
        first | refine wpAnyH_take (i := 25) (oi := _) (v := undef) rfl (by kernel_rfl) (by kernel_rfl) (by kernel_rfl) (fun _ _ _ h => h) (Or.inr ⟨by rfl, rfl⟩) (by assumption) ?_ | (refine wpAnyH_ready (rs := [25]) (by kernel_rfl) (by simp) ?_; refine AllReadyH.cons rfl (fun K hK => ?_) (AllReadyH.nil); rw [if_neg (by decide)]; refine hK.out _ _ (by assumption) (fun hHeld => ?_))
        try simp only [Act.put, List.getElem_toArray, List.getElem_cons_zero, List.getElem_cons_succ, List.setIfInBounds_toArray, List.set_cons_zero, List.set_cons_succ]
        first | refine wpAnyH_take (i := 26) (oi := _) (v := undef) rfl (by kernel_rfl) (by kernel_rfl) (by kernel_rfl) (fun _ _ _ h => h) (Or.inr ⟨by rfl, rfl⟩) (by assumption) ?_ | (refine wpAnyH_ready (rs := [26]) (by kernel_rfl) (by simp) ?_; refine AllReadyH.cons rfl (fun K hK => ?_) (AllReadyH.nil); rw [if_neg (by decide)]; refine hK.out _ _ (by assumption) (fun hHeld => ?_))
        try simp only [Act.put, List.getElem_toArray, List.getElem_cons_zero, List.getElem_cons_succ, List.setIfInBounds_toArray, List.set_cons_zero, List.set_cons_succ]
        first | refine wpAnyH_take (i := 27) (oi := _) (v := undef) rfl (by kernel_rfl) (by kernel_rfl) (by kernel_rfl) (fun _ _ _ h => h) (Or.inr ⟨by rfl, rfl⟩) (by assumption) ?_ | (refine wpAnyH_ready (rs := [27]) (by kernel_rfl) (by simp) ?_; refine AllReadyH.cons rfl (fun K hK => ?_) (AllReadyH.nil); rw [if_neg (by decide)]; refine hK.out _ _ (by assumption) (fun hHeld => ?_))
        try simp only [Act.put, List.getElem_toArray, List.getElem_cons_zero, List.getElem_cons_succ, List.setIfInBounds_toArray, List.set_cons_zero, List.set_cons_succ]
        first | refine wpAnyH_take (i := 28) (oi := _) (v := undef) rfl (by kernel_rfl) (by kernel_rfl) (by kernel_rfl) (fun _ _ _ h => h) (Or.inr ⟨by rfl, rfl⟩) (by assumption) ?_ | (refine wpAnyH_ready (rs := [28]) (by kernel_rfl) (by simp) ?_; refine AllReadyH.cons rfl (fun K hK => ?_) (AllReadyH.nil); rw [if_neg (by decide)]; refine hK.out _ _ (by assumption) (fun hHeld => ?_))
        try simp only [Act.put, List.getElem_toArray, List.getElem_cons_zero, List.getElem_cons_succ, List.setIfInBounds_toArray, List.set_cons_zero, List.set_cons_succ]
        first | refine wpAnyH_take (i := 29) (oi := _) (v := undef) rfl (by kernel_rfl) (by kernel_rfl) (by kernel_rfl) (fun _ _ _ h => h) (Or.inr ⟨by rfl, rfl⟩) (by assumption) ?_ | (refine wpAnyH_ready (rs := [29]) (by kernel_rfl) (by simp) ?_; refine AllReadyH.cons rfl (fun K hK => ?_) (AllReadyH.nil); rw [if_neg (by decide)]; refine hK.out _ _ (by assumption) (fun hHeld => ?_))
        try simp only [Act.put, List.getElem_toArray, List.getElem_cons_zero, List.getElem_cons_succ, List.setIfInBounds_toArray, List.set_cons_zero, List.set_cons_succ]
        refine wpAnyH_take (i := 30) (oi := _) (v := ?_) rfl (by kernel_rfl) (by kernel_rfl) (by kernel_rfl) (fun _ _ _ h => h) (Or.inl ⟨by rfl, ?_⟩) (by assumption) ?_
        rotate_left
        · (intro w hSw; (try dsimp only at hSw); go_simp; try with_reducible rfl)
        try simp only [Act.put, List.getElem_toArray, List.getElem_cons_zero, List.getElem_cons_succ, List.setIfInBounds_toArray, List.set_cons_zero, List.set_cons_succ]
        refine wpAnyH_done (by kernel_rfl) ?_ _
        have HX := Lib.hid (validT_bad (by have := HE.out; have := HLT.out; omega) HO.out)
        go_wp2
        go_ret
        exact ⟨by rw [HX.out]; rfl, hHeld.2.2.2⟩
      · have hd1' : 1 ≤ d := by omega
        have hdd : decide (d < 1) = false := decide_eq_false hd1
        have HD1 := Lib.hid (show 1 ≤ depB p by rw [hd]; exact hd1')
        cases vb with
        | false =>
          have HS0 := Lib.hid (show X.drew.cell? ⟨wr.heap.size, 0, none⟩ = some (.string p) ∧ X.drew.cell? ⟨wr.heap.size, 1, none⟩ = some (.int .i64 k) ∧ X.drew.cell? ⟨wr.heap.size, 2, none⟩ = some (.int .i64 v) ∧ Below W.heap.size W X.drew from ⟨BX.out.1, BX.out.2.1, BX.out.2.2.1, BX.out.2.2.2.drew⟩)
          have HO := Lib.hid (show okAt ns i = false by rw [okAt_eq HI.out]; unfold bad1; rw [hvb]; simp)
          clear hd hvb hd1
          refine wp_region_held_drew (S := (fun w' => w'.cell? ⟨wr.heap.size, 0, none⟩ = some (.string p) ∧ w'.cell? ⟨wr.heap.size, 1, none⟩ = some (.int .i64 k) ∧ w'.cell? ⟨wr.heap.size, 2, none⟩ = some (.int .i64 v) ∧ Below W.heap.size W w')) (by kernel_rfl) HS0.out (fun hH => ?_)
          refine wpAnyH_take (i := 0) (oi := _) (v := ?_) rfl (by kernel_rfl) (by kernel_rfl) (by kernel_rfl) (fun _ _ _ h => h) (Or.inl ⟨by rfl, ?_⟩) (by assumption) ?_
          rotate_left
          · (intro w hSw; (try dsimp only at hSw); go_simp; try with_reducible rfl)
          try simp only [Act.put, List.getElem_toArray, List.getElem_cons_zero, List.setIfInBounds_toArray, List.set_cons_zero, List.set_cons_succ]
          refine wpAnyH_take (i := 1) (oi := _) (v := ?_) rfl (by kernel_rfl) (by kernel_rfl) (by kernel_rfl) (fun _ _ _ h => h) (Or.inl ⟨by rfl, ?_⟩) (by assumption) ?_
          rotate_left
          · (intro w hSw; (try dsimp only at hSw); go_simp; try with_reducible rfl)
          try simp only [Act.put, List.getElem_toArray, List.getElem_cons_zero, List.getElem_cons_succ, List.setIfInBounds_toArray, List.set_cons_zero, List.set_cons_succ]
          refine wpAnyH_ready (rs := [2]) (by kernel_rfl) (by simp) ?_
          refine AllReadyH.cons rfl (fun K hK => ?_) (AllReadyH.nil)
          go_simp
          go_at_call 36; (with_reducible refine (HD.out _).mono ?_); rintro e W5 ⟨rfl, hb5⟩
          refine hK.out _ _ (keep3 HS0.out hb5) (fun hHeld => ?_)
          try simp only [Act.put, List.getElem_toArray, List.getElem_cons_zero, List.getElem_cons_succ, List.setIfInBounds_toArray, List.set_cons_zero, List.set_cons_succ]
          refine wpAnyH_take (i := 3) (oi := _) (v := ?_) rfl (by kernel_rfl) (by kernel_rfl) (by kernel_rfl) (fun _ _ _ h => h) (Or.inl ⟨by rfl, ?_⟩) (by assumption) ?_
          rotate_left
          · (intro w hSw; (try dsimp only at hSw); go_simp; try with_reducible rfl)
          try simp only [Act.put, List.getElem_toArray, List.getElem_cons_zero, List.getElem_cons_succ, List.setIfInBounds_toArray, List.set_cons_zero, List.set_cons_succ]
          refine wpAnyH_take (i := 4) (oi := _) (v := ?_) rfl (by kernel_rfl) (by kernel_rfl) (by kernel_rfl) (fun _ _ _ h => h) (Or.inl ⟨by rfl, ?_⟩) (by assumption) ?_
          rotate_left
          · (intro w hSw; (try dsimp only at hSw); go_simp; try with_reducible rfl)
          try simp only [Act.put, List.getElem_toArray, List.getElem_cons_zero, List.getElem_cons_succ, List.setIfInBounds_toArray, List.set_cons_zero, List.set_cons_succ]
          refine wpAnyH_take (i := 5) (oi := _) (v := ?_) rfl (by kernel_rfl) (by kernel_rfl) (by kernel_rfl) (fun _ _ _ h => h) (Or.inl ⟨by rfl, ?_⟩) (by assumption) ?_
          rotate_left
          · (intro w hSw; (try dsimp only at hSw); go_simp; try with_reducible rfl)
          try simp only [Act.put, List.getElem_toArray, List.getElem_cons_zero, List.getElem_cons_succ, List.setIfInBounds_toArray, List.set_cons_zero, List.set_cons_succ]
          refine wpAnyH_take (i := 6) (oi := _) (v := ?_) rfl (by kernel_rfl) (by kernel_rfl) (by kernel_rfl) (fun _ _ _ h => h) (Or.inl ⟨by rfl, ?_⟩) (by assumption) ?_
          rotate_left
          · (intro w hSw; (try dsimp only at hSw); go_simp; try with_reducible rfl)
          try simp only [Act.put, List.getElem_toArray, List.getElem_cons_zero, List.getElem_cons_succ, List.setIfInBounds_toArray, List.set_cons_zero, List.set_cons_succ]
          refine wpAnyH_ready (rs := [7]) (by kernel_rfl) (by simp) ?_
          refine AllReadyH.cons rfl (fun K hK => ?_) (AllReadyH.nil)
          go_simp
          go_at_call 37; (with_reducible refine (HV.out _).mono ?_); rintro e W6 ⟨rfl, hb6⟩
          refine hK.out _ _ (keep3 hHeld hb6) (fun hHeld => ?_)
          try simp only [Act.put, List.getElem_toArray, List.getElem_cons_zero, List.getElem_cons_succ, List.setIfInBounds_toArray, List.set_cons_zero, List.set_cons_succ]
          refine wpAnyH_take (i := 8) (oi := _) (v := ?_) rfl (by kernel_rfl) (by kernel_rfl) (by kernel_rfl) (fun _ _ _ h => h) (Or.inl ⟨by rfl, ?_⟩) (by assumption) ?_
          rotate_left
          · (intro w hSw; (try dsimp only at hSw); go_simp; try with_reducible rfl)
          try simp only [Act.put, List.getElem_toArray, List.getElem_cons_zero, List.getElem_cons_succ, List.setIfInBounds_toArray, List.set_cons_zero, List.set_cons_succ]
          refine wpAnyH_take (i := 9) (oi := _) (v := ?_) rfl (by kernel_rfl) (by kernel_rfl) (by kernel_rfl) (fun _ _ _ h => h) (Or.inl ⟨by rfl, ?_⟩) (by assumption) ?_
          rotate_left
          · (intro w hSw; (try dsimp only at hSw); go_simp; try with_reducible rfl)
          try simp only [Act.put, List.getElem_toArray, List.getElem_cons_zero, List.getElem_cons_succ, List.setIfInBounds_toArray, List.set_cons_zero, List.set_cons_succ]
          refine wpAnyH_take (i := 10) (oi := _) (v := ?_) rfl (by kernel_rfl) (by kernel_rfl) (by kernel_rfl) (fun _ _ _ h => h) (Or.inl ⟨by rfl, ?_⟩) (by assumption) ?_
          rotate_left
          · (intro w hSw; (try dsimp only at hSw); go_simp; try with_reducible rfl)
          try simp only [Act.put, List.getElem_toArray, List.getElem_cons_zero, List.getElem_cons_succ, List.setIfInBounds_toArray, List.set_cons_zero, List.set_cons_succ]
          first | refine wpAnyH_take (i := 11) (oi := _) (v := undef) rfl (by kernel_rfl) (by kernel_rfl) (by kernel_rfl) (fun _ _ _ h => h) (Or.inr ⟨by rfl, rfl⟩) (by assumption) ?_ | (refine wpAnyH_ready (rs := [11]) (by kernel_rfl) (by simp) ?_; refine AllReadyH.cons rfl (fun K hK => ?_) (AllReadyH.nil); rw [if_neg (by decide)]; refine hK.out _ _ (by assumption) (fun hHeld => ?_))
          try simp only [Act.put, List.getElem_toArray, List.getElem_cons_zero, List.getElem_cons_succ, List.setIfInBounds_toArray, List.set_cons_zero, List.set_cons_succ]
          first | refine wpAnyH_take (i := 12) (oi := _) (v := undef) rfl (by kernel_rfl) (by kernel_rfl) (by kernel_rfl) (fun _ _ _ h => h) (Or.inr ⟨by rfl, rfl⟩) (by assumption) ?_ | (refine wpAnyH_ready (rs := [12]) (by kernel_rfl) (by simp) ?_; refine AllReadyH.cons rfl (fun K hK => ?_) (AllReadyH.nil); rw [if_neg (by decide)]; refine hK.out _ _ (by assumption) (fun hHeld => ?_))
          try simp only [Act.put, List.getElem_toArray, List.getElem_cons_zero, List.getElem_cons_succ, List.setIfInBounds_toArray, List.set_cons_zero, List.set_cons_succ]
          first | refine wpAnyH_take (i := 13) (oi := _) (v := undef) rfl (by kernel_rfl) (by kernel_rfl) (by kernel_rfl) (fun _ _ _ h => h) (Or.inr ⟨by rfl, rfl⟩) (by assumption) ?_ | (refine wpAnyH_ready (rs := [13]) (by kernel_rfl) (by simp) ?_; refine AllReadyH.cons rfl (fun K hK => ?_) (AllReadyH.nil); rw [if_neg (by decide)]; refine hK.out _ _ (by assumption) (fun hHeld => ?_))
          try simp only [Act.put, List.getElem_toArray, List.getElem_cons_zero, List.getElem_cons_succ, List.setIfInBounds_toArray, List.set_cons_zero, List.set_cons_succ]
          first | refine wpAnyH_take (i := 14) (oi := _) (v := undef) rfl (by kernel_rfl) (by kernel_rfl) (by kernel_rfl) (fun _ _ _ h => h) (Or.inr ⟨by rfl, rfl⟩) (by assumption) ?_ | (refine wpAnyH_ready (rs := [14]) (by kernel_rfl) (by simp) ?_; refine AllReadyH.cons rfl (fun K hK => ?_) (AllReadyH.nil); rw [if_neg (by decide)]; refine hK.out _ _ (by assumption) (fun hHeld => ?_))
          try simp only [Act.put, List.getElem_toArray, List.getElem_cons_zero, List.getElem_cons_succ, List.setIfInBounds_toArray, List.set_cons_zero, List.set_cons_succ]
          refine wpAnyH_take (i := 15) (oi := _) (v := ?_) rfl (by kernel_rfl) (by kernel_rfl) (by kernel_rfl) (fun _ _ _ h => h) (Or.inl ⟨by rfl, ?_⟩) (by assumption) ?_
          rotate_left
          · (intro w hSw; (try dsimp only at hSw); go_simp; try with_reducible rfl)
          try simp only [Act.put, List.getElem_toArray, List.getElem_cons_zero, List.getElem_cons_succ, List.setIfInBounds_toArray, List.set_cons_zero, List.set_cons_succ]
          refine wpAnyH_take (i := 16) (oi := _) (v := ?_) rfl (by kernel_rfl) (by kernel_rfl) (by kernel_rfl) (fun _ _ _ h => h) (Or.inl ⟨by rfl, ?_⟩) (by assumption) ?_
          rotate_left
          · (intro w hSw; (try dsimp only at hSw); go_simp; try with_reducible rfl)
          try simp only [Act.put, List.getElem_toArray, List.getElem_cons_zero, List.getElem_cons_succ, List.setIfInBounds_toArray, List.set_cons_zero, List.set_cons_succ]
          first | refine wpAnyH_take (i := 17) (oi := _) (v := undef) rfl (by kernel_rfl) (by kernel_rfl) (by kernel_rfl) (fun _ _ _ h => h) (Or.inr ⟨by rfl, rfl⟩) (by assumption) ?_ | (refine wpAnyH_ready (rs := [17]) (by kernel_rfl) (by simp) ?_; refine AllReadyH.cons rfl (fun K hK => ?_) (AllReadyH.nil); rw [if_neg (by decide)]; refine hK.out _ _ (by assumption) (fun hHeld => ?_))
          try simp only [Act.put, List.getElem_toArray, List.getElem_cons_zero, List.getElem_cons_succ, List.setIfInBounds_toArray, List.set_cons_zero, List.set_cons_succ]
          first | refine wpAnyH_take (i := 18) (oi := _) (v := undef) rfl (by kernel_rfl) (by kernel_rfl) (by kernel_rfl) (fun _ _ _ h => h) (Or.inr ⟨by rfl, rfl⟩) (by assumption) ?_ | (refine wpAnyH_ready (rs := [18]) (by kernel_rfl) (by simp) ?_; refine AllReadyH.cons rfl (fun K hK => ?_) (AllReadyH.nil); rw [if_neg (by decide)]; refine hK.out _ _ (by assumption) (fun hHeld => ?_))
          try simp only [Act.put, List.getElem_toArray, List.getElem_cons_zero, List.getElem_cons_succ, List.setIfInBounds_toArray, List.set_cons_zero, List.set_cons_succ]
          first | refine wpAnyH_take (i := 19) (oi := _) (v := undef) rfl (by kernel_rfl) (by kernel_rfl) (by kernel_rfl) (fun _ _ _ h => h) (Or.inr ⟨by rfl, rfl⟩) (by assumption) ?_ | (refine wpAnyH_ready (rs := [19]) (by kernel_rfl) (by simp) ?_; refine AllReadyH.cons rfl (fun K hK => ?_) (AllReadyH.nil); rw [if_neg (by decide)]; refine hK.out _ _ (by assumption) (fun hHeld => ?_))
          try simp only [Act.put, List.getElem_toArray, List.getElem_cons_zero, List.getElem_cons_succ, List.setIfInBounds_toArray, List.set_cons_zero, List.set_cons_succ]
          first | refine wpAnyH_take (i := 20) (oi := _) (v := undef) rfl (by kernel_rfl) (by kernel_rfl) (by kernel_rfl) (fun _ _ _ h => h) (Or.inr ⟨by rfl, rfl⟩) (by assumption) ?_ | (refine wpAnyH_ready (rs := [20]) (by kernel_rfl) (by simp) ?_; refine AllReadyH.cons rfl (fun K hK => ?_) (AllReadyH.nil); rw [if_neg (by decide)]; refine hK.out _ _ (by assumption) (fun hHeld => ?_))
          try simp only [Act.put, List.getElem_toArray, List.getElem_cons_zero, List.getElem_cons_succ, List.setIfInBounds_toArray, List.set_cons_zero, List.set_cons_succ]
          first | refine wpAnyH_take (i := 21) (oi := _) (v := undef) rfl (by kernel_rfl) (by kernel_rfl) (by kernel_rfl) (fun _ _ _ h => h) (Or.inr ⟨by rfl, rfl⟩) (by assumption) ?_ | (refine wpAnyH_ready (rs := [21]) (by kernel_rfl) (by simp) ?_; refine AllReadyH.cons rfl (fun K hK => ?_) (AllReadyH.nil); rw [if_neg (by decide)]; refine hK.out _ _ (by assumption) (fun hHeld => ?_))
          try simp only [Act.put, List.getElem_toArray, List.getElem_cons_zero, List.getElem_cons_succ, List.setIfInBounds_toArray, List.set_cons_zero, List.set_cons_succ]
          first | refine wpAnyH_take (i := 22) (oi := _) (v := undef) rfl (by kernel_rfl) (by kernel_rfl) (by kernel_rfl) (fun _ _ _ h => h) (Or.inr ⟨by rfl, rfl⟩) (by assumption) ?_ | (refine wpAnyH_ready (rs := [22]) (by kernel_rfl) (by simp) ?_; refine AllReadyH.cons rfl (fun K hK => ?_) (AllReadyH.nil); rw [if_neg (by decide)]; refine hK.out _ _ (by assumption) (fun hHeld => ?_))
          try simp only [Act.put, List.getElem_toArray, List.getElem_cons_zero, List.getElem_cons_succ, List.setIfInBounds_toArray, List.set_cons_zero, List.set_cons_succ]
          first | refine wpAnyH_take (i := 23) (oi := _) (v := undef) rfl (by kernel_rfl) (by kernel_rfl) (by kernel_rfl) (fun _ _ _ h => h) (Or.inr ⟨by rfl, rfl⟩) (by assumption) ?_ | (refine wpAnyH_ready (rs := [23]) (by kernel_rfl) (by simp) ?_; refine AllReadyH.cons rfl (fun K hK => ?_) (AllReadyH.nil); rw [if_neg (by decide)]; refine hK.out _ _ (by assumption) (fun hHeld => ?_))
          try simp only [Act.put, List.getElem_toArray, List.getElem_cons_zero, List.getElem_cons_succ, List.setIfInBounds_toArray, List.set_cons_zero, List.set_cons_succ]
          first | refine wpAnyH_take (i := 24) (oi := _) (v := undef) rfl (by kernel_rfl) (by kernel_rfl) (by kernel_rfl) (fun _ _ _ h => h) (Or.inr ⟨by rfl, rfl⟩) (by assumption) ?_ | (refine wpAnyH_ready (rs := [24]) (by kernel_rfl) (by simp) ?_; refine AllReadyH.cons rfl (fun K hK => ?_) (AllReadyH.nil); rw [if_neg (by decide)]; refine hK.out _ _ (by assumption) (fun hHeld => ?_))
          try simp only [Act.put, List.getElem_toArray, List.getElem_cons_zero, List.getElem_cons_succ, List.setIfInBounds_toArray, List.set_cons_zero, List.set_cons_succ]
          first | refine wpAnyH_take (i := 25) (oi := _) (v := undef) rfl (by kernel_rfl) (by kernel_rfl) (by kernel_rfl) (fun _ _ _ h => h) (Or.inr ⟨by rfl, rfl⟩) (by assumption) ?_ | (refine wpAnyH_ready (rs := [25]) (by kernel_rfl) (by simp) ?_; refine AllReadyH.cons rfl (fun K hK => ?_) (AllReadyH.nil); rw [if_neg (by decide)]; refine hK.out _ _ (by assumption) (fun hHeld => ?_))
          try simp only [Act.put, List.getElem_toArray, List.getElem_cons_zero, List.getElem_cons_succ, List.setIfInBounds_toArray, List.set_cons_zero, List.set_cons_succ]
          first | refine wpAnyH_take (i := 26) (oi := _) (v := undef) rfl (by kernel_rfl) (by kernel_rfl) (by kernel_rfl) (fun _ _ _ h => h) (Or.inr ⟨by rfl, rfl⟩) (by assumption) ?_ | (refine wpAnyH_ready (rs := [26]) (by kernel_rfl) (by simp) ?_; refine AllReadyH.cons rfl (fun K hK => ?_) (AllReadyH.nil); rw [if_neg (by decide)]; refine hK.out _ _ (by assumption) (fun hHeld => ?_))
          try simp only [Act.put, List.getElem_toArray, List.getElem_cons_zero, List.getElem_cons_succ, List.setIfInBounds_toArray, List.set_cons_zero, List.set_cons_succ]
          first | refine wpAnyH_take (i := 27) (oi := _) (v := undef) rfl (by kernel_rfl) (by kernel_rfl) (by kernel_rfl) (fun _ _ _ h => h) (Or.inr ⟨by rfl, rfl⟩) (by assumption) ?_ | (refine wpAnyH_ready (rs := [27]) (by kernel_rfl) (by simp) ?_; refine AllReadyH.cons rfl (fun K hK => ?_) (AllReadyH.nil); rw [if_neg (by decide)]; refine hK.out _ _ (by assumption) (fun hHeld => ?_))
          try simp only [Act.put, List.getElem_toArray, List.getElem_cons_zero, List.getElem_cons_succ, List.setIfInBounds_toArray, List.set_cons_zero, List.set_cons_succ]
          first | refine wpAnyH_take (i := 28) (oi := _) (v := undef) rfl (by kernel_rfl) (by kernel_rfl) (by kernel_rfl) (fun _ _ _ h => h) (Or.inr ⟨by rfl, rfl⟩) (by assumption) ?_ | (refine wpAnyH_ready (rs := [28]) (by kernel_rfl) (by simp) ?_; refine AllReadyH.cons rfl (fun K hK => ?_) (AllReadyH.nil); rw [if_neg (by decide)]; refine hK.out _ _ (by assumption) (fun hHeld => ?_))
          try simp only [Act.put, List.getElem_toArray, List.getElem_cons_zero, List.getElem_cons_succ, List.setIfInBounds_toArray, List.set_cons_zero, List.set_cons_succ]
          first | refine wpAnyH_take (i := 29) (oi := _) (v := undef) rfl (by kernel_rfl) (by kernel_rfl) (by kernel_rfl) (fun _ _ _ h => h) (Or.inr ⟨by rfl, rfl⟩) (by assumption) ?_ | (refine wpAnyH_ready (rs := [29]) (by kernel_rfl) (by simp) ?_; refine AllReadyH.cons rfl (fun K hK => ?_) (AllReadyH.nil); rw [if_neg (by decide)]; refine hK.out _ _ (by assumption) (fun hHeld => ?_))
          try simp only [Act.put, List.getElem_toArray, List.getElem_cons_zero, List.getElem_cons_succ, List.setIfInBounds_toArray, List.set_cons_zero, List.set_cons_succ]
          refine wpAnyH_take (i := 30) (oi := _) (v := ?_) rfl (by kernel_rfl) (by kernel_rfl) (by kernel_rfl) (fun _ _ _ h => h) (Or.inl ⟨by rfl, ?_⟩) (by assumption) ?_
          rotate_left
          · (intro w hSw; (try dsimp only at hSw); go_simp; try with_reducible rfl)
          try simp only [Act.put, List.getElem_toArray, List.getElem_cons_zero, List.getElem_cons_succ, List.setIfInBounds_toArray, List.set_cons_zero, List.set_cons_succ]
          refine wpAnyH_done (by kernel_rfl) ?_ _
          have HX := Lib.hid (validT_bad (by have := HE.out; have := HLT.out; omega) HO.out)
          go_wp2
          go_ret
          exact ⟨by rw [HX.out]; rfl, hHeld.2.2.2⟩
        | true =>
          by_cases hk : k = 0
          · subst hk
            have HS0 := Lib.hid (show X.drew.cell? ⟨wr.heap.size, 0, none⟩ = some (.string p) ∧ X.drew.cell? ⟨wr.heap.size, 1, none⟩ = some (.int .i64 0) ∧ X.drew.cell? ⟨wr.heap.size, 2, none⟩ = some (.int .i64 v) ∧ Below W.heap.size W X.drew from ⟨BX.out.1, BX.out.2.1, BX.out.2.2.1, BX.out.2.2.2.drew⟩)
            have HO := Lib.hid (show okAt ns i = false by rw [okAt_eq HI.out]; unfold bad1; simp)
            clear hd hvb hd1
            refine wp_region_held_drew (S := (fun w' => w'.cell? ⟨wr.heap.size, 0, none⟩ = some (.string p) ∧ w'.cell? ⟨wr.heap.size, 1, none⟩ = some (.int .i64 0) ∧ w'.cell? ⟨wr.heap.size, 2, none⟩ = some (.int .i64 v) ∧ Below W.heap.size W w')) (by kernel_rfl) HS0.out (fun hH => ?_)
            refine wpAnyH_take (i := 0) (oi := _) (v := ?_) rfl (by kernel_rfl) (by kernel_rfl) (by kernel_rfl) (fun _ _ _ h => h) (Or.inl ⟨by rfl, ?_⟩) (by assumption) ?_
            rotate_left
            · (intro w hSw; (try dsimp only at hSw); go_simp; try with_reducible rfl)
            try simp only [Act.put, List.getElem_toArray, List.getElem_cons_zero, List.setIfInBounds_toArray, List.set_cons_zero, List.set_cons_succ]
            refine wpAnyH_take (i := 1) (oi := _) (v := ?_) rfl (by kernel_rfl) (by kernel_rfl) (by kernel_rfl) (fun _ _ _ h => h) (Or.inl ⟨by rfl, ?_⟩) (by assumption) ?_
            rotate_left
            · (intro w hSw; (try dsimp only at hSw); go_simp; try with_reducible rfl)
            try simp only [Act.put, List.getElem_toArray, List.getElem_cons_zero, List.getElem_cons_succ, List.setIfInBounds_toArray, List.set_cons_zero, List.set_cons_succ]
            refine wpAnyH_ready (rs := [2]) (by kernel_rfl) (by simp) ?_
            refine AllReadyH.cons rfl (fun K hK => ?_) (AllReadyH.nil)
            go_simp
            go_at_call 36; (with_reducible refine (HD.out _).mono ?_); rintro e W5 ⟨rfl, hb5⟩
            refine hK.out _ _ (keep3 HS0.out hb5) (fun hHeld => ?_)
            try simp only [Act.put, List.getElem_toArray, List.getElem_cons_zero, List.getElem_cons_succ, List.setIfInBounds_toArray, List.set_cons_zero, List.set_cons_succ]
            refine wpAnyH_take (i := 3) (oi := _) (v := ?_) rfl (by kernel_rfl) (by kernel_rfl) (by kernel_rfl) (fun _ _ _ h => h) (Or.inl ⟨by rfl, ?_⟩) (by assumption) ?_
            rotate_left
            · (intro w hSw; (try dsimp only at hSw); go_simp; try with_reducible rfl)
            try simp only [Act.put, List.getElem_toArray, List.getElem_cons_zero, List.getElem_cons_succ, List.setIfInBounds_toArray, List.set_cons_zero, List.set_cons_succ]
            refine wpAnyH_take (i := 4) (oi := _) (v := ?_) rfl (by kernel_rfl) (by kernel_rfl) (by kernel_rfl) (fun _ _ _ h => h) (Or.inl ⟨by rfl, ?_⟩) (by assumption) ?_
            rotate_left
            · (intro w hSw; (try dsimp only at hSw); go_simp; try with_reducible rfl)
            try simp only [Act.put, List.getElem_toArray, List.getElem_cons_zero, List.getElem_cons_succ, List.setIfInBounds_toArray, List.set_cons_zero, List.set_cons_succ]
            refine wpAnyH_take (i := 5) (oi := _) (v := ?_) rfl (by kernel_rfl) (by kernel_rfl) (by kernel_rfl) (fun _ _ _ h => h) (Or.inl ⟨by rfl, ?_⟩) (by assumption) ?_
            rotate_left
            · (intro w hSw; (try dsimp only at hSw); go_simp; try with_reducible rfl)
            try simp only [Act.put, List.getElem_toArray, List.getElem_cons_zero, List.getElem_cons_succ, List.setIfInBounds_toArray, List.set_cons_zero, List.set_cons_succ]
            refine wpAnyH_take (i := 6) (oi := _) (v := ?_) rfl (by kernel_rfl) (by kernel_rfl) (by kernel_rfl) (fun _ _ _ h => h) (Or.inl ⟨by rfl, ?_⟩) (by assumption) ?_
            rotate_left
            · (intro w hSw; (try dsimp only at hSw); go_simp; try with_reducible rfl)
            try simp only [Act.put, List.getElem_toArray, List.getElem_cons_zero, List.getElem_cons_succ, List.setIfInBounds_toArray, List.set_cons_zero, List.set_cons_succ]
            refine wpAnyH_ready (rs := [7]) (by kernel_rfl) (by simp) ?_
            refine AllReadyH.cons rfl (fun K hK => ?_) (AllReadyH.nil)
            go_simp
            go_at_call 37; (with_reducible refine (HV.out _).mono ?_); rintro e W6 ⟨rfl, hb6⟩
            refine hK.out _ _ (keep3 hHeld hb6) (fun hHeld => ?_)
            try simp only [Act.put, List.getElem_toArray, List.getElem_cons_zero, List.getElem_cons_succ, List.setIfInBounds_toArray, List.set_cons_zero, List.set_cons_succ]
            refine wpAnyH_take (i := 8) (oi := _) (v := ?_) rfl (by kernel_rfl) (by kernel_rfl) (by kernel_rfl) (fun _ _ _ h => h) (Or.inl ⟨by rfl, ?_⟩) (by assumption) ?_
            rotate_left
            · (intro w hSw; (try dsimp only at hSw); go_simp; try with_reducible rfl)
            try simp only [Act.put, List.getElem_toArray, List.getElem_cons_zero, List.getElem_cons_succ, List.setIfInBounds_toArray, List.set_cons_zero, List.set_cons_succ]
            refine wpAnyH_take (i := 9) (oi := _) (v := ?_) rfl (by kernel_rfl) (by kernel_rfl) (by kernel_rfl) (fun _ _ _ h => h) (Or.inl ⟨by rfl, ?_⟩) (by assumption) ?_
            rotate_left
            · (intro w hSw; (try dsimp only at hSw); go_simp; try with_reducible rfl)
            try simp only [Act.put, List.getElem_toArray, List.getElem_cons_zero, List.getElem_cons_succ, List.setIfInBounds_toArray, List.set_cons_zero, List.set_cons_succ]
            refine wpAnyH_take (i := 10) (oi := _) (v := ?_) rfl (by kernel_rfl) (by kernel_rfl) (by kernel_rfl) (fun _ _ _ h => h) (Or.inl ⟨by rfl, ?_⟩) (by assumption) ?_
            rotate_left
            · (intro w hSw; (try dsimp only at hSw); go_simp; try with_reducible rfl)
            try simp only [Act.put, List.getElem_toArray, List.getElem_cons_zero, List.getElem_cons_succ, List.setIfInBounds_toArray, List.set_cons_zero, List.set_cons_succ]
            refine wpAnyH_take (i := 11) (oi := _) (v := ?_) rfl (by kernel_rfl) (by kernel_rfl) (by kernel_rfl) (fun _ _ _ h => h) (Or.inl ⟨by rfl, ?_⟩) (by assumption) ?_
            rotate_left
            · (intro w hSw; (try dsimp only at hSw); go_simp; try with_reducible rfl)
            try simp only [Act.put, List.getElem_toArray, List.getElem_cons_zero, List.getElem_cons_succ, List.setIfInBounds_toArray, List.set_cons_zero, List.set_cons_succ]
            refine wpAnyH_take (i := 12) (oi := _) (v := ?_) rfl (by kernel_rfl) (by kernel_rfl) (by kernel_rfl) (fun _ _ _ h => h) (Or.inl ⟨by rfl, ?_⟩) (by assumption) ?_
            rotate_left
            · (intro w hSw; (try dsimp only at hSw); go_simp; try with_reducible rfl)
            try simp only [Act.put, List.getElem_toArray, List.getElem_cons_zero, List.getElem_cons_succ, List.setIfInBounds_toArray, List.set_cons_zero, List.set_cons_succ]
            refine wpAnyH_take (i := 13) (oi := _) (v := ?_) rfl (by kernel_rfl) (by kernel_rfl) (by kernel_rfl) (fun _ _ _ h => h) (Or.inl ⟨by rfl, ?_⟩) (by assumption) ?_
            rotate_left
            · (intro w hSw; (try dsimp only at hSw); go_simp; try with_reducible rfl)
            try simp only [Act.put, List.getElem_toArray, List.getElem_cons_zero, List.getElem_cons_succ, List.setIfInBounds_toArray, List.set_cons_zero, List.set_cons_succ]
            refine wpAnyH_take (i := 14) (oi := _) (v := ?_) rfl (by kernel_rfl) (by kernel_rfl) (by kernel_rfl) (fun _ _ _ h => h) (Or.inl ⟨by rfl, ?_⟩) (by assumption) ?_
            rotate_left
            · (intro w hSw; (try dsimp only at hSw); go_simp; try with_reducible rfl)
            try simp only [Act.put, List.getElem_toArray, List.getElem_cons_zero, List.getElem_cons_succ, List.setIfInBounds_toArray, List.set_cons_zero, List.set_cons_succ]
            refine wpAnyH_take (i := 15) (oi := _) (v := ?_) rfl (by kernel_rfl) (by kernel_rfl) (by kernel_rfl) (fun _ _ _ h => h) (Or.inl ⟨by rfl, ?_⟩) (by assumption) ?_
            rotate_left
            · (intro w hSw; (try dsimp only at hSw); go_simp; try with_reducible rfl)
            try simp only [Act.put, List.getElem_toArray, List.getElem_cons_zero, List.getElem_cons_succ, List.setIfInBounds_toArray, List.set_cons_zero, List.set_cons_succ]
            refine wpAnyH_take (i := 16) (oi := _) (v := ?_) rfl (by kernel_rfl) (by kernel_rfl) (by kernel_rfl) (fun _ _ _ h => h) (Or.inl ⟨by rfl, ?_⟩) (by assumption) ?_
            rotate_left
            · (intro w hSw; (try dsimp only at hSw); go_simp; try with_reducible rfl)
            try simp only [Act.put, List.getElem_toArray, List.getElem_cons_zero, List.getElem_cons_succ, List.setIfInBounds_toArray, List.set_cons_zero, List.set_cons_succ]
            first | refine wpAnyH_take (i := 17) (oi := _) (v := undef) rfl (by kernel_rfl) (by kernel_rfl) (by kernel_rfl) (fun _ _ _ h => h) (Or.inr ⟨by rfl, rfl⟩) (by assumption) ?_ | (refine wpAnyH_ready (rs := [17]) (by kernel_rfl) (by simp) ?_; refine AllReadyH.cons rfl (fun K hK => ?_) (AllReadyH.nil); rw [if_neg (by decide)]; refine hK.out _ _ (by assumption) (fun hHeld => ?_))
            try simp only [Act.put, List.getElem_toArray, List.getElem_cons_zero, List.getElem_cons_succ, List.setIfInBounds_toArray, List.set_cons_zero, List.set_cons_succ]
            first | refine wpAnyH_take (i := 18) (oi := _) (v := undef) rfl (by kernel_rfl) (by kernel_rfl) (by kernel_rfl) (fun _ _ _ h => h) (Or.inr ⟨by rfl, rfl⟩) (by assumption) ?_ | (refine wpAnyH_ready (rs := [18]) (by kernel_rfl) (by simp) ?_; refine AllReadyH.cons rfl (fun K hK => ?_) (AllReadyH.nil); rw [if_neg (by decide)]; refine hK.out _ _ (by assumption) (fun hHeld => ?_))
            try simp only [Act.put, List.getElem_toArray, List.getElem_cons_zero, List.getElem_cons_succ, List.setIfInBounds_toArray, List.set_cons_zero, List.set_cons_succ]
            first | refine wpAnyH_take (i := 19) (oi := _) (v := undef) rfl (by kernel_rfl) (by kernel_rfl) (by kernel_rfl) (fun _ _ _ h => h) (Or.inr ⟨by rfl, rfl⟩) (by assumption) ?_ | (refine wpAnyH_ready (rs := [19]) (by kernel_rfl) (by simp) ?_; refine AllReadyH.cons rfl (fun K hK => ?_) (AllReadyH.nil); rw [if_neg (by decide)]; refine hK.out _ _ (by assumption) (fun hHeld => ?_))
            try simp only [Act.put, List.getElem_toArray, List.getElem_cons_zero, List.getElem_cons_succ, List.setIfInBounds_toArray, List.set_cons_zero, List.set_cons_succ]
            first | refine wpAnyH_take (i := 20) (oi := _) (v := undef) rfl (by kernel_rfl) (by kernel_rfl) (by kernel_rfl) (fun _ _ _ h => h) (Or.inr ⟨by rfl, rfl⟩) (by assumption) ?_ | (refine wpAnyH_ready (rs := [20]) (by kernel_rfl) (by simp) ?_; refine AllReadyH.cons rfl (fun K hK => ?_) (AllReadyH.nil); rw [if_neg (by decide)]; refine hK.out _ _ (by assumption) (fun hHeld => ?_))
            try simp only [Act.put, List.getElem_toArray, List.getElem_cons_zero, List.getElem_cons_succ, List.setIfInBounds_toArray, List.set_cons_zero, List.set_cons_succ]
            first | refine wpAnyH_take (i := 21) (oi := _) (v := undef) rfl (by kernel_rfl) (by kernel_rfl) (by kernel_rfl) (fun _ _ _ h => h) (Or.inr ⟨by rfl, rfl⟩) (by assumption) ?_ | (refine wpAnyH_ready (rs := [21]) (by kernel_rfl) (by simp) ?_; refine AllReadyH.cons rfl (fun K hK => ?_) (AllReadyH.nil); rw [if_neg (by decide)]; refine hK.out _ _ (by assumption) (fun hHeld => ?_))
            try simp only [Act.put, List.getElem_toArray, List.getElem_cons_zero, List.getElem_cons_succ, List.setIfInBounds_toArray, List.set_cons_zero, List.set_cons_succ]
            first | refine wpAnyH_take (i := 22) (oi := _) (v := undef) rfl (by kernel_rfl) (by kernel_rfl) (by kernel_rfl) (fun _ _ _ h => h) (Or.inr ⟨by rfl, rfl⟩) (by assumption) ?_ | (refine wpAnyH_ready (rs := [22]) (by kernel_rfl) (by simp) ?_; refine AllReadyH.cons rfl (fun K hK => ?_) (AllReadyH.nil); rw [if_neg (by decide)]; refine hK.out _ _ (by assumption) (fun hHeld => ?_))
            try simp only [Act.put, List.getElem_toArray, List.getElem_cons_zero, List.getElem_cons_succ, List.setIfInBounds_toArray, List.set_cons_zero, List.set_cons_succ]
            first | refine wpAnyH_take (i := 23) (oi := _) (v := undef) rfl (by kernel_rfl) (by kernel_rfl) (by kernel_rfl) (fun _ _ _ h => h) (Or.inr ⟨by rfl, rfl⟩) (by assumption) ?_ | (refine wpAnyH_ready (rs := [23]) (by kernel_rfl) (by simp) ?_; refine AllReadyH.cons rfl (fun K hK => ?_) (AllReadyH.nil); rw [if_neg (by decide)]; refine hK.out _ _ (by assumption) (fun hHeld => ?_))
            try simp only [Act.put, List.getElem_toArray, List.getElem_cons_zero, List.getElem_cons_succ, List.setIfInBounds_toArray, List.set_cons_zero, List.set_cons_succ]
            first | refine wpAnyH_take (i := 24) (oi := _) (v := undef) rfl (by kernel_rfl) (by kernel_rfl) (by kernel_rfl) (fun _ _ _ h => h) (Or.inr ⟨by rfl, rfl⟩) (by assumption) ?_ | (refine wpAnyH_ready (rs := [24]) (by kernel_rfl) (by simp) ?_; refine AllReadyH.cons rfl (fun K hK => ?_) (AllReadyH.nil); rw [if_neg (by decide)]; refine hK.out _ _ (by assumption) (fun hHeld => ?_))
            try simp only [Act.put, List.getElem_toArray, List.getElem_cons_zero, List.getElem_cons_succ, List.setIfInBounds_toArray, List.set_cons_zero, List.set_cons_succ]
            first | refine wpAnyH_take (i := 25) (oi := _) (v := undef) rfl (by kernel_rfl) (by kernel_rfl) (by kernel_rfl) (fun _ _ _ h => h) (Or.inr ⟨by rfl, rfl⟩) (by assumption) ?_ | (refine wpAnyH_ready (rs := [25]) (by kernel_rfl) (by simp) ?_; refine AllReadyH.cons rfl (fun K hK => ?_) (AllReadyH.nil); rw [if_neg (by decide)]; refine hK.out _ _ (by assumption) (fun hHeld => ?_))
            try simp only [Act.put, List.getElem_toArray, List.getElem_cons_zero, List.getElem_cons_succ, List.setIfInBounds_toArray, List.set_cons_zero, List.set_cons_succ]
            first | refine wpAnyH_take (i := 26) (oi := _) (v := undef) rfl (by kernel_rfl) (by kernel_rfl) (by kernel_rfl) (fun _ _ _ h => h) (Or.inr ⟨by rfl, rfl⟩) (by assumption) ?_ | (refine wpAnyH_ready (rs := [26]) (by kernel_rfl) (by simp) ?_; refine AllReadyH.cons rfl (fun K hK => ?_) (AllReadyH.nil); rw [if_neg (by decide)]; refine hK.out _ _ (by assumption) (fun hHeld => ?_))
            try simp only [Act.put, List.getElem_toArray, List.getElem_cons_zero, List.getElem_cons_succ, List.setIfInBounds_toArray, List.set_cons_zero, List.set_cons_succ]
            first | refine wpAnyH_take (i := 27) (oi := _) (v := undef) rfl (by kernel_rfl) (by kernel_rfl) (by kernel_rfl) (fun _ _ _ h => h) (Or.inr ⟨by rfl, rfl⟩) (by assumption) ?_ | (refine wpAnyH_ready (rs := [27]) (by kernel_rfl) (by simp) ?_; refine AllReadyH.cons rfl (fun K hK => ?_) (AllReadyH.nil); rw [if_neg (by decide)]; refine hK.out _ _ (by assumption) (fun hHeld => ?_))
            try simp only [Act.put, List.getElem_toArray, List.getElem_cons_zero, List.getElem_cons_succ, List.setIfInBounds_toArray, List.set_cons_zero, List.set_cons_succ]
            first | refine wpAnyH_take (i := 28) (oi := _) (v := undef) rfl (by kernel_rfl) (by kernel_rfl) (by kernel_rfl) (fun _ _ _ h => h) (Or.inr ⟨by rfl, rfl⟩) (by assumption) ?_ | (refine wpAnyH_ready (rs := [28]) (by kernel_rfl) (by simp) ?_; refine AllReadyH.cons rfl (fun K hK => ?_) (AllReadyH.nil); rw [if_neg (by decide)]; refine hK.out _ _ (by assumption) (fun hHeld => ?_))
            try simp only [Act.put, List.getElem_toArray, List.getElem_cons_zero, List.getElem_cons_succ, List.setIfInBounds_toArray, List.set_cons_zero, List.set_cons_succ]
            first | refine wpAnyH_take (i := 29) (oi := _) (v := undef) rfl (by kernel_rfl) (by kernel_rfl) (by kernel_rfl) (fun _ _ _ h => h) (Or.inr ⟨by rfl, rfl⟩) (by assumption) ?_ | (refine wpAnyH_ready (rs := [29]) (by kernel_rfl) (by simp) ?_; refine AllReadyH.cons rfl (fun K hK => ?_) (AllReadyH.nil); rw [if_neg (by decide)]; refine hK.out _ _ (by assumption) (fun hHeld => ?_))
            try simp only [Act.put, List.getElem_toArray, List.getElem_cons_zero, List.getElem_cons_succ, List.setIfInBounds_toArray, List.set_cons_zero, List.set_cons_succ]
            refine wpAnyH_take (i := 30) (oi := _) (v := ?_) rfl (by kernel_rfl) (by kernel_rfl) (by kernel_rfl) (fun _ _ _ h => h) (Or.inl ⟨by rfl, ?_⟩) (by assumption) ?_
            rotate_left
            · (intro w hSw; (try dsimp only at hSw); go_simp; try with_reducible rfl)
            try simp only [Act.put, List.getElem_toArray, List.getElem_cons_zero, List.getElem_cons_succ, List.setIfInBounds_toArray, List.set_cons_zero, List.set_cons_succ]
            refine wpAnyH_done (by kernel_rfl) ?_ _
            have HX := Lib.hid (validT_bad (by have := HE.out; have := HLT.out; omega) HO.out)
            go_wp2
            go_ret
            exact ⟨by rw [HX.out]; rfl, hHeld.2.2.2⟩
          · have hk0 : (k == 0) = false := beq_eq_false_iff_ne.2 hk
            cases i with
            | zero =>
              have HO2 := Lib.hid (show okAt ns 0 = ((getT ns (parB p)).1 == 1) by rw [okAt_eq HI.out]; unfold bad1; rw [hd, decide_eq_false hd1, hvb, hk0]; rfl)
              have HS0 := Lib.hid (show X.drew.cell? ⟨wr.heap.size, 0, none⟩ = some (.string p) ∧ X.drew.cell? ⟨wr.heap.size, 1, none⟩ = some (.int .i64 k) ∧ X.drew.cell? ⟨wr.heap.size, 2, none⟩ = some (.int .i64 v) ∧ Below W.heap.size W X.drew from ⟨BX.out.1, BX.out.2.1, BX.out.2.2.1, BX.out.2.2.2.drew⟩)
              clear hd hvb hd1
              refine wp_region_held_drew (S := (fun w' => w'.cell? ⟨wr.heap.size, 0, none⟩ = some (.string p) ∧ w'.cell? ⟨wr.heap.size, 1, none⟩ = some (.int .i64 k) ∧ w'.cell? ⟨wr.heap.size, 2, none⟩ = some (.int .i64 v) ∧ Below W.heap.size W w')) (by kernel_rfl) HS0.out (fun hH => ?_)
              refine wpAnyH_take (i := 0) (oi := _) (v := ?_) rfl (by kernel_rfl) (by kernel_rfl) (by kernel_rfl) (fun _ _ _ h => h) (Or.inl ⟨by rfl, ?_⟩) (by assumption) ?_
              rotate_left
              · (intro w hSw; (try dsimp only at hSw); go_simp; try with_reducible rfl)
              try simp only [Act.put, List.getElem_toArray, List.getElem_cons_zero, List.setIfInBounds_toArray, List.set_cons_zero, List.set_cons_succ]
              refine wpAnyH_take (i := 1) (oi := _) (v := ?_) rfl (by kernel_rfl) (by kernel_rfl) (by kernel_rfl) (fun _ _ _ h => h) (Or.inl ⟨by rfl, ?_⟩) (by assumption) ?_
              rotate_left
              · (intro w hSw; (try dsimp only at hSw); go_simp; try with_reducible rfl)
              try simp only [Act.put, List.getElem_toArray, List.getElem_cons_zero, List.getElem_cons_succ, List.setIfInBounds_toArray, List.set_cons_zero, List.set_cons_succ]
              refine wpAnyH_ready (rs := [2]) (by kernel_rfl) (by simp) ?_
              refine AllReadyH.cons rfl (fun K hK => ?_) (AllReadyH.nil)
              go_simp
              go_at_call 36; (with_reducible refine (HD.out _).mono ?_); rintro e W5 ⟨rfl, hb5⟩
              refine hK.out _ _ (keep3 HS0.out hb5) (fun hHeld => ?_)
              try simp only [Act.put, List.getElem_toArray, List.getElem_cons_zero, List.getElem_cons_succ, List.setIfInBounds_toArray, List.set_cons_zero, List.set_cons_succ]
              refine wpAnyH_take (i := 3) (oi := _) (v := ?_) rfl (by kernel_rfl) (by kernel_rfl) (by kernel_rfl) (fun _ _ _ h => h) (Or.inl ⟨by rfl, ?_⟩) (by assumption) ?_
              rotate_left
              · (intro w hSw; (try dsimp only at hSw); go_simp; try with_reducible rfl)
              try simp only [Act.put, List.getElem_toArray, List.getElem_cons_zero, List.getElem_cons_succ, List.setIfInBounds_toArray, List.set_cons_zero, List.set_cons_succ]
              refine wpAnyH_take (i := 4) (oi := _) (v := ?_) rfl (by kernel_rfl) (by kernel_rfl) (by kernel_rfl) (fun _ _ _ h => h) (Or.inl ⟨by rfl, ?_⟩) (by assumption) ?_
              rotate_left
              · (intro w hSw; (try dsimp only at hSw); go_simp; try with_reducible rfl)
              try simp only [Act.put, List.getElem_toArray, List.getElem_cons_zero, List.getElem_cons_succ, List.setIfInBounds_toArray, List.set_cons_zero, List.set_cons_succ]
              refine wpAnyH_take (i := 5) (oi := _) (v := ?_) rfl (by kernel_rfl) (by kernel_rfl) (by kernel_rfl) (fun _ _ _ h => h) (Or.inl ⟨by rfl, ?_⟩) (by assumption) ?_
              rotate_left
              · (intro w hSw; (try dsimp only at hSw); go_simp; try with_reducible rfl)
              try simp only [Act.put, List.getElem_toArray, List.getElem_cons_zero, List.getElem_cons_succ, List.setIfInBounds_toArray, List.set_cons_zero, List.set_cons_succ]
              refine wpAnyH_take (i := 6) (oi := _) (v := ?_) rfl (by kernel_rfl) (by kernel_rfl) (by kernel_rfl) (fun _ _ _ h => h) (Or.inl ⟨by rfl, ?_⟩) (by assumption) ?_
              rotate_left
              · (intro w hSw; (try dsimp only at hSw); go_simp; try with_reducible rfl)
              try simp only [Act.put, List.getElem_toArray, List.getElem_cons_zero, List.getElem_cons_succ, List.setIfInBounds_toArray, List.set_cons_zero, List.set_cons_succ]
              refine wpAnyH_ready (rs := [7]) (by kernel_rfl) (by simp) ?_
              refine AllReadyH.cons rfl (fun K hK => ?_) (AllReadyH.nil)
              go_simp
              go_at_call 37; (with_reducible refine (HV.out _).mono ?_); rintro e W6 ⟨rfl, hb6⟩
              refine hK.out _ _ (keep3 hHeld hb6) (fun hHeld => ?_)
              try simp only [Act.put, List.getElem_toArray, List.getElem_cons_zero, List.getElem_cons_succ, List.setIfInBounds_toArray, List.set_cons_zero, List.set_cons_succ]
              refine wpAnyH_take (i := 8) (oi := _) (v := ?_) rfl (by kernel_rfl) (by kernel_rfl) (by kernel_rfl) (fun _ _ _ h => h) (Or.inl ⟨by rfl, ?_⟩) (by assumption) ?_
              rotate_left
              · (intro w hSw; (try dsimp only at hSw); go_simp; try with_reducible rfl)
              try simp only [Act.put, List.getElem_toArray, List.getElem_cons_zero, List.getElem_cons_succ, List.setIfInBounds_toArray, List.set_cons_zero, List.set_cons_succ]
              refine wpAnyH_take (i := 9) (oi := _) (v := ?_) rfl (by kernel_rfl) (by kernel_rfl) (by kernel_rfl) (fun _ _ _ h => h) (Or.inl ⟨by rfl, ?_⟩) (by assumption) ?_
              rotate_left
              · (intro w hSw; (try dsimp only at hSw); go_simp; try with_reducible rfl)
              try simp only [Act.put, List.getElem_toArray, List.getElem_cons_zero, List.getElem_cons_succ, List.setIfInBounds_toArray, List.set_cons_zero, List.set_cons_succ]
              refine wpAnyH_take (i := 10) (oi := _) (v := ?_) rfl (by kernel_rfl) (by kernel_rfl) (by kernel_rfl) (fun _ _ _ h => h) (Or.inl ⟨by rfl, ?_⟩) (by assumption) ?_
              rotate_left
              · (intro w hSw; (try dsimp only at hSw); go_simp; try with_reducible rfl)
              try simp only [Act.put, List.getElem_toArray, List.getElem_cons_zero, List.getElem_cons_succ, List.setIfInBounds_toArray, List.set_cons_zero, List.set_cons_succ]
              refine wpAnyH_take (i := 11) (oi := _) (v := ?_) rfl (by kernel_rfl) (by kernel_rfl) (by kernel_rfl) (fun _ _ _ h => h) (Or.inl ⟨by rfl, ?_⟩) (by assumption) ?_
              rotate_left
              · (intro w hSw; (try dsimp only at hSw); go_simp; try with_reducible rfl)
              try simp only [Act.put, List.getElem_toArray, List.getElem_cons_zero, List.getElem_cons_succ, List.setIfInBounds_toArray, List.set_cons_zero, List.set_cons_succ]
              refine wpAnyH_take (i := 12) (oi := _) (v := ?_) rfl (by kernel_rfl) (by kernel_rfl) (by kernel_rfl) (fun _ _ _ h => h) (Or.inl ⟨by rfl, ?_⟩) (by assumption) ?_
              rotate_left
              · (intro w hSw; (try dsimp only at hSw); go_simp; try with_reducible rfl)
              try simp only [Act.put, List.getElem_toArray, List.getElem_cons_zero, List.getElem_cons_succ, List.setIfInBounds_toArray, List.set_cons_zero, List.set_cons_succ]
              refine wpAnyH_take (i := 13) (oi := _) (v := ?_) rfl (by kernel_rfl) (by kernel_rfl) (by kernel_rfl) (fun _ _ _ h => h) (Or.inl ⟨by rfl, ?_⟩) (by assumption) ?_
              rotate_left
              · (intro w hSw; (try dsimp only at hSw); go_simp; try with_reducible rfl)
              try simp only [Act.put, List.getElem_toArray, List.getElem_cons_zero, List.getElem_cons_succ, List.setIfInBounds_toArray, List.set_cons_zero, List.set_cons_succ]
              refine wpAnyH_take (i := 14) (oi := _) (v := ?_) rfl (by kernel_rfl) (by kernel_rfl) (by kernel_rfl) (fun _ _ _ h => h) (Or.inl ⟨by rfl, ?_⟩) (by assumption) ?_
              rotate_left
              · (intro w hSw; (try dsimp only at hSw); go_simp; try with_reducible rfl)
              try simp only [Act.put, List.getElem_toArray, List.getElem_cons_zero, List.getElem_cons_succ, List.setIfInBounds_toArray, List.set_cons_zero, List.set_cons_succ]
              refine wpAnyH_take (i := 15) (oi := _) (v := ?_) rfl (by kernel_rfl) (by kernel_rfl) (by kernel_rfl) (fun _ _ _ h => h) (Or.inl ⟨by rfl, ?_⟩) (by assumption) ?_
              rotate_left
              · (intro w hSw; (try dsimp only at hSw); go_simp; try with_reducible rfl)
              try simp only [Act.put, List.getElem_toArray, List.getElem_cons_zero, List.getElem_cons_succ, List.setIfInBounds_toArray, List.set_cons_zero, List.set_cons_succ]
              refine wpAnyH_take (i := 16) (oi := _) (v := ?_) rfl (by kernel_rfl) (by kernel_rfl) (by kernel_rfl) (fun _ _ _ h => h) (Or.inl ⟨by rfl, ?_⟩) (by assumption) ?_
              rotate_left
              · (intro w hSw; (try dsimp only at hSw); go_simp; try with_reducible rfl)
              try simp only [Act.put, List.getElem_toArray, List.getElem_cons_zero, List.getElem_cons_succ, List.setIfInBounds_toArray, List.set_cons_zero, List.set_cons_succ]
              refine wpAnyH_take (i := 17) (oi := _) (v := ?_) rfl (by kernel_rfl) (by kernel_rfl) (by kernel_rfl) (fun _ _ _ h => h) (Or.inl ⟨by rfl, ?_⟩) (by assumption) ?_
              rotate_left
              · (intro w hSw; (try dsimp only at hSw); go_simp; try with_reducible rfl)
              try simp only [Act.put, List.getElem_toArray, List.getElem_cons_zero, List.getElem_cons_succ, List.setIfInBounds_toArray, List.set_cons_zero, List.set_cons_succ]
              refine wpAnyH_take (i := 18) (oi := _) (v := ?_) rfl (by kernel_rfl) (by kernel_rfl) (by kernel_rfl) (fun _ _ _ h => h) (Or.inl ⟨by rfl, ?_⟩) (by assumption) ?_
              rotate_left
              · (intro w hSw; (try dsimp only at hSw); go_simp; try with_reducible rfl)
              try simp only [Act.put, List.getElem_toArray, List.getElem_cons_zero, List.getElem_cons_succ, List.setIfInBounds_toArray, List.set_cons_zero, List.set_cons_succ]
              refine wpAnyH_take (i := 19) (oi := _) (v := ?_) rfl (by kernel_rfl) (by kernel_rfl) (by kernel_rfl) (fun _ _ _ h => h) (Or.inl ⟨by rfl, ?_⟩) (by assumption) ?_
              rotate_left
              · (intro w hSw; (try dsimp only at hSw); go_simp; try with_reducible rfl)
              try simp only [Act.put, List.getElem_toArray, List.getElem_cons_zero, List.getElem_cons_succ, List.setIfInBounds_toArray, List.set_cons_zero, List.set_cons_succ]
              first | refine wpAnyH_take (i := 20) (oi := _) (v := undef) rfl (by kernel_rfl) (by kernel_rfl) (by kernel_rfl) (fun _ _ _ h => h) (Or.inr ⟨by rfl, rfl⟩) (by assumption) ?_ | (refine wpAnyH_ready (rs := [20]) (by kernel_rfl) (by simp) ?_; refine AllReadyH.cons rfl (fun K hK => ?_) (AllReadyH.nil); rw [if_neg (by decide)]; refine hK.out _ _ (by assumption) (fun hHeld => ?_))
              try simp only [Act.put, List.getElem_toArray, List.getElem_cons_zero, List.getElem_cons_succ, List.setIfInBounds_toArray, List.set_cons_zero, List.set_cons_succ]
              first | refine wpAnyH_take (i := 21) (oi := _) (v := undef) rfl (by kernel_rfl) (by kernel_rfl) (by kernel_rfl) (fun _ _ _ h => h) (Or.inr ⟨by rfl, rfl⟩) (by assumption) ?_ | (refine wpAnyH_ready (rs := [21]) (by kernel_rfl) (by simp) ?_; refine AllReadyH.cons rfl (fun K hK => ?_) (AllReadyH.nil); rw [if_neg (by decide)]; refine hK.out _ _ (by assumption) (fun hHeld => ?_))
              try simp only [Act.put, List.getElem_toArray, List.getElem_cons_zero, List.getElem_cons_succ, List.setIfInBounds_toArray, List.set_cons_zero, List.set_cons_succ]
              first | refine wpAnyH_take (i := 22) (oi := _) (v := undef) rfl (by kernel_rfl) (by kernel_rfl) (by kernel_rfl) (fun _ _ _ h => h) (Or.inr ⟨by rfl, rfl⟩) (by assumption) ?_ | (refine wpAnyH_ready (rs := [22]) (by kernel_rfl) (by simp) ?_; refine AllReadyH.cons rfl (fun K hK => ?_) (AllReadyH.nil); rw [if_neg (by decide)]; refine hK.out _ _ (by assumption) (fun hHeld => ?_))
              try simp only [Act.put, List.getElem_toArray, List.getElem_cons_zero, List.getElem_cons_succ, List.setIfInBounds_toArray, List.set_cons_zero, List.set_cons_succ]
              first | refine wpAnyH_take (i := 23) (oi := _) (v := undef) rfl (by kernel_rfl) (by kernel_rfl) (by kernel_rfl) (fun _ _ _ h => h) (Or.inr ⟨by rfl, rfl⟩) (by assumption) ?_ | (refine wpAnyH_ready (rs := [23]) (by kernel_rfl) (by simp) ?_; refine AllReadyH.cons rfl (fun K hK => ?_) (AllReadyH.nil); rw [if_neg (by decide)]; refine hK.out _ _ (by assumption) (fun hHeld => ?_))
              try simp only [Act.put, List.getElem_toArray, List.getElem_cons_zero, List.getElem_cons_succ, List.setIfInBounds_toArray, List.set_cons_zero, List.set_cons_succ]
              first | refine wpAnyH_take (i := 24) (oi := _) (v := undef) rfl (by kernel_rfl) (by kernel_rfl) (by kernel_rfl) (fun _ _ _ h => h) (Or.inr ⟨by rfl, rfl⟩) (by assumption) ?_ | (refine wpAnyH_ready (rs := [24]) (by kernel_rfl) (by simp) ?_; refine AllReadyH.cons rfl (fun K hK => ?_) (AllReadyH.nil); rw [if_neg (by decide)]; refine hK.out _ _ (by assumption) (fun hHeld => ?_))
              try simp only [Act.put, List.getElem_toArray, List.getElem_cons_zero, List.getElem_cons_succ, List.setIfInBounds_toArray, List.set_cons_zero, List.set_cons_succ]
              first | refine wpAnyH_take (i := 25) (oi := _) (v := undef) rfl (by kernel_rfl) (by kernel_rfl) (by kernel_rfl) (fun _ _ _ h => h) (Or.inr ⟨by rfl, rfl⟩) (by assumption) ?_ | (refine wpAnyH_ready (rs := [25]) (by kernel_rfl) (by simp) ?_; refine AllReadyH.cons rfl (fun K hK => ?_) (AllReadyH.nil); rw [if_neg (by decide)]; refine hK.out _ _ (by assumption) (fun hHeld => ?_))
              try simp only [Act.put, List.getElem_toArray, List.getElem_cons_zero, List.getElem_cons_succ, List.setIfInBounds_toArray, List.set_cons_zero, List.set_cons_succ]
              first | refine wpAnyH_take (i := 26) (oi := _) (v := undef) rfl (by kernel_rfl) (by kernel_rfl) (by kernel_rfl) (fun _ _ _ h => h) (Or.inr ⟨by rfl, rfl⟩) (by assumption) ?_ | (refine wpAnyH_ready (rs := [26]) (by kernel_rfl) (by simp) ?_; refine AllReadyH.cons rfl (fun K hK => ?_) (AllReadyH.nil); rw [if_neg (by decide)]; refine hK.out _ _ (by assumption) (fun hHeld => ?_))
              try simp only [Act.put, List.getElem_toArray, List.getElem_cons_zero, List.getElem_cons_succ, List.setIfInBounds_toArray, List.set_cons_zero, List.set_cons_succ]
              first | refine wpAnyH_take (i := 27) (oi := _) (v := undef) rfl (by kernel_rfl) (by kernel_rfl) (by kernel_rfl) (fun _ _ _ h => h) (Or.inr ⟨by rfl, rfl⟩) (by assumption) ?_ | (refine wpAnyH_ready (rs := [27]) (by kernel_rfl) (by simp) ?_; refine AllReadyH.cons rfl (fun K hK => ?_) (AllReadyH.nil); rw [if_neg (by decide)]; refine hK.out _ _ (by assumption) (fun hHeld => ?_))
              try simp only [Act.put, List.getElem_toArray, List.getElem_cons_zero, List.getElem_cons_succ, List.setIfInBounds_toArray, List.set_cons_zero, List.set_cons_succ]
              first | refine wpAnyH_take (i := 28) (oi := _) (v := undef) rfl (by kernel_rfl) (by kernel_rfl) (by kernel_rfl) (fun _ _ _ h => h) (Or.inr ⟨by rfl, rfl⟩) (by assumption) ?_ | (refine wpAnyH_ready (rs := [28]) (by kernel_rfl) (by simp) ?_; refine AllReadyH.cons rfl (fun K hK => ?_) (AllReadyH.nil); rw [if_neg (by decide)]; refine hK.out _ _ (by assumption) (fun hHeld => ?_))
              try simp only [Act.put, List.getElem_toArray, List.getElem_cons_zero, List.getElem_cons_succ, List.setIfInBounds_toArray, List.set_cons_zero, List.set_cons_succ]
              refine wpAnyH_take (i := 29) (oi := _) (v := ?_) rfl (by kernel_rfl) (by kernel_rfl) (by kernel_rfl) (fun _ _ _ h => h) (Or.inl ⟨by rfl, ?_⟩) (by assumption) ?_
              rotate_left
              · (intro w hSw; (try dsimp only at hSw); go_simp; try with_reducible rfl)
              try simp only [Act.put, List.getElem_toArray, List.getElem_cons_zero, List.getElem_cons_succ, List.setIfInBounds_toArray, List.set_cons_zero, List.set_cons_succ]
              refine wpAnyH_take (i := 30) (oi := _) (v := ?_) rfl (by kernel_rfl) (by kernel_rfl) (by kernel_rfl) (fun _ _ _ h => h) (Or.inl ⟨by rfl, ?_⟩) (by assumption) ?_
              rotate_left
              · (intro w hSw; (try dsimp only at hSw); go_simp; try with_reducible rfl)
              try simp only [Act.put, List.getElem_toArray, List.getElem_cons_zero, List.getElem_cons_succ, List.setIfInBounds_toArray, List.set_cons_zero, List.set_cons_succ]
              refine wpAnyH_done (by kernel_rfl) ?_ _
              have hNS := HN.out.keep hHeld.2.2.2
              have HW := Lib.hid hHeld.2.2.2
              have hGP := HG.out (l1pB p) _ hNS
              have HP := Lib.hid (fun w => l1Parent_c p PSZ.out (size_of_depth HD1.out) w)
              rw [show l1pB p = parB p from l1pB_parent p HD1.out] at hGP HP
              generalize parB p = pp at hGP HP HO2
              have HGP := Lib.hid hGP
              clear hGP hNS
              go_wp2_with fail
              refine (HP.out _).mono ?_; rintro e W7 ⟨rfl, rfl⟩
              go_wp2_with fail
              refine HGP.out.mono ?_; rintro e W8 ⟨rfl, hb8⟩
              have B8 := Lib.hid (below_next HW.out hb8)
              clear hb8
              unfold con
              have hfk := fun k v W => field_kind k v W
              by_cases h1 : (getT ns pp).1 = 1
              · have HO3 := Lib.hid (show okAt ns 0 = true by rw [HO2.out, h1]; rfl)
                generalize (getT ns pp).2 = kv
                rw [h1]
                clear h1
                go_wp2
                exact ⟨⟨0 + 1, by go_num, by have := HE.out; have := HLT.out; omega, below_succ HM.out HO3.out, B8⟩, by have := HLT.out; simp [intOf]; omega⟩
              · have HO3 := Lib.hid (show okAt ns 0 = false by rw [HO2.out]; simpa using h1)
                have HX := Lib.hid (validT_bad (by have := HE.out; have := HLT.out; omega) HO3.out)
                have h1' : ((getT ns pp).1 == 1) = false := beq_eq_false_iff_ne.2 h1
                go_wp2
                go_ret
                exact ⟨by rw [HX.out]; rfl, B8.out⟩
            | succ j =>
              obtain ⟨b', off', m, hbo, hm, m0, -, -⟩ := NX.out.node (show j < len by have := HLT.out; omega)
              have hbo' : b = b' ∧ off = off' := by simpa using hbo
              obtain ⟨rfl, rfl⟩ := hbo'
              have HS0 := Lib.hid (show X.drew.cell? ⟨wr.heap.size, 0, none⟩ = some (.string p) ∧ X.drew.cell? ⟨wr.heap.size, 1, none⟩ = some (.int .i64 k) ∧ X.drew.cell? ⟨wr.heap.size, 2, none⟩ = some (.int .i64 v) ∧ X.drew.cell? ⟨b, off + j * 3, none⟩ = some (.string m.p) ∧ Below W.heap.size W X.drew from ⟨BX.out.1, BX.out.2.1, BX.out.2.2.1, m0, BX.out.2.2.2.drew⟩)
              have w1 : IntKind.i64.wrap ((j : Int) + 1 - 1) = j := by rw [show (j : Int) + 1 - 1 = j by omega]; exact IntWalk.i64_in _ (by have := HLT.out; have := HL.out; omega)
              have w2 : IntKind.i64.wrap (j : Int) = j := IntWalk.i64_in _ (by have := HLT.out; have := HL.out; omega)
              have hj0 : decide ((0 : Int) < (j : Int) + 1) = true := decide_eq_true (by omega)
              have hjl : (j : Int) < len := by have := HLT.out; omega
              cases hltb : ltB m.p p with
              | false =>
                have hlb : Op.bytesLess m.p.toList p.toList = false := hltb
                have HO := Lib.hid (show okAt ns (j + 1) = false by rw [okAt_eq HI.out]; rw [bad1_succ hm, hltb]; simp)
                clear hd hvb hd1 hm hbo hltb
                refine wp_region_held_drew (S := (fun w' => w'.cell? ⟨wr.heap.size, 0, none⟩ = some (.string p) ∧ w'.cell? ⟨wr.heap.size, 1, none⟩ = some (.int .i64 k) ∧ w'.cell? ⟨wr.heap.size, 2, none⟩ = some (.int .i64 v) ∧ w'.cell? ⟨b, off + j * 3, none⟩ = some (.string m.p) ∧ Below W.heap.size W w')) (by kernel_rfl) HS0.out (fun hH => ?_)
                refine wpAnyH_take (i := 0) (oi := _) (v := ?_) rfl (by kernel_rfl) (by kernel_rfl) (by kernel_rfl) (fun _ _ _ h => h) (Or.inl ⟨by rfl, ?_⟩) (by assumption) ?_
                rotate_left
                · (intro w hSw; (try dsimp only at hSw); go_simp; try with_reducible rfl)
                try simp only [Act.put, List.getElem_toArray, List.getElem_cons_zero, List.setIfInBounds_toArray, List.set_cons_zero, List.set_cons_succ]
                refine wpAnyH_take (i := 1) (oi := _) (v := ?_) rfl (by kernel_rfl) (by kernel_rfl) (by kernel_rfl) (fun _ _ _ h => h) (Or.inl ⟨by rfl, ?_⟩) (by assumption) ?_
                rotate_left
                · (intro w hSw; (try dsimp only at hSw); go_simp; try with_reducible rfl)
                try simp only [Act.put, List.getElem_toArray, List.getElem_cons_zero, List.getElem_cons_succ, List.setIfInBounds_toArray, List.set_cons_zero, List.set_cons_succ]
                refine wpAnyH_ready (rs := [2]) (by kernel_rfl) (by simp) ?_
                refine AllReadyH.cons rfl (fun K hK => ?_) (AllReadyH.nil)
                go_simp
                go_at_call 36; (with_reducible refine (HD.out _).mono ?_); rintro e W5 ⟨rfl, hb5⟩
                refine hK.out _ _ (keep4 HS0.out hb5) (fun hHeld => ?_)
                try simp only [Act.put, List.getElem_toArray, List.getElem_cons_zero, List.getElem_cons_succ, List.setIfInBounds_toArray, List.set_cons_zero, List.set_cons_succ]
                refine wpAnyH_take (i := 3) (oi := _) (v := ?_) rfl (by kernel_rfl) (by kernel_rfl) (by kernel_rfl) (fun _ _ _ h => h) (Or.inl ⟨by rfl, ?_⟩) (by assumption) ?_
                rotate_left
                · (intro w hSw; (try dsimp only at hSw); go_simp; try with_reducible rfl)
                try simp only [Act.put, List.getElem_toArray, List.getElem_cons_zero, List.getElem_cons_succ, List.setIfInBounds_toArray, List.set_cons_zero, List.set_cons_succ]
                refine wpAnyH_take (i := 4) (oi := _) (v := ?_) rfl (by kernel_rfl) (by kernel_rfl) (by kernel_rfl) (fun _ _ _ h => h) (Or.inl ⟨by rfl, ?_⟩) (by assumption) ?_
                rotate_left
                · (intro w hSw; (try dsimp only at hSw); go_simp; try with_reducible rfl)
                try simp only [Act.put, List.getElem_toArray, List.getElem_cons_zero, List.getElem_cons_succ, List.setIfInBounds_toArray, List.set_cons_zero, List.set_cons_succ]
                refine wpAnyH_take (i := 5) (oi := _) (v := ?_) rfl (by kernel_rfl) (by kernel_rfl) (by kernel_rfl) (fun _ _ _ h => h) (Or.inl ⟨by rfl, ?_⟩) (by assumption) ?_
                rotate_left
                · (intro w hSw; (try dsimp only at hSw); go_simp; try with_reducible rfl)
                try simp only [Act.put, List.getElem_toArray, List.getElem_cons_zero, List.getElem_cons_succ, List.setIfInBounds_toArray, List.set_cons_zero, List.set_cons_succ]
                refine wpAnyH_take (i := 6) (oi := _) (v := ?_) rfl (by kernel_rfl) (by kernel_rfl) (by kernel_rfl) (fun _ _ _ h => h) (Or.inl ⟨by rfl, ?_⟩) (by assumption) ?_
                rotate_left
                · (intro w hSw; (try dsimp only at hSw); go_simp; try with_reducible rfl)
                try simp only [Act.put, List.getElem_toArray, List.getElem_cons_zero, List.getElem_cons_succ, List.setIfInBounds_toArray, List.set_cons_zero, List.set_cons_succ]
                refine wpAnyH_ready (rs := [7]) (by kernel_rfl) (by simp) ?_
                refine AllReadyH.cons rfl (fun K hK => ?_) (AllReadyH.nil)
                go_simp
                go_at_call 37; (with_reducible refine (HV.out _).mono ?_); rintro e W6 ⟨rfl, hb6⟩
                refine hK.out _ _ (keep4 hHeld hb6) (fun hHeld => ?_)
                try simp only [Act.put, List.getElem_toArray, List.getElem_cons_zero, List.getElem_cons_succ, List.setIfInBounds_toArray, List.set_cons_zero, List.set_cons_succ]
                refine wpAnyH_take (i := 8) (oi := _) (v := ?_) rfl (by kernel_rfl) (by kernel_rfl) (by kernel_rfl) (fun _ _ _ h => h) (Or.inl ⟨by rfl, ?_⟩) (by assumption) ?_
                rotate_left
                · (intro w hSw; (try dsimp only at hSw); go_simp; try with_reducible rfl)
                try simp only [Act.put, List.getElem_toArray, List.getElem_cons_zero, List.getElem_cons_succ, List.setIfInBounds_toArray, List.set_cons_zero, List.set_cons_succ]
                refine wpAnyH_take (i := 9) (oi := _) (v := ?_) rfl (by kernel_rfl) (by kernel_rfl) (by kernel_rfl) (fun _ _ _ h => h) (Or.inl ⟨by rfl, ?_⟩) (by assumption) ?_
                rotate_left
                · (intro w hSw; (try dsimp only at hSw); go_simp; try with_reducible rfl)
                try simp only [Act.put, List.getElem_toArray, List.getElem_cons_zero, List.getElem_cons_succ, List.setIfInBounds_toArray, List.set_cons_zero, List.set_cons_succ]
                refine wpAnyH_take (i := 10) (oi := _) (v := ?_) rfl (by kernel_rfl) (by kernel_rfl) (by kernel_rfl) (fun _ _ _ h => h) (Or.inl ⟨by rfl, ?_⟩) (by assumption) ?_
                rotate_left
                · (intro w hSw; (try dsimp only at hSw); go_simp; try with_reducible rfl)
                try simp only [Act.put, List.getElem_toArray, List.getElem_cons_zero, List.getElem_cons_succ, List.setIfInBounds_toArray, List.set_cons_zero, List.set_cons_succ]
                refine wpAnyH_take (i := 11) (oi := _) (v := ?_) rfl (by kernel_rfl) (by kernel_rfl) (by kernel_rfl) (fun _ _ _ h => h) (Or.inl ⟨by rfl, ?_⟩) (by assumption) ?_
                rotate_left
                · (intro w hSw; (try dsimp only at hSw); go_simp; try with_reducible rfl)
                try simp only [Act.put, List.getElem_toArray, List.getElem_cons_zero, List.getElem_cons_succ, List.setIfInBounds_toArray, List.set_cons_zero, List.set_cons_succ]
                refine wpAnyH_take (i := 12) (oi := _) (v := ?_) rfl (by kernel_rfl) (by kernel_rfl) (by kernel_rfl) (fun _ _ _ h => h) (Or.inl ⟨by rfl, ?_⟩) (by assumption) ?_
                rotate_left
                · (intro w hSw; (try dsimp only at hSw); go_simp; try with_reducible rfl)
                try simp only [Act.put, List.getElem_toArray, List.getElem_cons_zero, List.getElem_cons_succ, List.setIfInBounds_toArray, List.set_cons_zero, List.set_cons_succ]
                refine wpAnyH_take (i := 13) (oi := _) (v := ?_) rfl (by kernel_rfl) (by kernel_rfl) (by kernel_rfl) (fun _ _ _ h => h) (Or.inl ⟨by rfl, ?_⟩) (by assumption) ?_
                rotate_left
                · (intro w hSw; (try dsimp only at hSw); go_simp; try with_reducible rfl)
                try simp only [Act.put, List.getElem_toArray, List.getElem_cons_zero, List.getElem_cons_succ, List.setIfInBounds_toArray, List.set_cons_zero, List.set_cons_succ]
                refine wpAnyH_take (i := 14) (oi := _) (v := ?_) rfl (by kernel_rfl) (by kernel_rfl) (by kernel_rfl) (fun _ _ _ h => h) (Or.inl ⟨by rfl, ?_⟩) (by assumption) ?_
                rotate_left
                · (intro w hSw; (try dsimp only at hSw); go_simp; try with_reducible rfl)
                try simp only [Act.put, List.getElem_toArray, List.getElem_cons_zero, List.getElem_cons_succ, List.setIfInBounds_toArray, List.set_cons_zero, List.set_cons_succ]
                refine wpAnyH_take (i := 15) (oi := _) (v := ?_) rfl (by kernel_rfl) (by kernel_rfl) (by kernel_rfl) (fun _ _ _ h => h) (Or.inl ⟨by rfl, ?_⟩) (by assumption) ?_
                rotate_left
                · (intro w hSw; (try dsimp only at hSw); go_simp; try with_reducible rfl)
                try simp only [Act.put, List.getElem_toArray, List.getElem_cons_zero, List.getElem_cons_succ, List.setIfInBounds_toArray, List.set_cons_zero, List.set_cons_succ]
                refine wpAnyH_take (i := 16) (oi := _) (v := ?_) rfl (by kernel_rfl) (by kernel_rfl) (by kernel_rfl) (fun _ _ _ h => h) (Or.inl ⟨by rfl, ?_⟩) (by assumption) ?_
                rotate_left
                · (intro w hSw; (try dsimp only at hSw); go_simp; try with_reducible rfl)
                try simp only [Act.put, List.getElem_toArray, List.getElem_cons_zero, List.getElem_cons_succ, List.setIfInBounds_toArray, List.set_cons_zero, List.set_cons_succ]
                refine wpAnyH_take (i := 17) (oi := _) (v := ?_) rfl (by kernel_rfl) (by kernel_rfl) (by kernel_rfl) (fun _ _ _ h => h) (Or.inl ⟨by rfl, ?_⟩) (by assumption) ?_
                rotate_left
                · (intro w hSw; (try dsimp only at hSw); go_simp; try with_reducible rfl)
                try simp only [Act.put, List.getElem_toArray, List.getElem_cons_zero, List.getElem_cons_succ, List.setIfInBounds_toArray, List.set_cons_zero, List.set_cons_succ]
                refine wpAnyH_take (i := 18) (oi := _) (v := ?_) rfl (by kernel_rfl) (by kernel_rfl) (by kernel_rfl) (fun _ _ _ h => h) (Or.inl ⟨by rfl, ?_⟩) (by assumption) ?_
                rotate_left
                · (intro w hSw; (try dsimp only at hSw); go_simp; try with_reducible rfl)
                try simp only [Act.put, List.getElem_toArray, List.getElem_cons_zero, List.getElem_cons_succ, List.setIfInBounds_toArray, List.set_cons_zero, List.set_cons_succ]
                refine wpAnyH_take (i := 19) (oi := _) (v := ?_) rfl (by kernel_rfl) (by kernel_rfl) (by kernel_rfl) (fun _ _ _ h => h) (Or.inl ⟨by rfl, ?_⟩) (by assumption) ?_
                rotate_left
                · (intro w hSw; (try dsimp only at hSw); go_simp; try with_reducible rfl)
                try simp only [Act.put, List.getElem_toArray, List.getElem_cons_zero, List.getElem_cons_succ, List.setIfInBounds_toArray, List.set_cons_zero, List.set_cons_succ]
                refine wpAnyH_take (i := 20) (oi := _) (v := ?_) rfl (by kernel_rfl) (by kernel_rfl) (by kernel_rfl) (fun _ _ _ h => h) (Or.inl ⟨by rfl, ?_⟩) (by assumption) ?_
                rotate_left
                · (intro w hSw; (try dsimp only at hSw); go_simp; try with_reducible rfl)
                try simp only [Act.put, List.getElem_toArray, List.getElem_cons_zero, List.getElem_cons_succ, List.setIfInBounds_toArray, List.set_cons_zero, List.set_cons_succ]
                refine wpAnyH_take (i := 21) (oi := _) (v := ?_) rfl (by kernel_rfl) (by kernel_rfl) (by kernel_rfl) (fun _ _ _ h => h) (Or.inl ⟨by rfl, ?_⟩) (by assumption) ?_
                rotate_left
                · (intro w hSw; (try dsimp only at hSw); go_simp; try with_reducible rfl)
                try simp only [Act.put, List.getElem_toArray, List.getElem_cons_zero, List.getElem_cons_succ, List.setIfInBounds_toArray, List.set_cons_zero, List.set_cons_succ]
                refine wpAnyH_take (i := 22) (oi := _) (v := ?_) rfl (by kernel_rfl) (by kernel_rfl) (by kernel_rfl) (fun _ _ _ h => h) (Or.inl ⟨by rfl, ?_⟩) (by assumption) ?_
                rotate_left
                · (intro w hSw; (try dsimp only at hSw); go_simp; try with_reducible rfl)
                try simp only [Act.put, List.getElem_toArray, List.getElem_cons_zero, List.getElem_cons_succ, List.setIfInBounds_toArray, List.set_cons_zero, List.set_cons_succ]
                refine wpAnyH_take (i := 23) (oi := _) (v := ?_) rfl (by kernel_rfl) (by kernel_rfl) (by kernel_rfl) (fun _ _ _ h => h) (Or.inl ⟨by rfl, ?_⟩) (by assumption) ?_
                rotate_left
                · (intro w hSw; (try dsimp only at hSw); go_simp; try with_reducible rfl)
                try simp only [Act.put, List.getElem_toArray, List.getElem_cons_zero, List.getElem_cons_succ, List.setIfInBounds_toArray, List.set_cons_zero, List.set_cons_succ]
                refine wpAnyH_take (i := 24) (oi := _) (v := ?_) rfl (by kernel_rfl) (by kernel_rfl) (by kernel_rfl) (fun _ _ _ h => h) (Or.inl ⟨by rfl, ?_⟩) (by assumption) ?_
                rotate_left
                · (intro w hSw; (try dsimp only at hSw); go_simp; try with_reducible rfl)
                try simp only [Act.put, List.getElem_toArray, List.getElem_cons_zero, List.getElem_cons_succ, List.setIfInBounds_toArray, List.set_cons_zero, List.set_cons_succ]
                refine wpAnyH_take (i := 25) (oi := _) (v := ?_) rfl (by kernel_rfl) (by kernel_rfl) (by kernel_rfl) (fun _ _ _ h => h) (Or.inl ⟨by rfl, ?_⟩) (by assumption) ?_
                rotate_left
                · (intro w hSw; (try dsimp only at hSw); go_simp; try with_reducible rfl)
                try simp only [Act.put, List.getElem_toArray, List.getElem_cons_zero, List.getElem_cons_succ, List.setIfInBounds_toArray, List.set_cons_zero, List.set_cons_succ]
                refine wpAnyH_take (i := 26) (oi := _) (v := ?_) rfl (by kernel_rfl) (by kernel_rfl) (by kernel_rfl) (fun _ _ _ h => h) (Or.inl ⟨by rfl, ?_⟩) (by assumption) ?_
                rotate_left
                · (intro w hSw; (try dsimp only at hSw); go_simp; try with_reducible rfl)
                try simp only [Act.put, List.getElem_toArray, List.getElem_cons_zero, List.getElem_cons_succ, List.setIfInBounds_toArray, List.set_cons_zero, List.set_cons_succ]
                refine wpAnyH_take (i := 27) (oi := _) (v := ?_) rfl (by kernel_rfl) (by kernel_rfl) (by kernel_rfl) (fun _ _ _ h => h) (Or.inl ⟨by rfl, ?_⟩) (by assumption) ?_
                rotate_left
                · (intro w hSw; (try dsimp only at hSw); go_simp; try with_reducible rfl)
                try simp only [Act.put, List.getElem_toArray, List.getElem_cons_zero, List.getElem_cons_succ, List.setIfInBounds_toArray, List.set_cons_zero, List.set_cons_succ]
                refine wpAnyH_take (i := 28) (oi := _) (v := ?_) rfl (by kernel_rfl) (by kernel_rfl) (by kernel_rfl) (fun _ _ _ h => h) (Or.inl ⟨by rfl, ?_⟩) (by assumption) ?_
                rotate_left
                · (intro w hSw; (try dsimp only at hSw); go_simp; try with_reducible rfl)
                try simp only [Act.put, List.getElem_toArray, List.getElem_cons_zero, List.getElem_cons_succ, List.setIfInBounds_toArray, List.set_cons_zero, List.set_cons_succ]
                refine wpAnyH_take (i := 29) (oi := _) (v := ?_) rfl (by kernel_rfl) (by kernel_rfl) (by kernel_rfl) (fun _ _ _ h => h) (Or.inl ⟨by rfl, ?_⟩) (by assumption) ?_
                rotate_left
                · (intro w hSw; (try dsimp only at hSw); go_simp; try with_reducible rfl)
                try simp only [Act.put, List.getElem_toArray, List.getElem_cons_zero, List.getElem_cons_succ, List.setIfInBounds_toArray, List.set_cons_zero, List.set_cons_succ]
                refine wpAnyH_take (i := 30) (oi := _) (v := ?_) rfl (by kernel_rfl) (by kernel_rfl) (by kernel_rfl) (fun _ _ _ h => h) (Or.inl ⟨by rfl, ?_⟩) (by assumption) ?_
                rotate_left
                · (intro w hSw; (try dsimp only at hSw); go_simp; try with_reducible rfl)
                try simp only [Act.put, List.getElem_toArray, List.getElem_cons_zero, List.getElem_cons_succ, List.setIfInBounds_toArray, List.set_cons_zero, List.set_cons_succ]
                refine wpAnyH_done (by kernel_rfl) ?_ _
                have HX := Lib.hid (validT_bad (by have := HE.out; have := HLT.out; omega) HO.out)
                go_wp2
                go_ret
                exact ⟨by rw [HX.out]; rfl, hHeld.2.2.2.2⟩
              | true =>
                have hlb : Op.bytesLess m.p.toList p.toList = true := hltb
                have HO2 := Lib.hid (show okAt ns (j + 1) = ((getT ns (parB p)).1 == 1) by rw [okAt_eq HI.out]; rw [bad1_succ hm, hd, decide_eq_false hd1, hvb, hk0, hltb]; rfl)
                clear hd hvb hd1 hm hbo hltb
                refine wp_region_held_drew (S := (fun w' => w'.cell? ⟨wr.heap.size, 0, none⟩ = some (.string p) ∧ w'.cell? ⟨wr.heap.size, 1, none⟩ = some (.int .i64 k) ∧ w'.cell? ⟨wr.heap.size, 2, none⟩ = some (.int .i64 v) ∧ w'.cell? ⟨b, off + j * 3, none⟩ = some (.string m.p) ∧ Below W.heap.size W w')) (by kernel_rfl) HS0.out (fun hH => ?_)
                refine wpAnyH_take (i := 0) (oi := _) (v := ?_) rfl (by kernel_rfl) (by kernel_rfl) (by kernel_rfl) (fun _ _ _ h => h) (Or.inl ⟨by rfl, ?_⟩) (by assumption) ?_
                rotate_left
                · (intro w hSw; (try dsimp only at hSw); go_simp; try with_reducible rfl)
                try simp only [Act.put, List.getElem_toArray, List.getElem_cons_zero, List.setIfInBounds_toArray, List.set_cons_zero, List.set_cons_succ]
                refine wpAnyH_take (i := 1) (oi := _) (v := ?_) rfl (by kernel_rfl) (by kernel_rfl) (by kernel_rfl) (fun _ _ _ h => h) (Or.inl ⟨by rfl, ?_⟩) (by assumption) ?_
                rotate_left
                · (intro w hSw; (try dsimp only at hSw); go_simp; try with_reducible rfl)
                try simp only [Act.put, List.getElem_toArray, List.getElem_cons_zero, List.getElem_cons_succ, List.setIfInBounds_toArray, List.set_cons_zero, List.set_cons_succ]
                refine wpAnyH_ready (rs := [2]) (by kernel_rfl) (by simp) ?_
                refine AllReadyH.cons rfl (fun K hK => ?_) (AllReadyH.nil)
                go_simp
                go_at_call 36; (with_reducible refine (HD.out _).mono ?_); rintro e W5 ⟨rfl, hb5⟩
                refine hK.out _ _ (keep4 HS0.out hb5) (fun hHeld => ?_)
                try simp only [Act.put, List.getElem_toArray, List.getElem_cons_zero, List.getElem_cons_succ, List.setIfInBounds_toArray, List.set_cons_zero, List.set_cons_succ]
                refine wpAnyH_take (i := 3) (oi := _) (v := ?_) rfl (by kernel_rfl) (by kernel_rfl) (by kernel_rfl) (fun _ _ _ h => h) (Or.inl ⟨by rfl, ?_⟩) (by assumption) ?_
                rotate_left
                · (intro w hSw; (try dsimp only at hSw); go_simp; try with_reducible rfl)
                try simp only [Act.put, List.getElem_toArray, List.getElem_cons_zero, List.getElem_cons_succ, List.setIfInBounds_toArray, List.set_cons_zero, List.set_cons_succ]
                refine wpAnyH_take (i := 4) (oi := _) (v := ?_) rfl (by kernel_rfl) (by kernel_rfl) (by kernel_rfl) (fun _ _ _ h => h) (Or.inl ⟨by rfl, ?_⟩) (by assumption) ?_
                rotate_left
                · (intro w hSw; (try dsimp only at hSw); go_simp; try with_reducible rfl)
                try simp only [Act.put, List.getElem_toArray, List.getElem_cons_zero, List.getElem_cons_succ, List.setIfInBounds_toArray, List.set_cons_zero, List.set_cons_succ]
                refine wpAnyH_take (i := 5) (oi := _) (v := ?_) rfl (by kernel_rfl) (by kernel_rfl) (by kernel_rfl) (fun _ _ _ h => h) (Or.inl ⟨by rfl, ?_⟩) (by assumption) ?_
                rotate_left
                · (intro w hSw; (try dsimp only at hSw); go_simp; try with_reducible rfl)
                try simp only [Act.put, List.getElem_toArray, List.getElem_cons_zero, List.getElem_cons_succ, List.setIfInBounds_toArray, List.set_cons_zero, List.set_cons_succ]
                refine wpAnyH_take (i := 6) (oi := _) (v := ?_) rfl (by kernel_rfl) (by kernel_rfl) (by kernel_rfl) (fun _ _ _ h => h) (Or.inl ⟨by rfl, ?_⟩) (by assumption) ?_
                rotate_left
                · (intro w hSw; (try dsimp only at hSw); go_simp; try with_reducible rfl)
                try simp only [Act.put, List.getElem_toArray, List.getElem_cons_zero, List.getElem_cons_succ, List.setIfInBounds_toArray, List.set_cons_zero, List.set_cons_succ]
                refine wpAnyH_ready (rs := [7]) (by kernel_rfl) (by simp) ?_
                refine AllReadyH.cons rfl (fun K hK => ?_) (AllReadyH.nil)
                go_simp
                go_at_call 37; (with_reducible refine (HV.out _).mono ?_); rintro e W6 ⟨rfl, hb6⟩
                refine hK.out _ _ (keep4 hHeld hb6) (fun hHeld => ?_)
                try simp only [Act.put, List.getElem_toArray, List.getElem_cons_zero, List.getElem_cons_succ, List.setIfInBounds_toArray, List.set_cons_zero, List.set_cons_succ]
                refine wpAnyH_take (i := 8) (oi := _) (v := ?_) rfl (by kernel_rfl) (by kernel_rfl) (by kernel_rfl) (fun _ _ _ h => h) (Or.inl ⟨by rfl, ?_⟩) (by assumption) ?_
                rotate_left
                · (intro w hSw; (try dsimp only at hSw); go_simp; try with_reducible rfl)
                try simp only [Act.put, List.getElem_toArray, List.getElem_cons_zero, List.getElem_cons_succ, List.setIfInBounds_toArray, List.set_cons_zero, List.set_cons_succ]
                refine wpAnyH_take (i := 9) (oi := _) (v := ?_) rfl (by kernel_rfl) (by kernel_rfl) (by kernel_rfl) (fun _ _ _ h => h) (Or.inl ⟨by rfl, ?_⟩) (by assumption) ?_
                rotate_left
                · (intro w hSw; (try dsimp only at hSw); go_simp; try with_reducible rfl)
                try simp only [Act.put, List.getElem_toArray, List.getElem_cons_zero, List.getElem_cons_succ, List.setIfInBounds_toArray, List.set_cons_zero, List.set_cons_succ]
                refine wpAnyH_take (i := 10) (oi := _) (v := ?_) rfl (by kernel_rfl) (by kernel_rfl) (by kernel_rfl) (fun _ _ _ h => h) (Or.inl ⟨by rfl, ?_⟩) (by assumption) ?_
                rotate_left
                · (intro w hSw; (try dsimp only at hSw); go_simp; try with_reducible rfl)
                try simp only [Act.put, List.getElem_toArray, List.getElem_cons_zero, List.getElem_cons_succ, List.setIfInBounds_toArray, List.set_cons_zero, List.set_cons_succ]
                refine wpAnyH_take (i := 11) (oi := _) (v := ?_) rfl (by kernel_rfl) (by kernel_rfl) (by kernel_rfl) (fun _ _ _ h => h) (Or.inl ⟨by rfl, ?_⟩) (by assumption) ?_
                rotate_left
                · (intro w hSw; (try dsimp only at hSw); go_simp; try with_reducible rfl)
                try simp only [Act.put, List.getElem_toArray, List.getElem_cons_zero, List.getElem_cons_succ, List.setIfInBounds_toArray, List.set_cons_zero, List.set_cons_succ]
                refine wpAnyH_take (i := 12) (oi := _) (v := ?_) rfl (by kernel_rfl) (by kernel_rfl) (by kernel_rfl) (fun _ _ _ h => h) (Or.inl ⟨by rfl, ?_⟩) (by assumption) ?_
                rotate_left
                · (intro w hSw; (try dsimp only at hSw); go_simp; try with_reducible rfl)
                try simp only [Act.put, List.getElem_toArray, List.getElem_cons_zero, List.getElem_cons_succ, List.setIfInBounds_toArray, List.set_cons_zero, List.set_cons_succ]
                refine wpAnyH_take (i := 13) (oi := _) (v := ?_) rfl (by kernel_rfl) (by kernel_rfl) (by kernel_rfl) (fun _ _ _ h => h) (Or.inl ⟨by rfl, ?_⟩) (by assumption) ?_
                rotate_left
                · (intro w hSw; (try dsimp only at hSw); go_simp; try with_reducible rfl)
                try simp only [Act.put, List.getElem_toArray, List.getElem_cons_zero, List.getElem_cons_succ, List.setIfInBounds_toArray, List.set_cons_zero, List.set_cons_succ]
                refine wpAnyH_take (i := 14) (oi := _) (v := ?_) rfl (by kernel_rfl) (by kernel_rfl) (by kernel_rfl) (fun _ _ _ h => h) (Or.inl ⟨by rfl, ?_⟩) (by assumption) ?_
                rotate_left
                · (intro w hSw; (try dsimp only at hSw); go_simp; try with_reducible rfl)
                try simp only [Act.put, List.getElem_toArray, List.getElem_cons_zero, List.getElem_cons_succ, List.setIfInBounds_toArray, List.set_cons_zero, List.set_cons_succ]
                refine wpAnyH_take (i := 15) (oi := _) (v := ?_) rfl (by kernel_rfl) (by kernel_rfl) (by kernel_rfl) (fun _ _ _ h => h) (Or.inl ⟨by rfl, ?_⟩) (by assumption) ?_
                rotate_left
                · (intro w hSw; (try dsimp only at hSw); go_simp; try with_reducible rfl)
                try simp only [Act.put, List.getElem_toArray, List.getElem_cons_zero, List.getElem_cons_succ, List.setIfInBounds_toArray, List.set_cons_zero, List.set_cons_succ]
                refine wpAnyH_take (i := 16) (oi := _) (v := ?_) rfl (by kernel_rfl) (by kernel_rfl) (by kernel_rfl) (fun _ _ _ h => h) (Or.inl ⟨by rfl, ?_⟩) (by assumption) ?_
                rotate_left
                · (intro w hSw; (try dsimp only at hSw); go_simp; try with_reducible rfl)
                try simp only [Act.put, List.getElem_toArray, List.getElem_cons_zero, List.getElem_cons_succ, List.setIfInBounds_toArray, List.set_cons_zero, List.set_cons_succ]
                refine wpAnyH_take (i := 17) (oi := _) (v := ?_) rfl (by kernel_rfl) (by kernel_rfl) (by kernel_rfl) (fun _ _ _ h => h) (Or.inl ⟨by rfl, ?_⟩) (by assumption) ?_
                rotate_left
                · (intro w hSw; (try dsimp only at hSw); go_simp; try with_reducible rfl)
                try simp only [Act.put, List.getElem_toArray, List.getElem_cons_zero, List.getElem_cons_succ, List.setIfInBounds_toArray, List.set_cons_zero, List.set_cons_succ]
                refine wpAnyH_take (i := 18) (oi := _) (v := ?_) rfl (by kernel_rfl) (by kernel_rfl) (by kernel_rfl) (fun _ _ _ h => h) (Or.inl ⟨by rfl, ?_⟩) (by assumption) ?_
                rotate_left
                · (intro w hSw; (try dsimp only at hSw); go_simp; try with_reducible rfl)
                try simp only [Act.put, List.getElem_toArray, List.getElem_cons_zero, List.getElem_cons_succ, List.setIfInBounds_toArray, List.set_cons_zero, List.set_cons_succ]
                refine wpAnyH_take (i := 19) (oi := _) (v := ?_) rfl (by kernel_rfl) (by kernel_rfl) (by kernel_rfl) (fun _ _ _ h => h) (Or.inl ⟨by rfl, ?_⟩) (by assumption) ?_
                rotate_left
                · (intro w hSw; (try dsimp only at hSw); go_simp; try with_reducible rfl)
                try simp only [Act.put, List.getElem_toArray, List.getElem_cons_zero, List.getElem_cons_succ, List.setIfInBounds_toArray, List.set_cons_zero, List.set_cons_succ]
                refine wpAnyH_take (i := 20) (oi := _) (v := ?_) rfl (by kernel_rfl) (by kernel_rfl) (by kernel_rfl) (fun _ _ _ h => h) (Or.inl ⟨by rfl, ?_⟩) (by assumption) ?_
                rotate_left
                · (intro w hSw; (try dsimp only at hSw); go_simp; try with_reducible rfl)
                try simp only [Act.put, List.getElem_toArray, List.getElem_cons_zero, List.getElem_cons_succ, List.setIfInBounds_toArray, List.set_cons_zero, List.set_cons_succ]
                refine wpAnyH_take (i := 21) (oi := _) (v := ?_) rfl (by kernel_rfl) (by kernel_rfl) (by kernel_rfl) (fun _ _ _ h => h) (Or.inl ⟨by rfl, ?_⟩) (by assumption) ?_
                rotate_left
                · (intro w hSw; (try dsimp only at hSw); go_simp; try with_reducible rfl)
                try simp only [Act.put, List.getElem_toArray, List.getElem_cons_zero, List.getElem_cons_succ, List.setIfInBounds_toArray, List.set_cons_zero, List.set_cons_succ]
                refine wpAnyH_take (i := 22) (oi := _) (v := ?_) rfl (by kernel_rfl) (by kernel_rfl) (by kernel_rfl) (fun _ _ _ h => h) (Or.inl ⟨by rfl, ?_⟩) (by assumption) ?_
                rotate_left
                · (intro w hSw; (try dsimp only at hSw); go_simp; try with_reducible rfl)
                try simp only [Act.put, List.getElem_toArray, List.getElem_cons_zero, List.getElem_cons_succ, List.setIfInBounds_toArray, List.set_cons_zero, List.set_cons_succ]
                refine wpAnyH_take (i := 23) (oi := _) (v := ?_) rfl (by kernel_rfl) (by kernel_rfl) (by kernel_rfl) (fun _ _ _ h => h) (Or.inl ⟨by rfl, ?_⟩) (by assumption) ?_
                rotate_left
                · (intro w hSw; (try dsimp only at hSw); go_simp; try with_reducible rfl)
                try simp only [Act.put, List.getElem_toArray, List.getElem_cons_zero, List.getElem_cons_succ, List.setIfInBounds_toArray, List.set_cons_zero, List.set_cons_succ]
                refine wpAnyH_take (i := 24) (oi := _) (v := ?_) rfl (by kernel_rfl) (by kernel_rfl) (by kernel_rfl) (fun _ _ _ h => h) (Or.inl ⟨by rfl, ?_⟩) (by assumption) ?_
                rotate_left
                · (intro w hSw; (try dsimp only at hSw); go_simp; try with_reducible rfl)
                try simp only [Act.put, List.getElem_toArray, List.getElem_cons_zero, List.getElem_cons_succ, List.setIfInBounds_toArray, List.set_cons_zero, List.set_cons_succ]
                refine wpAnyH_take (i := 25) (oi := _) (v := ?_) rfl (by kernel_rfl) (by kernel_rfl) (by kernel_rfl) (fun _ _ _ h => h) (Or.inl ⟨by rfl, ?_⟩) (by assumption) ?_
                rotate_left
                · (intro w hSw; (try dsimp only at hSw); go_simp; try with_reducible rfl)
                try simp only [Act.put, List.getElem_toArray, List.getElem_cons_zero, List.getElem_cons_succ, List.setIfInBounds_toArray, List.set_cons_zero, List.set_cons_succ]
                refine wpAnyH_take (i := 26) (oi := _) (v := ?_) rfl (by kernel_rfl) (by kernel_rfl) (by kernel_rfl) (fun _ _ _ h => h) (Or.inl ⟨by rfl, ?_⟩) (by assumption) ?_
                rotate_left
                · (intro w hSw; (try dsimp only at hSw); go_simp; try with_reducible rfl)
                try simp only [Act.put, List.getElem_toArray, List.getElem_cons_zero, List.getElem_cons_succ, List.setIfInBounds_toArray, List.set_cons_zero, List.set_cons_succ]
                refine wpAnyH_take (i := 27) (oi := _) (v := ?_) rfl (by kernel_rfl) (by kernel_rfl) (by kernel_rfl) (fun _ _ _ h => h) (Or.inl ⟨by rfl, ?_⟩) (by assumption) ?_
                rotate_left
                · (intro w hSw; (try dsimp only at hSw); go_simp; try with_reducible rfl)
                try simp only [Act.put, List.getElem_toArray, List.getElem_cons_zero, List.getElem_cons_succ, List.setIfInBounds_toArray, List.set_cons_zero, List.set_cons_succ]
                refine wpAnyH_take (i := 28) (oi := _) (v := ?_) rfl (by kernel_rfl) (by kernel_rfl) (by kernel_rfl) (fun _ _ _ h => h) (Or.inl ⟨by rfl, ?_⟩) (by assumption) ?_
                rotate_left
                · (intro w hSw; (try dsimp only at hSw); go_simp; try with_reducible rfl)
                try simp only [Act.put, List.getElem_toArray, List.getElem_cons_zero, List.getElem_cons_succ, List.setIfInBounds_toArray, List.set_cons_zero, List.set_cons_succ]
                refine wpAnyH_take (i := 29) (oi := _) (v := ?_) rfl (by kernel_rfl) (by kernel_rfl) (by kernel_rfl) (fun _ _ _ h => h) (Or.inl ⟨by rfl, ?_⟩) (by assumption) ?_
                rotate_left
                · (intro w hSw; (try dsimp only at hSw); go_simp; try with_reducible rfl)
                try simp only [Act.put, List.getElem_toArray, List.getElem_cons_zero, List.getElem_cons_succ, List.setIfInBounds_toArray, List.set_cons_zero, List.set_cons_succ]
                refine wpAnyH_take (i := 30) (oi := _) (v := ?_) rfl (by kernel_rfl) (by kernel_rfl) (by kernel_rfl) (fun _ _ _ h => h) (Or.inl ⟨by rfl, ?_⟩) (by assumption) ?_
                rotate_left
                · (intro w hSw; (try dsimp only at hSw); go_simp; try with_reducible rfl)
                try simp only [Act.put, List.getElem_toArray, List.getElem_cons_zero, List.getElem_cons_succ, List.setIfInBounds_toArray, List.set_cons_zero, List.set_cons_succ]
                refine wpAnyH_done (by kernel_rfl) ?_ _
                have hNS := HN.out.keep hHeld.2.2.2.2
                have HW := Lib.hid hHeld.2.2.2.2
                have hGP := HG.out (l1pB p) _ hNS
                have HP := Lib.hid (fun w => l1Parent_c p PSZ.out (size_of_depth HD1.out) w)
                rw [show l1pB p = parB p from l1pB_parent p HD1.out] at hGP HP
                generalize parB p = pp at hGP HP HO2
                have HGP := Lib.hid hGP
                clear hGP hNS
                go_wp2_with fail
                refine (HP.out _).mono ?_; rintro e W7 ⟨rfl, rfl⟩
                go_wp2_with fail
                refine HGP.out.mono ?_; rintro e W8 ⟨rfl, hb8⟩
                have B8 := Lib.hid (below_next HW.out hb8)
                clear hb8
                unfold con
                have hfk := fun k v W => field_kind k v W
                by_cases h1 : (getT ns pp).1 = 1
                · have HO3 := Lib.hid (show okAt ns (j + 1) = true by rw [HO2.out, h1]; rfl)
                  generalize (getT ns pp).2 = kv
                  rw [h1]
                  clear h1
                  go_wp2
                  exact ⟨⟨j + 1 + 1, by go_num, by have := HE.out; have := HLT.out; omega, below_succ HM.out HO3.out, B8⟩, by have := HLT.out; simp [intOf]; omega⟩
                · have HO3 := Lib.hid (show okAt ns (j + 1) = false by rw [HO2.out]; simpa using h1)
                  have HX := Lib.hid (validT_bad (by have := HE.out; have := HLT.out; omega) HO3.out)
                  have h1' : ((getT ns pp).1 == 1) = false := beq_eq_false_iff_ne.2 h1
                  go_wp2
                  go_ret
                  exact ⟨by rw [HX.out]; rfl, B8.out⟩
    · have hge : (len : Int) ≤ i := by omega
      have HX := Lib.hid (validT_all (ns := ns) (fun j hj => HM.out j (by have := HE.out; omega)))
      have HC := Lib.hid (show decide (ns.length ≤ 10) = decide ((len : Int) ≤ 10) by rw [HE.out]; exact dec_le len)
      clear hi hlt
      go_wp2
      go_ret
      exact ⟨by rw [HX.out, HC.out]; rfl, HB.out⟩

end Go.Proofs.YtnmpbocnbcokeaaGreatDoor

/-
  WALKS: spec.TreeGet.
-/
namespace Go.Proofs.YtnmpbocnbcokeaaGreatDoor
open Go.RowKit
end Go.Proofs.YtnmpbocnbcokeaaGreatDoor

/-
  WALKS: spec.l3Put.
-/
namespace Go.Proofs.YtnmpbocnbcokeaaGreatDoor
open Go.RowKit
set_option linter.unusedVariables false

theorem infoNode : (Tryz.prog.info? 49).map (fun i => (i.zero, i.size, i.bytes)) = some (some (.agg #[.string ⟨#[]⟩, .int .i64 0, .int .i64 0]), 3, 32) := by kernel_rfl

/-- The cells of a list of nodes. -/
def flatN (ns : List Nd) : List Value := ns.flatMap (fun n => [.string n.p, .int .i64 n.k, .int .i64 n.v])

theorem flatN_nil : flatN [] = [] := rfl
theorem flatN_append (a b : List Nd) : flatN (a ++ b) = flatN a ++ flatN b := by unfold flatN; rw [List.flatMap_append]
theorem flatN_one (n : Nd) : flatN [n] = [.string n.p, .int .i64 n.k, .int .i64 n.v] := rfl
theorem flatN_length (ns : List Nd) : (flatN ns).length = ns.length * 3 := by
  induction ns with
  | nil => rfl
  | cons n r ih =>
    have : flatN (n :: r) = [.string n.p, .int .i64 n.k, .int .i64 n.v] ++ flatN r := rfl
    rw [this, List.length_append, ih]
    simp; omega

theorem flatN_get : ∀ (ns : List Nd) (i : Nat) (n : Nd), ns[i]? = some n → (flatN ns)[i * 3]? = some (.string n.p) ∧ (flatN ns)[i * 3 + 1]? = some (.int .i64 n.k) ∧ (flatN ns)[i * 3 + 2]? = some (.int .i64 n.v)
  | [], i, n, h => by simp at h
  | m :: r, 0, n, h => by
    simp at h
    subst h
    exact ⟨rfl, rfl, rfl⟩
  | m :: r, i + 1, n, h => by
    have ih := flatN_get r i n (by simpa using h)
    have e : flatN (m :: r) = .string m.p :: .int .i64 m.k :: .int .i64 m.v :: flatN r := rfl
    rw [e, show (i + 1) * 3 = i * 3 + 3 by omega]
    exact ih

/-- A list of nodes that is owned reads as one. -/
theorem nodes_of_own {W : World} {base : Nat} {e : TypeId} {v : Value} {ns : List Nd} (h : W.ownsRow base e 3 v ns.length (flatN ns)) :
    ∃ a cap, v = .slice a ns.length cap ∧ NodesAt W a ns.length ns := by
  rcases h.2 with ⟨rfl, h0⟩ | ⟨g, cap, cur, rfl, h1, h2, h3, h4, h5, h6⟩
  · exact ⟨none, 0, by rw [h0], rfl, .inl h0⟩
  · refine ⟨some ⟨g, 0, none⟩, cap, rfl, rfl, .inr ⟨g, 0, rfl, fun i n hn => ?_⟩⟩
    have hi := (List.getElem?_eq_some_iff.1 hn).1
    obtain ⟨f0, f1, f2⟩ := flatN_get ns i n hn
    refine ⟨?_, ?_, ?_⟩
    · rw [Nat.zero_add, h.cellAt (i * 3) (by omega)]; exact f0
    · rw [Nat.zero_add, h.cellAt (i * 3 + 1) (by omega)]; exact f1
    · rw [Nat.zero_add, h.cellAt (i * 3 + 2) (by omega)]; exact f2

theorem cell_three_new (w : World) (x y z : Value) (t : TypeId) : ∀ j u, [x, y, z][j]? = some u → (w.alloc (.cells #[x, y, z] t)).cell? ((⟨w.heap.size, 0, none⟩ : Addr).add j) = some u := by
  intro j u hj
  match j, hj with
  | 0, hj => simp at hj; subst hj; simp [Addr.add]
  | 1, hj => simp at hj; subst hj; simp [Addr.add]
  | 2, hj => simp at hj; subst hj; simp [Addr.add]

theorem putGo_lt {p : ByteArray} {k v : Int} {n : Nd} {r : List Nd} (h : ltB p n.p = true) : putGo p k v false (n :: r) = ⟨p, k, v⟩ :: n :: putGo p k v true r := by
  conv => lhs; unfold putGo
  rw [if_pos ⟨rfl, h⟩, if_neg (fun e => ltB_ne h e.symm)]
theorem putGo_eq {p : ByteArray} {k v : Int} {n : Nd} {r : List Nd} (h : ltB p n.p = false) (e : n.p = p) : putGo p k v false (n :: r) = ⟨p, k, v⟩ :: putGo p k v true r := by
  conv => lhs; unfold putGo
  rw [if_neg (fun c => by rw [h] at c; cases c.2), if_pos e, if_neg (by simp)]
theorem putGo_ne {p : ByteArray} {k v : Int} {n : Nd} {r : List Nd} (h : ltB p n.p = false) (e : n.p ≠ p) : putGo p k v false (n :: r) = n :: putGo p k v false r := by
  conv => lhs; unfold putGo
  rw [if_neg (fun c => by rw [h] at c; cases c.2), if_neg e]
theorem putGo_deq {p : ByteArray} {k v : Int} {n : Nd} {r : List Nd} (e : n.p = p) : putGo p k v true (n :: r) = putGo p k v true r := by
  conv => lhs; unfold putGo
  rw [if_neg (by simp), if_pos e, if_pos rfl]
theorem putGo_dne {p : ByteArray} {k v : Int} {n : Nd} {r : List Nd} (e : n.p ≠ p) : putGo p k v true (n :: r) = n :: putGo p k v true r := by
  conv => lhs; unfold putGo
  rw [if_neg (by simp), if_neg e]

theorem drop_cons {ns : List Nd} {i : Nat} {n : Nd} (h : ns[i]? = some n) : ns.drop i = n :: ns.drop (i + 1) := by
  obtain ⟨h1, h2⟩ := List.getElem?_eq_some_iff.1 h
  rw [List.drop_eq_getElem_cons h1, h2]

theorem own_reader {W W' : World} {base B : Nat} {e : TypeId} {size n : Nat} {v : Value} {xs : List Value} (h : W.ownsRow base e size v n xs) (hB : B < base) (hg : W.grownBy W' (some B)) : W'.ownsRow base e size v n xs := by
  refine h.kept hg ?_
  cases hv : v.ownBlock with
  | none => exact .inl rfl
  | some k =>
    right
    have := (h.lt k hv).1
    simp; omega

theorem own_below {W W' : World} {base : Nat} {e : TypeId} {size n : Nat} {v : Value} {xs : List Value} (h : W.ownsRow base e size v n xs) (hg : Below W.heap.size W W') : W'.ownsRow base e size v n xs :=
  h.kept (below_grown hg) (by cases hv : v.ownBlock <;> simp)

/-- A list of nodes that the call has made. -/
def OwnsNodes (base : Nat) (ns : List Nd) (e : Ending) (w' : World) : Prop :=
  ∃ sl, e = .returned sl ∧ w'.ownsRow base 49 3 sl ns.length (flatN ns)

theorem NodesAt.at {W : World} {b off len : Nat} {ns : List Nd} {i : Nat} {n : Nd} (h : NodesAt W (some ⟨b, off, none⟩) len ns) (hn : ns[i]? = some n) :
    W.cell? ⟨b, off + i * 3, none⟩ = some (.string n.p) ∧ W.cell? ⟨b, off + i * 3 + 1, none⟩ = some (.int .i64 n.k) ∧ W.cell? ⟨b, off + i * 3 + 2, none⟩ = some (.int .i64 n.v) := by
  obtain ⟨h1, h0 | ⟨b', off', ha, hc⟩⟩ := h
  · have := (List.getElem?_eq_some_iff.1 hn).1; omega
  · simp at ha
    obtain ⟨rfl, rfl⟩ := ha
    exact hc i n hn

theorem own_mono {W : World} {b c : Nat} {e : TypeId} {size n : Nat} {v : Value} {xs : List Value} (h : W.ownsRow c e size v n xs) (hbc : b ≤ c) : W.ownsRow b e size v n xs := by
  obtain ⟨h1, h2 | ⟨g, cap, cur, h3, h4, h5⟩⟩ := h
  · exact ⟨h1, .inl h2⟩
  · exact ⟨h1, .inr ⟨g, cap, cur, h3, Nat.le_trans hbc h4, h5⟩⟩

theorem own_push {W : World} {b : Nat} {e : TypeId} {v : Value} {acc : List Nd} (x : Nd) (h : W.ownsRow b e 3 v (acc.length + 1) (flatN acc ++ [.string x.p, .int .i64 x.k, .int .i64 x.v])) : W.ownsRow b e 3 v (acc ++ [x]).length (flatN (acc ++ [x])) := by
  rw [flatN_append, flatN_one, List.length_append]; exact h

def PutPost (ns : List Nd) (p : ByteArray) (k v : Int) (W : World) (e : Ending) (w' : World) : Prop := OwnsNodes W.heap.size (putL ns p k v) e w' ∧ Below W.heap.size W w'

def PutRel (ns : List Nd) (p : ByteArray) (k v : Int) (W1 : World) (o dn i : Value) (wr : World) : Prop :=
  ∃ (acc : List Nd) (d : Bool) (n : Nat), dn = .bool d ∧ i = .int .i64 n ∧ n ≤ ns.length ∧ Hid (acc.length ≤ 2097154) ∧ Hid (acc.length ≤ n + 1 ∧ (d = false → acc.length ≤ n)) ∧ Hid (acc ++ putGo p k v d (ns.drop n) = putL ns p k v) ∧
    wr.ownsRow W1.heap.size 49 3 o acc.length (flatN acc) ∧ Hid (Below W1.heap.size W1 wr)

theorem put_end {ns acc : List Nd} {p : ByteArray} {k v : Int} {W W1 wr : World} {o : Value} (hW1 : W1 = W.alloc (.cells #[.int .i64 k, .int .i64 v] 25)) (hB : Below W1.heap.size W1 wr)
    (hP : acc = putL ns p k v) (h : wr.ownsRow W1.heap.size 49 3 o acc.length (flatN acc)) : PutPost ns p k v W (.returned o) wr := by
  subst hP
  have hs : W.heap.size ≤ W1.heap.size := by rw [hW1]; simp
  refine ⟨⟨o, rfl, own_mono h hs⟩, ?_⟩
  have : Below W.heap.size W W1 := by rw [hW1]; exact below_box _ _
  exact below_next this hB

set_option maxHeartbeats 2000000 in
set_option maxRecDepth 100000 in
theorem l3Put_c (a : Option Addr) (len cap : Nat) (ns : List Nd) (p : ByteArray) (k v : Int) (hl : len ≤ 2097152) (W : World) (hN : NodesAt W a len ns) :
    Calls Tryz.prog 39 #[.slice a len cap, .string p, .agg #[.int .i64 k, .int .i64 v]] W (PutPost ns p k v W) := by
  obtain ⟨i0, hi, hz0, hz1, hz2⟩ := info_parts infoNode
  have HN := Lib.hid hN
  have HE := Lib.hid hN.1
  have HL := Lib.hid hl
  clear hN
  go_enter Tryz.func39, Tryz.ntmps39
  go_wp2
  obtain ⟨W1, hW1⟩ : ∃ W1, W1 = W.alloc (.cells #[.int .i64 k, .int .i64 v] 25) := ⟨_, rfl⟩
  have HN1 := Lib.hid (show NodesAt W1 a len ns by rw [hW1]; exact HN.out.keep (below_box _ _))
  have HBX := Lib.hid (show W1.cell? ⟨W.heap.size, 0, none⟩ = some (.int .i64 k) ∧ W1.cell? ⟨W.heap.size, 1, none⟩ = some (.int .i64 v) by subst hW1; exact ⟨by rw [World.cell?_alloc_new]; rfl, by rw [World.cell?_alloc_new]; rfl⟩)
  have HW1 := Lib.hid hW1
  have hs1 : W.heap.size + 1 = W1.heap.size := by rw [hW1]; simp
  rw [← hW1, hs1]
  clear hW1 hs1
  go_loopw [7, 8, 9] (fun o d i wr => PutRel ns p k v W1 o d i wr) (fun _ _ i _ => len - (intOf i).toNat)
  case atStart => exact ⟨[], (k == 0), 0, rfl, rfl, by omega, by simp [Hid], by simp [Hid], rfl, World.ownsRow_lit (e := 49) (size := 3) W1 #[] 0 (Nat.le_refl _) (by simp [maxLen]) rfl, below_box _ _⟩
  case round =>
    obtain ⟨acc, d, i, rfl, rfl, hi1, HA, HA2, HP, hrow, HB⟩ := hrel
    have hlt0 := hrow.lt
    have q0 := cell_kept HB.out HBX.out.1
    have q1 := cell_kept HB.out HBX.out.2
    by_cases hlt : i < len
    · obtain ⟨b, off, n, rfl, hn, c0, c1, c2⟩ := (HN1.out.keep HB.out).node hlt
      have hlt' : (i : Int) < len := by omega
      have HD := Lib.hid (drop_cons hn)
      have HLT := Lib.hid hlt
      have HNN := Lib.hid hn
      clear hi1 hlt hn
      cases d with
      | false =>
        cases hltb : ltB p n.p with
        | true =>
          have hlb : Op.bytesLess p.toList n.p.toList = true := hltb
          have hne : (n.p.toList == p.toList) = false := toList_ne (fun e => ltB_ne hltb e.symm)
          have HP2 := Lib.hid (show (acc ++ [⟨p, k, v⟩] ++ [n]) ++ putGo p k v true (ns.drop (i + 1)) = putL ns p k v by rw [← HP.out, HD.out, putGo_lt hltb]; simp)
          clear hltb
          go_wp2_with (first | (at_builtin; refine wpList_append_own _ rfl _ _ 23 rfl W1.heap.size 49 i0 (.agg #[.string ⟨#[]⟩, .int .i64 0, .int .i64 0]) 3 32 Tryz.underlying23 hi hz0 hz1 hz2 rfl (by decide) _ _ _ rfl (hrow.alloc _) ⟨wr.heap.size, 0, none⟩ 1 1 [.string p, .int .i64 k, .int .i64 v] rfl rfl (cell_three_new _ _ _ _ _) (fun x hx => by simp at hx; rcases hx with rfl | rfl | rfl <;> rfl) (by unfold maxLen; have := HA.out; omega) (by have := HA.out; omega) (by have := HB.out.size; simp; omega) ?_; intro v3 w3 ho3 hg3 hn3; have B3 : Below W1.heap.size W1 w3 := (HB.out.alloc HB.out.size _).grown hg3 (by have := HB.out.size; simp; omega) (fun g e => (hlt0 g e).1); obtain ⟨d0, d1, d2⟩ := (HN1.out.keep B3).at HNN.out) | (at_builtin; refine wpList_append_own _ rfl _ _ 23 rfl W1.heap.size 49 i0 (.agg #[.string ⟨#[]⟩, .int .i64 0, .int .i64 0]) 3 32 Tryz.underlying23 hi hz0 hz1 hz2 rfl (by decide) _ _ _ rfl ((own_push (⟨p, k, v⟩ : Nd) ho3).alloc _) ⟨w3.heap.size, 0, none⟩ 1 1 [.string n.p, .int .i64 n.k, .int .i64 n.v] rfl rfl (cell_three_new _ _ _ _ _) (fun x hx => by simp at hx; rcases hx with rfl | rfl | rfl <;> rfl) (by unfold maxLen; have := HA.out; simp; omega) (by have := HA.out; simp; omega) (by have := B3.size; simp; omega) ?_; intro v4 w4 ho4 hg4 hn4))
          have B4 : Below W1.heap.size W1 w4 := (B3.alloc B3.size _).grown hg4 (by have := B3.size; simp; omega) (fun g e => ((own_push (⟨p, k, v⟩ : Nd) ho3).lt g e).1)
          go_roundw
          case rel => exact ⟨acc ++ [(⟨p, k, v⟩ : Nd)] ++ [n], true, i + 1, rfl, by go_num, by have := HE.out; have := HLT.out; omega, (by show (acc ++ [(⟨p, k, v⟩ : Nd)] ++ [n]).length ≤ _; have h5 := HA2.out; have h6 := HLT.out; have h7 := HL.out; simp at h5 ⊢; omega), (by show _ ∧ _; have h5 := HA2.out; simp at h5 ⊢; omega), HP2, own_push n ho4, B4⟩
          case measure => have := HLT.out; simp [intOf]; omega
        | false =>
          have hlb : Op.bytesLess p.toList n.p.toList = false := hltb
          by_cases he : n.p = p
          · have hne : (n.p.toList == p.toList) = true := by rw [he]; simp
            have HP2 := Lib.hid (show (acc ++ [⟨p, k, v⟩]) ++ putGo p k v true (ns.drop (i + 1)) = putL ns p k v by rw [← HP.out, HD.out, putGo_eq hltb he]; simp)
            clear hltb he
            go_wp2_with (at_builtin; refine wpList_append_own _ rfl _ _ 23 rfl W1.heap.size 49 i0 (.agg #[.string ⟨#[]⟩, .int .i64 0, .int .i64 0]) 3 32 Tryz.underlying23 hi hz0 hz1 hz2 rfl (by decide) _ _ _ rfl (hrow.alloc _) ⟨wr.heap.size, 0, none⟩ 1 1 [.string p, .int .i64 k, .int .i64 v] rfl rfl (cell_three_new _ _ _ _ _) (fun x hx => by simp at hx; rcases hx with rfl | rfl | rfl <;> rfl) (by unfold maxLen; have := HA.out; omega) (by have := HA.out; omega) (by have := HB.out.size; simp; omega) ?_; intro v3 w3 ho3 hg3 hn3)
            have B3 : Below W1.heap.size W1 w3 := (HB.out.alloc HB.out.size _).grown hg3 (by have := HB.out.size; simp; omega) (fun g e => (hlt0 g e).1)
            go_roundw
            case rel => exact ⟨acc ++ [(⟨p, k, v⟩ : Nd)], true, i + 1, rfl, by go_num, by have := HE.out; have := HLT.out; omega, (by show (acc ++ [(⟨p, k, v⟩ : Nd)]).length ≤ _; have h5 := HA2.out; have h6 := HLT.out; have h7 := HL.out; simp at h5 ⊢; omega), (by show _ ∧ _; have h5 := HA2.out; simp at h5 ⊢; omega), HP2, own_push (⟨p, k, v⟩ : Nd) ho3, B3⟩
            case measure => have := HLT.out; simp [intOf]; omega
          · have hne : (n.p.toList == p.toList) = false := toList_ne he
            have HP2 := Lib.hid (show (acc ++ [n]) ++ putGo p k v false (ns.drop (i + 1)) = putL ns p k v by rw [← HP.out, HD.out, putGo_ne hltb he]; simp)
            clear hltb he
            go_wp2_with (at_builtin; refine wpList_append_own _ rfl _ _ 23 rfl W1.heap.size 49 i0 (.agg #[.string ⟨#[]⟩, .int .i64 0, .int .i64 0]) 3 32 Tryz.underlying23 hi hz0 hz1 hz2 rfl (by decide) _ _ _ rfl (hrow.alloc _) ⟨wr.heap.size, 0, none⟩ 1 1 [.string n.p, .int .i64 n.k, .int .i64 n.v] rfl rfl (cell_three_new _ _ _ _ _) (fun x hx => by simp at hx; rcases hx with rfl | rfl | rfl <;> rfl) (by unfold maxLen; have := HA.out; omega) (by have := HA.out; omega) (by have := HB.out.size; simp; omega) ?_; intro v3 w3 ho3 hg3 hn3)
            have B3 : Below W1.heap.size W1 w3 := (HB.out.alloc HB.out.size _).grown hg3 (by have := HB.out.size; simp; omega) (fun g e => (hlt0 g e).1)
            go_roundw
            case rel => exact ⟨acc ++ [n], false, i + 1, rfl, by go_num, by have := HE.out; have := HLT.out; omega, (by show (acc ++ [n]).length ≤ _; have h5 := HA2.out; have h6 := HLT.out; have h7 := HL.out; simp at h5 ⊢; omega), (by show _ ∧ _; have h5 := HA2.out; simp at h5 ⊢; omega), HP2, own_push n ho3, B3⟩
            case measure => have := HLT.out; simp [intOf]; omega
      | true =>
        by_cases he : n.p = p
        · have hne : (n.p.toList == p.toList) = true := by rw [he]; simp
          have HP2 := Lib.hid (show acc ++ putGo p k v true (ns.drop (i + 1)) = putL ns p k v by rw [← HP.out, HD.out, putGo_deq he])
          clear he
          go_wp2
          go_roundw
          case rel => exact ⟨acc, true, i + 1, rfl, by go_num, by have := HE.out; have := HLT.out; omega, (by show (acc).length ≤ _; have h5 := HA2.out; have h6 := HLT.out; have h7 := HL.out; simp at h5 ⊢; omega), (by show _ ∧ _; have h5 := HA2.out; simp at h5 ⊢; omega), HP2, hrow, HB⟩
          case measure => have := HLT.out; simp [intOf]; omega
        · have hne : (n.p.toList == p.toList) = false := toList_ne he
          have HP2 := Lib.hid (show (acc ++ [n]) ++ putGo p k v true (ns.drop (i + 1)) = putL ns p k v by rw [← HP.out, HD.out, putGo_dne he]; simp)
          clear he
          go_wp2_with (at_builtin; refine wpList_append_own _ rfl _ _ 23 rfl W1.heap.size 49 i0 (.agg #[.string ⟨#[]⟩, .int .i64 0, .int .i64 0]) 3 32 Tryz.underlying23 hi hz0 hz1 hz2 rfl (by decide) _ _ _ rfl (hrow.alloc _) ⟨wr.heap.size, 0, none⟩ 1 1 [.string n.p, .int .i64 n.k, .int .i64 n.v] rfl rfl (cell_three_new _ _ _ _ _) (fun x hx => by simp at hx; rcases hx with rfl | rfl | rfl <;> rfl) (by unfold maxLen; have := HA.out; omega) (by have := HA.out; omega) (by have := HB.out.size; simp; omega) ?_; intro v3 w3 ho3 hg3 hn3)
          have B3 : Below W1.heap.size W1 w3 := (HB.out.alloc HB.out.size _).grown hg3 (by have := HB.out.size; simp; omega) (fun g e => (hlt0 g e).1)
          go_roundw
          case rel => exact ⟨acc ++ [n], true, i + 1, rfl, by go_num, by have := HE.out; have := HLT.out; omega, (by show (acc ++ [n]).length ≤ _; have h5 := HA2.out; have h6 := HLT.out; have h7 := HL.out; simp at h5 ⊢; omega), (by show _ ∧ _; have h5 := HA2.out; simp at h5 ⊢; omega), HP2, own_push n ho3, B3⟩
          case measure => have := HLT.out; simp [intOf]; omega
    · have hge : (len : Int) ≤ i := by omega
      have hdr : ns.drop i = [] := by rw [List.drop_eq_nil_iff]; have := HE.out; omega
      have HPX := HP.out
      rw [hdr] at HPX
      clear hi1 hlt hdr
      cases d with
      | false =>
        have HP2 := Lib.hid (show acc ++ [⟨p, k, v⟩] = putL ns p k v from HPX)
        clear HPX
        go_wp2_with (at_builtin; refine wpList_append_own _ rfl _ _ 23 rfl W1.heap.size 49 i0 (.agg #[.string ⟨#[]⟩, .int .i64 0, .int .i64 0]) 3 32 Tryz.underlying23 hi hz0 hz1 hz2 rfl (by decide) _ _ _ rfl (hrow.alloc _) ⟨wr.heap.size, 0, none⟩ 1 1 [.string p, .int .i64 k, .int .i64 v] rfl rfl (cell_three_new _ _ _ _ _) (fun x hx => by simp at hx; rcases hx with rfl | rfl | rfl <;> rfl) (by unfold maxLen; have := HA.out; omega) (by have := HA.out; omega) (by have := HB.out.size; simp; omega) ?_; intro v3 w3 ho3 hg3 hn3)
        have B3 : Below W1.heap.size W1 w3 := (HB.out.alloc HB.out.size _).grown hg3 (by have := HB.out.size; simp; omega) (fun g e => (hlt0 g e).1)
        go_ret
        exact put_end HW1.out B3 HP2.out (own_push (⟨p, k, v⟩ : Nd) ho3)
      | true =>
        have HP2 := Lib.hid (show acc = putL ns p k v by rw [← HPX]; simp [putGo])
        clear HPX
        go_wp2
        go_ret
        exact put_end HW1.out HB.out HP2.out hrow

end Go.Proofs.YtnmpbocnbcokeaaGreatDoor

/-
  WALKS: spec.TreePut.
-/
namespace Go.Proofs.YtnmpbocnbcokeaaGreatDoor
open Go.RowKit
set_option linter.unusedVariables false

/-- What a put tells: the new tree and true, or no nodes and false. -/
def TPost (r : Option (List Nd)) (base : Nat) (W : World) (e : Ending) (w' : World) : Prop :=
  ∃ (sl : Value) (out : List Nd) (b : Bool), e = .returned (.tuple #[sl, .bool b]) ∧ ((b = true ∧ r = some out) ∨ (b = false ∧ r = none ∧ out = [])) ∧ w'.ownsRow base 49 3 sl out.length (flatN out) ∧ Below W.heap.size W w'

theorem tput_none {r : Option (List Nd)} {base : Nat} {W w : World} (hr : r = none) (hb : base ≤ w.heap.size) (hB : Below W.heap.size W w) :
    TPost r base W (.returned (.tuple #[.slice (some ⟨w.heap.size, 0, none⟩) 0 0, .bool false])) (w.alloc (.cells #[] 49)) :=
  ⟨_, [], false, rfl, .inr ⟨rfl, hr, rfl⟩, World.ownsRow_lit (e := 49) (size := 3) w #[] 0 hb (by simp [maxLen]) rfl, below_next hB (below_box _ _)⟩

theorem short_put {m : Nat} {ns : List Nd} {p : ByteArray} {k v : Int} (h : Short m ns) (hp : p.size ≤ m) : Short m (putL ns p k v) := by
  intro n hn
  rcases putL_mem.1 hn with ⟨_, rfl⟩ | ⟨h1, _⟩
  · exact hp
  · exact h n h1

theorem putL_len_le {ns : List Nd} {p : ByteArray} {k v : Int} : (putL ns p k v).length ≤ ns.length + 1 := by
  unfold putL
  cases k == 0 with
  | true => rw [putGo_true]; have := List.length_filter_le (fun n : Nd => decide (n.p ≠ p)) ns; omega
  | false => rw [putGo_length]; have := List.length_filter_le (fun n : Nd => decide (n.p ≠ p)) ns; omega

set_option maxHeartbeats 2000000 in
theorem specTreePut_c (a : Option Addr) (len cap : Nat) (ns : List Nd) (p : ByteArray) (k v : Int) (hl : len ≤ 2097151) (hs : Short 2097152 ns) (hp : p.size ≤ 2097152) (W : World) (hN : NodesAt W a len ns) :
    Calls Tryz.prog 20 #[.slice a len cap, .string p, .agg #[.int .i64 k, .int .i64 v]] W (TPost (treePut ns p k v) W.heap.size W) := by
  have HN := Lib.hid hN
  have HE := Lib.hid hN.1
  have HSH := Lib.hid hs
  have HPS := Lib.hid hp
  have HV := Lib.hid (fun W h => specTreeValid_c a len cap ns (by omega) hs W h)
  have HD := Lib.hid (fun w => specDepth_c p hp w)
  have HC := Lib.hid (fun w => specConValid_c k v w)
  have HL3 := Lib.hid (fun W h => l3Put_c a len cap ns p k v (by omega) W h)
  have HLN := Lib.hid hl
  clear hN hs hp hl
  unfold con at HC
  cases hv : validT ns with
  | false =>
    have HR := Lib.hid (show treePut ns p k v = none by unfold treePut; rw [hv]; rfl)
    rw [hv] at HV
    clear hv
    go_enter Tryz.func20, Tryz.ntmps20
    go_wp2_with fail
    refine (HV.out _ (HN.out.keep (below_box _ _))).mono ?_; rintro e W1 ⟨rfl, hb1⟩
    have B1 := Lib.hid (below_next (below_box W _) hb1)
    clear hb1
    go_wp2
    go_ret2
    exact tput_none HR.out B1.out.size B1.out
  | true =>
    rw [hv] at HV
    obtain ⟨d, hd⟩ : ∃ d, depB p = d := ⟨_, rfl⟩
    have hdd : ∀ w, Calls Tryz.prog 36 #[.string p] w fun e w' => e = .returned (.int .i64 d) ∧ Below w.heap.size w w' := fun w => by rw [← hd]; exact HD.out w
    have HD2 := Lib.hid hdd
    clear hdd
    by_cases h1 : d < 1
    · have HR := Lib.hid (show treePut ns p k v = none by unfold treePut; rw [hv, hd, decide_eq_false (show ¬ 1 ≤ d by omega)]; rfl)
      clear hv hd
      go_enter Tryz.func20, Tryz.ntmps20
      go_wp2_with fail
      refine (HV.out _ (HN.out.keep (below_box _ _))).mono ?_; rintro e W1 ⟨rfl, hb1⟩
      go_wp2_with fail
      refine (HD2.out _).mono ?_; rintro e W2 ⟨rfl, hb2⟩
      have B2 := Lib.hid (below_next (below_box W _) (below_next hb1 hb2))
      clear hb1 hb2
      go_wp2
      go_ret2
      exact tput_none HR.out B2.out.size B2.out
    · have h1' : 1 ≤ d := by omega
      cases hc : validB k v with
      | false =>
        have HR := Lib.hid (show treePut ns p k v = none by unfold treePut; rw [hc]; simp)
        rw [hc] at HC
        clear hv hd hc h1
        go_enter Tryz.func20, Tryz.ntmps20
        go_wp2_with fail
        refine (HV.out _ (HN.out.keep (below_box _ _))).mono ?_; rintro e W1 ⟨rfl, hb1⟩
        go_wp2_with fail
        refine (HD2.out _).mono ?_; rintro e W2 ⟨rfl, hb2⟩
        have c0 := box_cell (below_next hb1 hb2) 0
        have c1 := box_cell (below_next hb1 hb2) 1
        go_wp2_with fail
        refine (HC.out _).mono ?_; rintro e W3 ⟨rfl, hb3⟩
        have B3 := Lib.hid (below_next (below_box W _) (below_next hb1 (below_next hb2 hb3)))
        clear hb1 hb2 hb3 c0 c1
        go_wp2
        go_ret2
        exact tput_none HR.out B3.out.size B3.out
      | true =>
        rw [hc] at HC
        have HR0 := Lib.hid (show treePut ns p k v = if validT (putL ns p k v) = true then some (putL ns p k v) else none by unfold treePut; rw [hv, hc, hd, decide_eq_true h1']; rfl)
        have hsh := short_put (k := k) (v := v) HSH.out HPS.out
        have hln : (putL ns p k v).length ≤ 2097152 := by have := putL_len_le (ns := ns) (p := p) (k := k) (v := v); have := HE.out; have := HLN.out; omega
        obtain ⟨out, ho⟩ : ∃ out, putL ns p k v = out := ⟨_, rfl⟩
        unfold PutPost at HL3
        rw [ho] at HL3 HR0 hsh hln
        have HV2 := Lib.hid (fun a cap W h => specTreeValid_c a out.length cap out hln hsh W h)
        clear hv hd hc h1 ho hsh hln
        go_enter Tryz.func20, Tryz.ntmps20
        go_wp2_with fail
        refine (HV.out _ (HN.out.keep (below_box _ _))).mono ?_; rintro e W1 ⟨rfl, hb1⟩
        go_wp2_with fail
        refine (HD2.out _).mono ?_; rintro e W2 ⟨rfl, hb2⟩
        have c0 := box_cell (below_next hb1 hb2) 0
        have c1 := box_cell (below_next hb1 hb2) 1
        go_wp2_with fail
        refine (HC.out _).mono ?_; rintro e W3 ⟨rfl, hb3⟩
        have c0 := box_cell (below_next hb1 (below_next hb2 hb3)) 0
        have c1 := box_cell (below_next hb1 (below_next hb2 hb3)) 1
        have B3 := Lib.hid (below_next (below_box W _) (below_next hb1 (below_next hb2 hb3)))
        clear hb1 hb2 hb3
        go_wp2_with fail
        refine (HL3.out _ (HN.out.keep B3.out)).mono ?_; rintro e W4 ⟨⟨sl, rfl, hown⟩, hb4⟩
        clear c0 c1
        have hown2 := own_mono hown B3.out.size
        have B4 := Lib.hid (below_next B3.out hb4)
        obtain ⟨ao, co, rfl, hNo⟩ := nodes_of_own hown2
        have HO := Lib.hid hown2
        have HNO := Lib.hid hNo
        clear hown hown2 hNo hb4
        cases hvo : validT out with
        | true =>
          have HR := Lib.hid (show treePut ns p k v = some out by rw [HR0.out, hvo]; rfl)
          rw [hvo] at HV2
          clear hvo
          go_wp2_with fail
          refine (HV2.out _ _ _ HNO.out).mono ?_; rintro e W5 ⟨rfl, hb5⟩
          have HO5 := Lib.hid (HO.out.kept (below_grown hb5) (by cases (Value.slice ao out.length co).ownBlock <;> simp))
          have B5 := Lib.hid (below_next B4.out hb5)
          clear hb5
          go_wp2
          go_ret2
          exact ⟨_, out, true, rfl, .inl ⟨rfl, HR.out⟩, HO5.out, B5.out⟩
        | false =>
          have HR := Lib.hid (show treePut ns p k v = none by rw [HR0.out, hvo]; rfl)
          rw [hvo] at HV2
          clear hvo
          go_wp2_with fail
          refine (HV2.out _ _ _ HNO.out).mono ?_; rintro e W5 ⟨rfl, hb5⟩
          have B5 := Lib.hid (below_next B4.out hb5)
          clear hb5
          go_wp2
          go_ret2
          exact tput_none HR.out B5.out.size B5.out

end Go.Proofs.YtnmpbocnbcokeaaGreatDoor

/-
  Two contents held against each other.
-/
namespace Go.Proofs.YtnmpbocnbcokeaaGreatDoor
open Go.RowKit

theorem conEqQ (k v k' v' : Int) (w : World) : (binOp .eql 25 (.agg #[.int .i64 k, .int .i64 v]) (.agg #[.int .i64 k', .int .i64 v'])).run Tryz.prog w = .ok (.bool (k == k' && v == v')) w := by
  by_cases h : k = k'
  · subst h
    by_cases h2 : v = v'
    · subst h2
      simp [binOp, go_sem, Op.equal, Op.maxDepth]
    · simp [binOp, go_sem, Op.equal, Op.maxDepth, h2]
  · have : (k == k') = false := beq_eq_false_iff_ne.2 h
    simp [binOp, go_sem, Op.equal, Op.maxDepth, this]

theorem conNeQ (k v k' v' : Int) (w : World) : (binOp .neq 25 (.agg #[.int .i64 k, .int .i64 v]) (.agg #[.int .i64 k', .int .i64 v'])).run Tryz.prog w = .ok (.bool (!(k == k' && v == v'))) w := by
  by_cases h : k = k'
  · subst h
    by_cases h2 : v = v'
    · subst h2
      simp [binOp, go_sem, Op.equal, Op.maxDepth]
    · simp [binOp, go_sem, Op.equal, Op.maxDepth, h2]
  · have : (k == k') = false := beq_eq_false_iff_ne.2 h
    simp [binOp, go_sem, Op.equal, Op.maxDepth, this]

end Go.Proofs.YtnmpbocnbcokeaaGreatDoor

/-
  WALKS: commands of the model: spec.CommandValid.
-/
namespace Go.Proofs.YtnmpbocnbcokeaaGreatDoor
open Go.RowKit
set_option linter.unusedVariables false

def cmdV (c : Cmd) : Value := .agg #[.string c.p, .int .i64 c.fk, .int .i64 c.fv, .int .i64 c.tk, .int .i64 c.tv]

/-- What a call leaves that ends in a command. -/
def CmdPost (c : Cmd) (W : World) (e : Ending) (w' : World) : Prop := e = .returned (cmdV c) ∧ Below W.heap.size W w'

theorem valid_parts {c : Cmd} {d b1 b2 dd : Bool} (hd : decide (1 ≤ depB c.p) = d) (h1 : validB c.fk c.fv = b1) (h2 : validB c.tk c.tv = b2) (h3 : (!sameFT c) = dd) : validC c = (d && b1 && b2 && dd) := by
  unfold validC
  rw [hd, h1, h2, h3]

set_option maxHeartbeats 2000000 in
set_option maxRecDepth 100000 in
theorem specCmdValid_c (c : Cmd) (hp : c.p.size ≤ 2097152) (W : World) : Calls Tryz.prog 18 #[cmdV c] W (BoolPost (validC c) W) := by
  obtain ⟨dp, hdp⟩ : ∃ dp, depB c.p = dp := ⟨_, rfl⟩
  have HD := Lib.hid (fun w => show Calls Tryz.prog 36 #[.string c.p] w (fun e w' => e = .returned (.int .i64 dp) ∧ Below w.heap.size w w') by rw [← hdp]; exact specDepth_c c.p hp w)
  obtain ⟨b1, h1⟩ : ∃ b, validB c.fk c.fv = b := ⟨_, rfl⟩
  obtain ⟨b2, h2⟩ : ∃ b, validB c.tk c.tv = b := ⟨_, rfl⟩
  obtain ⟨dd, h3⟩ : ∃ b, (!sameFT c) = b := ⟨_, rfl⟩
  have HF := Lib.hid (fun w => show Calls Tryz.prog 37 #[con c.fk c.fv] w (BoolPost b1 w) by rw [← h1]; exact specConValid_c _ _ w)
  have HT := Lib.hid (fun w => show Calls Tryz.prog 37 #[con c.tk c.tv] w (BoolPost b2 w) by rw [← h2]; exact specConValid_c _ _ w)
  have hne := fun w' => (conNeQ c.fk c.fv c.tk c.tv w').trans (show _ = Result.ok (Value.bool dd) w' by rw [← h3]; rfl)
  have HV := Lib.hid (valid_parts (d := decide (1 ≤ dp)) (by rw [hdp]) h1 h2 h3)
  clear h1 h2 h3 hdp
  obtain ⟨p, fk, fv, tk, tv⟩ := c
  unfold cmdV
  unfold con at HF HT
  simp only at HD HF HT hne hp ⊢
  by_cases hd : 0 < dp
  · have hdd : decide (1 ≤ dp) = true := decide_eq_true (by omega)
    rw [hdd] at HV
    clear hdd
    go_enter Tryz.func18, Tryz.ntmps18
    go_wp2_with fail
    refine (HD.out _).mono ?_
    rintro e W1 ⟨rfl, hb1⟩
    have q1 := box_cell hb1 1
    have q2 := box_cell hb1 2
    have q3 := box_cell hb1 3
    have q4 := box_cell hb1 4
    simp at q1 q2 q3 q4
    have B1 := Lib.hid (below_next (below_box W _) hb1)
    clear hb1
    go_wp2_with fail
    refine (HF.out _).mono ?_
    rintro e W2 ⟨rfl, hb2⟩
    have r1 := cell_kept hb2 q1
    have r2 := cell_kept hb2 q2
    have r3 := cell_kept hb2 q3
    have r4 := cell_kept hb2 q4
    have B2 := Lib.hid (below_next B1.out hb2)
    clear hb2 q1 q2 q3 q4
    cases b1 with
    | false =>
      clear hne
      go_wp2
      go_ret
      exact ⟨ret_bool (by rw [HV.out]; rfl), B2.out⟩
    | true =>
      go_wp2_with fail
      refine (HT.out _).mono ?_
      rintro e W3 ⟨rfl, hb3⟩
      have s1 := cell_kept hb3 r1
      have s2 := cell_kept hb3 r2
      have s3 := cell_kept hb3 r3
      have s4 := cell_kept hb3 r4
      have B3 := Lib.hid (below_next B2.out hb3)
      clear hb3 r1 r2 r3 r4
      cases b2 with
      | false =>
        clear hne
        go_wp2
        go_ret
        exact ⟨ret_bool (by rw [HV.out]; rfl), B3.out⟩
      | true =>
        go_wp2
        go_ret
        exact ⟨ret_bool (by rw [HV.out]; rfl), B3.out⟩
  · have hdd : decide (1 ≤ dp) = false := decide_eq_false (by omega)
    rw [hdd] at HV
    clear hdd hne
    go_enter Tryz.func18, Tryz.ntmps18
    go_wp2_with fail
    refine (HD.out _).mono ?_
    rintro e W1 ⟨rfl, hb1⟩
    have B1 := Lib.hid (below_next (below_box W _) hb1)
    clear hb1
    go_wp2
    go_ret
    exact ⟨ret_bool (by rw [HV.out]; rfl), B1.out⟩

theorem keepCmd {W0 w1 w2 : World} {b : Nat} {p : ByteArray} {fk fv tk tv : Int} (h : w1.cell? ⟨b, 0, none⟩ = some (.string p) ∧ w1.cell? ⟨b, 1, none⟩ = some (.int .i64 fk) ∧ w1.cell? ⟨b, 2, none⟩ = some (.int .i64 fv) ∧ w1.cell? ⟨b, 3, none⟩ = some (.int .i64 tk) ∧ w1.cell? ⟨b, 4, none⟩ = some (.int .i64 tv) ∧ Below W0.heap.size W0 w1) (hb : Below w1.heap.size w1 w2) :
    w2.cell? ⟨b, 0, none⟩ = some (.string p) ∧ w2.cell? ⟨b, 1, none⟩ = some (.int .i64 fk) ∧ w2.cell? ⟨b, 2, none⟩ = some (.int .i64 fv) ∧ w2.cell? ⟨b, 3, none⟩ = some (.int .i64 tk) ∧ w2.cell? ⟨b, 4, none⟩ = some (.int .i64 tv) ∧ Below W0.heap.size W0 w2 :=
  ⟨cell_kept hb h.1, cell_kept hb h.2.1, cell_kept hb h.2.2.1, cell_kept hb h.2.2.2.1, cell_kept hb h.2.2.2.2.1, below_next h.2.2.2.2.2 hb⟩

end Go.Proofs.YtnmpbocnbcokeaaGreatDoor

/-
  WALKS: spec.TreeUnder.
-/
namespace Go.Proofs.YtnmpbocnbcokeaaGreatDoor
open Go.RowKit
set_option linter.unusedVariables false

/-- A list of texts that the call has made, and nothing that was there has turned. -/
def TextsPost (xs : List ByteArray) (W : World) (e : Ending) (w' : World) : Prop :=
  (∃ sl, e = .returned sl ∧ w'.ownsRow W.heap.size 9 1 sl xs.length (xs.map Value.string)) ∧ Below W.heap.size W w'

def undAcc (ns : List Nd) (p : ByteArray) (i : Nat) : List ByteArray := ((ns.take i).filter (fun n => undB p n.p)).map Nd.p

theorem undAcc_yes {ns : List Nd} {p : ByteArray} {i : Nat} {n : Nd} (hn : ns[i]? = some n) (h : undB p n.p = true) : undAcc ns p (i + 1) = undAcc ns p i ++ [n.p] := by
  unfold undAcc
  rw [List.take_add_one, hn]
  simp [List.filter_append, h]

theorem undAcc_no {ns : List Nd} {p : ByteArray} {i : Nat} {n : Nd} (hn : ns[i]? = some n) (h : undB p n.p = false) : undAcc ns p (i + 1) = undAcc ns p i := by
  unfold undAcc
  rw [List.take_add_one, hn]
  simp [List.filter_append, h]

theorem undAcc_len (ns : List Nd) (p : ByteArray) (i : Nat) : (undAcc ns p i).length ≤ i := by
  unfold undAcc
  rw [List.length_map]
  exact Nat.le_trans (List.length_filter_le _ _) (by rw [List.length_take]; omega)

def UnderRel (ns : List Nd) (p : ByteArray) (W : World) (o i : Value) (wr : World) : Prop :=
  ∃ n : Nat, i = .int .i64 n ∧ n ≤ ns.length ∧ wr.ownsRow W.heap.size 9 1 o (undAcc ns p n).length ((undAcc ns p n).map Value.string) ∧ Hid (Below W.heap.size W wr)

theorem under_none {ns : List Nd} {p : ByteArray} (h : (validT ns && vpB p) = false) : treeUnder ns p = [] := by unfold treeUnder; rw [h]; rfl

end Go.Proofs.YtnmpbocnbcokeaaGreatDoor

/-
  WALKS: contents: impl.contentOf, impl.ContentValid.
-/
namespace Go.Proofs.YtnmpbocnbcokeaaGreatDoor
open Go.RowKit
set_option linter.unusedVariables false

/-- What a content stands for, and whether it is one. -/
def conOf (k v : Int) : Value × Bool :=
  if k = 0 ∧ v = 0 then (.iface 129 (.agg #[]), true)
  else if k = 1 ∧ v = 0 then (.iface 130 (.agg #[]), true)
  else if k = 2 ∧ 0 ≤ v ∧ v ≤ 99 then (.iface 132 (.agg #[.int .i64 v]), true)
  else (.nilIface, false)

theorem conOf_valid (k v : Int) : (conOf k v).2 = validB k v := by
  unfold conOf validB
  split
  · rename_i h; simp [h]
  · split
    · rename_i h; simp [h]
    · split
      · rename_i h; simp [h]
      · rename_i h1 h2 h3
        symm
        apply decide_eq_false
        rintro (⟨h, h4 | h4⟩ | h)
        · exact h1 ⟨h4, h⟩
        · exact h2 ⟨h4, h⟩
        · exact h3 h

def ConPost (k v : Int) (w : World) (e : Ending) (w' : World) : Prop :=
  e = .returned (.tuple #[(conOf k v).1, .bool (conOf k v).2]) ∧ Below w.heap.size w w'

theorem con_post (k v : Int) (w : World) (r : Value × Bool) (h : conOf k v = r) (t : TypeId) : ConPost k v w (.returned (.tuple #[r.1, .bool r.2])) (w.alloc (.cells #[.int .i64 k, .int .i64 v] t)) := by
  subst h; exact ⟨rfl, below_box _ _⟩

set_option maxHeartbeats 400000 in
set_option maxRecDepth 100000 in
theorem contentOf_c (k v : Int) (w : World) : Calls Tryz.prog 53 #[con k v] w (ConPost k v w) := by
  unfold con
  by_cases h0 : k = 0
  · subst h0
    by_cases hv : v = 0
    · subst hv
      go_enter Tryz.func53, Tryz.ntmps53
      go_wp2
      go_ret2
      exact con_post _ _ _ (_, _) rfl _
    · have H := Lib.hid (show conOf 0 v = (.nilIface, false) by unfold conOf; simp [hv])
      go_enter Tryz.func53, Tryz.ntmps53
      go_wp2
      go_ret2
      exact con_post _ _ _ (_, _) H.out _
  · by_cases h1 : k = 1
    · subst h1
      clear h0
      by_cases hv : v = 0
      · subst hv
        go_enter Tryz.func53, Tryz.ntmps53
        go_wp2
        go_ret2
        exact con_post _ _ _ (_, _) rfl _
      · have H := Lib.hid (show conOf 1 v = (.nilIface, false) by unfold conOf; simp [hv])
        go_enter Tryz.func53, Tryz.ntmps53
        go_wp2
        go_ret2
        exact con_post _ _ _ (_, _) H.out _
    · by_cases h2 : k = 2
      · subst h2
        clear h0 h1
        by_cases hv : 0 ≤ v
        · by_cases hw : v ≤ 99
          · have H := Lib.hid (show conOf 2 v = (.iface 132 (.agg #[.int .i64 v]), true) by unfold conOf; simp [hv, hw])
            go_enter Tryz.func53, Tryz.ntmps53
            go_wp2
            go_ret2
            exact con_post _ _ _ (_, _) H.out _
          · have H := Lib.hid (show conOf 2 v = (.nilIface, false) by unfold conOf; simp [hw])
            have hw' : 99 < v := by omega
            clear hw
            go_enter Tryz.func53, Tryz.ntmps53
            go_wp2
            go_ret2
            exact con_post _ _ _ (_, _) H.out _
        · have H := Lib.hid (show conOf 2 v = (.nilIface, false) by unfold conOf; simp [hv])
          have hv' : v < 0 := by omega
          clear hv
          go_enter Tryz.func53, Tryz.ntmps53
          go_wp2
          go_ret2
          exact con_post _ _ _ (_, _) H.out _
      · have H := Lib.hid (show conOf k v = (.nilIface, false) by unfold conOf; simp [h0, h1, h2])
        go_enter Tryz.func53, Tryz.ntmps53
        go_wp2
        go_ret2
        exact con_post _ _ _ (_, _) H.out _

set_option maxHeartbeats 400000 in
set_option maxRecDepth 100000 in
theorem implValid_c (k v : Int) (w : World) : Calls Tryz.prog 40 #[con k v] w (BoolPost (validB k v) w) := by
  have H := Lib.hid (fun w => contentOf_c k v w)
  have HV := Lib.hid (conOf_valid k v)
  unfold con at H ⊢
  go_enter Tryz.func40, Tryz.ntmps40
  go_wp2_with fail
  refine (H.out _).mono ?_
  rintro e W1 ⟨rfl, hb⟩
  rw [HV.out]
  go_wp2
  go_ret
  exact ⟨rfl, below_next (below_box _ _) hb⟩

end Go.Proofs.YtnmpbocnbcokeaaGreatDoor

/-
  strconv.Itoa of a number below 100, by the library's contract, at this program's numbers.
-/
namespace Go.Proofs.YtnmpbocnbcokeaaGreatDoor
open Go.Shelf
end Go.Proofs.YtnmpbocnbcokeaaGreatDoor

/-
  WALKS: the texts of contents: impl.ContentText, spec.l6Dec, spec.ContentText.
-/
namespace Go.Proofs.YtnmpbocnbcokeaaGreatDoor
open Go.RowKit
set_option linter.unusedVariables false

/-- The decimal of a number. -/
def decB (n : Nat) : ByteArray := ⟨(Lib.decDigits n).toArray⟩

theorem decB_small (n : Nat) (h : n < 10) : decB n = ⟨#[UInt8.ofNat (48 + n)]⟩ := by unfold decB; rw [Lib.decDigits_one h]
theorem decB_more (n : Nat) (h : ¬ n < 10) : decB n = decB (n / 10) ++ ⟨#[UInt8.ofNat (48 + n % 10)]⟩ := by
  unfold decB
  conv => lhs; rw [Lib.decDigits]
  rw [dif_neg h]
  apply ByteArray.ext
  simp [ByteArray.data_append]

theorem conv1 (W : World) (g : Nat) (x : Int) (h : W.cell? ⟨g, 0, none⟩ = some (.int .u8 x)) :
    (convert 22 9 (.slice (some ⟨g, 0, none⟩) 1 1)).run Tryz.prog W = .ok (.string ⟨#[UInt8.ofNat x.toNat]⟩) W := by
  rw [run_convert_bytes_string (e := 5) W _ _ _ _ _ Tryz.underlying22 Tryz.underlying5 Tryz.underlying9]
  refine (run_bytesToString W ⟨g, 0, none⟩ 1 1 [x] ?_).trans ?_
  · have hl := run_loadCells_list (P := Tryz.prog) (w := W) ⟨g, 0, none⟩ [.int .u8 x] (by
      intro j v hj
      match j, hj with
      | 0, hj => simp at hj; subst hj; simpa [Addr.add] using h)
    simpa using hl
  · rfl

theorem convN (W : World) (x : Int) (t : TypeId) :
    (convert 22 9 (.slice (some ⟨W.heap.size, 0, none⟩) 1 1)).run Tryz.prog (W.alloc (.cells #[.int .u8 x] t)) = .ok (.string ⟨#[UInt8.ofNat x.toNat]⟩) (W.alloc (.cells #[.int .u8 x] t)) :=
  conv1 _ _ _ (by rw [World.cell?_alloc_new]; rfl)

def decCell (n : Nat) : Obj := .cells #[.int .u8 (48 + (n : Int))] 5

def DecPost (n : Nat) (w : World) (e : Ending) (w' : World) : Prop := e = .returned (.string (decB n)) ∧ Below w.heap.size w w'

theorem dec_end {n : Nat} {s : ByteArray} {w w' : World} (h : decB n = s) (k : Below w.heap.size w w') : DecPost n w (.returned (.string s)) w' := ⟨by rw [h], k⟩

theorem below_two (w : World) (o1 o2 : Obj) : Below w.heap.size w ((w.drew.alloc o1).alloc o2) :=
  ((Below.refl w.heap.size w).drew.alloc (Nat.le_refl _) o1).alloc (by simp) o2

theorem decB_size (n : Nat) (hn : n < 100) : (decB n).size ≤ 2 := by
  unfold decB
  rw [Lib.size_eq]
  show (Lib.decDigits n).length ≤ 2
  by_cases h : n < 10
  · rw [Lib.decDigits_one h]; simp
  · rw [Lib.decDigits_two h hn]; simp

/-- A text, and nothing that was there has turned. -/
def TextPost (s : ByteArray) (w : World) (e : Ending) (w' : World) : Prop := e = .returned (.string s) ∧ Below w.heap.size w w'

/-- The text of a content; empty if it is none. -/
def conText (k v : Int) : ByteArray :=
  if validB k v = true then (if k = 0 then ⟨#[45]⟩ else if k = 1 then ⟨#[100]⟩ else ⟨#[102]⟩ ++ decB v.toNat) else ⟨#[]⟩

theorem text_end {s t : ByteArray} {w w' : World} (h : t = s) (k : Below w.heap.size w w') : TextPost s w (.returned (.string t)) w' := ⟨by rw [h], k⟩

theorem method_nothing (W : World) : (method 282 129 (.agg #[]) "loop.example/filereconciler/impl.text").run Tryz.prog W = .ok (119, .agg #[]) W := by kernel_rfl
theorem method_directory (W : World) : (method 282 130 (.agg #[]) "loop.example/filereconciler/impl.text").run Tryz.prog W = .ok (120, .agg #[]) W := by kernel_rfl
theorem method_file (v : Int) (W : World) : (method 282 132 (.agg #[.int .i64 v]) "loop.example/filereconciler/impl.text").run Tryz.prog W = .ok (121, .agg #[.int .i64 v]) W := by kernel_rfl

theorem conText_bad {k v : Int} (h : validB k v = false) : (⟨#[]⟩ : ByteArray) = conText k v := by unfold conText; rw [h]; rfl

theorem conText_empty (k v : Int) : (conText k v).toList.isEmpty = !validB k v := by
  unfold conText
  split
  · rename_i h
    rw [h]
    split
    · rw [Lib.toList_data]; rfl
    · split
      · rw [Lib.toList_data]; rfl
      · rw [Lib.toList_data, ByteArray.data_append]; simp
  · rename_i h
    have : validB k v = false := by simpa using h
    rw [this, Lib.toList_data]; rfl

end Go.Proofs.YtnmpbocnbcokeaaGreatDoor

/-
  TEXTS OF COMMANDS; WALK: spec.CommandText.
-/
namespace Go.Proofs.YtnmpbocnbcokeaaGreatDoor
open Go.RowKit
set_option linter.unusedVariables false

def blB : ByteArray := ⟨#[32]⟩

/-- spec.CommandText. -/
def textC (c : Cmd) : ByteArray := if validC c = true then c.p ++ blB ++ conText c.fk c.fv ++ blB ++ conText c.tk c.tv else ⟨#[]⟩

theorem conSize_le (k v : Int) : (conText k v).size ≤ 3 := by
  unfold conText
  split
  · rename_i h
    split
    · decide
    · split
      · decide
      · rename_i h0 h1
        have h' := h
        unfold validB at h'
        simp [h0, h1] at h'
        rw [ByteArray.size_append]
        have := decB_size v.toNat (by omega)
        show 1 + _ ≤ 3
        omega
  · decide

theorem textC_bad {c : Cmd} (h : validC c = false) : textC c = ⟨#[]⟩ := if_neg (by rw [h]; decide)
theorem textC_ok {c : Cmd} (h : validC c = true) : textC c = c.p ++ ⟨#[32]⟩ ++ conText c.fk c.fv ++ ⟨#[32]⟩ ++ conText c.tk c.tv := if_pos h

theorem pathB_size {p : ByteArray} (h : 1 ≤ depB p) : p.size ≤ 8 := by
  obtain ⟨w, hw, rfl⟩ := vpB_word (vp_of_depth h)
  show (Pm.pathOf w).length ≤ 8
  unfold Pm.pathOf
  split
  · simp
  · rw [Pm.flat_length]; have := hw.1; omega

theorem textC_size (c : Cmd) : (textC c).size ≤ 16 := by
  cases h : validC c with
  | false => rw [textC_bad h]; decide
  | true =>
    have h1 := pathB_size ((validC_iff c).1 h).1
    have h2 := conSize_le c.fk c.fv
    have h3 := conSize_le c.tk c.tv
    rw [textC_ok h]
    simp only [ByteArray.size_append]
    have e : (⟨#[32]⟩ : ByteArray).size = 1 := rfl
    rw [e]
    omega

end Go.Proofs.YtnmpbocnbcokeaaGreatDoor

/-
  FIVE CELLS: a command in a block of the call's own; results that are commands.
-/
namespace Go.Proofs.YtnmpbocnbcokeaaGreatDoor
open Go.RowKit
set_option linter.unusedVariables false

/-- Five cells in a block of the call's own. -/
def Five (W : World) (n : Nat) (a b c d e : Value) : Prop :=
  W.cell? ⟨n, 0, none⟩ = some a ∧ W.cell? ⟨n, 1, none⟩ = some b ∧ W.cell? ⟨n, 2, none⟩ = some c ∧ W.cell? ⟨n, 3, none⟩ = some d ∧ W.cell? ⟨n, 4, none⟩ = some e ∧ W.frozen? ⟨n, 0, none⟩ = false ∧ W.frozen? ⟨n, 1, none⟩ = false ∧ W.frozen? ⟨n, 2, none⟩ = false ∧ W.frozen? ⟨n, 3, none⟩ = false ∧ W.frozen? ⟨n, 4, none⟩ = false ∧ n < W.heap.size

theorem Five.below {W W' : World} {n : Nat} {a b c d e : Value} (h : Five W n a b c d e) (hg : Below W.heap.size W W') : Five W' n a b c d e := by
  obtain ⟨c0, c1, c2, c3, c4, f0, f1, f2, f3, f4, hz⟩ := h
  exact ⟨(hg.cell (p := ⟨n, 0, none⟩) hz).trans c0, (hg.cell (p := ⟨n, 1, none⟩) hz).trans c1, (hg.cell (p := ⟨n, 2, none⟩) hz).trans c2, (hg.cell (p := ⟨n, 3, none⟩) hz).trans c3, (hg.cell (p := ⟨n, 4, none⟩) hz).trans c4, (World.frozen?_of_block (hg.block n hz)).trans f0, (World.frozen?_of_block (hg.block n hz)).trans f1, (World.frozen?_of_block (hg.block n hz)).trans f2, (World.frozen?_of_block (hg.block n hz)).trans f3, (World.frozen?_of_block (hg.block n hz)).trans f4, Nat.lt_of_lt_of_le hz hg.size⟩

theorem Five.keep {W W' : World} {n B : Nat} {a b c d e : Value} (h : Five W n a b c d e) (hg : W.grownBy W' (some B)) (hB : n ≠ B) : Five W' n a b c d e := by
  obtain ⟨c0, c1, c2, c3, c4, f0, f1, f2, f3, f4, hz⟩ := h
  have hne : some n ≠ some B := by simpa using hB
  have hb := hg.block n hz hne
  have hs := hg.size
  exact ⟨hg.cell c0 hne, hg.cell c1 hne, hg.cell c2 hne, hg.cell c3 hne, hg.cell c4 hne, (World.frozen?_of_block hb).trans f0, (World.frozen?_of_block hb).trans f1, (World.frozen?_of_block hb).trans f2, (World.frozen?_of_block hb).trans f3, (World.frozen?_of_block hb).trans f4, by omega⟩

theorem Five.drew {W : World} {n : Nat} {a b c d e : Value} (h : Five W n a b c d e) : Five W.drew n a b c d e := h

theorem five_new (W : World) (a b c d e : Value) (t : TypeId) : Five (W.alloc (.cells #[a, b, c, d, e] t)) W.heap.size a b c d e := by
  refine ⟨by rw [World.cell?_alloc_new]; rfl, by rw [World.cell?_alloc_new]; rfl, by rw [World.cell?_alloc_new]; rfl, by rw [World.cell?_alloc_new]; rfl, by rw [World.cell?_alloc_new]; rfl, ?_, ?_, ?_, ?_, ?_, by simp⟩
  all_goals (simp only [World.frozen?, World.alloc_heap_new]; rfl)

/-- A new block of five cells, when a reader has gone on. -/
theorem five_grown {W W1 : World} {B : Nat} {a b c d e : Value} {t : TypeId} (hg : (W.alloc (.cells #[a, b, c, d, e] t)).grownBy W1 (some B)) (hB : B < W.heap.size) : Five W1 W.heap.size a b c d e :=
  (five_new W a b c d e t).keep hg (by omega)

theorem Five.alloc {W : World} {n : Nat} {a b c d e : Value} (h : Five W n a b c d e) (o : Obj) : Five (W.alloc o) n a b c d e := h.below (below_box W o)

theorem Five.set0 {W : World} {n : Nat} {a b c d e x : Value} (h : Five W n a b c d e) : Five (W.setCell ⟨n, 0, none⟩ x) n x b c d e := by
  obtain ⟨c0, c1, c2, c3, c4, f0, f1, f2, f3, f4, hz⟩ := h
  exact ⟨set_same c0, by rw [World.cell?_setCell_other _ _ _ _ (by simp)]; exact c1, by rw [World.cell?_setCell_other _ _ _ _ (by simp)]; exact c2, by rw [World.cell?_setCell_other _ _ _ _ (by simp)]; exact c3, by rw [World.cell?_setCell_other _ _ _ _ (by simp)]; exact c4, by rw [World.frozen?_setCell]; exact f0, by rw [World.frozen?_setCell]; exact f1, by rw [World.frozen?_setCell]; exact f2, by rw [World.frozen?_setCell]; exact f3, by rw [World.frozen?_setCell]; exact f4, by simpa [World.setCell] using hz⟩

theorem Five.set1 {W : World} {n : Nat} {a b c d e x : Value} (h : Five W n a b c d e) : Five (W.setCell ⟨n, 1, none⟩ x) n a x c d e := by
  obtain ⟨c0, c1, c2, c3, c4, f0, f1, f2, f3, f4, hz⟩ := h
  exact ⟨by rw [World.cell?_setCell_other _ _ _ _ (by simp)]; exact c0, set_same c1, by rw [World.cell?_setCell_other _ _ _ _ (by simp)]; exact c2, by rw [World.cell?_setCell_other _ _ _ _ (by simp)]; exact c3, by rw [World.cell?_setCell_other _ _ _ _ (by simp)]; exact c4, by rw [World.frozen?_setCell]; exact f0, by rw [World.frozen?_setCell]; exact f1, by rw [World.frozen?_setCell]; exact f2, by rw [World.frozen?_setCell]; exact f3, by rw [World.frozen?_setCell]; exact f4, by simpa [World.setCell] using hz⟩

theorem Five.set2 {W : World} {n : Nat} {a b c d e x : Value} (h : Five W n a b c d e) : Five (W.setCell ⟨n, 2, none⟩ x) n a b x d e := by
  obtain ⟨c0, c1, c2, c3, c4, f0, f1, f2, f3, f4, hz⟩ := h
  exact ⟨by rw [World.cell?_setCell_other _ _ _ _ (by simp)]; exact c0, by rw [World.cell?_setCell_other _ _ _ _ (by simp)]; exact c1, set_same c2, by rw [World.cell?_setCell_other _ _ _ _ (by simp)]; exact c3, by rw [World.cell?_setCell_other _ _ _ _ (by simp)]; exact c4, by rw [World.frozen?_setCell]; exact f0, by rw [World.frozen?_setCell]; exact f1, by rw [World.frozen?_setCell]; exact f2, by rw [World.frozen?_setCell]; exact f3, by rw [World.frozen?_setCell]; exact f4, by simpa [World.setCell] using hz⟩

theorem Five.set3 {W : World} {n : Nat} {a b c d e x : Value} (h : Five W n a b c d e) : Five (W.setCell ⟨n, 3, none⟩ x) n a b c x e := by
  obtain ⟨c0, c1, c2, c3, c4, f0, f1, f2, f3, f4, hz⟩ := h
  exact ⟨by rw [World.cell?_setCell_other _ _ _ _ (by simp)]; exact c0, by rw [World.cell?_setCell_other _ _ _ _ (by simp)]; exact c1, by rw [World.cell?_setCell_other _ _ _ _ (by simp)]; exact c2, set_same c3, by rw [World.cell?_setCell_other _ _ _ _ (by simp)]; exact c4, by rw [World.frozen?_setCell]; exact f0, by rw [World.frozen?_setCell]; exact f1, by rw [World.frozen?_setCell]; exact f2, by rw [World.frozen?_setCell]; exact f3, by rw [World.frozen?_setCell]; exact f4, by simpa [World.setCell] using hz⟩

theorem Five.set4 {W : World} {n : Nat} {a b c d e x : Value} (h : Five W n a b c d e) : Five (W.setCell ⟨n, 4, none⟩ x) n a b c d x := by
  obtain ⟨c0, c1, c2, c3, c4, f0, f1, f2, f3, f4, hz⟩ := h
  exact ⟨by rw [World.cell?_setCell_other _ _ _ _ (by simp)]; exact c0, by rw [World.cell?_setCell_other _ _ _ _ (by simp)]; exact c1, by rw [World.cell?_setCell_other _ _ _ _ (by simp)]; exact c2, by rw [World.cell?_setCell_other _ _ _ _ (by simp)]; exact c3, set_same c4, by rw [World.frozen?_setCell]; exact f0, by rw [World.frozen?_setCell]; exact f1, by rw [World.frozen?_setCell]; exact f2, by rw [World.frozen?_setCell]; exact f3, by rw [World.frozen?_setCell]; exact f4, by simpa [World.setCell] using hz⟩

theorem Five.setOther {W : World} {n : Nat} {a b c d e v : Value} {x : Addr} (h : Five W n a b c d e) (hx : x.block ≠ n) : Five (W.setCell x v) n a b c d e := by
  obtain ⟨c0, c1, c2, c3, c4, f0, f1, f2, f3, f4, hz⟩ := h
  exact ⟨by rw [World.cell?_setCell_other _ _ _ _ (fun e => hx (congrArg Addr.block e))]; exact c0, by rw [World.cell?_setCell_other _ _ _ _ (fun e => hx (congrArg Addr.block e))]; exact c1, by rw [World.cell?_setCell_other _ _ _ _ (fun e => hx (congrArg Addr.block e))]; exact c2, by rw [World.cell?_setCell_other _ _ _ _ (fun e => hx (congrArg Addr.block e))]; exact c3, by rw [World.cell?_setCell_other _ _ _ _ (fun e => hx (congrArg Addr.block e))]; exact c4, by rw [World.frozen?_setCell]; exact f0, by rw [World.frozen?_setCell]; exact f1, by rw [World.frozen?_setCell]; exact f2, by rw [World.frozen?_setCell]; exact f3, by rw [World.frozen?_setCell]; exact f4, by simpa [World.setCell] using hz⟩

theorem Five.setAll {W : World} {n : Nat} {a b c d e u0 u1 u2 u3 u4 : Value} (h : Five W n a b c d e) : Five (((((W.setCell ⟨n, 0, none⟩ u0).setCell ⟨n, 1, none⟩ u1).setCell ⟨n, 2, none⟩ u2).setCell ⟨n, 3, none⟩ u3).setCell ⟨n, 4, none⟩ u4) n u0 u1 u2 u3 u4 := h.set0.set1.set2.set3.set4

/-- A command, with a yes or a no. -/
def CmdPairPost (c : Cmd) (ok : Bool) (W : World) (e : Ending) (w' : World) : Prop := e = .returned (.tuple #[cmdV c, .bool ok]) ∧ Below W.heap.size W w'

theorem cmd_results (fn : Func) {i : Nat} (hf : fn.results = #[.cell i 27]) (W : World) (n : Nat) (c : Cmd) (tmps : Array Value) (ht : tmps[i]? = some (.pointer (some ⟨n, 0, none⟩)))
    (h : Five W n (.string c.p) (.int .i64 c.fk) (.int .i64 c.fv) (.int .i64 c.tk) (.int .i64 c.tv)) : (results fn tmps).run Tryz.prog W = .ok (cmdV c) W := by
  obtain ⟨c0, c1, c2, c3, c4, f0, f1, f2, f3, f4, hz⟩ := h
  simp [results, hf, go_sem, ht, c0, c1, c2, c3, c4, cmdV]

theorem cmdpair_results (fn : Func) (hf : fn.results = #[.cell 2 27, .tmp 3]) (W : World) (n : Nat) (c : Cmd) (b : Bool) (tmps : Array Value) (ht : tmps[2]? = some (.pointer (some ⟨n, 0, none⟩))) (hb : tmps[3]? = some (.bool b))
    (h : Five W n (.string c.p) (.int .i64 c.fk) (.int .i64 c.fv) (.int .i64 c.tk) (.int .i64 c.tv)) : (results fn tmps).run Tryz.prog W = .ok (.tuple #[cmdV c, .bool b]) W := by
  obtain ⟨c0, c1, c2, c3, c4, f0, f1, f2, f3, f4, hz⟩ := h
  simp [results, hf, go_sem, ht, hb, c0, c1, c2, c3, c4, cmdV]

theorem below_set5 {N : Nat} {W W' : World} {n : Nat} {u0 u1 u2 u3 u4 : Value} (hB : Below N W W') (h : N ≤ n) : Below N W (((((W'.setCell ⟨n, 0, none⟩ u0).setCell ⟨n, 1, none⟩ u1).setCell ⟨n, 2, none⟩ u2).setCell ⟨n, 3, none⟩ u3).setCell ⟨n, 4, none⟩ u4) :=
  below_setCell (below_setCell (below_setCell (below_setCell (below_setCell hB _ _ h) _ _ h) _ _ h) _ _ h) _ _ h

theorem cmd_ret (fn : Func) {i : Nat} (hf : fn.results = #[.cell i 27]) {W W' : World} {a b c d e : Value} {p : ByteArray} {fk fv tk tv : Int} {c' : Cmd} {tmps : Array Value} (hc : c' = ⟨p, fk, fv, tk, tv⟩) (hT : Five W' W.heap.size a b c d e) (hB : Below W.heap.size W W') (ht : tmps[i]? = some (.pointer (some ⟨W.heap.size, 0, none⟩))) :
    bodyPost Tryz.prog fn (CmdPost c' W) .ret ⟨tmps, []⟩ (((((W'.setCell ⟨W.heap.size, 0, none⟩ (.string p)).setCell ⟨W.heap.size, 1, none⟩ (.int .i64 fk)).setCell ⟨W.heap.size, 2, none⟩ (.int .i64 fv)).setCell ⟨W.heap.size, 3, none⟩ (.int .i64 tk)).setCell ⟨W.heap.size, 4, none⟩ (.int .i64 tv)) := by
  subst hc
  exact bodyPost_ret (cmd_results fn hf _ W.heap.size ⟨p, fk, fv, tk, tv⟩ _ ht hT.setAll) rfl ⟨rfl, below_set5 hB (Nat.le_refl _)⟩

theorem cmdpair_ret (fn : Func) (hf : fn.results = #[.cell 2 27, .tmp 3]) {W W' : World} {a b c d e : Value} {p : ByteArray} {fk fv tk tv : Int} {c' : Cmd} {ok : Bool} {tmps : Array Value} (hc : c' = ⟨p, fk, fv, tk, tv⟩) (hT : Five W' W.heap.size a b c d e) (hB : Below W.heap.size W W') (ht : tmps[2]? = some (.pointer (some ⟨W.heap.size, 0, none⟩))) (hb : tmps[3]? = some (.bool ok)) :
    bodyPost Tryz.prog fn (CmdPairPost c' ok W) .ret ⟨tmps, []⟩ (((((W'.setCell ⟨W.heap.size, 0, none⟩ (.string p)).setCell ⟨W.heap.size, 1, none⟩ (.int .i64 fk)).setCell ⟨W.heap.size, 2, none⟩ (.int .i64 fv)).setCell ⟨W.heap.size, 3, none⟩ (.int .i64 tk)).setCell ⟨W.heap.size, 4, none⟩ (.int .i64 tv)) := by
  subst hc
  exact bodyPost_ret (cmdpair_results fn hf _ W.heap.size ⟨p, fk, fv, tk, tv⟩ _ _ ht hb hT.setAll) rfl ⟨rfl, below_set5 hB (Nat.le_refl _)⟩

end Go.Proofs.YtnmpbocnbcokeaaGreatDoor

/-
  WALKS: commands of the program: impl.CommandValid, impl.CommandUndo, impl.CommandText.
-/
namespace Go.Proofs.YtnmpbocnbcokeaaGreatDoor
open Go.RowKit
set_option linter.unusedVariables false

set_option maxHeartbeats 2000000 in
set_option maxRecDepth 100000 in
theorem implCmdValid_c (c : Cmd) (hp : c.p.size ≤ 2097152) (W : World) : Calls Tryz.prog 32 #[cmdV c] W (BoolPost (validC c) W) := by
  obtain ⟨dp, hdp⟩ : ∃ dp, depB c.p = dp := ⟨_, rfl⟩
  have HD := Lib.hid (fun w => show Calls Tryz.prog 42 #[.string c.p] w (fun e w' => e = .returned (.int .i64 dp) ∧ Below w.heap.size w w') by rw [← hdp]; exact pathDepth_c c.p (by omega) w)
  obtain ⟨b1, h1⟩ : ∃ b, validB c.fk c.fv = b := ⟨_, rfl⟩
  obtain ⟨b2, h2⟩ : ∃ b, validB c.tk c.tv = b := ⟨_, rfl⟩
  obtain ⟨dd, h3⟩ : ∃ b, (!sameFT c) = b := ⟨_, rfl⟩
  have HF := Lib.hid (fun w => show Calls Tryz.prog 40 #[con c.fk c.fv] w (BoolPost b1 w) by rw [← h1]; exact implValid_c _ _ w)
  have HT := Lib.hid (fun w => show Calls Tryz.prog 40 #[con c.tk c.tv] w (BoolPost b2 w) by rw [← h2]; exact implValid_c _ _ w)
  have hne := fun w' => (conNeQ c.fk c.fv c.tk c.tv w').trans (show _ = Result.ok (Value.bool dd) w' by rw [← h3]; rfl)
  have HV := Lib.hid (valid_parts (d := decide (1 ≤ dp)) (by rw [hdp]) h1 h2 h3)
  clear h1 h2 h3 hdp
  obtain ⟨p, fk, fv, tk, tv⟩ := c
  unfold cmdV
  unfold con at HF HT
  simp only at HD HF HT hne hp ⊢
  by_cases hd : 0 < dp
  · have hdd : decide (1 ≤ dp) = true := decide_eq_true (by omega)
    rw [hdd] at HV
    clear hdd
    go_enter Tryz.func32, Tryz.ntmps32
    go_wp2_with fail
    refine (HD.out _).mono ?_
    rintro e W1 ⟨rfl, hb1⟩
    have q1 := box_cell hb1 1
    have q2 := box_cell hb1 2
    have q3 := box_cell hb1 3
    have q4 := box_cell hb1 4
    simp at q1 q2 q3 q4
    have B1 := Lib.hid (below_next (below_box W _) hb1)
    clear hb1
    go_wp2_with fail
    refine (HF.out _).mono ?_
    rintro e W2 ⟨rfl, hb2⟩
    have r1 := cell_kept hb2 q1
    have r2 := cell_kept hb2 q2
    have r3 := cell_kept hb2 q3
    have r4 := cell_kept hb2 q4
    have B2 := Lib.hid (below_next B1.out hb2)
    clear hb2 q1 q2 q3 q4
    cases b1 with
    | false =>
      clear hne
      go_wp2
      go_ret
      exact ⟨ret_bool (by rw [HV.out]; rfl), B2.out⟩
    | true =>
      go_wp2_with fail
      refine (HT.out _).mono ?_
      rintro e W3 ⟨rfl, hb3⟩
      have s1 := cell_kept hb3 r1
      have s2 := cell_kept hb3 r2
      have s3 := cell_kept hb3 r3
      have s4 := cell_kept hb3 r4
      have B3 := Lib.hid (below_next B2.out hb3)
      clear hb3 r1 r2 r3 r4
      cases b2 with
      | false =>
        clear hne
        go_wp2
        go_ret
        exact ⟨ret_bool (by rw [HV.out]; rfl), B3.out⟩
      | true =>
        go_wp2
        go_ret
        exact ⟨ret_bool (by rw [HV.out]; rfl), B3.out⟩
  · have hdd : decide (1 ≤ dp) = false := decide_eq_false (by omega)
    rw [hdd] at HV
    clear hdd hne
    go_enter Tryz.func32, Tryz.ntmps32
    go_wp2_with fail
    refine (HD.out _).mono ?_
    rintro e W1 ⟨rfl, hb1⟩
    have B1 := Lib.hid (below_next (below_box W _) hb1)
    clear hb1
    go_wp2
    go_ret
    exact ⟨ret_bool (by rw [HV.out]; rfl), B1.out⟩

theorem five_atI {W : World} {n : Nat} (hn : n = W.heap.size) (a b c d e : Value) (t : TypeId) : Five (W.alloc (.cells #[a, b, c, d, e] t)) n a b c d e := by subst hn; exact five_new W a b c d e t

theorem undo_is {c : Cmd} {vc : Bool} (h : validC c = vc) : undoC c = if vc = true then ⟨c.p, c.tk, c.tv, c.fk, c.fv⟩ else zeroC := by subst h; rfl

end Go.Proofs.YtnmpbocnbcokeaaGreatDoor

/-
  WALKS: impl.PathParent, impl.PathUnder.
-/
namespace Go.Proofs.YtnmpbocnbcokeaaGreatDoor
open Go.RowKit

set_option maxHeartbeats 400000 in
set_option maxRecDepth 100000 in
theorem slHasPrefix_c (s p : ByteArray) (w : World) :
    Calls Tryz.prog 82 #[.string s, .string p] w fun e w' => e = .returned (.bool (pfxB s p)) ∧ w' = w := by
  by_cases h : p.size ≤ s.size
  · obtain ⟨b, hb⟩ : ∃ b, ((s.extract 0 p.size).toList == p.toList) = b := ⟨_, rfl⟩
    have hv : Hid (pfxB s p = b) := by show _ = _; unfold pfxB; rw [decide_eq_true h, hb]; rfl
    have h1 : (p.size : Int) ≤ s.size := by omega
    have h2 : (0 : Int) ≤ p.size := by omega
    go_enter Tryz.func82, Tryz.ntmps82
    go_wp2
    go_ret
    exact ⟨ret_bool hv.out.symm, rfl⟩
  · have hv : Hid (pfxB s p = false) := by show _ = _; unfold pfxB; rw [decide_eq_false h]; rfl
    have h1 : (s.size : Int) < p.size := by omega
    clear h
    go_enter Tryz.func82, Tryz.ntmps82
    go_wp2
    go_ret
    exact ⟨ret_bool hv.out.symm, rfl⟩

set_option maxHeartbeats 400000 in
set_option maxRecDepth 100000 in
theorem lastIndexRow_c (s : ByteArray) (m : Nat) (hs : s.size = m + 2) (hm : m ≤ 2097152) (h0 : ((s[m].toNat : Int) == 47) = true) (h1 : ((s[m + 1].toNat : Int) == 47) = false) (w : World) :
    Calls Tryz.prog 72 #[.string s, .int .u8 47] w fun e w' => e = .returned (.int .i64 m) ∧ w' = w := by
  go_enter Tryz.func72, Tryz.ntmps72
  go_wp2
  go_loop [5] (fun i => ∃ k : Nat, m ≤ k ∧ k ≤ m + 1 ∧ i = .int .i64 k) (fun i => (intOf i).toNat)
  case atStart => exact ⟨m + 1, by omega, by omega, by go_num⟩
  case round =>
    obtain ⟨k, hk1, hk2, rfl⟩ := hrel
    by_cases hk : k = m
    · subst hk
      go_wp2
      go_ret
      exact ⟨rfl, rfl⟩
    · obtain rfl : k = m + 1 := by omega
      go_wp2
      go_round
      case rel => exact ⟨m, by omega, by omega, by go_num⟩
      case measure => simp [intOf]

set_option maxHeartbeats 400000 in
set_option maxRecDepth 100000 in
theorem lastIndex_c (s : ByteArray) (m : Nat) (hs : s.size = m + 2) (hm : m ≤ 2097152) (h0 : ((s[m].toNat : Int) == 47) = true) (h1 : ((s[m + 1].toNat : Int) == 47) = false) (w : World) :
    Calls Tryz.prog 54 #[.string s, .int .u8 47] w fun e w' => e = .returned (.int .i64 m) ∧ w' = w := by
  have hc := fun w => lastIndexRow_c s m hs hm h0 h1 w
  have HC := Lib.hid hc
  clear hc h0 h1 hs
  go_enter Tryz.func54, Tryz.ntmps54
  go_wp2_with (go_at_call 72; refine (HC.out _).mono ?_; rintro e w' ⟨rfl, rfl⟩)
  go_ret
  exact ⟨rfl, rfl⟩

set_option maxHeartbeats 400000 in
set_option maxRecDepth 100000 in
/-- impl.PathParent, at every text of modest length. -/
theorem pathParent_c (s : ByteArray) (hs : s.size ≤ 2097152) (w : World) :
    Calls Tryz.prog 41 #[.string s] w fun e w' => e = .returned (.string (parentB s)) ∧ Below w.heap.size w w' := by
  obtain ⟨d, hd⟩ : ∃ d, Pm.depth s.data.toList = d := ⟨_, rfl⟩
  have hc : ∀ w, Calls Tryz.prog 42 #[.string s] w fun e w' => e = .returned (.int .i64 d) ∧ Below w.heap.size w w' := fun w => by rw [← hd]; exact pathDepth_c s (by omega) w
  have HC := Lib.hid hc
  clear hc
  by_cases h1 : d < 1
  · have hv : Hid (parentB s = ⟨#[]⟩) := by show _ = _; unfold parentB Pm.parent; rw [hd, if_pos h1]
    have hcs : d = -1 ∨ d = 0 := by
      rw [← hd] at h1 ⊢; unfold Pm.depth at h1 ⊢; split at h1 <;> simp_all <;> omega
    clear hd h1
    rcases hcs with rfl | rfl
    all_goals
      go_enter Tryz.func41, Tryz.ntmps41
      go_wp2_with (go_at_call 42; refine (HC.out _).mono ?_; rintro e w' ⟨rfl, hb⟩)
      go_ret
      exact ⟨ret_str hv.out.symm, hb⟩
  · obtain ⟨m, k1, k2, ⟨c, k3, k4⟩, k5, k6⟩ := Pm.last_facts s.data.toList (by omega)
    rw [hd] at k6
    have hsz : s.size = m + 2 := by rw [Lib.size_eq]; exact k1
    rw [← Lib.size_eq] at k5 k6
    by_cases h2 : d = 1
    · have hv : Hid (parentB s = ⟨#[47]⟩) := by show _ = _; unfold parentB; rw [k5, if_pos (k6.1 h2)]
      subst h2
      clear k1 k2 k3 k4 k5 k6 h1 hd hsz
      go_enter Tryz.func41, Tryz.ntmps41
      go_wp2_with (go_at_call 42; refine (HC.out _).mono ?_; rintro e w' ⟨rfl, hb⟩)
      go_ret
      exact ⟨ret_str hv.out.symm, hb⟩
    · have hv : Hid (parentB s = s.extract 0 m) := by
        show _ = _; unfold parentB; rw [k5, if_neg (fun h => h2 (k6.2 h)), Lib.extract_eq]; simp
      rw [Pm.byte_getElem? s m (by omega)] at k2
      rw [Pm.byte_getElem? s (m + 1) (by omega)] at k3
      have g0 : ((s[m].toNat : Int) == 47) = true := toNat_47 (by simpa using k2)
      have g1 : ((s[m + 1].toNat : Int) == 47) = false := toNat_not_47 (by rw [Option.some.inj k3]; exact k4)
      have hl := Lib.hid (fun w => lastIndex_c s m hsz (by omega) g0 g1 w)
      have e1 : (d == -1) = false := beq_eq_false_iff_ne.2 (by omega)
      have e2 : (d == 0) = false := beq_eq_false_iff_ne.2 (by omega)
      have e3 : (d == 1) = false := beq_eq_false_iff_ne.2 h2
      have b1 : (m : Int) ≤ s.size := by omega
      clear g0 g1 k1 k2 k3 k4 k5 k6 h1 hd hsz h2
      go_enter Tryz.func41, Tryz.ntmps41
      go_wp2_with (first | (go_at_call 42; refine (HC.out _).mono ?_; rintro e w' ⟨rfl, hb⟩) | (go_at_call 54; refine (hl.out _).mono ?_; rintro e w2 ⟨rfl, rfl⟩))
      go_ret
      exact ⟨ret_str hv.out.symm, hb⟩

end Go.Proofs.YtnmpbocnbcokeaaGreatDoor

/-
  A REGION THAT DRAWS ITS ORDER AND ONLY READS, within a round of a loop over a function: the law of the kit for activations, carried into a round.
-/
namespace Go.Proofs.YtnmpbocnbcokeaaGreatDoor
open Go.RowKit

theorem wpOpIn_round {F : Fence} {n : Nat} {P : Program} {ops : Array Oper} {Q : Exit → Act → World → Prop} {i : Nat} {K K' : Act → World → Prop} {a : Act} {w : World} (l : Nat) (hro : F.round = none)
    (hd : ∀ o, ops[i]? = some o → ∀ c, o.op ≠ .defer c) (hK : ∀ a w, K a w → K' a w) (h : wpOpIn F n P ops Q i K a w) : wpOpIn (F.inRound l) n P ops Q i K' a w := by
  have h := wpOpIn_mono hK h
  unfold wpOpIn at h ⊢
  cases ho : ops[i]? with
  | none => simp only [ho] at h ⊢; exact h
  | some o =>
    simp only [ho] at h ⊢
    split
    · rename_i hw
      rw [if_pos hw] at h
      refine ⟨h.1, ?_⟩
      have h2 := h.2
      rw [hro, Oper.semAt_none] at h2
      rw [Oper.semAt_eq _ _ _ (hd o ho)]
      exact h2
    · rename_i hw
      rw [if_neg hw] at h
      exact h

theorem wpAnyIn_round {F : Fence} {n : Nat} {P : Program} {ops : Array Oper} {Q : Exit → Act → World → Prop} {md : Region.Mode} (l : Nat) (hro : F.round = none)
    (hd : ∀ (i : Nat) (o : Oper), ops[i]? = some o → ∀ c, o.op ≠ .defer c) : ∀ (fuel : Nat) (listed : Array Bool) (a : Act) (w : World), wpAnyIn F n P md ops Q fuel listed a w → wpAnyIn (F.inRound l) n P md ops Q fuel listed a w
  | 0, _, _, _, h => h
  | fuel + 1, _, _, _, h => ⟨h.1, fun i hi => wpOpIn_round l hro (hd i) (fun a w => wpAnyIn_round l hro hd fuel _ a w) (h.2 i hi)⟩

def noDefer (o : Oper) : Bool := match o.op with
  | .defer _ => false
  | _ => true

theorem quiet_round {F : Fence} {n : Nat} {P : Program} {id : Nat} {Q : Exit → Act → World → Prop} {a : Act} {w : World} {ops : List Oper} (l : Nat) (hro : F.round = none) (hm : P.follows .mixedOrders = true) (hB : Region.lexB .any ops.toArray = true)
    (hd : ops.all noDefer = true)
    (h : wpQuietIn F n P ops.toArray (fun w' => ∃ n, w' = w.drewN n) (fun a' => ∀ w', (∃ n, w' = w.drewN n) → Q .normal a' w') ops a) : (Code.region id ops.toArray true).wpIn (F.inRound l) n P Q a w := by
  simp only [Region.lexB, Bool.and_eq_true] at hB
  have hd' : ∀ (i : Nat) (o : Oper), ops.toArray[i]? = some o → ∀ c, o.op ≠ .defer c := by
    intro i o ho c e
    have hm : o ∈ ops := by
      have := List.mem_of_getElem? (by simpa using ho : ops[i]? = some o)
      exact this
    have := List.all_eq_true.1 hd o hm
    unfold noDefer at this
    rw [e] at this
    cases this
  refine wpIn_region_any hm (wpAnyIn_round l hro hd' _ _ _ _ ?_)
  refine wpAnyIn_of_quiet (C := fun w' => ∃ n, w' = w.drewN n) (Q := fun a' => ∀ w', (∃ n, w' = w.drewN n) → Q .normal a' w') hro (fun _ w' hw' h => h w' hw') _ _ _ _ ⟨1, rfl⟩ ?_
  have := wpAnyQIn_lex (F := F) (n := n) (C := fun w' => ∃ n, w' = w.drewN n) (md := .any) hB.1 ops 0 (Array.replicate ops.toArray.size false) a (by simp) (by simpa using hB.2) h
  simpa using this

/-- A region that draws its order, within a round: walked as outside of it. -/
theorem region_round {F : Fence} {n : Nat} {P : Program} {id : Nat} {Q : Exit → Act → World → Prop} {a : Act} {w : World} {ops : List Oper} (l : Nat) (hro : F.round = none) (hm : P.follows .mixedOrders = true) (hd : ops.all noDefer = true)
    (h : wpAnyIn F n P .any ops.toArray Q ops.toArray.size (Array.replicate ops.toArray.size false) a w.drew) : (Code.region id ops.toArray true).wpIn (F.inRound l) n P Q a w := by
  have hd' : ∀ (i : Nat) (o : Oper), ops.toArray[i]? = some o → ∀ c, o.op ≠ .defer c := by
    intro i o ho c e
    have hm : o ∈ ops := by
      have := List.mem_of_getElem? (by simpa using ho : ops[i]? = some o)
      exact this
    have := List.all_eq_true.1 hd o hm
    unfold noDefer at this
    rw [e] at this
    cases this
  exact wpIn_region_any hm (wpAnyIn_round l hro hd' _ _ _ _ h)

end Go.Proofs.YtnmpbocnbcokeaaGreatDoor
