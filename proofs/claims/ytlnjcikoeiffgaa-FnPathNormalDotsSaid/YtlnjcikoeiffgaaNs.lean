/-
  WALKS: spec.PathNormal.
-/
import Derived.Laws.Concat
import Derived.Test.YtlnjcikoeiffgaaPn
import Derived.Test.YtlnjcikoeiffgaaPu
namespace Go.Proofs.Ytlnjcikoeiffgaa
open Go.RowKit
set_option linter.unusedVariables false

def normS (s : ByteArray) : ByteArray := match Pm.normal s.data.toList with | none => ⟨#[]⟩ | some p => ⟨⟨p⟩⟩
def normK (s : ByteArray) : Bool := (Pm.normal s.data.toList).isSome

theorem norm_none {s : ByteArray} (h : Pm.normal s.data.toList = none) : normS s = ⟨#[]⟩ ∧ normK s = false := by
  unfold normS normK; rw [h]; exact ⟨rfl, rfl⟩
theorem norm_some {s : ByteArray} {p : List UInt8} (h : Pm.normal s.data.toList = some p) : normS s = ⟨⟨p⟩⟩ ∧ normK s = true := by
  unfold normS normK; rw [h]; exact ⟨rfl, rfl⟩

def NormPost (s : ByteArray) (w : World) (e : Ending) (w' : World) : Prop :=
  e = .returned (.tuple #[.string (normS s), .bool (normK s)]) ∧ Below w.heap.size w w'

theorem norm_end_none {s : ByteArray} {w w' : World} (h : Pm.normal s.data.toList = none) (hb : Below w.heap.size w w') : NormPost s w (.returned (.tuple #[.string ⟨#[]⟩, .bool false])) w' := by
  obtain ⟨h1, h2⟩ := norm_none h
  exact ⟨by rw [h1, h2], hb⟩
theorem norm_end_some {s : ByteArray} {p : List UInt8} {o : ByteArray} {w w' : World} (h : Pm.normal s.data.toList = some p) (ho : o.data.toList = p) (hb : Below w.heap.size w w') : NormPost s w (.returned (.tuple #[.string o, .bool true])) w' := by
  obtain ⟨h1, h2⟩ := norm_some h
  exact ⟨by rw [h1, h2, ← ho], hb⟩

theorem partsB_data (s : ByteArray) : (Pm.partsB s).map (·.data.toList) = Pm.parts s.data.toList := by
  unfold Pm.partsB
  rw [List.map_map]
  exact List.map_id' _

theorem normal_guard {s : ByteArray} (h : 40 < s.size ∨ s.data.toList.head? ≠ some 47) : Pm.normal s.data.toList = none := by
  unfold Pm.normal
  rw [if_pos (by rw [← Lib.size_eq]; exact h)]

/-- What is known where the guard lets by. -/
theorem normal_run {s : ByteArray} (h1 : s.size ≤ 40) (h2 : s.data.toList.head? = some 47) :
    (Pm.runN (Pm.parts s.data.toList) [] = none → Pm.normal s.data.toList = none) ∧
    (∀ ns, Pm.runN (Pm.parts s.data.toList) [] = some ns → (ns.length ≤ 4 → Pm.normal s.data.toList = some (Pm.pathOf ns)) ∧ (¬ ns.length ≤ 4 → Pm.normal s.data.toList = none)) := by
  have hg : ¬ (40 < s.data.toList.length ∨ s.data.toList.head? ≠ some 47) := by
    rw [← Lib.size_eq, h2]; simp; omega
  constructor
  · intro h
    unfold Pm.normal
    rw [if_neg hg, h]
  · intro ns h
    unfold Pm.normal
    rw [if_neg hg, h]
    exact ⟨fun h => if_pos h, fun h => if_neg h⟩

theorem head_of_get {s : ByteArray} (h : 1 ≤ s.size) : s.data.toList.head? = some s[0] := by
  rw [List.head?_eq_getElem?, Pm.byte_getElem? s 0 h]

def NormRel (ps : List ByteArray) (out i : Value) : Prop :=
  ∃ (k : Nat) (o : ByteArray) (ns : List UInt8), i = .int .i64 k ∧ out = .string o ∧ k ≤ ps.length ∧ Hid (o.data.toList = Pm.flat ns) ∧ o.size ≤ 2 * k ∧ Hid (Pm.runN ((ps.take k).map (·.data.toList)) [] = some ns)

theorem take_map_succ (ps : List ByteArray) (k : Nat) (x : ByteArray) (h : ps[k]? = some x) : (ps.take (k + 1)).map (fun y : ByteArray => y.data.toList) = (ps.take k).map (fun y : ByteArray => y.data.toList) ++ [x.data.toList] := by
  have hk : k < ps.length := by
    rcases Nat.lt_or_ge k ps.length with h' | h'
    · exact h'
    · rw [List.getElem?_eq_none h'] at h; cases h
  rw [List.take_succ_eq_append_getElem hk, List.map_append]
  rw [List.getElem?_eq_getElem hk] at h
  rw [Option.some.inj h]; rfl

theorem run_dead (ps : List ByteArray) (k : Nat) (h : Pm.runN ((ps.take k).map (fun y : ByteArray => y.data.toList)) [] = none) : Pm.runN (ps.map (fun y : ByteArray => y.data.toList)) [] = none := by
  have e := List.take_append_drop k ps
  rw [← e, List.map_append]
  exact Pm.runN_stop _ _ _ h

theorem flat_size {o : ByteArray} {ns : List UInt8} (h : o.data.toList = Pm.flat ns) : o.size = 2 * ns.length := by
  rw [Lib.size_eq, h, Pm.flat_length]

theorem ba_ext {a b : ByteArray} (h : a.data.toList = b.data.toList) : a = b := by
  rw [← Lib.mk_data a, ← Lib.mk_data b, h]

set_option maxHeartbeats 2000000 in
set_option maxRecDepth 100000 in
theorem specNormal_run (s : ByteArray) (h1 : 1 ≤ s.size) (h40 : s.size ≤ 40) (h0 : ((s[0].toNat : Int) != 47) = false) (w : World) :
    Calls Try.prog 29 #[.string s] w (NormPost s w) := by
  have h1' : (0 : Int) < s.size := by omega
  have h40' : (s.size : Int) ≤ 40 := by omega
  have hz : ((s.size : Int) == 0) = false := beq_eq_false_iff_ne.2 (by omega)
  have hh : s.data.toList[0]? = some 47 := by
    rw [Pm.byte_getElem? s 0 h1]; congr 1
    exact Pm.byte_47 (by simpa using h0)
  have hr := normal_run h40 (by rw [List.head?_eq_getElem?]; exact hh)
  have hp : Pm.partsB s = namesB s := Pm.partsB_slash s h1 hh
  have hlen := Pm.parts_length s.data.toList
  rw [← Lib.size_eq] at hlen
  rw [← partsB_data, hp] at hr
  rw [← partsB_data, hp, List.length_map] at hlen
  obtain ⟨ps, hps⟩ : ∃ ps, namesB s = ps := ⟨_, rfl⟩
  have hN : ∀ w, Calls Try.prog 40 #[.string s] w fun e w' => OwnsTexts w.heap.size ps e w' ∧ Below w.heap.size w w' := fun w => by
    rw [← hps]; exact l1Names_c s h1 (by omega) w
  rw [hps] at hr hlen
  obtain ⟨hr1, hr2⟩ := hr
  have HN := Lib.hid hN
  have HR1 := Lib.hid hr1
  have HR2 := Lib.hid hr2
  have hps41 : ps.length ≤ 40 := by omega
  have HV := Lib.hid (fun (s : ByteArray) hs w => specValid_c s hs w)
  clear hN hr1 hr2 hp hps hh hlen
  go_enter Try.func29, Try.ntmps29
  go_wp2_with (go_at_call 40; refine (HN.out _).mono ?_; rintro e w1 ⟨⟨g, cap, rfl, hrow⟩, hB⟩)
  go_loop [5, 6] (fun out i => NormRel ps out i) (fun _ i => ps.length - (intOf i).toNat)
  case atStart => exact ⟨0, ⟨#[]⟩, [], rfl, rfl, Nat.zero_le _, rfl, Nat.le_refl _, rfl⟩
  case round =>
    obtain ⟨k, o, ns, rfl, rfl, hk, HO, ho, HR⟩ := hrel
    have ho100 : o.size ≤ 100 := by omega
    have hos := flat_size HO.out
    by_cases hlt : k < ps.length
    · obtain ⟨x, hx⟩ : ∃ x, ps[k]? = some x := ⟨ps[k], List.getElem?_eq_getElem hlt⟩
      have hcell : w1.cell? ⟨g, k, none⟩ = some (.string x) := by
        rw [hrow.cellAt k (by omega), List.getElem?_map, hx]; rfl
      have hst : Pm.runN ((ps.take (k + 1)).map (fun y : ByteArray => y.data.toList)) [] = Pm.stepN ns x.data.toList := by
        rw [take_map_succ ps k x hx]; exact Pm.runN_snoc _ _ _ _ HR.out
      have HST := Lib.hid hst
      clear hst hx
      by_cases hA : x.data.toList = [] ∨ x.data.toList = [46]
      · have HR2' : Hid (Pm.runN ((ps.take (k + 1)).map (fun y : ByteArray => y.data.toList)) [] = some ns) := by
          show _ = _; rw [HST.out]; unfold Pm.stepN; rw [if_pos hA]
        have hxx : x = ⟨#[]⟩ ∨ x = ⟨#[46]⟩ := hA.imp (fun h => ba_ext h) (fun h => ba_ext h)
        clear hA HST hos
        rcases hxx with rfl | rfl
        all_goals
          go_wp2
          go_round
          case rel => exact ⟨k + 1, o, ns, by go_num, rfl, by omega, HO, by omega, HR2'⟩
          case measure => simp [intOf]; omega
      · by_cases hB2 : x.data.toList = [46, 46]
        · obtain rfl : x = ⟨#[46, 46]⟩ := ba_ext hB2
          by_cases hn : ns = []
          · subst hn
            have hd := HR1.out (run_dead ps (k + 1) (by rw [HST.out]; decide))
            obtain rfl : o = ⟨#[]⟩ := ba_ext HO.out
            have HD := Lib.hid hd
            clear hd hA hB2 HST hos
            go_wp2
            go_ret2
            exact norm_end_none HD.out hB
          · have HR2' : Hid (Pm.runN ((ps.take (k + 1)).map (fun y : ByteArray => y.data.toList)) [] = some ns.dropLast) := by
              show _ = _; rw [HST.out]; unfold Pm.stepN; rw [if_neg hA, if_pos ⟨rfl, hn⟩]
            obtain ⟨m, hm⟩ : ∃ m, o.size = m + 2 := by
              have : 1 ≤ ns.length := by cases ns with | nil => exact absurd rfl hn | cons => simp
              exact ⟨o.size - 2, by omega⟩
            have HO2 : Hid ((o.extract 0 m).data.toList = Pm.flat ns.dropLast) := by
              show _ = _
              have := Pm.flat_dropLast ns hn
              rw [← HO.out, ← Lib.size_eq, hm] at this
              rw [Lib.extract_data]
              simpa using this
            have hne : ¬ o.toList = [] := by
              rw [Lib.toList_data, ← List.length_eq_zero_iff, ← Lib.size_eq]; omega
            have hne2 : o.toList.isEmpty = false := by rw [List.isEmpty_eq_false_iff]; exact hne
            clear hA hB2 HST hos hn
            go_wp2
            go_round
            case rel => exact ⟨k + 1, o.extract 0 m, ns.dropLast, by go_num, rfl, by omega, HO2, by rw [ByteArray.size_extract]; omega, HR2'⟩
            case measure => simp [intOf]; omega
        · have e0 : ¬ x.toList = [] := by rw [Lib.toList_data]; exact fun e => hA (.inl e)
          have e1 : x.toList.isEmpty = false := by rw [List.isEmpty_eq_false_iff]; exact e0
          have e2 : (x.toList == [46]) = false := by rw [Lib.toList_data]; simpa using fun e => hA (.inr e)
          have e3 : (x.toList == [46, 46]) = false := by rw [Lib.toList_data]; simpa using hB2
          cases hn : Pm.nameBB x with
          | true =>
            obtain ⟨c, hc, _⟩ := Pm.name_form hn
            have hx1 : x.size = 1 := by rw [Lib.size_eq, hc]; rfl
            have hx2 : x.size ≤ 1 := by omega
            have HR2' : Hid (Pm.runN ((ps.take (k + 1)).map (fun y : ByteArray => y.data.toList)) [] = some (ns ++ [c])) := by
              show _ = _; rw [HST.out]; unfold Pm.stepN
              rw [if_neg hA, if_neg (fun h => hB2 h.1), if_pos (show Pm.nameB x.data.toList = true from hn), hc]
            have HO2 : Hid ((o ++ ⟨#[47]⟩ ++ x).data.toList = Pm.flat (ns ++ [c])) := by
              show _ = _
              rw [Pm.flat_append, ← HO.out, ByteArray.data_append, ByteArray.data_append, Array.toList_append, Array.toList_append, hc, List.append_assoc]
              rfl
            have HX := Lib.hid hx1
            have hcc := fun w => lname_yes hn w
            clear hA hB2 HST hos hn hc hx1
            go_wp2_with (go_at_call 41; refine (hcc _).mono ?_; rintro e w' ⟨rfl, rfl⟩)
            go_round
            case rel => exact ⟨k + 1, o ++ ⟨#[47]⟩ ++ x, ns ++ [c], by go_num, rfl, by omega, HO2, by rw [ByteArray.size_append, ByteArray.size_append, HX.out]; show o.size + 1 + 1 ≤ _; omega, HR2'⟩
            case measure => simp [intOf]; omega
          | false =>
            have hd := HR1.out (run_dead ps (k + 1) (by
              rw [HST.out]; unfold Pm.stepN
              rw [if_neg hA, if_neg (fun h => hB2 h.1), if_neg (by rw [show Pm.nameB x.data.toList = false from hn]; simp)]))
            have HD := Lib.hid hd
            have hcc := fun w => lname_no hn w
            clear hA hB2 HST hos hn hd
            go_wp2_with (go_at_call 41; refine (hcc _).mono ?_; rintro e w' ⟨rfl, rfl⟩)
            go_ret2
            exact norm_end_none HD.out hB
    · obtain rfl : k = ps.length := by omega
      have hrun : Pm.runN (ps.map (fun y : ByteArray => y.data.toList)) [] = some ns := by
        have := HR.out; rwa [List.take_length] at this
      obtain ⟨f1, f2⟩ := HR2.out ns hrun
      have hns := (Pm.runN_letters hrun (by simp)).1
      have hvp := Pm.valid_pathOf ns hns
      have hfin : ∀ (q : ByteArray), q.data.toList = Pm.pathOf ns → q.size ≤ 100 → ns.length ≤ 4 → ∀ w, Calls Try.prog 26 #[.string q] w fun e w' => e = .returned (.bool true) ∧ Below w.heap.size w w' := fun q hq hqs h4 w =>
        specValid_yes (by omega) (by rw [hq, hvp, decide_eq_true h4]) w
      have hfin2 : ∀ (q : ByteArray), q.data.toList = Pm.pathOf ns → q.size ≤ 100 → ¬ ns.length ≤ 4 → ∀ w, Calls Try.prog 26 #[.string q] w fun e w' => e = .returned (.bool false) ∧ Below w.heap.size w w' := fun q hq hqs h4 w =>
        specValid_no (by omega) (by rw [hq, hvp, decide_eq_false h4]) w
      by_cases hn : ns = []
      · subst hn
        obtain rfl : o = ⟨#[]⟩ := ba_ext HO.out
        have hd := Lib.hid (f1 (by simp))
        have hc := Lib.hid (fun w => hfin ⟨#[47]⟩ rfl (by decide) (by simp) w)
        clear hfin hfin2 f1 f2 hns hvp hrun hlt hos HR HO
        go_wp2_with (go_at_call 26; refine (hc.out _).mono ?_; rintro e w' ⟨rfl, hb2⟩)
        go_ret2
        exact norm_end_some hd.out rfl (below_next hB hb2)
      · have hne : ¬ o.toList = [] := by
          have : 1 ≤ ns.length := by cases ns with | nil => exact absurd rfl hn | cons => simp
          rw [Lib.toList_data, ← List.length_eq_zero_iff, ← Lib.size_eq]; omega
        have hne2 : o.toList.isEmpty = false := by rw [List.isEmpty_eq_false_iff]; exact hne
        have hop : o.data.toList = Pm.pathOf ns := by rw [HO.out]; unfold Pm.pathOf; rw [if_neg hn]
        by_cases h4 : ns.length ≤ 4
        · have hd := Lib.hid (f1 h4)
          have hc := Lib.hid (fun w => hfin o hop ho100 h4 w)
          have HOP := Lib.hid hop
          clear hfin hfin2 f1 f2 hns hvp hrun hlt hos HR HO hop hn
          go_wp2_with (go_at_call 26; refine (hc.out _).mono ?_; rintro e w' ⟨rfl, hb2⟩)
          go_ret2
          exact norm_end_some hd.out HOP.out (below_next hB hb2)
        · have hd := Lib.hid (f2 h4)
          have hc := Lib.hid (fun w => hfin2 o hop ho100 h4 w)
          clear hfin hfin2 f1 f2 hns hvp hrun hlt hos HR HO hop hn h4
          go_wp2_with (go_at_call 26; refine (hc.out _).mono ?_; rintro e w' ⟨rfl, hb2⟩)
          go_ret2
          exact norm_end_none hd.out (below_next hB hb2)

set_option maxHeartbeats 1000000 in
set_option maxRecDepth 100000 in
theorem specNormal_empty (w : World) : Calls Try.prog 29 #[.string ⟨#[]⟩] w (NormPost ⟨#[]⟩ w) := by
  have hd := Lib.hid (normal_guard (s := ⟨#[]⟩) (.inr (by simp)))
  go_enter Try.func29, Try.ntmps29
  go_wp2
  go_ret2
  exact norm_end_none hd.out (Below.refl _ _)

set_option maxHeartbeats 1000000 in
set_option maxRecDepth 100000 in
theorem specNormal_long (s : ByteArray) (h : 40 < s.size) (w : World) : Calls Try.prog 29 #[.string s] w (NormPost s w) := by
  have hd := Lib.hid (normal_guard (s := s) (.inl h))
  have h1 : (40 : Int) < s.size := by omega
  have hz : ((s.size : Int) == 0) = false := beq_eq_false_iff_ne.2 (by omega)
  clear h
  go_enter Try.func29, Try.ntmps29
  go_wp2
  go_ret2
  exact norm_end_none hd.out (Below.refl _ _)

set_option maxHeartbeats 1000000 in
set_option maxRecDepth 100000 in
theorem specNormal_other (s : ByteArray) (h1 : 1 ≤ s.size) (h40 : s.size ≤ 40) (h0 : ((s[0].toNat : Int) != 47) = true) (w : World) : Calls Try.prog 29 #[.string s] w (NormPost s w) := by
  have hd := Lib.hid (normal_guard (s := s) (.inr (by
    rw [head_of_get h1]
    intro e
    rw [Option.some.inj e] at h0
    exact absurd h0 (by decide))))
  have h1' : (0 : Int) < s.size := by omega
  have h40' : (s.size : Int) ≤ 40 := by omega
  have hz : ((s.size : Int) == 0) = false := beq_eq_false_iff_ne.2 (by omega)
  go_enter Try.func29, Try.ntmps29
  go_wp2
  go_ret2
  exact norm_end_none hd.out (Below.refl _ _)

/-- spec.PathNormal, at every text. -/
theorem specNormal_c (s : ByteArray) (w : World) : Calls Try.prog 29 #[.string s] w (NormPost s w) := by
  by_cases hz : s.size = 0
  · obtain rfl : s = ⟨#[]⟩ := by
      obtain ⟨⟨l⟩⟩ := s
      have : l.length = 0 := hz
      rw [List.length_eq_zero_iff] at this
      rw [this]
    exact specNormal_empty w
  · by_cases h40 : s.size ≤ 40
    · cases h0 : ((s[0].toNat : Int) != 47) with
      | false => exact specNormal_run s (by omega) h40 h0 w
      | true => exact specNormal_other s (by omega) h40 h0 w
    · exact specNormal_long s (by omega) w

end Go.Proofs.Ytlnjcikoeiffgaa
