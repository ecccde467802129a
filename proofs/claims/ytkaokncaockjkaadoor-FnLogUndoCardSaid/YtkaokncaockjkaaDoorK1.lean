/-
  Texts of this proof, one behind the other: Pm, Pq, Tm, Bn, Rk, Bq, Cv, Tq, Tp, Wd, Su, Cm, Cd, Ta, Sa, It, Pd, Sn, Pa, Pv.
-/
import Derived.Lib.CutLaws
import Derived.Sort.Walk0
import Derived.Lib.Strings
import Derived.Test.YtkaokncaockjkaaDoorChecked
import Derived.WalkKit
import Derived.Below
import Derived.BigQuiet
import Derived.Deep.QuietTactic
import Derived.Lib.Hide
import Derived.OwnWalk
import Derived.Maps.AppendAt
import Derived.Outline
import Derived.IntWalk
import Derived.RangeFuncRecord
import Derived.Lib.Walk
import Derived.Laws.Externs
import Derived.RangeFuncNested
import Derived.RangeFuncBound
import Derived.RangeFuncCalls
import Derived.RangeFuncLeaves
import Derived.OwnWalkIn
import Derived.TacticsInMore
import Derived.LoopNIn
import Derived.LoopIn
import Derived.Lib.HexFns2
import Derived.Shelf.Abstract
import Derived.RangeFuncBox
/-
  PLAIN MATHEMATICS OF PATHS: names, parts between slashes, depth, parents, prefixes; of no program.
-/
namespace Go.Proofs.YtkaokncaockjkaaDoor.Pm

/-- A name: one letter from a to d. -/
def nameB : List UInt8 → Bool
  | [c] => decide (97 ≤ (c.toNat : Int) ∧ (c.toNat : Int) ≤ 100)
  | _ => false

/-- What is between the slashes; never empty. -/
def splitS : List UInt8 → List (List UInt8)
  | [] => [[]]
  | c :: l => if c = 47 then [] :: splitS l else match splitS l with
    | [] => [[c]]
    | p :: ps => (c :: p) :: ps

theorem splitS_ne (l : List UInt8) : splitS l ≠ [] := by
  cases l with
  | nil => simp [splitS]
  | cons c l =>
    unfold splitS
    split
    · simp
    · split <;> simp

theorem splitS_cut (a b : List UInt8) (h : ∀ x ∈ a, x ≠ 47) : splitS (a ++ 47 :: b) = a :: splitS b := by
  induction a with
  | nil => simp [splitS]
  | cons c a ih =>
    have hc : c ≠ 47 := h c (by simp)
    have := ih (fun x hx => h x (by simp [hx]))
    simp [splitS, hc, this]

theorem splitS_one (a : List UInt8) (h : ∀ x ∈ a, x ≠ 47) : splitS a = [a] := by
  induction a with
  | nil => simp [splitS]
  | cons c a ih =>
    have hc : c ≠ 47 := h c (by simp)
    have := ih (fun x hx => h x (by simp [hx]))
    simp [splitS, hc, this]

/-- What an iterator over a text yields. -/
def parts : List UInt8 → List (List UInt8)
  | [] => []
  | c :: l => if c = 47 then splitS l else []

/-- A text is a path. -/
def valid (l : List UInt8) : Bool := l == [47] || ((parts l).all nameB && decide (1 ≤ (parts l).length ∧ (parts l).length ≤ 4))

def depth (l : List UInt8) : Int := if valid l = true then ((l.length / 2 : Nat) : Int) else -1

theorem splitS_two (c d : UInt8) (l : List UInt8) (hc : c ≠ 47) : splitS (c :: d :: l) = if d = 47 then [c] :: splitS l else match splitS l with | [] => [[c, d]] | p :: ps => (c :: d :: p) :: ps := by
  by_cases hd : d = 47
  · simp [splitS, hc, hd]
  · cases h : splitS l with
    | nil => exact absurd h (splitS_ne l)
    | cons p ps => simp [splitS, hc, hd, h]

theorem splitS_names_len : ∀ (n : Nat) (l : List UInt8), l.length ≤ n → (splitS l).all nameB = true → l.length + 1 = 2 * (splitS l).length
  | _, [], _, h => by simp [splitS, nameB] at h
  | _, [c], _, h => by
    by_cases hc : c = 47
    · simp [splitS, hc, nameB] at h
    · simp [splitS, hc]
  | 0, _ :: _ :: _, hl, _ => by simp at hl
  | n + 1, c :: d :: l, hl, h => by
    by_cases hc : c = 47
    · simp [splitS, hc, nameB] at h
    · rw [splitS_two c d l hc] at h ⊢
      by_cases hd : d = 47
      · rw [if_pos hd] at h ⊢
        have h2 : (splitS l).all nameB = true := by simp at h; simpa using h.2
        have := splitS_names_len n l (by simp at hl; omega) h2
        simp; omega
      · rw [if_neg hd] at h
        cases hs : splitS l with
        | nil => exact absurd hs (splitS_ne l)
        | cons p ps => rw [hs] at h; simp [nameB] at h

/-- A path that is not the root has twice as many bytes as names. -/
theorem valid_len (l : List UInt8) (h : l ≠ [47]) (hv : valid l = true) : l.length = 2 * (parts l).length := by
  unfold valid at hv
  have h1 : (parts l).all nameB = true ∧ 1 ≤ (parts l).length ∧ (parts l).length ≤ 4 := by
    simpa [h, and_assoc] using hv
  cases l with
  | nil => simp [parts] at h1
  | cons c l =>
    simp only [parts] at h1 ⊢
    by_cases hc : c = 47
    · rw [if_pos hc] at h1 ⊢
      have := splitS_names_len l.length l (Nat.le_refl _) h1.1
      simp; omega
    · rw [if_neg hc] at h1; simp at h1

/-- The parts of a text, as byte arrays. -/
def partsB (s : ByteArray) : List ByteArray := (parts s.data.toList).map fun l => ⟨⟨l⟩⟩
def splitB (s : ByteArray) : List ByteArray := (splitS s.data.toList).map fun l => ⟨⟨l⟩⟩

theorem indexByte_none {l : List UInt8} (h : Lib.indexByte l 47 = -1) : ∀ x ∈ l, x ≠ 47 := by
  induction l with
  | nil => simp
  | cons b l ih =>
    unfold Lib.indexByte at h
    have hg := Lib.indexByte_ge l 47
    by_cases hb : (b == 47) = true
    · rw [if_pos hb] at h; simp at h
    · rw [if_neg hb] at h
      by_cases h2 : (Lib.indexByte l 47 == -1) = true
      · intro x hx
        rcases List.mem_cons.1 hx with rfl | hx
        · simpa using hb
        · exact ih (by simpa using h2) x hx
      · rw [if_neg h2] at h; simp at h2; omega

theorem indexByte_some : ∀ {l : List UInt8} {i : Nat}, Lib.indexByte l 47 = i → i < l.length ∧ (∀ x ∈ l.take i, x ≠ 47) ∧ l = l.take i ++ 47 :: l.drop (i + 1)
  | [], i, h => by simp [Lib.indexByte] at h
  | b :: l, i, h => by
    unfold Lib.indexByte at h
    have hg := Lib.indexByte_ge l 47
    by_cases hb : (b == 47) = true
    · rw [if_pos hb] at h
      obtain rfl : i = 0 := by omega
      have : b = 47 := by simpa using hb
      subst this
      simp
    · rw [if_neg hb] at h
      by_cases h2 : (Lib.indexByte l 47 == -1) = true
      · rw [if_pos h2] at h; omega
      · rw [if_neg h2] at h
        simp at h2
        obtain ⟨j, rfl⟩ : ∃ j, i = j + 1 := ⟨i - 1, by omega⟩
        obtain ⟨h3, h4, h5⟩ := indexByte_some (l := l) (i := j) (by omega)
        refine ⟨by simp; omega, ?_, ?_⟩
        · intro x hx
          rw [List.take_succ_cons] at hx
          rcases List.mem_cons.1 hx with rfl | hx
          · simpa using hb
          · exact h4 x hx
        · rw [List.take_succ_cons, List.drop_succ_cons, List.cons_append, ← h5]

theorem indexByte_cases (s : ByteArray) : Lib.indexByte s.data.toList 47 = -1 ∨ ∃ i : Nat, Lib.indexByte s.data.toList 47 = i ∧ i + 1 ≤ s.size := by
  have hge := Lib.indexByte_ge s.data.toList 47
  by_cases h : Lib.indexByte s.data.toList 47 = -1
  · exact .inl h
  · refine .inr ⟨(Lib.indexByte s.data.toList 47).toNat, by omega, ?_⟩
    have := (indexByte_some (l := s.data.toList) (i := (Lib.indexByte s.data.toList 47).toNat) (by omega)).1
    rw [Lib.size_eq]; omega

theorem splitB_miss (s : ByteArray) (h : Lib.indexByte s.data.toList 47 = -1) : splitB s = [s] := by
  unfold splitB
  rw [splitS_one _ (indexByte_none h)]
  rfl

theorem splitB_hit (s : ByteArray) (i : Nat) (h : Lib.indexByte s.data.toList 47 = i) : splitB s = s.extract 0 i :: splitB (s.extract (i + 1) s.size) := by
  obtain ⟨h1, h2, h3⟩ := indexByte_some h
  unfold splitB
  have e2 : (s.extract (i + 1) s.size).data.toList = s.data.toList.drop (i + 1) := by
    rw [Lib.extract_data]; exact List.take_of_length_le (by rw [List.length_drop, ← Lib.size_eq]; omega)
  have e1 : s.extract 0 i = ⟨⟨s.data.toList.take i⟩⟩ := by rw [Lib.extract_eq]; simp
  rw [e2, e1]
  have := splitS_cut (s.data.toList.take i) (s.data.toList.drop (i + 1)) h2
  rw [← h3] at this
  rw [this]
  rfl

theorem extract_le (s : ByteArray) (a b : Nat) {n : Nat} (h : s.size ≤ n) : (s.extract a b).size ≤ n := by
  rw [ByteArray.size_extract]; omega

theorem one_le_of_head {s : ByteArray} (h : (s.extract 0 1).toList = [47]) : 1 ≤ s.size := by
  have h2 : (s.extract 0 1).size = 1 := by
    rw [Lib.size_eq, ← Lib.toList_data, h]; rfl
  rw [ByteArray.size_extract] at h2
  omega

theorem partsB_yes (s : ByteArray) (h : (s.extract 0 1).toList = [47]) : partsB s = splitB (s.extract 1 s.size) := by
  obtain ⟨⟨l⟩⟩ := s
  rw [Lib.extract_toList] at h
  cases l with
  | nil => simp at h
  | cons c l =>
    have hc : c = 47 := by simpa using h
    subst hc
    unfold partsB splitB
    rw [Lib.extract_data]
    have : List.take ((⟨⟨47 :: l⟩⟩ : ByteArray).size - 1) (List.drop 1 (47 :: l)) = l := by
      apply List.take_of_length_le
      show l.length ≤ (47 :: l).length - 1
      simp
    rw [this]
    simp [parts]

theorem partsB_no (s : ByteArray) (h : 1 ≤ s.size → ((s.extract 0 1).toList == [47]) = false) : partsB s = [] := by
  obtain ⟨⟨l⟩⟩ := s
  rw [Lib.extract_toList] at h
  cases l with
  | nil => rfl
  | cons c l =>
    have := h (by show 1 ≤ (c :: l).length; simp)
    have hc : c ≠ 47 := by simpa using this
    simp [partsB, parts, hc]

/-- A name, as a byte array. -/
def nameBB (x : ByteArray) : Bool := nameB x.data.toList

theorem partsB_length (s : ByteArray) : (partsB s).length = (parts s.data.toList).length := by simp [partsB]
theorem partsB_all (s : ByteArray) : (partsB s).all nameBB = (parts s.data.toList).all nameB := by
  simp [partsB, nameBB, List.all_map, Function.comp_def]

theorem depth_good (s : ByteArray) (hr : s ≠ ⟨#[47]⟩) (h : (partsB s).all nameBB = true) (h1 : 1 ≤ (partsB s).length) (h4 : (partsB s).length ≤ 4) : depth s.data.toList = (partsB s).length := by
  rw [partsB_all] at h
  rw [partsB_length] at h1 h4 ⊢
  have hr' : s.data.toList ≠ [47] := fun e => hr (by rw [← Lib.mk_data s, e])
  have hv : valid s.data.toList = true := by simp only [valid, h, Bool.true_and, Bool.or_eq_true, decide_eq_true_eq]; exact .inr ⟨h1, h4⟩
  have := valid_len _ hr' hv
  unfold depth
  rw [if_pos hv, this]
  congr 1
  omega

theorem valid_bad (s : ByteArray) (hr : s ≠ ⟨#[47]⟩) (h : (partsB s).all nameBB = true → 1 ≤ (partsB s).length → (partsB s).length ≤ 4 → False) : valid s.data.toList = false := by
  rw [partsB_all, partsB_length] at h
  have hr' : s.data.toList ≠ [47] := fun e => hr (by rw [← Lib.mk_data s, e])
  cases hv : valid s.data.toList with
  | false => rfl
  | true =>
    unfold valid at hv
    simp only [Bool.or_eq_true, Bool.and_eq_true, decide_eq_true_eq, beq_iff_eq] at hv
    rcases hv with hv | ⟨h1, h2, h3⟩
    · exact absurd hv hr'
    · exact (h h1 h2 h3).elim

theorem depth_bad (s : ByteArray) (hr : s ≠ ⟨#[47]⟩) (h : (partsB s).all nameBB = true → 1 ≤ (partsB s).length → (partsB s).length ≤ 4 → False) : depth s.data.toList = -1 := by
  unfold depth; rw [valid_bad s hr h]; rfl

theorem prefix_bad {pre ps : List ByteArray} (hp : pre <+: ps) (h : pre.all nameBB = false ∨ 4 < pre.length) : ps.all nameBB = true → 1 ≤ ps.length → ps.length ≤ 4 → False := by
  obtain ⟨t, rfl⟩ := hp
  intro ha _ h4
  rw [List.all_append, Bool.and_eq_true] at ha
  rcases h with h | h
  · rw [h] at ha; exact absurd ha.1 (by decide)
  · rw [List.length_append] at h4; omega

/-- No slash stands from place a up to b. -/
def NoSl (s : ByteArray) (a b : Nat) : Prop := ∀ j, a ≤ j → j < b → s.data.toList[j]? ≠ some 47

theorem byte_getElem? (s : ByteArray) (i : Nat) (h : i < s.size) : s.data.toList[i]? = some s[i] := by
  have h' : i < s.data.toList.length := by rw [← Lib.size_eq]; exact h
  rw [List.getElem?_eq_getElem h']
  rfl

theorem byte_47 {c : UInt8} (h : ((c.toNat : Int) == 47) = true) : c = 47 := by
  have h : (c.toNat : Int) = 47 := eq_of_beq h
  have h2 : c.toNat = 47 := by omega
  exact UInt8.toNat_inj.1 h2
theorem byte_not_47 {c : UInt8} (h : ((c.toNat : Int) == 47) = false) : c ≠ 47 := by
  intro e
  subst e
  exact absurd h (by decide)

theorem NoSl.step {s : ByteArray} {a b : Nat} (h : NoSl s a b) (hb : b < s.size) (hc : ((s[b].toNat : Int) == 47) = false) : NoSl s a (b + 1) := by
  intro j hj1 hj2
  by_cases e : j = b
  · subst e
    rw [byte_getElem? s j hb]
    intro e
    exact byte_not_47 hc (by simpa using e)
  · exact h j hj1 (by omega)

theorem extract_end_data (s : ByteArray) (a : Nat) : (s.extract a s.size).data.toList = s.data.toList.drop a := by
  rw [Lib.extract_data]; exact List.take_of_length_le (by rw [List.length_drop, ← Lib.size_eq]; omega)

theorem NoSl.mem {s : ByteArray} {a b : Nat} (h : NoSl s a b) : ∀ x ∈ (s.data.toList.drop a).take (b - a), x ≠ 47 := by
  intro x hx e
  obtain ⟨k, hk⟩ := List.mem_iff_getElem?.1 hx
  rw [List.getElem?_take] at hk
  split at hk
  · rw [List.getElem?_drop] at hk
    exact h (a + k) (by omega) (by omega) (by rw [hk, e])
  · cases hk

theorem split_at (s : ByteArray) (a i : Nat) (h1 : a ≤ i) (hi : i < s.size) (hno : NoSl s a i) (hc : ((s[i].toNat : Int) == 47) = true) :
    splitB (s.extract a s.size) = s.extract a i :: splitB (s.extract (i + 1) s.size) := by
  have hcc : s.data.toList[i]? = some 47 := by rw [byte_getElem? s i hi, byte_47 hc]
  have hl : i < s.data.toList.length := by rw [← Lib.size_eq]; exact hi
  have hd : s.data.toList.drop a = (s.data.toList.drop a).take (i - a) ++ 47 :: s.data.toList.drop (i + 1) := by
    have e := List.take_append_drop (i - a) (s.data.toList.drop a)
    rw [List.drop_drop, show a + (i - a) = i from by omega] at e
    have e2 : s.data.toList.drop i = 47 :: s.data.toList.drop (i + 1) := by
      rw [List.drop_eq_getElem_cons hl]
      congr 1
      rw [List.getElem?_eq_getElem hl] at hcc
      simpa using hcc
    rw [e2] at e
    exact e.symm
  unfold splitB
  rw [extract_end_data, extract_end_data]
  have := splitS_cut ((s.data.toList.drop a).take (i - a)) (s.data.toList.drop (i + 1)) hno.mem
  rw [← hd] at this
  rw [this, List.map_cons]
  congr 1
  rw [Lib.extract_eq]

theorem split_end (s : ByteArray) (a : Nat) (hno : NoSl s a s.size) : splitB (s.extract a s.size) = [s.extract a s.size] := by
  unfold splitB
  have e : (s.data.toList.drop a).take (s.size - a) = s.data.toList.drop a := List.take_of_length_le (by rw [List.length_drop, ← Lib.size_eq]; omega)
  rw [extract_end_data]
  have hm := hno.mem
  rw [e] at hm
  rw [splitS_one _ hm, List.map_cons, List.map_nil, ← extract_end_data]

theorem all_take_succ {α : Type} (p : α → Bool) (l : List α) (k : Nat) (x : α) (h : l[k]? = some x) (ha : (l.take k).all p = true) (hx : p x = true) : (l.take (k + 1)).all p = true := by
  have hk : k < l.length := by
    rcases Nat.lt_or_ge k l.length with h' | h'
    · exact h'
    · rw [List.getElem?_eq_none h'] at h; cases h
  rw [List.take_succ_eq_append_getElem hk, List.all_append, ha]
  rw [List.getElem?_eq_getElem hk] at h
  have : l[k] = x := by simpa using h
  simp [this, hx]

theorem all_false_of {α : Type} (p : α → Bool) (l : List α) (k : Nat) (x : α) (h : l[k]? = some x) (hx : p x = false) : l.all p = false := by
  have hm : x ∈ l := List.mem_of_getElem? h
  cases ha : l.all p with
  | false => rfl
  | true => rw [List.all_eq_true] at ha; rw [ha x hm] at hx; cases hx

theorem partsB_slash (s : ByteArray) (h : 1 ≤ s.size) (hc : s.data.toList[0]? = some 47) : partsB s = splitB (s.extract 1 s.size) := by
  obtain ⟨⟨l⟩⟩ := s
  cases l with
  | nil => simp at hc
  | cons c l =>
    have hc : c = 47 := by simpa using hc
    subst hc
    unfold partsB splitB
    rw [extract_end_data]
    simp [parts]

theorem valid_good (s : ByteArray) (hr : s ≠ ⟨#[47]⟩) (h1 : 1 ≤ (partsB s).length) (ha : (partsB s).all nameBB = true) : valid s.data.toList = decide ((partsB s).length ≤ 4) := by
  have hr' : s.data.toList ≠ [47] := fun e => hr (by rw [← Lib.mk_data s, e])
  rw [partsB_all] at ha
  rw [partsB_length] at h1 ⊢
  have hb : (s.data.toList == [47]) = false := by simpa using hr'
  simp [valid, hb, ha, h1]

theorem valid_no_slash (s : ByteArray) (h : s.data.toList[0]? ≠ some 47) : valid s.data.toList = false := by
  obtain ⟨⟨l⟩⟩ := s
  cases l with
  | nil => decide
  | cons c l =>
    have hc : c ≠ 47 := by simpa using h
    simp [valid, parts, hc]

theorem splitB_pos (s : ByteArray) : 1 ≤ (splitB s).length := by
  unfold splitB
  rw [List.length_map]
  have := splitS_ne s.data.toList
  cases h : splitS s.data.toList with
  | nil => exact absurd h this
  | cons a b => simp

end Go.Proofs.YtkaokncaockjkaaDoor.Pm

/-
  PLAIN MATHEMATICS OF PATHS, MORE: a path as the list of its letters; parents; what is under what.
-/
namespace Go.Proofs.YtkaokncaockjkaaDoor.Pm

def letter (c : UInt8) : Bool := nameB [c]

def flat : List UInt8 → List UInt8
  | [] => []
  | c :: ns => 47 :: c :: flat ns

def pathOf (ns : List UInt8) : List UInt8 := if ns = [] then [47] else flat ns

theorem letter_not_47 {c : UInt8} (h : letter c = true) : c ≠ 47 := by
  intro e; subst e; exact absurd h (by decide)

theorem flat_length (ns : List UInt8) : (flat ns).length = 2 * ns.length := by
  induction ns with
  | nil => rfl
  | cons c ns ih => simp [flat, ih]; omega

theorem flat_append (a b : List UInt8) : flat (a ++ b) = flat a ++ flat b := by
  induction a with
  | nil => rfl
  | cons c a ih => simp [flat, ih]

theorem splitS_flat (c : UInt8) (ns : List UInt8) (h : ∀ x ∈ c :: ns, letter x = true) : splitS (c :: flat ns) = (c :: ns).map fun x => [x] := by
  induction ns generalizing c with
  | nil =>
    have := letter_not_47 (h c (by simp))
    simp [flat, splitS, this]
  | cons d ns ih =>
    have h1 := letter_not_47 (h c (by simp))
    have := ih d (fun x hx => h x (List.mem_cons_of_mem _ hx))
    rw [flat, splitS_two _ _ _ h1, if_pos rfl, this]
    rfl

theorem splitS_names : ∀ (n : Nat) (l : List UInt8), l.length ≤ n → (splitS l).all nameB = true → ∃ c ns, l = c :: flat ns ∧ (∀ x ∈ c :: ns, letter x = true)
  | _, [], _, h => by simp [splitS, nameB] at h
  | _, [c], _, h => by
    by_cases hc : c = 47
    · simp [splitS, hc, nameB] at h
    · refine ⟨c, [], rfl, ?_⟩
      intro x hx
      obtain rfl : x = c := by simpa using hx
      simpa [splitS, hc, letter] using h
  | 0, _ :: _ :: _, hl, _ => by simp at hl
  | n + 1, c :: d :: l, hl, h => by
    by_cases hc : c = 47
    · simp [splitS, hc, nameB] at h
    · rw [splitS_two c d l hc] at h
      by_cases hd : d = 47
      · rw [if_pos hd] at h
        rw [List.all_cons, Bool.and_eq_true] at h
        obtain ⟨e, ns, rfl, hns⟩ := splitS_names n l (by simp at hl; omega) h.2
        subst hd
        refine ⟨c, e :: ns, rfl, ?_⟩
        intro x hx
        rcases List.mem_cons.1 hx with rfl | hx
        · exact h.1
        · exact hns x hx
      · rw [if_neg hd] at h
        cases hs : splitS l with
        | nil => exact absurd hs (splitS_ne l)
        | cons p ps => rw [hs] at h; simp [nameB] at h

theorem valid_of (l : List UInt8) (h : valid l = true) : ∃ ns, ns.length ≤ 4 ∧ (∀ x ∈ ns, letter x = true) ∧ l = pathOf ns := by
  unfold valid at h
  simp only [Bool.or_eq_true, Bool.and_eq_true, decide_eq_true_eq, beq_iff_eq] at h
  rcases h with h | ⟨h1, h2, h3⟩
  · exact ⟨[], by simp, by simp, by simp [pathOf, h]⟩
  · cases l with
    | nil => simp [parts] at h2
    | cons c l =>
      simp only [parts] at h1 h2 h3
      by_cases hc : c = 47
      · rw [if_pos hc] at h1 h2 h3
        obtain ⟨e, ns, rfl, hns⟩ := splitS_names l.length l (Nat.le_refl _) h1
        rw [splitS_flat e ns hns] at h3
        subst hc
        exact ⟨e :: ns, by simpa using h3, hns, rfl⟩
      · rw [if_neg hc] at h2; simp at h2

theorem parts_path (ns : List UInt8) (hn : ns ≠ []) (h : ∀ x ∈ ns, letter x = true) : parts (pathOf ns) = ns.map fun x => [x] := by
  cases ns with
  | nil => exact absurd rfl hn
  | cons c ns =>
    have : pathOf (c :: ns) = 47 :: c :: flat ns := rfl
    rw [this]
    simp only [parts, if_pos]
    exact splitS_flat c ns h

theorem valid_path (ns : List UInt8) (h4 : ns.length ≤ 4) (h : ∀ x ∈ ns, letter x = true) : valid (pathOf ns) = true := by
  by_cases hn : ns = []
  · subst hn; rfl
  · unfold valid
    rw [parts_path ns hn h]
    have : 1 ≤ ns.length := by cases ns with | nil => exact absurd rfl hn | cons => simp
    have ha : (ns.map fun x => [x]).all nameB = true := by
      rw [List.all_map, List.all_eq_true]; intro x hx; exact h x hx
    rw [ha]
    simp [h4]
    exact .inr this

theorem pathOf_length (ns : List UInt8) : (pathOf ns).length / 2 = ns.length := by
  unfold pathOf
  split
  · rename_i h; subst h; rfl
  · rw [flat_length]; omega

theorem depth_path (ns : List UInt8) (h4 : ns.length ≤ 4) (h : ∀ x ∈ ns, letter x = true) : depth (pathOf ns) = ns.length := by
  unfold depth
  rw [if_pos (valid_path ns h4 h), pathOf_length]

theorem pathOf_inj {a b : List UInt8} (h : pathOf a = pathOf b) (ha : ∀ x ∈ a, letter x = true) (hb : ∀ x ∈ b, letter x = true) : a = b := by
  by_cases h1 : a = []
  · by_cases h2 : b = []
    · rw [h1, h2]
    · have := congrArg List.length h
      rw [h1] at this
      simp only [pathOf, if_neg h2, flat_length] at this
      simp at this; omega
  · by_cases h2 : b = []
    · have := congrArg List.length h
      rw [h2] at this
      simp only [pathOf, if_neg h1, flat_length] at this
      simp at this; omega
    · have e := parts_path a h1 ha
      rw [h, parts_path b h2 hb] at e
      have := congrArg (List.map fun l : List UInt8 => l.headD 0) e
      simpa [List.map_map, Function.comp_def] using this.symm

theorem flat_prefix {a b : List UInt8} (h : flat a <+: flat b) : a <+: b := by
  induction a generalizing b with
  | nil => exact List.nil_prefix
  | cons c a ih =>
    cases b with
    | nil => simp [flat] at h
    | cons d b =>
      simp only [flat, List.cons_prefix_cons, true_and] at h
      rw [List.cons_prefix_cons]
      exact ⟨h.1, ih h.2⟩

/-- Under: both are paths, and the letters of the first are a beginning of those of the second, which has more. -/
def under (a b : List UInt8) : Bool := valid a && valid b && ((a == [47] && !(b == [47])) || (decide (a.length < b.length) && b.take a.length == a))

theorem under_path (a b : List UInt8) (ha4 : a.length ≤ 4) (hb4 : b.length ≤ 4) (ha : ∀ x ∈ a, letter x = true) (hb : ∀ x ∈ b, letter x = true) :
    under (pathOf a) (pathOf b) = decide (a <+: b ∧ a.length < b.length) := by
  unfold under
  rw [valid_path a ha4 ha, valid_path b hb4 hb]
  simp only [Bool.true_and]
  by_cases h1 : a = []
  · subst h1
    have : pathOf [] = [47] := rfl
    rw [this]
    by_cases h2 : b = []
    · subst h2; decide
    · have h3 : pathOf b ≠ [47] := fun e => h2 (pathOf_inj (a := b) (b := []) e hb (by simp))
      have h4 : ([] : List UInt8).length < b.length := by cases b with | nil => exact absurd rfl h2 | cons => simp
      have h5 : (pathOf b == [47]) = false := by simpa using h3
      simp [h5]
      simpa using h4
  · have h3 : pathOf a ≠ [47] := fun e => h1 (pathOf_inj (a := a) (b := []) e ha (by simp))
    have h5 : (pathOf a == [47]) = false := by simpa using h3
    rw [h5]
    simp only [Bool.false_and, Bool.false_or]
    by_cases h2 : b = []
    · subst h2
      have e1 : (pathOf a).length = 2 * a.length := by simp [pathOf, h1, flat_length]
      have e2 : (pathOf []).length = 1 := rfl
      have e3 : 1 ≤ a.length := by cases a with | nil => exact absurd rfl h1 | cons => simp
      rw [e1, e2, decide_eq_false (by omega), decide_eq_false (by simp)]
      rfl
    · have e1 : pathOf a = flat a := by simp [pathOf, h1]
      have e2 : pathOf b = flat b := by simp [pathOf, h2]
      rw [e1, e2, flat_length, flat_length]
      by_cases h6 : a.length < b.length
      · rw [decide_eq_true (by omega), Bool.true_and]
        by_cases h7 : a <+: b
        · rw [decide_eq_true ⟨h7, h6⟩]
          obtain ⟨t, rfl⟩ := h7
          rw [flat_append, ← flat_length, List.take_left']
          · simp
          · rfl
        · rw [decide_eq_false (fun h => h7 h.1)]
          have : (flat b).take (2 * a.length) ≠ flat a := fun e => h7 (flat_prefix (by rw [← e]; exact List.take_prefix _ _))
          simpa using this
      · rw [decide_eq_false (by omega), decide_eq_false (fun h => h6 h.2)]
        rfl

/-- The parent of a path. -/
def parent (l : List UInt8) : List UInt8 := if depth l < 1 then [] else if l.length ≤ 2 then [47] else l.take (l.length - 2)

theorem flat_dropLast (ns : List UInt8) (h : ns ≠ []) : (flat ns).take ((flat ns).length - 2) = flat ns.dropLast := by
  have e := List.dropLast_concat_getLast h
  have : flat ns = flat ns.dropLast ++ [47, ns.getLast h] := by
    conv => lhs; rw [← e]
    rw [flat_append]; rfl
  rw [this]
  simp

theorem parent_path (ns : List UInt8) (hn : ns ≠ []) (h4 : ns.length ≤ 4) (h : ∀ x ∈ ns, letter x = true) : parent (pathOf ns) = pathOf ns.dropLast := by
  have hl : 1 ≤ ns.length := by cases ns with | nil => exact absurd rfl hn | cons => simp
  unfold parent
  rw [depth_path ns h4 h, if_neg (by omega)]
  have e1 : pathOf ns = flat ns := by simp [pathOf, hn]
  rw [e1, flat_length]
  by_cases h1 : ns.length = 1
  · rw [if_pos (by omega)]
    have : ns.dropLast = [] := by rw [← List.length_eq_zero_iff, List.length_dropLast]; omega
    rw [this]; rfl
  · rw [if_neg (by omega), ← flat_length, flat_dropLast ns hn]
    have : ns.dropLast ≠ [] := by rw [Ne, ← List.length_eq_zero_iff, List.length_dropLast]; omega
    simp [pathOf, this]

theorem parent_root : parent (pathOf []) = [] := by decide

theorem parent_bad (l : List UInt8) (h : valid l = false) : parent l = [] := by
  unfold parent depth; rw [h]; rfl

theorem pathOf_ne (ns : List UInt8) : pathOf ns ≠ [] := by
  unfold pathOf
  split
  · simp
  · cases ns with
    | nil => contradiction
    | cons => simp [flat]

/-- What parents are good for. -/
theorem parent_facts (l : List UInt8) (h : parent l ≠ []) : valid (parent l) = true ∧ depth (parent l) = depth l - 1 ∧ under (parent l) l = true ∧ under l (parent l) = false := by
  cases hv : valid l with
  | false => exact absurd (parent_bad l hv) h
  | true =>
    obtain ⟨ns, h4, hns, rfl⟩ := valid_of l hv
    by_cases hn : ns = []
    · subst hn; exact absurd parent_root h
    · have hl : 1 ≤ ns.length := by cases ns with | nil => exact absurd rfl hn | cons => simp
      have hd : ∀ x ∈ ns.dropLast, letter x = true := fun x hx => hns x (List.dropLast_subset _ hx)
      have hdl : ns.dropLast.length = ns.length - 1 := List.length_dropLast
      rw [parent_path ns hn h4 hns, valid_path _ (by omega) hd, depth_path _ (by omega) hd, depth_path _ h4 hns, under_path _ _ (by omega) h4 hd hns, under_path _ _ h4 (by omega) hns hd, hdl]
      refine ⟨rfl, by omega, decide_eq_true ⟨List.dropLast_prefix ns, by omega⟩, decide_eq_false (fun h => by omega)⟩

theorem under_facts (a b : List UInt8) (h : under a b = true) : parent b = a ∨ under a (parent b) = true := by
  have hv : valid a = true ∧ valid b = true := by
    unfold under at h
    rw [Bool.and_eq_true, Bool.and_eq_true] at h
    exact h.1
  obtain ⟨na, a4, ha, rfl⟩ := valid_of a hv.1
  obtain ⟨nb, b4, hb, rfl⟩ := valid_of b hv.2
  rw [under_path na nb a4 b4 ha hb] at h
  obtain ⟨hp, hl⟩ := of_decide_eq_true h
  have hn : nb ≠ [] := by intro e; subst e; simp at hl
  have hd : ∀ x ∈ nb.dropLast, letter x = true := fun x hx => hb x (List.dropLast_subset _ hx)
  have hdl : nb.dropLast.length = nb.length - 1 := List.length_dropLast
  rw [parent_path nb hn b4 hb, under_path na nb.dropLast a4 (by omega) ha hd]
  have hp2 : na <+: nb.dropLast := by
    refine List.prefix_of_prefix_length_le hp (List.dropLast_prefix nb) (by omega)
  by_cases he : na.length = nb.dropLast.length
  · left; rw [hp2.eq_of_length he]
  · right; exact decide_eq_true ⟨hp2, by have := hp2.length_le; omega⟩

theorem under_root (b : List UInt8) (h : valid b = true) : under [47] b = !(b == [47]) ∧ under b b = false := by
  obtain ⟨nb, b4, hb, rfl⟩ := valid_of b h
  constructor
  · have := under_path [] nb (by simp) b4 (by simp) hb
    rw [show pathOf [] = [47] from rfl] at this
    rw [this]
    by_cases hn : nb = []
    · subst hn; decide
    · have h3 : pathOf nb ≠ [47] := fun e => hn (pathOf_inj (a := nb) (b := []) e hb (by simp))
      have h4 : 0 < nb.length := by cases nb with | nil => exact absurd rfl hn | cons => simp
      have h5 : (pathOf nb == [47]) = false := by simpa using h3
      rw [h5, decide_eq_true ⟨List.nil_prefix, h4⟩]; rfl
  · rw [under_path nb nb b4 b4 hb hb]
    exact decide_eq_false (fun h => by omega)

theorem flat_last (ns : List UInt8) (h : ns ≠ []) : flat ns = flat ns.dropLast ++ [47, ns.getLast h] := by
  have e := List.dropLast_concat_getLast h
  conv => lhs; rw [← e]
  rw [flat_append]; rfl

/-- A path of two names or more ends with a slash and a letter. -/
theorem last_facts (l : List UInt8) (h : 1 ≤ depth l) : ∃ m, l.length = m + 2 ∧ l[m]? = some 47 ∧ (∃ c, l[m + 1]? = some c ∧ c ≠ 47) ∧ (parent l = if l.length ≤ 2 then [47] else l.take m) ∧ (depth l = 1 ↔ l.length ≤ 2) := by
  cases hv : valid l with
  | false => unfold depth at h; rw [hv] at h; simp at h
  | true =>
    obtain ⟨ns, h4, hns, rfl⟩ := valid_of l hv
    have hd := depth_path ns h4 hns
    rw [hd] at h
    have hn : ns ≠ [] := by intro e; subst e; simp at h
    have e1 : pathOf ns = flat ns := by simp [pathOf, hn]
    have e2 := flat_last ns hn
    have hl : (flat ns.dropLast).length + 2 = (flat ns).length := by rw [e2]; simp
    rw [hd, e1]
    refine ⟨(flat ns.dropLast).length, hl.symm, ?_, ⟨ns.getLast hn, ?_, letter_not_47 (hns _ (List.getLast_mem hn))⟩, ?_, ?_⟩
    · rw [e2]; simp
    · rw [e2]; simp
    · unfold parent
      rw [← e1, hd, if_neg (by omega)]
      rw [e1, ← hl]; simp
    · rw [flat_length]; omega

/-- What impl.PathUnder asks. -/
theorem under_impl (a b : List UInt8) : (decide (0 ≤ depth a) && (decide (depth a < depth b) && (decide (a.length ≤ b.length) && b.take a.length == a))) = under a b := by
  cases hva : valid a with
  | false =>
    have : depth a = -1 := by unfold depth; rw [hva]; rfl
    rw [this]; unfold under; rw [hva]; rfl
  | true =>
    cases hvb : valid b with
    | false =>
      have : depth b = -1 := by unfold depth; rw [hvb]; rfl
      have h2 : depth a = (a.length / 2 : Nat) := by unfold depth; rw [if_pos hva]
      rw [this, h2, decide_eq_false (p := ((a.length / 2 : Nat) : Int) < -1) (by omega)]
      unfold under; rw [hva, hvb]; simp
    | true =>
      obtain ⟨na, a4, ha, rfl⟩ := valid_of a hva
      obtain ⟨nb, b4, hb, rfl⟩ := valid_of b hvb
      rw [under_path na nb a4 b4 ha hb, depth_path na a4 ha, depth_path nb b4 hb, decide_eq_true (p := (0 : Int) ≤ na.length) (by omega), Bool.true_and]
      by_cases h6 : na.length < nb.length
      · rw [decide_eq_true (p := (na.length : Int) < nb.length) (by omega), Bool.true_and]
        have h2 : nb ≠ [] := by intro e; subst e; simp at h6
        have e2 : pathOf nb = flat nb := by simp [pathOf, h2]
        by_cases h1 : na = []
        · subst h1
          have : pathOf [] = [47] := rfl
          rw [this, e2, decide_eq_true (p := _ ∧ _) ⟨List.nil_prefix, h6⟩]
          cases nb with
          | nil => exact absurd rfl h2
          | cons c nb => simp [flat]
        · have e1 : pathOf na = flat na := by simp [pathOf, h1]
          rw [e1, e2, flat_length, flat_length, decide_eq_true (p := 2 * na.length ≤ 2 * nb.length) (by omega), Bool.true_and]
          by_cases h7 : na <+: nb
          · rw [decide_eq_true (p := _ ∧ _) ⟨h7, h6⟩]
            obtain ⟨t, rfl⟩ := h7
            rw [flat_append, ← flat_length, List.take_left']
            · simp
            · rfl
          · rw [decide_eq_false (p := _ ∧ _) (fun h => h7 h.1)]
            have : (flat nb).take (2 * na.length) ≠ flat na := fun e => h7 (flat_prefix (by rw [← e]; exact List.take_prefix _ _))
            simpa using this
      · rw [decide_eq_false (p := (na.length : Int) < nb.length) (by omega), decide_eq_false (p := _ ∧ _) (fun h => h6 h.2)]; rfl

theorem depth_facts (l : List UInt8) (hv : valid l = true) : (l = [47] → depth l = 0) ∧ (l ≠ [47] → 0 < depth l ∧ 2 * depth l = (l.length : Int) ∧ depth l ≤ 4) := by
  obtain ⟨ns, h4, hns, rfl⟩ := valid_of l hv
  rw [depth_path ns h4 hns]
  constructor
  · intro h
    have := pathOf_inj (a := ns) (b := []) h hns (by simp)
    subst this; rfl
  · intro h
    have hn : ns ≠ [] := by intro e; subst e; exact h rfl
    have : 1 ≤ ns.length := by cases ns with | nil => exact absurd rfl hn | cons => simp
    refine ⟨by omega, ?_, by omega⟩
    simp only [pathOf, if_neg hn, flat_length]
    omega

end Go.Proofs.YtkaokncaockjkaaDoor.Pm

/-
  PLAIN MATHEMATICS OF TREES: lists of nodes that ascend, what is put into them, what is under a path.
-/
namespace Go.Proofs.YtkaokncaockjkaaDoor

/-- A node: its path, and the kind and the value of its content. -/
structure Nd where
  p : ByteArray
  k : Int
  v : Int

/-- The order of texts, byte by byte. -/
def ltB (a b : ByteArray) : Bool := Op.bytesLess a.toList b.toList

theorem ltB_iff (a b : ByteArray) : ltB a b = true ↔ a.data.toList < b.data.toList := by
  unfold ltB; rw [Go.Proofs.bytesLess_eq, Lib.toList_data, Lib.toList_data]; simp

theorem ltB_irrefl (a : ByteArray) : ltB a a = false := by
  rw [Bool.eq_false_iff]; exact fun h => List.lt_irrefl _ ((ltB_iff a a).1 h)

theorem ltB_trans {a b c : ByteArray} (h : ltB a b = true) (k : ltB b c = true) : ltB a c = true :=
  (ltB_iff a c).2 (List.lt_trans ((ltB_iff a b).1 h) ((ltB_iff b c).1 k))

theorem ltB_asymm {a b : ByteArray} (h : ltB a b = true) : ltB b a = false := by
  rw [Bool.eq_false_iff]; exact fun k => List.lt_asymm ((ltB_iff a b).1 h) ((ltB_iff b a).1 k)

theorem ltB_tri {a b : ByteArray} (h : ltB a b = false) (k : ltB b a = false) : a = b := by
  have h' : ¬ a.data.toList < b.data.toList := fun x => by rw [(ltB_iff a b).2 x] at h; cases h
  have k' : ¬ b.data.toList < a.data.toList := fun x => by rw [(ltB_iff b a).2 x] at k; cases k
  have e := List.le_antisymm (List.not_lt.1 k') (List.not_lt.1 h')
  rw [← Lib.mk_data a, ← Lib.mk_data b, e]

theorem ltB_ne {a b : ByteArray} (h : ltB a b = true) : a ≠ b := fun e => by rw [e, ltB_irrefl] at h; cases h

/-- Paths ascend. -/
def Asc (ns : List Nd) : Prop := ns.Pairwise (fun x y => ltB x.p y.p = true)

def look (ns : List Nd) (p : ByteArray) : Option Nd := ns.find? (fun n => decide (n.p = p))
def getL (ns : List Nd) (p : ByteArray) : Int × Int := match look ns p with
  | some n => (n.k, n.v)
  | none => (0, 0)
def getT (ns : List Nd) (p : ByteArray) : Int × Int := if p = ⟨#[47]⟩ then (1, 0) else getL ns p

theorem look_some {ns : List Nd} {p : ByteArray} {n : Nd} (h : look ns p = some n) : n ∈ ns ∧ n.p = p :=
  ⟨List.mem_of_find?_eq_some h, by simpa using List.find?_some h⟩

theorem look_none {ns : List Nd} {p : ByteArray} : look ns p = none ↔ ∀ n ∈ ns, n.p ≠ p := by
  unfold look; rw [List.find?_eq_none]; simp

theorem asc_cons {n : Nd} {r : List Nd} : Asc (n :: r) ↔ (∀ m ∈ r, ltB n.p m.p = true) ∧ Asc r := List.pairwise_cons

theorem look_mem {ns : List Nd} (ha : Asc ns) {n : Nd} (h : n ∈ ns) : look ns n.p = some n := by
  induction ns with
  | nil => cases h
  | cons m r ih =>
    obtain ⟨h1, h2⟩ := asc_cons.1 ha
    unfold look
    rw [List.find?_cons]
    by_cases e : m.p = n.p
    · rw [decide_eq_true e]
      rcases List.mem_cons.1 h with rfl | h
      · rfl
      · exact absurd e (ltB_ne (h1 n h))
    · rw [decide_eq_false e]
      rcases List.mem_cons.1 h with rfl | h
      · exact absurd rfl e
      · exact ih h2 h

theorem look_cons_self (n : Nd) (r : List Nd) : look (n :: r) n.p = some n := by
  unfold look; rw [List.find?_cons, decide_eq_true rfl]

theorem look_cons_ne {n : Nd} {r : List Nd} {p : ByteArray} (h : n.p ≠ p) : look (n :: r) p = look r p := by
  unfold look; rw [List.find?_cons, decide_eq_false h]

theorem look_tail {n : Nd} {r : List Nd} (h : ∀ m ∈ r, ltB n.p m.p = true) : look r n.p = none :=
  look_none.2 fun m hm e => by have := ltB_ne (h m hm); exact this e.symm

/-- Trees are told by their contents. -/
theorem asc_ext : ∀ {a b : List Nd}, Asc a → Asc b → (∀ p, look a p = look b p) → a = b
  | [], [], _, _, _ => rfl
  | [], y :: b, _, _, h => by have := h y.p; rw [look_cons_self] at this; cases this
  | x :: a, [], _, _, h => by have := h x.p; rw [look_cons_self] at this; cases this
  | x :: a, y :: b, ha, hb, h => by
    obtain ⟨hx, ha'⟩ := asc_cons.1 ha
    obtain ⟨hy, hb'⟩ := asc_cons.1 hb
    have e : x.p = y.p := by
      by_cases e : x.p = y.p
      · exact e
      · have h1 : look b x.p = some x := by rw [← look_cons_ne (n := y) (fun q => e q.symm), ← h, look_cons_self]
        have h2 : look a y.p = some y := by rw [← look_cons_ne (n := x) e, h, look_cons_self]
        have l1 := hy x (look_some h1).1
        have l2 := hx y (look_some h2).1
        rw [ltB_asymm l1] at l2; cases l2
    have exy : x = y := by
      have := h x.p
      rw [look_cons_self, e, look_cons_self] at this
      exact Option.some.inj this
    subst exy
    rw [asc_ext ha' hb' (fun p => by
      by_cases q : x.p = p
      · subst q; rw [look_tail hx, look_tail hy]
      · rw [← look_cons_ne (n := x) q, h, look_cons_ne q])]

/-! ## Putting -/

/-- What l3Put makes, from a place on. -/
def putGo (p : ByteArray) (k v : Int) : Bool → List Nd → List Nd
  | done, [] => if done = true then [] else [⟨p, k, v⟩]
  | done, n :: r =>
    if done = false ∧ ltB p n.p = true then ⟨p, k, v⟩ :: (if n.p = p then putGo p k v true r else n :: putGo p k v true r)
    else if n.p = p then (if done = true then putGo p k v true r else ⟨p, k, v⟩ :: putGo p k v true r)
    else n :: putGo p k v done r

def putL (ns : List Nd) (p : ByteArray) (k v : Int) : List Nd := putGo p k v (k == 0) ns

theorem putGo_true (p : ByteArray) (k v : Int) (ns : List Nd) : putGo p k v true ns = ns.filter (fun n => decide (n.p ≠ p)) := by
  induction ns with
  | nil => rfl
  | cons n r ih =>
    unfold putGo
    rw [if_neg (by simp)]
    by_cases e : n.p = p
    · rw [if_pos e, if_pos rfl, ih, List.filter_cons_of_neg (by simpa using e)]
    · rw [if_neg e, ih, List.filter_cons_of_pos (by simpa using e)]

theorem putGo_mem (p : ByteArray) (k v : Int) (x : Nd) : ∀ ns : List Nd, x ∈ putGo p k v false ns ↔ x = ⟨p, k, v⟩ ∨ (x ∈ ns ∧ x.p ≠ p)
  | [] => by simp [putGo]
  | n :: r => by
    have ih := putGo_mem p k v x r
    unfold putGo
    rw [putGo_true]
    by_cases h : ltB p n.p = true
    · rw [if_pos ⟨rfl, h⟩]
      have e : ¬ n.p = p := fun e => ltB_ne h e.symm
      rw [if_neg e]
      simp only [List.mem_cons, List.mem_filter, decide_eq_true_eq]
      constructor
      · rintro (h1 | h1 | h1)
        · exact .inl h1
        · subst h1; exact .inr ⟨.inl rfl, e⟩
        · exact .inr ⟨.inr h1.1, h1.2⟩
      · rintro (h1 | ⟨h1 | h1, h2⟩)
        · exact .inl h1
        · exact .inr (.inl h1)
        · exact .inr (.inr ⟨h1, h2⟩)
    · rw [if_neg (fun c => h c.2)]
      by_cases e : n.p = p
      · rw [if_pos e, if_neg (by simp)]
        simp only [List.mem_cons, List.mem_filter, decide_eq_true_eq]
        constructor
        · rintro (h1 | h1)
          · exact .inl h1
          · exact .inr ⟨.inr h1.1, h1.2⟩
        · rintro (h1 | ⟨h1 | h1, h2⟩)
          · exact .inl h1
          · subst h1; exact absurd e h2
          · exact .inr ⟨h1, h2⟩
      · rw [if_neg e, List.mem_cons, ih, List.mem_cons]
        constructor
        · rintro (h1 | h1 | h1)
          · subst h1; exact .inr ⟨.inl rfl, e⟩
          · exact .inl h1
          · exact .inr ⟨.inr h1.1, h1.2⟩
        · rintro (h1 | ⟨h1 | h1, h2⟩)
          · exact .inr (.inl h1)
          · exact .inl h1
          · exact .inr (.inr ⟨h1, h2⟩)

theorem asc_filter {ns : List Nd} (h : Asc ns) (q : Nd → Bool) : Asc (ns.filter q) := List.Pairwise.filter q h

theorem putGo_asc (p : ByteArray) (k v : Int) : ∀ {ns : List Nd}, Asc ns → Asc (putGo p k v false ns)
  | [], _ => by simp [putGo, Asc]
  | n :: r, h => by
    obtain ⟨h1, h2⟩ := asc_cons.1 h
    unfold putGo
    rw [putGo_true]
    by_cases hl : ltB p n.p = true
    · rw [if_pos ⟨rfl, hl⟩, if_neg (fun e => ltB_ne hl e.symm)]
      refine asc_cons.2 ⟨fun m hm => ?_, asc_cons.2 ⟨fun m hm => h1 m (List.mem_filter.1 hm).1, asc_filter h2 _⟩⟩
      rcases List.mem_cons.1 hm with rfl | hm
      · exact hl
      · exact ltB_trans hl (h1 m (List.mem_filter.1 hm).1)
    · rw [if_neg (fun c => hl c.2)]
      by_cases e : n.p = p
      · rw [if_pos e, if_neg (by simp)]
        refine asc_cons.2 ⟨fun m hm => ?_, asc_filter h2 _⟩
        rw [← e]; exact h1 m (List.mem_filter.1 hm).1
      · rw [if_neg e]
        refine asc_cons.2 ⟨fun m hm => ?_, putGo_asc p k v h2⟩
        rcases (putGo_mem p k v m r).1 hm with rfl | hm
        · by_cases l : ltB n.p p = true
          · exact l
          · exact absurd (ltB_tri (by simpa using l) (by simpa using hl)) e
        · exact h1 m hm.1

theorem putL_mem {ns : List Nd} {p : ByteArray} {k v : Int} {x : Nd} : x ∈ putL ns p k v ↔ (k ≠ 0 ∧ x = ⟨p, k, v⟩) ∨ (x ∈ ns ∧ x.p ≠ p) := by
  unfold putL
  by_cases h : k = 0
  · rw [show (k == 0) = true by simpa using h, putGo_true]
    simp [h, List.mem_filter]
  · rw [show (k == 0) = false by simpa using h, putGo_mem]
    simp [h]

theorem putL_asc {ns : List Nd} (h : Asc ns) (p : ByteArray) (k v : Int) : Asc (putL ns p k v) := by
  unfold putL
  cases k == 0 with
  | true => rw [putGo_true]; exact asc_filter h _
  | false => exact putGo_asc p k v h

theorem look_put {ns : List Nd} (h : Asc ns) (p : ByteArray) (k v : Int) (q : ByteArray) :
    look (putL ns p k v) q = if q = p then (if k = 0 then none else some ⟨p, k, v⟩) else look ns q := by
  have ha := putL_asc h p k v
  by_cases e : q = p
  · rw [if_pos e]
    subst e
    by_cases hk : k = 0
    · rw [if_pos hk, look_none]
      intro n hn
      rcases putL_mem.1 hn with h1 | h1
      · exact absurd hk h1.1
      · exact h1.2
    · rw [if_neg hk]
      exact look_mem ha (n := ⟨q, k, v⟩) (putL_mem.2 (.inl ⟨hk, rfl⟩))
  · rw [if_neg e]
    cases hl : look ns q with
    | some n =>
      obtain ⟨h1, h2⟩ := look_some hl
      subst h2
      exact look_mem ha (putL_mem.2 (.inr ⟨h1, e⟩))
    | none =>
      rw [look_none]
      intro n hn
      rcases putL_mem.1 hn with h1 | h1
      · rw [h1.2]; exact fun x => e x.symm
      · exact look_none.1 hl n h1.1

theorem filter_length : ∀ {ns : List Nd}, Asc ns → ∀ (p : ByteArray), (ns.filter (fun n => decide (n.p ≠ p))).length + (if look ns p = none then 0 else 1) = ns.length
  | [], _, p => by simp [look]
  | n :: r, h, p => by
    obtain ⟨h1, h2⟩ := asc_cons.1 h
    by_cases e : n.p = p
    · rw [List.filter_cons_of_neg (by simpa using e)]
      subst e
      rw [look_cons_self, if_neg (by simp)]
      have := filter_length h2 n.p
      rw [look_tail h1, if_pos rfl] at this
      simp only [List.length_cons]; omega
    · rw [List.filter_cons_of_pos (by simpa using e), look_cons_ne e]
      have := filter_length h2 p
      simp only [List.length_cons]; omega

theorem putGo_length (p : ByteArray) (k v : Int) : ∀ ns : List Nd, (putGo p k v false ns).length = (ns.filter (fun n => decide (n.p ≠ p))).length + 1
  | [] => rfl
  | n :: r => by
    have ih := putGo_length p k v r
    unfold putGo
    rw [putGo_true]
    by_cases h : ltB p n.p = true
    · have e : ¬ n.p = p := fun e => ltB_ne h e.symm
      rw [if_pos ⟨rfl, h⟩, if_neg e, List.filter_cons_of_pos (by simpa using e)]
      simp
    · rw [if_neg (fun c => h c.2)]
      by_cases e : n.p = p
      · rw [if_pos e, if_neg (by simp), List.filter_cons_of_neg (by simpa using e)]
        simp
      · rw [if_neg e, List.filter_cons_of_pos (by simpa using e)]
        simp only [List.length_cons, ih]

/-- How many nodes there are behind a put. -/
theorem putL_length {ns : List Nd} (h : Asc ns) (p : ByteArray) (k v : Int) :
    (putL ns p k v).length + (if look ns p = none then 0 else 1) = ns.length + (if k = 0 then 0 else 1) := by
  have hf := filter_length h p
  unfold putL
  by_cases hk : k = 0
  · rw [show (k == 0) = true by simpa using hk, putGo_true, if_pos hk]; exact hf
  · rw [show (k == 0) = false by simpa using hk, putGo_length, if_neg hk]; omega

end Go.Proofs.YtkaokncaockjkaaDoor

/-
  Small laws of worlds that many texts use.
-/
namespace Go.Proofs.YtkaokncaockjkaaDoor
open Go.RowKit

theorem below_next {a b c : World} (h : Below a.heap.size a b) (k : Below b.heap.size b c) : Below a.heap.size a c := h.trans (k.mono h.size)

theorem cell_kept {W W' : World} {a : Addr} {v : Value} (hb : Below W.heap.size W W') (h : W.cell? a = some v) : W'.cell? a = some v := (hb.cell (World.block_lt_of_cell? W _ h)).trans h

end Go.Proofs.YtkaokncaockjkaaDoor

/-
  WALKS: the reader that draws (spec.l6Rd): l6Open, pick. For any seat.
-/
namespace Go.Proofs.YtkaokncaockjkaaDoor
open Go.RowKit
set_option linter.unusedVariables false

/-- A reader in block B: its bytes, which lie elsewhere, and its place; all of it stands in the first N0 blocks. -/
def RdAt (N0 : Nat) (W : World) (B : Nat) (p : Nat) : Prop :=
  N0 ≤ W.heap.size ∧ B < N0 ∧ ∃ (a : Option Addr) (len cap : Nat), W.cell? ⟨B, 0, none⟩ = some (.slice a len cap) ∧ W.cell? ⟨B, 1, none⟩ = some (.int .i64 p) ∧ W.frozen? ⟨B, 1, none⟩ = false ∧ len ≤ 2000 ∧ len ≤ cap ∧ cap ≤ maxLen ∧ p ≤ 30000 ∧
    (len = 0 ∨ ∃ (b off : Nat) (zs : List Int), a = some ⟨b, off, none⟩ ∧ b ≠ B ∧ b < N0 ∧ zs.length = len ∧ (∀ i, i < len → W.cell? ⟨b, off + i, none⟩ = some (.int .u8 (zs.getD i 0))) ∧ ∀ i, i < len → 0 ≤ zs.getD i 0 ∧ zs.getD i 0 ≤ 255)

theorem grownBy_trans {A B C : World} {row : Option Nat} (h : A.grownBy B row) (k : B.grownBy C row) : A.grownBy C row :=
  ⟨k.os.trans h.os, k.tape.trans h.tape, k.output.trans h.output, Nat.le_trans h.size k.size, fun i hi hr => (k.block i (Nat.lt_of_lt_of_le hi h.size) hr).trans (h.block i hi hr)⟩

theorem grownBy_setCell_at (W : World) (B o : Nat) (v : Value) : W.grownBy (W.setCell ⟨B, o, none⟩ v) (some B) :=
  ⟨rfl, rfl, rfl, by simp [World.setCell], fun k _ hk => Below.heap_setCell _ _ _ _ (fun e => hk (by rw [e]))⟩

theorem RdAt.bump {N0 : Nat} {W : World} {B p : Nat} (h : RdAt N0 W B p) (hp : p < 30000) : RdAt N0 (W.setCell ⟨B, 1, none⟩ (.int .i64 ((p : Int) + 1))) B (p + 1) := by
  obtain ⟨hN, hB, a, len, cap, c0, c1, f1, hl, hlc, hcm, hp1, hrow⟩ := h
  refine ⟨by simpa [World.setCell] using hN, hB, a, len, cap, ?_, ?_, ?_, hl, hlc, hcm, by omega, ?_⟩
  · rw [World.cell?_setCell_other _ _ _ _ (by simp)]; exact c0
  · have := World.cell?_setCell_same W ⟨B, 1, none⟩ (.int .i64 ((p : Int) + 1)) c1
    rw [this]; rfl
  · rw [World.frozen?_setCell]; exact f1
  · rcases hrow with h0 | ⟨b, off, zs, ha, hb, hbN, hzl, hc, hw⟩
    · exact .inl h0
    · refine .inr ⟨b, off, zs, ha, hb, hbN, hzl, fun i hi => ?_, hw⟩
      rw [World.cell?_setCell_other _ _ _ _ (fun e => hb (congrArg Addr.block e).symm)]
      exact hc i hi

theorem RdAt.drew {N0 : Nat} {W : World} {B p : Nat} (h : RdAt N0 W B p) : RdAt N0 W.drew B p := h

theorem bits_xor_i64_nat (a b : Nat) (ha : a < 4611686018427387904) (hb : b < 4611686018427387904) :
    bits .xor .i64 (a : Int) (b : Int) = ((a ^^^ b : Nat) : Int) := by
  have hx : a ^^^ b < 2 ^ 62 := Nat.xor_lt_two_pow (by omega) (by omega)
  have h1 : (BitVec.ofInt 64 (a : Int)).toNat = a := by
    rw [BitVec.ofInt_natCast, BitVec.toNat_ofNat]; exact Nat.mod_eq_of_lt (by omega)
  have h2 : (BitVec.ofInt 64 (b : Int)).toNat = b := by
    rw [BitVec.ofInt_natCast, BitVec.toNat_ofNat]; exact Nat.mod_eq_of_lt (by omega)
  show IntKind.i64.wrap ((BitVec.ofInt 64 (a : Int) ^^^ BitVec.ofInt 64 (b : Int)).toNat : Int) = _
  rw [BitVec.toNat_xor, h1, h2, IntKind.wrap_i64]
  omega

theorem xor_shift_nonneg (x : Int) (h0 : 0 ≤ x) (h1 : x ≤ 100000000) : 0 ≤ bits .xor .i64 x (x / 64) := by
  obtain ⟨k, rfl⟩ := Int.eq_ofNat_of_zero_le h0
  have d : ((k : Int) / 64) = ((k / 64 : Nat) : Int) := by simp
  rw [d, bits_xor_i64_nat _ _ (by omega) (by omega)]
  omega

def PickPost (N0 B p : Nat) (n : Int) (W : World) (e : Ending) (W' : World) : Prop :=
  ∃ r : Int, e = .returned (.int .i64 r) ∧ 0 ≤ r ∧ r < n ∧ RdAt N0 W' B (p + 1) ∧ W.grownBy W' (some B)

theorem pick_end {N0 B p : Nat} {n : Int} {W : World} (hR : RdAt N0 W B p) (hp : p < 30000) (r : Int) (h0 : 0 ≤ r) (h1 : r < n) :
    PickPost N0 B p n W (.returned (.int .i64 r)) (W.setCell ⟨B, 1, none⟩ (.int .i64 ((p : Int) + 1))) :=
  ⟨r, rfl, h0, h1, hR.bump hp, grownBy_setCell_at _ _ _ _⟩

theorem drewN_cell (W : World) : ∀ (n : Nat) (a : Addr), (W.drewN n).cell? a = W.cell? a ∧ (W.drewN n).frozen? a = W.frozen? a ∧ (W.drewN n).heap = W.heap
  | 0, _ => ⟨rfl, rfl, rfl⟩
  | n + 1, a => drewN_cell W.drew n a

theorem RdAt.drewN {N0 : Nat} {W : World} {B p : Nat} (n : Nat) (h : RdAt N0 W B p) : RdAt N0 (W.drewN n) B p := by
  obtain ⟨hN, hB, a, len, cap, c0, c1, f1, hl, hlc, hcm, hp1, hrow⟩ := h
  refine ⟨by rw [(drewN_cell W n ⟨0, 0, none⟩).2.2]; exact hN, hB, a, len, cap, (drewN_cell W n _).1.trans c0, (drewN_cell W n _).1.trans c1, (drewN_cell W n _).2.1.trans f1, hl, hlc, hcm, hp1, ?_⟩
  rcases hrow with h0 | ⟨b, off, zs, ha, hb, hbN, hzl, hc, hw⟩
  · exact .inl h0
  · exact .inr ⟨b, off, zs, ha, hb, hbN, hzl, fun i hi => (drewN_cell W n _).1.trans (hc i hi), hw⟩

theorem grownBy_drewN {W W' : World} {row : Option Nat} (h : W.grownBy W' row) (n : Nat) : W.grownBy (W'.drewN n) row :=
  ⟨h.os, h.tape, h.output, h.size, h.block⟩

theorem pick_end_drew {N0 B p : Nat} {n : Int} {W : World} (nq : Nat) (hR : RdAt N0 W B p) (hp : p < 30000) (r : Int) (h0 : 0 ≤ r) (h1 : r < n) :
    PickPost N0 B p n W (.returned (.int .i64 r)) ((W.setCell ⟨B, 1, none⟩ (.int .i64 ((p : Int) + 1))).drewN nq) :=
  ⟨r, rfl, h0, h1, (hR.bump hp).drewN nq, grownBy_drewN (grownBy_setCell_at _ _ _ _) nq⟩

set_option maxHeartbeats 1000000 in
set_option maxRecDepth 100000 in
theorem pick_c (N0 B p : Nat) (n : Int) (hn : 1 ≤ n) (hn2 : n ≤ 30000) (W : World) (hp : p < 30000) (hR : RdAt N0 W B p) :
    Calls Tryd.prog 47 #[.pointer (some ⟨B, 0, none⟩), .int .i64 n] W (PickPost N0 B p n W) := by
  have HR := Lib.hid hR
  obtain ⟨hN, hB, a, len, cap, c0, c1, f1, hl, hlc, hcm, hp1, hrow⟩ := hR
  clear hN hB
  by_cases h0 : len = 0
  · subst h0
    clear hrow
    go_enter Tryd.func47, Tryd.ntmps47
    go_wp2
    go_ret
    exact pick_end HR.out hp 0 (by omega) (by omega)
  · rcases hrow with h | ⟨b, off, zs, rfl, hb, hbN, hzl, hc, hw⟩
    · exact absurd h h0
    clear hbN
    have e1 : ((len : Int) == 0) = false := beq_eq_false_iff_ne.2 (by omega)
    by_cases hk : p < len
    · have hcp := hc p hk
      have hwp := hw p hk
      obtain ⟨z, hzz⟩ : ∃ z, zs.getD p 0 = z := ⟨_, rfl⟩
      rw [hzz] at hcp hwp
      obtain ⟨z0, z1⟩ := hwp
      clear hc hw hzz h0 hzl
      go_enter Tryd.func47, Tryd.ntmps47
      go_wp2
      go_ret
      exact pick_end HR.out hp _ (Int.emod_nonneg _ (by omega)) (Int.emod_lt_of_pos _ (by omega))
    · have hk1 : len ≤ p := by omega
      have hi1 : p % len < len := Nat.mod_lt _ (by omega)
      have hi2 : (p * 7 + 3) % len < len := Nat.mod_lt _ (by omega)
      have hcp := hc _ hi1
      have hwp := hw _ hi1
      have hcq := hc _ hi2
      have hwq := hw _ hi2
      obtain ⟨z, hzz⟩ : ∃ z, zs.getD (p % len) 0 = z := ⟨_, rfl⟩
      obtain ⟨y, hyy⟩ : ∃ z, zs.getD ((p * 7 + 3) % len) 0 = z := ⟨_, rfl⟩
      rw [hzz] at hcp hwp
      rw [hyy] at hcq hwq
      obtain ⟨z0, z1⟩ := hwp
      obtain ⟨y0, y1⟩ := hwq
      have l1 : (1 : Int) ≤ len := by omega
      have d1 : (0 : Int) ≤ (p : Int) % len := Int.emod_nonneg _ (by omega)
      have d2 : (p : Int) % len < len := Int.emod_lt_of_pos _ (by omega)
      have d3 : ((p : Int) % len).toNat = p % len := by rw [← Int.natCast_emod]; rfl
      have d4 : (0 : Int) ≤ ((p : Int) * 7 + 3) % len := Int.emod_nonneg _ (by omega)
      have d5 : ((p : Int) * 7 + 3) % len < len := Int.emod_lt_of_pos _ (by omega)
      have d6 : (((p : Int) * 7 + 3) % len).toNat = (p * 7 + 3) % len := by
        have : ((p : Int) * 7 + 3) % len = (((p * 7 + 3) % len : Nat) : Int) := by simp
        rw [this]; rfl
      have q0 : (0 : Int) ≤ (p : Int) / len := Int.ediv_nonneg (by omega) (by omega)
      have q1 : (p : Int) / len ≤ p := Int.ediv_le_self _ (by omega)
      have w1 : IntKind.i64.wrap (z * 131) = z * 131 := IntWalk.i64_in _ (by omega)
      have w2 : IntKind.i64.wrap ((p : Int) * 7) = (p : Int) * 7 := IntWalk.i64_in _ (by omega)
      have w3 : IntKind.i64.wrap ((p : Int) * 7 + 3) = (p : Int) * 7 + 3 := IntWalk.i64_in _ (by omega)
      have w4 : IntKind.i64.wrap (y * 1117) = y * 1117 := IntWalk.i64_in _ (by omega)
      have w5 : IntKind.i64.wrap (z * 131 + y * 1117) = z * 131 + y * 1117 := IntWalk.i64_in _ (by omega)
      have w6 : IntKind.i64.wrap ((p : Int) * 29) = (p : Int) * 29 := IntWalk.i64_in _ (by omega)
      have w7 : IntKind.i64.wrap (z * 131 + y * 1117 + (p : Int) * 29) = z * 131 + y * 1117 + (p : Int) * 29 := IntWalk.i64_in _ (by omega)
      have w8 : IntKind.i64.wrap ((p : Int) / len * 53) = (p : Int) / len * 53 := IntWalk.i64_in _ (by omega)
      have w9 : IntKind.i64.wrap (z * 131 + y * 1117 + (p : Int) * 29 + (p : Int) / len * 53) = z * 131 + y * 1117 + (p : Int) * 29 + (p : Int) / len * 53 := IntWalk.i64_in _ (by omega)
      have hx : (0 : Int) ≤ z * 131 + y * 1117 + (p : Int) * 29 + (p : Int) / len * 53 := by omega
      clear hc hw hzz hyy h0 hzl hk
      go_enter Tryd.func47, Tryd.ntmps47
      go_wp2
      go_quiet (fail)
      have hx2 : z * 131 + y * 1117 + (p : Int) * 29 + (p : Int) / len * 53 ≤ 100000000 := by omega
      clear w1 w2 w3 w4 w5 w6 w7 w8 w9 d1 d2 d3 d4 d5 d6 q0 q1
      generalize z * 131 + y * 1117 + (p : Int) * 29 + (p : Int) / len * 53 = x at *
      go_wp2
      go_ret
      have hv := xor_shift_nonneg x hx hx2
      rw [Int.tmod_eq_emod_of_nonneg hv]
      exact pick_end_drew nq HR.out hp _ (Int.emod_nonneg _ (by omega)) (Int.emod_lt_of_pos _ (by omega))

theorem RdAt.kept {N0 : Nat} {W W' : World} {B p : Nat} (h : RdAt N0 W B p) (hg : Below N0 W W') : RdAt N0 W' B p := by
  obtain ⟨hN, hB, a, len, cap, c0, c1, f1, hl, hlc, hcm, hp1, hrow⟩ := h
  refine ⟨Nat.le_trans hN hg.size, hB, a, len, cap, (hg.cell (p := ⟨B, 0, none⟩) hB).trans c0, (hg.cell (p := ⟨B, 1, none⟩) hB).trans c1, (World.frozen?_of_block (hg.block B hB)).trans f1, hl, hlc, hcm, hp1, ?_⟩
  rcases hrow with h0 | ⟨b, off, zs, ha, hb, hbN, hzl, hc, hw⟩
  · exact .inl h0
  · exact .inr ⟨b, off, zs, ha, hb, hbN, hzl, fun i hi => (hg.cell (p := ⟨b, off + i, none⟩) hbN).trans (hc i hi), hw⟩

theorem RdAt.lt {N0 : Nat} {W : World} {B p : Nat} (h : RdAt N0 W B p) : B < W.heap.size := Nat.lt_of_lt_of_le h.2.1 h.1
theorem RdAt.le {N0 : Nat} {W : World} {B p : Nat} (h : RdAt N0 W B p) : N0 ≤ W.heap.size := h.1
/-- Kept where all that stood is kept. -/
theorem RdAt.keep {N0 : Nat} {W W' : World} {B p : Nat} (h : RdAt N0 W B p) (hg : Below W.heap.size W W') : RdAt N0 W' B p := h.kept (hg.mono h.1)

theorem grownBy_none {W W' : World} (h : W.grownBy W' none) (row : Option Nat) : W.grownBy W' row := ⟨h.os, h.tape, h.output, h.size, fun k hk _ => h.block k hk (by simp)⟩

theorem below_grown {W W' : World} (h : Below W.heap.size W W') : W.grownBy W' none := ⟨h.os, h.tape, h.output, h.size, fun k hk _ => h.block k hk⟩

/-- What the walk is told of the code: it is nil; or it leads to a row of cells. -/
def IsRow (k : IntKind) (w : World) (a : Option Addr) (len cap : Nat) (zs : List Int) : Prop :=
  (a = none ∧ len = 0 ∧ cap = 0 ∧ zs = []) ∨
  ∃ x, a = some x ∧ len ≤ cap ∧ cap ≤ maxLen ∧ zs.length = cap ∧ (∀ i, i < zs.length → w.cell? (x.add i) = some (.int k (zs.getD i 0))) ∧ ∀ n ∈ zs, (Lit.int k n).wf = true

theorem u8_bounds {n : Int} (h : (Lit.int .u8 n).wf = true) : 0 ≤ n ∧ n ≤ 255 := by
  simpa [Lit.wf, IntKind.min, IntKind.max, IntKind.signed, IntKind.bits] using h

theorem addr_add (b off i : Nat) : (⟨b, off, none⟩ : Addr).add i = ⟨b, off + i, none⟩ := by
  unfold Addr.add; split <;> simp_all

/-- A new reader. -/
def OpenPost (W : World) (e : Ending) (W' : World) : Prop :=
  e = .returned (.pointer (some ⟨W.heap.size, 0, none⟩)) ∧ RdAt (W.heap.size + 1) W' W.heap.size 0 ∧ Below W.heap.size W W'

theorem rd_new (W : World) (a : Option Addr) (len cap : Nat) (hl : len ≤ 2000) (hlc : len ≤ cap) (hcm : cap ≤ maxLen)
    (h : len = 0 ∨ ∃ (b off : Nat) (zs : List Int), a = some ⟨b, off, none⟩ ∧ zs.length = len ∧ (∀ i, i < len → W.cell? ⟨b, off + i, none⟩ = some (.int .u8 (zs.getD i 0))) ∧ ∀ i, i < len → 0 ≤ zs.getD i 0 ∧ zs.getD i 0 ≤ 255) (t : TypeId) :
    RdAt (W.heap.size + 1) (W.alloc (.cells #[.slice a len cap, .int .i64 0] t)) W.heap.size 0 := by
  refine ⟨by simp, by omega, a, len, cap, ?_, ?_, ?_, hl, hlc, hcm, by omega, ?_⟩
  · rw [World.cell?_alloc_new]; rfl
  · rw [World.cell?_alloc_new]; rfl
  · have hnew := World.alloc_heap_new W (.cells #[.slice a len cap, .int .i64 0] t)
    simp only [World.frozen?, hnew]; rfl
  · by_cases hz : len = 0
    · exact .inl hz
    · rcases h with h0 | ⟨b, off, zs, ha, hzl, hc, hw⟩
      · exact .inl h0
      · have hb : b < W.heap.size := World.block_lt_of_cell? W _ (hc 0 (by omega))
        refine .inr ⟨b, off, zs, ha, by omega, by omega, hzl, fun i hi => ?_, hw⟩
        rw [World.cell?_alloc_lt W _ _ hb]
        exact hc i hi

set_option maxHeartbeats 1000000 in
theorem l6Open_c (a : Option Addr) (len cap : Nat) (zs : List Int) (W : World) (h : IsRow .u8 W a len cap zs) :
    Calls Tryd.prog 27 #[.slice a len cap] W (OpenPost W) := by
  rcases h with ⟨rfl, rfl, rfl, rfl⟩ | ⟨x, rfl, hlc, hcm, hz, hc, hw⟩
  · have HN := Lib.hid (rd_new W none 0 0 (by omega) (by omega) (by simp [maxLen]) (.inl rfl))
    go_enter Tryd.func27, Tryd.ntmps27
    go_wp2
    go_ret
    exact ⟨rfl, HN.out _, (Below.refl _ _).alloc (Nat.le_refl _) _⟩
  · have hspot : len = 0 ∨ ∃ b off, x = ⟨b, off, none⟩ := by
      by_cases h0 : len = 0
      · exact .inl h0
      · have := World.cell?_spot (hc 0 (by omega))
        obtain ⟨b, off, spot⟩ := x
        have hs : spot = none := by simpa [Addr.add] using this
        exact .inr ⟨b, off, by rw [hs]⟩
    have key : ∀ (m : Nat), m ≤ len → m ≤ 2000 → ∀ t, RdAt (W.heap.size + 1) (W.alloc (.cells #[.slice (some x) m cap, .int .i64 0] t)) W.heap.size 0 := by
      intro m hm hm2 t
      refine rd_new W (some x) m cap hm2 (by omega) hcm ?_ t
      rcases hspot with h0 | ⟨b, off, rfl⟩
      · exact .inl (by omega)
      · refine .inr ⟨b, off, zs.take m, rfl, by rw [List.length_take]; omega, fun i hi => ?_, fun i hi => ?_⟩
        · have := hc i (by omega)
          rw [addr_add] at this
          rw [List.getD_eq_getElem?_getD, List.getElem?_take_of_lt hi, ← List.getD_eq_getElem?_getD]
          exact this
        · rw [List.getD_eq_getElem?_getD, List.getElem?_take_of_lt hi, ← List.getD_eq_getElem?_getD]
          have hi2 : i < zs.length := by omega
          refine u8_bounds (hw _ ?_)
          rw [List.getD_eq_getElem?_getD, List.getElem?_eq_getElem hi2]
          exact List.getElem_mem hi2
    have KEY := Lib.hid key
    clear key hspot hw hc hz
    unfold maxLen at hcm
    by_cases h2 : len ≤ 2000
    · have h2' : (len : Int) ≤ 2000 := by omega
      have HK := Lib.hid (KEY.out len (by omega) h2)
      clear h2
      go_enter Tryd.func27, Tryd.ntmps27
      go_wp2
      go_ret
      exact ⟨rfl, HK.out _, (Below.refl _ _).alloc (Nat.le_refl _) _⟩
    · have h2' : (2000 : Int) < len := by omega
      have h3' : (2000 : Int) ≤ cap := by omega
      have HK := Lib.hid (KEY.out 2000 (by omega) (by omega))
      clear h2
      go_enter Tryd.func27, Tryd.ntmps27
      go_wp2
      go_ret
      exact ⟨rfl, HK.out _, (Below.refl _ _).alloc (Nat.le_refl _) _⟩

/-- A drawn text. -/
def DrawPost (m : Nat) (W : World) (e : Ending) (W' : World) : Prop :=
  ∃ s : ByteArray, e = .returned (.string s) ∧ s.size ≤ m ∧ Below W.heap.size W W'

theorem below_of_reader {W W1 W2 : World} (hB : Below W.heap.size W W1) (hg : W1.grownBy W2 (some W.heap.size)) : Below W.heap.size W W2 :=
  hB.grown hg hB.size (fun k e => by cases e; exact Nat.le_refl _)

theorem below_of_eq {a b : World} (h : b = a) : Below a.heap.size a b := by subst h; exact Below.refl _ _

theorem grownBy_below {W W' W2 : World} {row : Option Nat} (h : W.grownBy W' row) (k : Below W'.heap.size W' W2) : W.grownBy W2 row :=
  grownBy_trans h (grownBy_none (below_grown k) row)

/-- A store into a block that the call has made. -/
theorem grownBy_setCell_new {W W' : World} {row : Option Nat} (h : W.grownBy W' row) (a : Addr) (v : Value) (ha : W.heap.size ≤ a.block) : W.grownBy (W'.setCell a v) row :=
  ⟨h.os, h.tape, h.output, by simpa [World.setCell] using h.size, fun k hk hr => (Below.heap_setCell _ _ _ _ (by omega)).trans (h.block k hk hr)⟩

theorem RdAt.setNew {N0 : Nat} {W : World} {B p : Nat} (h : RdAt N0 W B p) (a : Addr) (v : Value) (ha : N0 ≤ a.block) : RdAt N0 (W.setCell a v) B p :=
  h.kept ⟨rfl, rfl, rfl, by simp [World.setCell], fun k hk => Below.heap_setCell _ _ _ _ (by omega)⟩

theorem RdAt.alloc {N0 : Nat} {W : World} {B p : Nat} (h : RdAt N0 W B p) (o : Obj) : RdAt N0 (W.alloc o) B p := h.keep ((Below.refl _ _).alloc (Nat.le_refl _) _)

theorem grownBy_new (W : World) (o : Obj) (row : Option Nat) : W.grownBy (W.alloc o) row := World.grownBy_alloc W _ row

theorem IsRow.keep {k : IntKind} {w w' : World} {a : Option Addr} {len cap : Nat} {zs : List Int} (h : IsRow k w a len cap zs) (hb : Below w.heap.size w w') : IsRow k w' a len cap zs := by
  rcases h with h | ⟨x, rfl, h1, h2, h3, h4, h5⟩
  · exact .inl h
  · exact .inr ⟨x, rfl, h1, h2, h3, fun i hi => (hb.cell (World.block_lt_of_cell? w _ (h4 i hi))).trans (h4 i hi), h5⟩

theorem IsRow.alloc {k : IntKind} {w : World} {a : Option Addr} {len cap : Nat} {zs : List Int} (h : IsRow k w a len cap zs) (o : Obj) : IsRow k (w.alloc o) a len cap zs := h.keep ((Below.refl _ _).alloc (Nat.le_refl _) _)

/-- A store into a block above. -/
theorem below_setCell {n : Nat} {W W' : World} (h : Below n W W') (a : Addr) (v : Value) (ha : n ≤ a.block) : Below n W (W'.setCell a v) :=
  ⟨h.os, h.tape, h.output, by simpa [World.setCell] using h.size, fun k hk => (Below.heap_setCell _ _ _ _ (by omega)).trans (h.block k hk)⟩

theorem below_box (W : World) (o : Obj) : Below W.heap.size W (W.alloc o) := (Below.refl _ _).alloc (Nat.le_refl _) _

/-- A box that was made first still holds what it held. -/
theorem box_cell {w W' : World} {cs : Array Value} {t : TypeId} (h : Below (w.alloc (.cells cs t)).heap.size (w.alloc (.cells cs t)) W') (i : Nat) : W'.cell? ⟨w.heap.size, i, none⟩ = cs[i]? :=
  (h.cell (p := ⟨w.heap.size, i, none⟩) (by simp)).trans (World.cell?_alloc_new _ _ _ _)

end Go.Proofs.YtkaokncaockjkaaDoor

/-
  What most contracts end in.
-/
namespace Go.Proofs.YtkaokncaockjkaaDoor
open Go.RowKit

/-- A bool, and nothing that was there has turned. -/
def BoolPost (b : Bool) (w : World) (e : Ending) (w' : World) : Prop := e = .returned (.bool b) ∧ Below w.heap.size w w'

end Go.Proofs.YtkaokncaockjkaaDoor

/-
  WALKS: contents: spec.l6In, spec.ContentValid. For any seat.
-/
namespace Go.Proofs.YtkaokncaockjkaaDoor
open Go.RowKit
set_option linter.unusedVariables false

/-- A content as a value. -/
abbrev con (k v : Int) : Value := .agg #[.int .i64 k, .int .i64 v]

def validB (k v : Int) : Bool := decide (v = 0 ∧ (k = 0 ∨ k = 1) ∨ k = 2 ∧ 0 ≤ v ∧ v ≤ 99)

/-- A content, and nothing that was there has turned. -/
def ConRet (k v : Int) (w : World) (e : Ending) (w' : World) : Prop := e = .returned (con k v) ∧ Below w.heap.size w w'

theorem bool_post {a b : Bool} (w : World) (o : Obj) (h : a = b) : BoolPost b w (.returned (.bool a)) (w.alloc o) := ⟨by rw [h], below_box _ _⟩

set_option maxHeartbeats 400000 in
theorem specConValid_c (k v : Int) (w : World) : Calls Tryd.prog 56 #[con k v] w (BoolPost (validB k v) w) := by
  unfold con
  by_cases hv : v = 0
  · subst hv
    by_cases h0 : k = 0
    · subst h0
      go_enter Tryd.func56, Tryd.ntmps56
      go_wp2
      go_ret
      exact bool_post _ _ rfl
    · by_cases h1 : k = 1
      · subst h1
        go_enter Tryd.func56, Tryd.ntmps56
        go_wp2
        go_ret
        exact bool_post _ _ rfl
      · have b0 : (k == 0) = false := beq_eq_false_iff_ne.2 h0
        have b1 : (k == 1) = false := beq_eq_false_iff_ne.2 h1
        by_cases h2 : k = 2
        · subst h2
          go_enter Tryd.func56, Tryd.ntmps56
          go_wp2
          go_ret
          exact bool_post _ _ rfl
        · have H := Lib.hid (show false = validB k 0 by simp [validB, h0, h1, h2])
          have b2 : (k == 2) = false := beq_eq_false_iff_ne.2 h2
          clear h0 h1 h2
          go_enter Tryd.func56, Tryd.ntmps56
          go_wp2
          go_ret
          exact bool_post _ _ H.out
  · have bv : (v == 0) = false := beq_eq_false_iff_ne.2 hv
    by_cases h2 : k = 2
    · subst h2
      have H := Lib.hid (show decide (0 ≤ v ∧ v ≤ 99) = validB 2 v by simp [validB])
      by_cases h0 : 0 ≤ v
      · by_cases h9 : v ≤ 99
        · have H := Lib.hid (show true = validB 2 v by simp [validB, h0, h9])
          have d0 : decide (0 ≤ v) = true := decide_eq_true h0
          have d9 : decide (v ≤ 99) = true := decide_eq_true h9
          clear hv h0 h9
          go_enter Tryd.func56, Tryd.ntmps56
          go_wp2
          go_ret
          exact bool_post _ _ H.out
        · have H := Lib.hid (show false = validB 2 v by simp [validB, hv, h9])
          have d0 : decide (0 ≤ v) = true := decide_eq_true h0
          have d9 : decide (v ≤ 99) = false := decide_eq_false h9
          clear hv h0 h9
          go_enter Tryd.func56, Tryd.ntmps56
          go_wp2
          go_ret
          exact bool_post _ _ H.out
      · have H := Lib.hid (show false = validB 2 v by simp [validB, hv, h0])
        have d0 : decide (0 ≤ v) = false := decide_eq_false h0
        clear hv h0
        go_enter Tryd.func56, Tryd.ntmps56
        go_wp2
        go_ret
        exact bool_post _ _ H.out
    · have H := Lib.hid (show false = validB k v by simp [validB, hv, h2])
      have b2 : (k == 2) = false := beq_eq_false_iff_ne.2 h2
      clear hv h2
      go_enter Tryd.func56, Tryd.ntmps56
      go_wp2
      go_ret
      exact bool_post _ _ H.out

end Go.Proofs.YtkaokncaockjkaaDoor

/-
  PLAIN MATHEMATICS OF TREES, more: valid trees, and what the document promises of them.
-/
namespace Go.Proofs.YtkaokncaockjkaaDoor

def parB (s : ByteArray) : ByteArray := ⟨⟨Pm.parent s.data.toList⟩⟩
def depB (s : ByteArray) : Int := Pm.depth s.data.toList
def vpB (s : ByteArray) : Bool := Pm.valid s.data.toList
def undB (a b : ByteArray) : Bool := Pm.under a.data.toList b.data.toList
def rootB : ByteArray := ⟨#[47]⟩

/-- What is asked of the node at a place. -/
def okAt (ns : List Nd) (i : Nat) : Bool := match ns[i]? with
  | none => true
  | some n => decide (1 ≤ depB n.p) && validB n.k n.v && !(n.k == 0) && (match i with | 0 => true | j + 1 => (match ns[j]? with | some m => ltB m.p n.p | none => true)) && ((getT ns (parB n.p)).1 == 1)

/-- spec.TreeValid. -/
def validT (ns : List Nd) : Bool := (List.range ns.length).all (okAt ns) && decide (ns.length ≤ 10)

/-- What a node is in a tree. -/
def Good (ns : List Nd) (n : Nd) : Prop := 1 ≤ depB n.p ∧ validB n.k n.v = true ∧ n.k ≠ 0 ∧ (getT ns (parB n.p)).1 = 1

theorem asc_iff (ns : List Nd) : Asc ns ↔ ∀ j m n, ns[j]? = some m → ns[j + 1]? = some n → ltB m.p n.p = true := by
  constructor
  · intro h j m n hm hn
    obtain ⟨h1, e1⟩ := List.getElem?_eq_some_iff.1 hm
    obtain ⟨h2, e2⟩ := List.getElem?_eq_some_iff.1 hn
    have := List.pairwise_iff_getElem.1 h j (j + 1) h1 h2 (by omega)
    rw [e1, e2] at this; exact this
  · intro h
    induction ns with
    | nil => exact List.Pairwise.nil
    | cons x r ih =>
      have hr : Asc r := ih (fun j m n hm hn => h (j + 1) m n (by simpa using hm) (by simpa using hn))
      refine asc_cons.2 ⟨fun m hm => ?_, hr⟩
      cases r with
      | nil => cases hm
      | cons y r =>
        have hxy := h 0 x y rfl rfl
        rcases List.mem_cons.1 hm with rfl | hm
        · exact hxy
        · exact ltB_trans hxy ((asc_cons.1 hr).1 m hm)

theorem validT_iff (ns : List Nd) : validT ns = true ↔ Asc ns ∧ (∀ n ∈ ns, Good ns n) ∧ ns.length ≤ 10 := by
  unfold validT
  rw [Bool.and_eq_true, List.all_eq_true, decide_eq_true_eq]
  constructor
  · rintro ⟨h, hl⟩
    have h' : ∀ (i : Nat) (n : Nd), ns[i]? = some n → okAt ns i = true := fun i n hn => h i (List.mem_range.2 (List.getElem?_eq_some_iff.1 hn).1)
    refine ⟨(asc_iff ns).2 fun j m n hm hn => ?_, fun n hn => ?_, hl⟩
    · have := h' (j + 1) n hn
      unfold okAt at this
      rw [hn] at this
      simp only [hm] at this
      simp only [Bool.and_eq_true] at this
      exact this.1.2
    · obtain ⟨i, hi⟩ := List.getElem?_of_mem hn
      have := h' i n hi
      unfold okAt at this
      rw [hi] at this
      simp only [Bool.and_eq_true, decide_eq_true_eq] at this
      exact ⟨this.1.1.1.1, this.1.1.1.2, by simpa using this.1.1.2, by simpa using this.2⟩
  · rintro ⟨ha, hg, hl⟩
    refine ⟨fun i hi => ?_, hl⟩
    obtain ⟨n, hn⟩ : ∃ n, ns[i]? = some n := ⟨_, List.getElem?_eq_getElem (List.mem_range.1 hi)⟩
    obtain ⟨g1, g2, g3, g4⟩ := hg n (List.mem_of_getElem? hn)
    unfold okAt
    rw [hn]
    simp only [Bool.and_eq_true, decide_eq_true_eq]
    refine ⟨⟨⟨⟨g1, g2⟩, by simpa using g3⟩, ?_⟩, by simpa using g4⟩
    cases i with
    | zero => rfl
    | succ j =>
      cases hm : ns[j]? with
      | none => simp [hm]
      | some m => simpa [hm] using (asc_iff ns).1 ha j m n hm hn

/-- spec.TreeGet. -/
def treeGet (ns : List Nd) (p : ByteArray) : Int × Int := if (validT ns && vpB p) = true then getT ns p else (0, 0)
/-- spec.TreePut. -/
def treePut (ns : List Nd) (p : ByteArray) (k v : Int) : Option (List Nd) :=
  if (validT ns && decide (1 ≤ depB p) && validB k v) = true then (if validT (putL ns p k v) = true then some (putL ns p k v) else none) else none
/-- spec.TreeUnder. -/
def treeUnder (ns : List Nd) (p : ByteArray) : List ByteArray := if (validT ns && vpB p) = true then (ns.filter (fun n => undB p n.p)).map Nd.p else []

/-! ## Paths -/

theorem parB_valid {p : ByteArray} (h : 1 ≤ depB p) : vpB (parB p) = true ∧ depB (parB p) = depB p - 1 ∧ undB (parB p) p = true ∧ undB p (parB p) = false := by
  have hne : Pm.parent p.data.toList ≠ [] := by
    unfold Pm.parent
    rw [if_neg (by unfold depB at h; omega)]
    split
    · simp
    · rename_i hl
      intro e
      have := congrArg List.length e
      rw [List.length_take] at this
      simp only [List.length_nil] at this
      omega
  exact Pm.parent_facts p.data.toList hne

theorem vp_of_depth {p : ByteArray} (h : 1 ≤ depB p) : vpB p = true := by
  unfold depB Pm.depth at h
  unfold vpB
  split at h
  · assumption
  · omega

theorem depth_root_B : depB rootB = 0 := by decide

theorem root_of_depth {p : ByteArray} (hv : vpB p = true) (h : ¬ 1 ≤ depB p) : p = rootB := by
  have := Pm.depth_facts p.data.toList hv
  by_cases e : p.data.toList = [47]
  · rw [← Lib.mk_data p, e]; rfl
  · exact absurd (by have := (this.2 e).1; unfold depB; omega) h

theorem getT_root (ns : List Nd) : getT ns rootB = (1, 0) := by unfold getT; exact if_pos rfl
theorem getT_other {ns : List Nd} {p : ByteArray} (h : 1 ≤ depB p) : getT ns p = getL ns p := by
  unfold getT
  rw [if_neg (fun e => by rw [e] at h; exact absurd h (by decide))]

theorem und_depth {a b : ByteArray} (h : undB a b = true) : vpB a = true ∧ 1 ≤ depB b ∧ depB a < depB b := by
  unfold undB Pm.under at h
  have h1 : Pm.valid a.data.toList = true ∧ Pm.valid b.data.toList = true := by
    simp only [Bool.and_eq_true] at h
    exact h.1
  have h2 : Pm.under a.data.toList b.data.toList = true := h
  rw [← Pm.under_impl] at h2
  simp only [Bool.and_eq_true, decide_eq_true_eq] at h2
  exact ⟨h1.1, by unfold depB; omega, by unfold depB; omega⟩

theorem und_trans_par {a b : ByteArray} (h : undB a b = true) : parB b = a ∨ undB a (parB b) = true := by
  rcases Pm.under_facts _ _ h with e | e
  · left
    rw [← Lib.mk_data a, ← e]; rfl
  · exact .inr e

theorem par_lt {p : ByteArray} (h : 1 ≤ depB (parB p)) : ltB (parB p) p = true := by
  have hp : 1 ≤ depB p := by
    by_cases h1 : 1 ≤ depB p
    · exact h1
    · exfalso
      have : parB p = ⟨⟨[]⟩⟩ := by
        unfold parB Pm.parent
        rw [if_pos (by unfold depB at h1; omega)]
      rw [this] at h
      exact absurd h (by decide)
  rw [ltB_iff]
  have e : (parB p).data.toList = Pm.parent p.data.toList := rfl
  rw [e]
  rw [show depB (parB p) = Pm.depth (Pm.parent p.data.toList) from rfl] at h
  unfold Pm.parent at h ⊢
  rw [if_neg (by unfold depB at hp; omega)] at h ⊢
  by_cases hl : p.data.toList.length ≤ 2
  · rw [if_pos hl] at h
    exact absurd h (by decide)
  · rw [if_neg hl]
    have key : ∀ (l : List UInt8) (m : Nat), m < l.length → l.take m < l := by
      intro l
      induction l with
      | nil => intro m hm; simp at hm
      | cons c r ih =>
        intro m hm
        cases m with
        | zero => simp
        | succ m =>
          rw [List.take_succ_cons, List.cons_lt_cons_iff]
          exact .inr ⟨rfl, ih m (by simpa using hm)⟩
    exact key _ _ (by omega)

end Go.Proofs.YtkaokncaockjkaaDoor

/-
  PLAIN MATHEMATICS OF TREES: the promises of the chapter on trees.
-/
namespace Go.Proofs.YtkaokncaockjkaaDoor

theorem good_path {ns : List Nd} (h : validT ns = true) {n : Nd} (hn : n ∈ ns) : 1 ≤ depB n.p ∧ vpB n.p = true :=
  let g := ((validT_iff ns).1 h).2.1 n hn
  ⟨g.1, vp_of_depth g.1⟩

theorem getT_mem {ns : List Nd} (h : validT ns = true) {n : Nd} (hn : n ∈ ns) : getT ns n.p = (n.k, n.v) := by
  rw [getT_other (good_path h hn).1]
  unfold getL
  rw [look_mem ((validT_iff ns).1 h).1 hn]

theorem getT_some {ns : List Nd} {p : ByteArray} (h : (getT ns p).1 ≠ 0) : p = rootB ∨ ∃ n, n ∈ ns ∧ n.p = p ∧ look ns p = some n := by
  unfold getT at h
  split at h
  · rename_i e; exact .inl e
  · unfold getL at h
    cases hl : look ns p with
    | none => rw [hl] at h; exact absurd rfl h
    | some n => exact .inr ⟨n, (look_some hl).1, (look_some hl).2, rfl⟩

theorem valid_zero {v : Int} (h : validB 0 v = true) : v = 0 := by
  unfold validB at h; simpa using h

theorem getT_valid {ns : List Nd} (h : validT ns = true) (p : ByteArray) : validB (getT ns p).1 (getT ns p).2 = true := by
  by_cases h0 : (getT ns p).1 = 0
  · have : getT ns p = (0, 0) := by
      unfold getT at h0 ⊢
      split at h0
      · exact absurd h0 (by decide)
      · rename_i e
        rw [if_neg e]
        unfold getL at h0 ⊢
        cases hl : look ns p with
        | none => rfl
        | some n =>
          rw [hl] at h0
          exact absurd h0 (((validT_iff ns).1 h).2.1 n (look_some hl).1).2.2.1
    rw [this]; rfl
  · rcases getT_some h0 with e | ⟨n, hn, e, -⟩
    · subst e; rw [getT_root]; rfl
    · subst e; rw [getT_mem h hn]; exact (((validT_iff ns).1 h).2.1 n hn).2.1

theorem treeGet_eq {ns : List Nd} {p : ByteArray} (h : validT ns = true) (hv : vpB p = true) : treeGet ns p = getT ns p := by
  unfold treeGet; rw [h, hv]; rfl

/-- P15: what is in a tree is in a directory. -/
theorem get_parent {ns : List Nd} {p : ByteArray} (h : (treeGet ns p).1 ≠ 0) (hr : p ≠ rootB) : (treeGet ns (parB p)).1 = 1 := by
  unfold treeGet at h
  split at h
  · rename_i hc
    rw [Bool.and_eq_true] at hc
    rcases getT_some h with e | ⟨n, hn, e, -⟩
    · exact absurd e hr
    · subst e
      have g := ((validT_iff ns).1 hc.1).2.1 n hn
      rw [treeGet_eq hc.1 (parB_valid g.1).1]
      exact g.2.2.2
  · exact absurd rfl h

theorem treePut_some {ns out : List Nd} {p : ByteArray} {k v : Int} (h : treePut ns p k v = some out) :
    validT ns = true ∧ 1 ≤ depB p ∧ validB k v = true ∧ out = putL ns p k v ∧ validT out = true := by
  unfold treePut at h
  split at h
  · rename_i hc
    simp only [Bool.and_eq_true, decide_eq_true_eq] at hc
    split at h
    · rename_i hv
      have := (Option.some.inj h).symm
      subst this
      exact ⟨hc.1.1, hc.1.2, hc.2, rfl, hv⟩
    · cases h
  · cases h

theorem getT_put {ns : List Nd} (ha : Asc ns) {p : ByteArray} (hp : 1 ≤ depB p) {k v : Int} (hv : validB k v = true) (q : ByteArray) :
    getT (putL ns p k v) q = if q = p then (k, v) else getT ns q := by
  by_cases e : q = p
  · rw [if_pos e]
    subst e
    rw [getT_other hp]
    unfold getL
    rw [look_put ha, if_pos rfl]
    by_cases hk : k = 0
    · subst hk
      rw [if_pos rfl, valid_zero hv]
    · rw [if_neg hk]
  · rw [if_neg e]
    unfold getT getL
    rw [look_put ha, if_neg e]

/-- P16: what is put into a tree is there, and all else is as before. -/
theorem put_get {ns out : List Nd} {p : ByteArray} {k v : Int} (h : treePut ns p k v = some out) :
    (∀ n ∈ ns, n.p ≠ p → treeGet out n.p = (n.k, n.v)) ∧ (∀ n ∈ out, n.p ≠ p → treeGet ns n.p = (n.k, n.v)) ∧ treeGet out p = (k, v) := by
  obtain ⟨h1, h2, h3, rfl, h5⟩ := treePut_some h
  have ha := ((validT_iff ns).1 h1).1
  refine ⟨fun n hn hne => ?_, fun n hn hne => ?_, ?_⟩
  · rw [treeGet_eq h5 (good_path h1 hn).2, getT_put ha h2 h3, if_neg hne, getT_mem h1 hn]
  · have := getT_mem h5 hn
    rw [getT_put ha h2 h3, if_neg hne] at this
    rw [treeGet_eq h1 (good_path h5 hn).2, this]
  · rw [treeGet_eq h5 (vp_of_depth h2), getT_put ha h2 h3, if_pos rfl]

/-- P17: what was there can be put back. -/
theorem put_back {ns out : List Nd} {p : ByteArray} {k v : Int} (h : treePut ns p k v = some out) :
    treePut out p (treeGet ns p).1 (treeGet ns p).2 = some ns := by
  obtain ⟨h1, h2, h3, rfl, h5⟩ := treePut_some h
  have ha := ((validT_iff ns).1 h1).1
  rw [treeGet_eq h1 (vp_of_depth h2)]
  have hv := getT_valid h1 p
  obtain ⟨k0, v0⟩ : ∃ c, getT ns p = c := ⟨_, rfl⟩
  have hb : putL (putL ns p k v) p (getT ns p).1 (getT ns p).2 = ns := by
    have hp := putL_asc ha p k v
    refine asc_ext (putL_asc hp _ _ _) ha fun q => ?_
    rw [look_put hp]
    by_cases e : q = p
    · rw [if_pos e]
      subst e
      rw [getT_other h2]
      unfold getL
      cases hl : look ns q with
      | none => rfl
      | some n =>
        obtain ⟨hn, e⟩ := look_some hl
        have g := ((validT_iff ns).1 h1).2.1 n hn
        show (if n.k = 0 then none else some (⟨q, n.k, n.v⟩ : Nd)) = some n
        rw [if_neg g.2.2.1, ← e]
    · rw [if_neg e, look_put ha, if_neg e]
  unfold treePut
  rw [h5, hv, hb, h1, decide_eq_true h2]
  rfl

/-- Somebody is directly in p where somebody is under it. -/
theorem child_of_under {ns : List Nd} (h : validT ns = true) (p : ByteArray) : ∀ (d : Nat) (n : Nd), n ∈ ns → undB p n.p = true → depB n.p ≤ d → ∃ m ∈ ns, parB m.p = p
  | 0, n, hn, hu, hd => by have := (und_depth hu).2.1; omega
  | d + 1, n, hn, hu, hd => by
    rcases und_trans_par hu with e | e
    · exact ⟨n, hn, e⟩
    · have g := ((validT_iff ns).1 h).2.1 n hn
      have hne : parB n.p ≠ rootB := fun q => by have := (und_depth e).2.1; rw [q] at this; exact absurd this (by decide)
      have hd' := (parB_valid g.1).2.1
      rcases getT_some (p := parB n.p) (ns := ns) (by rw [g.2.2.2]; decide) with q | ⟨m, hm, hmp, -⟩
      · exact absurd q hne
      · exact child_of_under h p d m hm (by rw [hmp]; exact e) (by rw [hmp]; omega)

theorem under_of_child {ns : List Nd} (h : validT ns = true) {m : Nd} (hm : m ∈ ns) : undB (parB m.p) m.p = true :=
  (parB_valid (good_path h hm).1).2.2.1

/-- P20: nothing is under a file. -/
theorem under_dir {ns : List Nd} {p : ByteArray} (h : treeUnder ns p ≠ []) : (treeGet ns p).1 = 1 := by
  unfold treeUnder at h
  split at h
  · rename_i hc
    rw [Bool.and_eq_true] at hc
    obtain ⟨x, hx⟩ := List.exists_mem_of_ne_nil _ h
    obtain ⟨n, hn, -⟩ := List.mem_map.1 hx
    obtain ⟨hn, hu⟩ := List.mem_filter.1 hn
    obtain ⟨m, hm, rfl⟩ := child_of_under hc.1 p (depB n.p).toNat n hn hu (by have := (good_path hc.1 hn).1; omega)
    rw [treeGet_eq hc.1 hc.2]
    exact (((validT_iff ns).1 hc.1).2.1 m hm).2.2.2
  · exact absurd rfl h

/-- P18: a tree has rules. -/
theorem put_when {ns : List Nd} {p : ByteArray} {k v : Int} (h1 : validT ns = true) (h2 : 1 ≤ depB p) (h3 : validB k v = true) :
    (treePut ns p k v).isSome = true ↔ ((treeGet ns (parB p)).1 = 1 ∨ k = 0) ∧ (treeUnder ns p = [] ∨ k = 1) ∧ (ns.length + (if (treeGet ns p).1 = 0 ∧ k ≠ 0 then 1 else 0) ≤ 10) := by
  have ha := ((validT_iff ns).1 h1).1
  have hall := ((validT_iff ns).1 h1).2.1
  have hlen := ((validT_iff ns).1 h1).2.2
  have hpv := vp_of_depth h2
  have hpar := parB_valid h2
  have hpp : parB p ≠ p := fun e => by have := hpar.2.1; rw [e] at this; omega
  have hput : (treePut ns p k v).isSome = true ↔ validT (putL ns p k v) = true := by
    unfold treePut
    rw [h1, h3, decide_eq_true h2]
    simp only [Bool.and_self, if_true]
    split <;> simp_all
  have hund : treeUnder ns p = [] ↔ ∀ m ∈ ns, parB m.p ≠ p := by
    unfold treeUnder
    rw [h1, hpv]
    simp only [Bool.and_self, if_true, List.map_eq_nil_iff, List.filter_eq_nil_iff]
    constructor
    · intro h m hm e
      exact h m hm (by rw [← e]; exact under_of_child h1 hm)
    · intro h n hn hu
      obtain ⟨m, hm, e⟩ := child_of_under h1 p (depB n.p).toNat n hn hu (by have := (good_path h1 hn).1; omega)
      exact h m hm e
  have hlook : look ns p = none ↔ (treeGet ns p).1 = 0 := by
    rw [treeGet_eq h1 hpv, getT_other h2]
    unfold getL
    cases hl : look ns p with
    | none => simp
    | some n => simpa using (hall n (look_some hl).1).2.2.1
  have hcount := putL_length ha p k v
  have hpl : (putL ns p k v).length ≤ 10 ↔ ns.length + (if (treeGet ns p).1 = 0 ∧ k ≠ 0 then 1 else 0) ≤ 10 := by
    by_cases e1 : look ns p = none
    · rw [if_pos e1] at hcount
      have e2 := hlook.1 e1
      by_cases e3 : k = 0
      · rw [if_pos e3] at hcount; rw [if_neg (fun c => c.2 e3)]; omega
      · rw [if_neg e3] at hcount; rw [if_pos ⟨e2, e3⟩]; omega
    · rw [if_neg e1] at hcount
      have e2 : ¬ (treeGet ns p).1 = 0 := fun c => e1 (hlook.2 c)
      rw [if_neg (fun c => e2 c.1)]
      by_cases e3 : k = 0
      · rw [if_pos e3] at hcount; omega
      · rw [if_neg e3] at hcount; omega
  rw [hput, validT_iff, hund, treeGet_eq h1 hpar.1]
  constructor
  · rintro ⟨-, hg, hl⟩
    refine ⟨?_, ?_, hpl.1 hl⟩
    · by_cases hk : k = 0
      · exact .inr hk
      · left
        have := (hg ⟨p, k, v⟩ (putL_mem.2 (.inl ⟨hk, rfl⟩))).2.2.2
        rw [getT_put ha h2 h3, if_neg hpp] at this
        exact this
    · by_cases hk : k = 1
      · exact .inr hk
      · left
        intro m hm e
        have hmp : m.p ≠ p := fun q => hpp (by rw [← q] at e ⊢; exact e)
        have := (hg m (putL_mem.2 (.inr ⟨hm, hmp⟩))).2.2.2
        rw [e, getT_put ha h2 h3, if_pos rfl] at this
        exact hk this
  · rintro ⟨t1, t2, t3⟩
    refine ⟨putL_asc ha p k v, fun n hn => ?_, hpl.2 t3⟩
    rcases putL_mem.1 hn with ⟨hk, rfl⟩ | ⟨hn, hne⟩
    · refine ⟨h2, h3, hk, ?_⟩
      rw [getT_put ha h2 h3, if_neg hpp]
      rcases t1 with t | t
      · exact t
      · exact absurd t hk
    · obtain ⟨g1, g2, g3, g4⟩ := hall n hn
      refine ⟨g1, g2, g3, ?_⟩
      rw [getT_put ha h2 h3]
      by_cases e : parB n.p = p
      · rw [if_pos e]
        rcases t2 with t | t
        · exact absurd e (t n hn)
        · exact t
      · rw [if_neg e]; exact g4

/-- P21, the first half: a valid tree stays valid without its last node. -/
theorem valid_dropLast {ns : List Nd} (h : validT ns = true) : validT ns.dropLast = true := by
  obtain ⟨ha, hg, hl⟩ := (validT_iff ns).1 h
  rw [validT_iff]
  have hsub : ns.dropLast.Sublist ns := List.dropLast_sublist ns
  refine ⟨ha.sublist hsub, fun n hn => ?_, by rw [List.length_dropLast]; omega⟩
  have hn' := hsub.subset hn
  obtain ⟨g1, g2, g3, g4⟩ := hg n hn'
  refine ⟨g1, g2, g3, ?_⟩
  by_cases hd : 1 ≤ depB (parB n.p)
  · rw [getT_other hd] at g4 ⊢
    unfold getL at g4 ⊢
    cases hlk : look ns (parB n.p) with
    | none => rw [hlk] at g4; exact absurd g4 (by decide)
    | some m =>
      rw [hlk] at g4
      obtain ⟨hm, e⟩ := look_some hlk
      have hlt := par_lt hd
      have hmem : m ∈ ns.dropLast := by
        rcases List.eq_nil_or_concat ns with e0 | ⟨r, x, rfl⟩
        · rw [e0] at hm; cases hm
        · rw [List.concat_eq_append] at hn hm ha ⊢
          rw [List.dropLast_concat] at hn ⊢
          rcases List.mem_append.1 hm with hm | hm
          · exact hm
          · exfalso
            rw [List.mem_singleton] at hm
            subst hm
            have := (List.pairwise_append.1 ha).2.2 n hn m (by simp)
            rw [e, ltB_asymm hlt] at this; cases this
      have := look_mem (ha.sublist hsub) hmem
      rw [e] at this
      rw [this]; exact g4
  · have : parB n.p = rootB := root_of_depth (parB_valid g1).1 hd
    rw [this, getT_root]

/-- A node that has nothing makes a tree invalid. -/
theorem invalid_none {ns : List Nd} {n : Nd} (hn : n ∈ ns) (h : n.k = 0) : validT ns = false := by
  rw [Bool.eq_false_iff]
  intro hv
  exact (((validT_iff ns).1 hv).2.1 n hn).2.2.1 h

/-- P22: a path twice makes a tree invalid. -/
theorem invalid_twice {ns : List Nd} {j : Nat} {m n : Nd} (hm : ns[j]? = some m) (hn : ns[j + 1]? = some n) (h : m.p = n.p) : validT ns = false := by
  rw [Bool.eq_false_iff]
  intro hv
  have := (asc_iff ns).1 ((validT_iff ns).1 hv).1 j m n hm hn
  rw [h, ltB_irrefl] at this; cases this

end Go.Proofs.YtkaokncaockjkaaDoor

/-
  PLAIN MATHEMATICS OF PLACES: a path is a word of letters; a tree's nodes, listed from a place on.
-/
namespace Go.Proofs.YtkaokncaockjkaaDoor

/-- The letters of a path that is valid. -/
def Wrd (w : List UInt8) : Prop := w.length ≤ 4 ∧ ∀ x ∈ w, Pm.letter x = true
def pB (w : List UInt8) : ByteArray := ⟨⟨Pm.pathOf w⟩⟩

theorem pB_list (w : List UInt8) : (pB w).data.toList = Pm.pathOf w := rfl

theorem Wrd.nil : Wrd [] := ⟨by simp, by simp⟩
theorem Wrd.take {w : List UInt8} (h : Wrd w) (n : Nat) : Wrd (w.take n) :=
  ⟨by rw [List.length_take]; have := h.1; omega, fun x hx => h.2 x (List.mem_of_mem_take hx)⟩
theorem Wrd.left {w u : List UInt8} (h : Wrd (w ++ u)) : Wrd w :=
  ⟨by have := h.1; rw [List.length_append] at this; omega, fun x hx => h.2 x (List.mem_append_left _ hx)⟩

theorem vpB_word {p : ByteArray} (h : vpB p = true) : ∃ w, Wrd w ∧ p = pB w := by
  obtain ⟨w, h4, hl, e⟩ := Pm.valid_of p.data.toList h
  exact ⟨w, ⟨h4, hl⟩, by rw [← Lib.mk_data p, e]; rfl⟩

theorem pB_inj {a b : List UInt8} (ha : Wrd a) (hb : Wrd b) (h : pB a = pB b) : a = b :=
  Pm.pathOf_inj (by have := congrArg (fun x : ByteArray => x.data.toList) h; exact this) ha.2 hb.2

theorem pB_root : pB [] = rootB := rfl
theorem vpB_pB {w : List UInt8} (h : Wrd w) : vpB (pB w) = true := Pm.valid_path w h.1 h.2
theorem depB_pB {w : List UInt8} (h : Wrd w) : depB (pB w) = w.length := Pm.depth_path w h.1 h.2
theorem parB_pB {w : List UInt8} (h : Wrd w) (hn : w ≠ []) : parB (pB w) = pB w.dropLast := by
  unfold parB pB; rw [show (⟨⟨Pm.pathOf w⟩⟩ : ByteArray).data.toList = Pm.pathOf w from rfl, Pm.parent_path w hn h.1 h.2]
theorem undB_pB {a b : List UInt8} (ha : Wrd a) (hb : Wrd b) : undB (pB a) (pB b) = decide (a <+: b ∧ a.length < b.length) := Pm.under_path a b ha.1 hb.1 ha.2 hb.2

theorem Wrd.dropLast {w : List UInt8} (h : Wrd w) : Wrd w.dropLast :=
  ⟨by rw [List.length_dropLast]; have := h.1; omega, fun x hx => h.2 x (List.dropLast_subset _ hx)⟩

/-! ## The order -/

theorem app_lt (p a b : List UInt8) : p ++ a < p ++ b ↔ a < b := by
  induction p with
  | nil => exact Iff.rfl
  | cons c p ih =>
    rw [List.cons_append, List.cons_append, List.cons_lt_cons_iff]
    constructor
    · rintro (h | ⟨_, h⟩)
      · exact absurd h (UInt8.lt_irrefl c)
      · exact ih.1 h
    · exact fun h => .inr ⟨rfl, ih.2 h⟩

theorem pathOf_ext_lt (w : List UInt8) (c : UInt8) (u : List UInt8) : Pm.pathOf w < Pm.pathOf (w ++ c :: u) := by
  unfold Pm.pathOf
  rw [if_neg (show ¬ w ++ c :: u = [] by simp)]
  by_cases h : w = []
  · subst h
    rw [if_pos rfl]
    show [47] < 47 :: c :: Pm.flat u
    rw [List.cons_lt_cons_iff]; right; simp
  · rw [if_neg h, Pm.flat_append]
    have := (app_lt (Pm.flat w) [] (Pm.flat (c :: u))).2 (by show [] < 47 :: c :: Pm.flat u; simp)
    simpa using this

theorem pathOf_side_lt (w : List UInt8) (c d : UInt8) (h : c < d) (u v : List UInt8) : Pm.pathOf (w ++ c :: u) < Pm.pathOf (w ++ d :: v) := by
  unfold Pm.pathOf
  rw [if_neg (show ¬ w ++ c :: u = [] by simp), if_neg (show ¬ w ++ d :: v = [] by simp), Pm.flat_append, Pm.flat_append, app_lt]
  show 47 :: c :: Pm.flat u < 47 :: d :: Pm.flat v
  rw [List.cons_lt_cons_iff]; right
  refine ⟨rfl, ?_⟩
  rw [List.cons_lt_cons_iff]; exact .inl h

theorem ltB_ext (w : List UInt8) (c : UInt8) (u : List UInt8) : ltB (pB w) (pB (w ++ c :: u)) = true := (ltB_iff _ _).2 (pathOf_ext_lt w c u)
theorem ltB_side (w : List UInt8) {c d : UInt8} (h : c < d) (u v : List UInt8) : ltB (pB (w ++ c :: u)) (pB (w ++ d :: v)) = true := (ltB_iff _ _).2 (pathOf_side_lt w c d h u v)

/-! ## What is behind a place -/

def letters : List UInt8 := [97, 98, 99, 100]
theorem letter_iff (c : UInt8) : Pm.letter c = true ↔ c ∈ letters := by
  unfold Pm.letter Pm.nameB letters
  simp only [List.mem_cons, List.not_mem_nil, or_false, decide_eq_true_eq]
  constructor
  · rintro ⟨h1, h2⟩
    have h : c.toNat = 97 ∨ c.toNat = 98 ∨ c.toNat = 99 ∨ c.toNat = 100 := by omega
    rcases h with h | h | h | h
    · exact .inl (UInt8.toNat_inj.1 h)
    · exact .inr (.inl (UInt8.toNat_inj.1 h))
    · exact .inr (.inr (.inl (UInt8.toNat_inj.1 h)))
    · exact .inr (.inr (.inr (UInt8.toNat_inj.1 h)))
  · rintro (rfl | rfl | rfl | rfl) <;> decide

def ndAt (F : List UInt8 → Int × Int) (w : List UInt8) : Nd := ⟨pB w, (F w).1, (F w).2⟩
def oneAt (F : List UInt8 → Int × Int) (w : List UInt8) : List Nd := if (F w).1 = 0 then [] else [ndAt F w]

/-- The nodes behind a place, d names deep. -/
def lst (F : List UInt8 → Int × Int) : Nat → List UInt8 → List Nd
  | 0, _ => []
  | d + 1, w => letters.flatMap (fun c => oneAt F (w ++ [c]) ++ lst F d (w ++ [c]))

theorem mem_one {F : List UInt8 → Int × Int} {w : List UInt8} {n : Nd} : n ∈ oneAt F w ↔ (F w).1 ≠ 0 ∧ n = ndAt F w := by
  unfold oneAt; split <;> simp_all

theorem mem_lst {F : List UInt8 → Int × Int} {n : Nd} : ∀ {d : Nat} {w : List UInt8}, n ∈ lst F d w ↔ ∃ c u, u.length < d ∧ (∀ x ∈ c :: u, Pm.letter x = true) ∧ (F (w ++ c :: u)).1 ≠ 0 ∧ n = ndAt F (w ++ c :: u)
  | 0, w => by simp [lst]
  | d + 1, w => by
    unfold lst
    simp only [List.mem_flatMap, List.mem_append, mem_one]
    constructor
    · rintro ⟨c, hc, ⟨h1, h2⟩ | h⟩
      · exact ⟨c, [], by simp, by simpa using (letter_iff c).2 hc, h1, h2⟩
      · obtain ⟨c', u, h1, h2, h3, h4⟩ := mem_lst.1 h
        rw [List.append_assoc, List.singleton_append] at h3 h4
        refine ⟨c, c' :: u, by simpa using h1, fun x hx => ?_, h3, h4⟩
        rcases List.mem_cons.1 hx with rfl | hx
        · exact (letter_iff _).2 hc
        · exact h2 x hx
    · rintro ⟨c, u, h1, h2, h3, h4⟩
      refine ⟨c, (letter_iff c).1 (h2 c (by simp)), ?_⟩
      cases u with
      | nil => exact .inl ⟨h3, h4⟩
      | cons c' u =>
        refine .inr (mem_lst.2 ⟨c', u, by simpa using h1, fun x hx => h2 x (List.mem_cons_of_mem _ hx), ?_, ?_⟩)
        · rw [List.append_assoc, List.singleton_append]; exact h3
        · rw [List.append_assoc, List.singleton_append]; exact h4

/-- What is listed from a letter on is behind that letter. -/
theorem part_form {F : List UInt8 → Int × Int} {n : Nd} {d : Nat} {w : List UInt8} {c : UInt8} (h : n ∈ oneAt F (w ++ [c]) ++ lst F d (w ++ [c])) : ∃ u, n.p = pB (w ++ c :: u) := by
  rcases List.mem_append.1 h with h | h
  · exact ⟨[], by rw [(mem_one.1 h).2]; rfl⟩
  · obtain ⟨c', u, _, _, _, h4⟩ := mem_lst.1 h
    exact ⟨c' :: u, by rw [h4]; simp [ndAt]⟩

theorem asc_append {a b : List Nd} (ha : Asc a) (hb : Asc b) (h : ∀ x ∈ a, ∀ y ∈ b, ltB x.p y.p = true) : Asc (a ++ b) := List.pairwise_append.2 ⟨ha, hb, h⟩

theorem asc_lst (F : List UInt8 → Int × Int) : ∀ (d : Nat) (w : List UInt8), Asc (lst F d w)
  | 0, _ => List.Pairwise.nil
  | d + 1, w => by
    unfold lst
    have hp : ∀ c, Asc (oneAt F (w ++ [c]) ++ lst F d (w ++ [c])) := fun c => by
      refine asc_append ?_ (asc_lst F d _) fun x hx y hy => ?_
      · unfold oneAt; split
        · exact List.Pairwise.nil
        · exact List.pairwise_singleton _ _
      · obtain ⟨c', u, _, _, _, h4⟩ := mem_lst.1 hy
        rw [(mem_one.1 hx).2, h4]
        exact ltB_ext _ _ _
    have hs : ∀ (ls : List UInt8), ls.Pairwise (· < ·) → Asc (ls.flatMap (fun c => oneAt F (w ++ [c]) ++ lst F d (w ++ [c]))) := by
      intro ls
      induction ls with
      | nil => intro _; exact List.Pairwise.nil
      | cons c r ih =>
        intro h
        obtain ⟨h1, h2⟩ := List.pairwise_cons.1 h
        rw [List.flatMap_cons]
        refine asc_append (hp c) (ih h2) fun x hx y hy => ?_
        obtain ⟨c', hc', hy⟩ := List.mem_flatMap.1 hy
        obtain ⟨u, e⟩ := part_form hx
        obtain ⟨v, e'⟩ := part_form hy
        rw [e, e']
        exact ltB_side w (h1 c' hc') u v
    exact hs letters (by decide)

/-- Two lists that ascend are told by their members. -/
theorem asc_mem_ext {a b : List Nd} (ha : Asc a) (hb : Asc b) (h : ∀ x, x ∈ a ↔ x ∈ b) : a = b := by
  refine asc_ext ha hb fun p => ?_
  cases e : look a p with
  | some n =>
    obtain ⟨h1, h2⟩ := look_some e
    subst h2
    exact (look_mem hb ((h n).1 h1)).symm
  | none =>
    symm
    rw [look_none] at e ⊢
    exact fun n hn => e n ((h n).2 hn)

/-! ## What a list of nodes says of the places -/

def Fof (ns : List Nd) : List UInt8 → Int × Int := fun w => getT ns (pB w)
def setF (F : List UInt8 → Int × Int) (w : List UInt8) (c : Int × Int) : List UInt8 → Int × Int := fun u => if u = w then c else F u

theorem Fof_root (ns : List Nd) : Fof ns [] = (1, 0) := getT_root ns
theorem Fof_nil {w : List UInt8} (h : w ≠ []) (hw : Wrd w) : Fof [] w = (0, 0) := by
  unfold Fof
  rw [getT_other (by rw [depB_pB hw]; have : w.length ≠ 0 := fun e => h (List.length_eq_zero_iff.1 e); omega)]; rfl

theorem word_depth {w : List UInt8} (hw : Wrd w) : 1 ≤ depB (pB w) ↔ w ≠ [] := by
  rw [depB_pB hw]
  constructor
  · rintro h rfl; simp at h
  · intro h
    have : w.length ≠ 0 := fun e => h (List.length_eq_zero_iff.1 e)
    omega

theorem look_app {a : List Nd} {n : Nd} {p : ByteArray} (h : n.p ≠ p) : look (a ++ [n]) p = look a p := by
  unfold look
  rw [List.find?_append]
  simp [h]

theorem getT_app_ne {a : List Nd} {n : Nd} {p : ByteArray} (h : n.p ≠ p) : getT (a ++ [n]) p = getT a p := by
  unfold getT getL; rw [look_app h]

theorem look_app_self {a : List Nd} {n : Nd} (h : ∀ m ∈ a, m.p ≠ n.p) : look (a ++ [n]) n.p = some n := by
  have := look_none.2 h
  unfold look at this ⊢
  rw [List.find?_append, this]
  simp

theorem Fof_app {a : List Nd} {n : Nd} {w u : List UInt8} (hw : Wrd w) (hn : w ≠ []) (e : n.p = pB w) (ha : ∀ m ∈ a, m.p ≠ n.p) (hu : Wrd u) : Fof (a ++ [n]) u = setF (Fof a) w (n.k, n.v) u := by
  unfold setF
  by_cases h : u = w
  · subst h
    rw [if_pos rfl]
    unfold Fof
    rw [getT_other ((word_depth hw).2 hn)]
    unfold getL
    rw [← e, look_app_self ha]
  · rw [if_neg h]
    exact getT_app_ne fun x => h (pB_inj hu hw (by rw [← x, e]))

/-- What the program asks of the next node. -/
def Next (a : List Nd) (n : Nd) : Prop :=
  vpB n.p = true ∧ ltB (match a.getLast? with | none => rootB | some m => m.p) n.p = true ∧ validB n.k n.v = true ∧ n.k ≠ 0 ∧ (getT a (parB n.p)).1 = 1

theorem valid_app {a : List Nd} {n : Nd} (h : validT (a ++ [n]) = true) : validT a = true := by
  have := valid_dropLast h
  rwa [List.dropLast_concat] at this

theorem valid_take : ∀ (d : Nat) {ns : List Nd}, validT ns = true → validT (ns.take (ns.length - d)) = true
  | 0, ns, h => by rw [Nat.sub_zero, List.take_length]; exact h
  | d + 1, ns, h => by
    have := valid_dropLast (valid_take d h)
    rw [List.dropLast_eq_take, List.take_take, List.length_take] at this
    rwa [show ns.length - (d + 1) = min (min (ns.length - d) ns.length - 1) (ns.length - d) by omega]
theorem valid_pre {ns : List Nd} (h : validT ns = true) (i : Nat) : validT (ns.take i) = true := by
  by_cases hi : i ≤ ns.length
  · have := valid_take (ns.length - i) h
    rwa [show ns.length - (ns.length - i) = i by omega] at this
  · rw [List.take_of_length_le (by omega)]; exact h

theorem last_le {a : List Nd} (ha : Asc a) {m l : Nd} (hm : m ∈ a) (hl : a.getLast? = some l) : m = l ∨ ltB m.p l.p = true := by
  obtain ⟨b, rfl⟩ := List.getLast?_eq_some_iff.1 hl
  rcases List.mem_append.1 hm with h | h
  · exact .inr ((List.pairwise_append.1 ha).2.2 m h l (by simp))
  · exact .inl (by simpa using h)

theorem root_lt {p : ByteArray} (h : 1 ≤ depB p) : ltB rootB p = true := by
  obtain ⟨w, hw, rfl⟩ := vpB_word (vp_of_depth h)
  cases w with
  | nil => exact absurd h (by decide)
  | cons c u => exact ltB_ext [] c u

theorem next_above {a : List Nd} {n : Nd} (h : validT a = true) (hn : Next a n) : (∀ m ∈ a, ltB m.p n.p = true) ∧ ltB rootB n.p = true := by
  obtain ⟨ha, hg, _⟩ := (validT_iff a).1 h
  obtain ⟨_, h2, _⟩ := hn
  cases hl : a.getLast? with
  | none =>
    rw [hl] at h2
    rw [List.getLast?_eq_none_iff] at hl
    subst hl
    exact ⟨fun m hm => (by cases hm), h2⟩
  | some l =>
    rw [hl] at h2
    have hla : l ∈ a := List.mem_of_getLast? hl
    refine ⟨fun m hm => ?_, ltB_trans (root_lt (hg l hla).1) h2⟩
    rcases last_le ha hm hl with rfl | e
    · exact h2
    · exact ltB_trans e h2

theorem next_depth {a : List Nd} {n : Nd} (h : validT a = true) (hn : Next a n) : 1 ≤ depB n.p := by
  obtain ⟨w, hw, e⟩ := vpB_word hn.1
  have := (next_above h hn).2
  rw [e, word_depth hw]
  rintro rfl
  rw [e, pB_root, ltB_irrefl] at this
  cases this

theorem par_ne {p : ByteArray} (h : 1 ≤ depB p) : parB p ≠ p := fun e => by
  have := (parB_valid h).2.1
  rw [e] at this; omega

/-- A tree with one node more. -/
theorem valid_step {a : List Nd} {n : Nd} (hl : a.length < 10) (h : validT a = true) : validT (a ++ [n]) = true ↔ Next a n := by
  obtain ⟨ha, hg, _⟩ := (validT_iff a).1 h
  rw [validT_iff]
  constructor
  · rintro ⟨h1, h2, _⟩
    obtain ⟨g1, g2, g3, g4⟩ := h2 n (by simp)
    have hab := (List.pairwise_append.1 h1).2.2
    refine ⟨vp_of_depth g1, ?_, g2, g3, by rw [← getT_app_ne (n := n) (fun e => par_ne g1 e.symm)]; exact g4⟩
    cases hl : a.getLast? with
    | none => exact root_lt g1
    | some l => exact hab l (List.mem_of_getLast? hl) n (by simp)
  · intro hn
    obtain ⟨ab, _⟩ := next_above h hn
    have hd := next_depth h hn
    refine ⟨asc_append ha (List.pairwise_singleton _ _) (fun x hx y hy => by rw [List.mem_singleton.1 hy]; exact ab x hx), fun m hm => ?_, by rw [List.length_append, List.length_singleton]; omega⟩
    rcases List.mem_append.1 hm with hm | hm
    · obtain ⟨g1, g2, g3, g4⟩ := hg m hm
      refine ⟨g1, g2, g3, ?_⟩
      rw [getT_app_ne]
      · exact g4
      · intro e
        by_cases hr : 1 ≤ depB (parB m.p)
        · obtain ⟨x, hx, hxp⟩ : ∃ x ∈ a, x.p = parB m.p := by
            rw [getT_other hr] at g4
            unfold getL at g4
            cases hk : look a (parB m.p) with
            | none => rw [hk] at g4; simp at g4
            | some x => exact ⟨x, (look_some hk).1, (look_some hk).2⟩
          exact ltB_ne (ab x hx) (hxp.trans e.symm)
        · rw [← e] at hr; exact hr hd
    · rw [List.mem_singleton.1 hm]
      obtain ⟨q1, q2, q3, q4, q5⟩ := hn
      exact ⟨hd, q3, q4, by rw [getT_app_ne (fun e => par_ne hd e.symm)]; exact q5⟩

/-! ## The lists that the program makes -/

/-- All nodes of a valid tree have words. -/
theorem node_word {ns : List Nd} (h : validT ns = true) {n : Nd} (hn : n ∈ ns) : ∃ w, Wrd w ∧ w ≠ [] ∧ n.p = pB w ∧ Fof ns w = (n.k, n.v) := by
  obtain ⟨h1, h2⟩ := good_path h hn
  obtain ⟨w, hw, e⟩ := vpB_word h2
  refine ⟨w, hw, (word_depth hw).1 (by rw [← e]; exact h1), e, ?_⟩
  unfold Fof; rw [← e]; exact getT_mem h hn

theorem node_of {ns : List Nd} (h : validT ns = true) {w : List UInt8} (hw : Wrd w) (hn : w ≠ []) (hk : (Fof ns w).1 ≠ 0) : ndAt (Fof ns) w ∈ ns := by
  have hk' := hk
  unfold Fof at hk
  rcases getT_some hk with e | ⟨n, h1, h2, _⟩
  · exact absurd (pB_inj hw Wrd.nil e) hn
  · have := getT_mem h h1
    have e : ndAt (Fof ns) w = n := by
      unfold ndAt Fof
      rw [← h2, this]
    rw [e]; exact h1

theorem under_lst {ns : List Nd} (h : validT ns = true) {w : List UInt8} (hw : Wrd w) : (lst (Fof ns) (4 - w.length) w) = ns.filter (fun n => undB (pB w) n.p) := by
  have ha := ((validT_iff ns).1 h).1
  refine asc_mem_ext (asc_lst _ _ _) (asc_filter ha _) fun x => ?_
  rw [mem_lst, List.mem_filter]
  constructor
  · rintro ⟨c, u, h1, h2, h3, rfl⟩
    have hw' : Wrd (w ++ c :: u) := ⟨by simp; have := hw.1; omega, fun x hx => by
      rcases List.mem_append.1 hx with hx | hx
      · exact hw.2 x hx
      · exact h2 x hx⟩
    refine ⟨node_of h hw' (by simp) h3, ?_⟩
    show undB (pB w) (pB (w ++ c :: u)) = true
    rw [undB_pB hw hw', decide_eq_true_eq]
    exact ⟨List.prefix_append _ _, by simp⟩
  · rintro ⟨hx, hu⟩
    obtain ⟨v, hv, hvn, e, ef⟩ := node_word h hx
    rw [e, undB_pB hw hv, decide_eq_true_eq] at hu
    obtain ⟨⟨t, rfl⟩, hlen⟩ := hu
    cases t with
    | nil => simp at hlen
    | cons c u =>
      refine ⟨c, u, ?_, fun x hx => hv.2 x (List.mem_append_right _ hx), ?_, ?_⟩
      · have := hv.1; simp at this; omega
      · rw [ef]; exact (((validT_iff ns).1 h).2.1 x hx).2.2.1
      · cases x with
        | mk xp xk xv =>
          simp only at e ef
          unfold ndAt; rw [ef, e]

theorem put_lst {ns : List Nd} (h : validT ns = true) {w : List UInt8} (hw : Wrd w) (hn : w ≠ []) (k v : Int) : lst (setF (Fof ns) w (k, v)) 4 [] = putL ns (pB w) k v := by
  have ha := ((validT_iff ns).1 h).1
  refine asc_mem_ext (asc_lst _ _ _) (putL_asc ha _ _ _) fun x => ?_
  rw [mem_lst, putL_mem]
  simp only [List.nil_append]
  constructor
  · rintro ⟨c, u, h1, h2, h3, rfl⟩
    have hw' : Wrd (c :: u) := ⟨by rw [List.length_cons]; omega, h2⟩
    unfold setF at h3
    unfold ndAt setF
    by_cases e : c :: u = w
    · rw [if_pos e] at h3 ⊢
      exact .inl ⟨h3, by rw [e]⟩
    · rw [if_neg e] at h3 ⊢
      exact .inr ⟨node_of h hw' (by simp) h3, fun q => e (pB_inj hw' hw q)⟩
  · rintro (⟨hk, rfl⟩ | ⟨hx, hp⟩)
    · cases w with
      | nil => exact absurd rfl hn
      | cons c u => exact ⟨c, u, by have := hw.1; rw [List.length_cons] at this; omega, hw.2, by simpa [setF] using hk, by simp [ndAt, setF]⟩
    · obtain ⟨v', hv, hvn, e, ef⟩ := node_word h hx
      have hvw : v' ≠ w := fun q => hp (by rw [e, q])
      cases v' with
      | nil => exact absurd rfl hvn
      | cons c u =>
        refine ⟨c, u, by have := hv.1; rw [List.length_cons] at this; omega, hv.2, ?_, ?_⟩
        · unfold setF; rw [if_neg hvw, ef]; exact (((validT_iff ns).1 h).2.1 x hx).2.2.1
        · cases x with
          | mk xp xk xv =>
            simp only at e ef
            unfold ndAt setF; rw [if_neg hvw, ef, e]

theorem lst_congr {F G : List UInt8 → Int × Int} : ∀ {d : Nat} {w : List UInt8}, (∀ c u, u.length < d → (∀ x ∈ c :: u, Pm.letter x = true) → F (w ++ c :: u) = G (w ++ c :: u)) → lst F d w = lst G d w := by
  intro d w h
  refine asc_mem_ext (asc_lst _ _ _) (asc_lst _ _ _) fun x => ?_
  rw [mem_lst, mem_lst]
  constructor
  · rintro ⟨c, u, h1, h2, h3, h4⟩
    exact ⟨c, u, h1, h2, by rw [← h c u h1 h2]; exact h3, by rw [h4]; unfold ndAt; rw [h c u h1 h2]⟩
  · rintro ⟨c, u, h1, h2, h3, h4⟩
    exact ⟨c, u, h1, h2, by rw [h c u h1 h2]; exact h3, by rw [h4]; unfold ndAt; rw [h c u h1 h2]⟩

end Go.Proofs.YtkaokncaockjkaaDoor

/-
  PLAIN MATHEMATICS OF SUMS AND CHANGES: the sum of what is at a word and behind it; the paths at which two trees differ.
-/
namespace Go.Proofs.YtkaokncaockjkaaDoor

/-! ## Sums -/

/-- One child's share. -/
def stepW (s : Int) (k : Nat) (n : Int) : Int := (31 * n + 7 * k + 100 * s + 3) % 9973

def baseW (c : Int × Int) : Int := 1 + 200 * c.1 + c.2

/-- The sum of a word, d letters deep. -/
def sumW (G : List UInt8 → Int × Int) : Nat → List UInt8 → Int
  | 0, w => baseW (G w)
  | d + 1, w =>
    if (G w).1 = 1 then
      (List.range 4).foldl (fun n k => if (G (w ++ [UInt8.ofNat (97 + k)])).1 = 0 then n else stepW (sumW G d (w ++ [UInt8.ofNat (97 + k)])) k n) (baseW (G w))
    else baseW (G w)

/-- The sum at a word behind the first m letters. -/
def partW (G : List UInt8 → Int × Int) (d : Nat) (w : List UInt8) (m : Nat) : Int :=
  (List.range m).foldl (fun n k => if (G (w ++ [UInt8.ofNat (97 + k)])).1 = 0 then n else stepW (sumW G d (w ++ [UInt8.ofNat (97 + k)])) k n) (baseW (G w))

theorem partW_zero (G : List UInt8 → Int × Int) (d : Nat) (w : List UInt8) : partW G d w 0 = baseW (G w) := rfl
theorem partW_next (G : List UInt8 → Int × Int) (d : Nat) (w : List UInt8) (m : Nat) :
    partW G d w (m + 1) = if (G (w ++ [UInt8.ofNat (97 + m)])).1 = 0 then partW G d w m else stepW (sumW G d (w ++ [UInt8.ofNat (97 + m)])) m (partW G d w m) := by
  unfold partW
  rw [List.range_succ, List.foldl_append]
  rfl
theorem sumW_part (G : List UInt8 → Int × Int) (d : Nat) (w : List UInt8) (h : (G w).1 = 1) : sumW G (d + 1) w = partW G d w 4 := by
  unfold partW
  rw [sumW, if_pos h]
theorem sumW_file (G : List UInt8 → Int × Int) (d : Nat) (w : List UInt8) (h : (G w).1 ≠ 1) : sumW G d w = baseW (G w) := by
  cases d with
  | zero => rfl
  | succ d => rw [sumW, if_neg h]

/-- Where nothing is one letter deeper, the base alone counts. -/
theorem partW_none (G : List UInt8 → Int × Int) (d : Nat) (w : List UInt8) (h : ∀ k, k < 4 → (G (w ++ [UInt8.ofNat (97 + k)])).1 = 0) : ∀ m, m ≤ 4 → partW G d w m = baseW (G w)
  | 0, _ => rfl
  | m + 1, hm => by rw [partW_next, if_pos (h m (by omega)), partW_none G d w h m (by omega)]

theorem stepW_range (s : Int) (k : Nat) (n : Int) : 0 ≤ stepW s k n ∧ stepW s k n ≤ 9972 := by unfold stepW; omega

theorem base_range {c : Int × Int} (h : validB c.1 c.2 = true) : 1 ≤ baseW c ∧ baseW c ≤ 500 := by
  unfold validB at h
  unfold baseW
  simp only [decide_eq_true_eq] at h
  omega

theorem partW_range {G : List UInt8 → Int × Int} (hG : ∀ w, validB (G w).1 (G w).2 = true) (d : Nat) (w : List UInt8) : ∀ m, 0 ≤ partW G d w m ∧ partW G d w m ≤ 9972
  | 0 => by have := base_range (hG w); rw [partW_zero]; exact ⟨by omega, by omega⟩
  | m + 1 => by
    rw [partW_next]
    split
    · exact partW_range hG d w m
    · exact stepW_range _ _ _

theorem sumW_range {G : List UInt8 → Int × Int} (hG : ∀ w, validB (G w).1 (G w).2 = true) (d : Nat) (w : List UInt8) : 0 ≤ sumW G d w ∧ sumW G d w ≤ 9972 := by
  by_cases h : (G w).1 = 1
  · cases d with
    | zero => have := base_range (hG w); show 0 ≤ baseW _ ∧ baseW _ ≤ 9972; exact ⟨by omega, by omega⟩
    | succ d => rw [sumW_part _ _ _ h]; exact partW_range hG d w 4
  · rw [sumW_file _ _ _ h]; have := base_range (hG w); exact ⟨by omega, by omega⟩

/-- A sum tells of what is at a word and behind it only. -/
theorem sumW_congr {G H : List UInt8 → Int × Int} : ∀ (d : Nat) (w : List UInt8), (∀ u, G (w ++ u) = H (w ++ u)) → sumW G d w = sumW H d w
  | 0, w, h => by show baseW _ = baseW _; have := h []; rw [List.append_nil] at this; rw [this]
  | d + 1, w, h => by
    have h0 := h []
    rw [List.append_nil] at h0
    by_cases h1 : (G w).1 = 1
    · rw [sumW_part _ _ _ h1, sumW_part _ _ _ (by rw [← h0]; exact h1)]
      have hp : ∀ m, partW G d w m = partW H d w m := by
        intro m
        induction m with
        | zero => rw [partW_zero, partW_zero, h0]
        | succ m ih =>
          have hs : sumW G d (w ++ [UInt8.ofNat (97 + m)]) = sumW H d (w ++ [UInt8.ofNat (97 + m)]) := sumW_congr d _ (fun u => by rw [List.append_assoc]; exact h _)
          rw [partW_next, partW_next, ih, h [UInt8.ofNat (97 + m)], hs]
      exact hp 4
    · rw [sumW_file _ _ _ h1, sumW_file _ _ _ (by rw [← h0]; exact h1), h0]

/-- The letters of a path. -/
def wordOf (p : ByteArray) : List UInt8 := p.data.toList.filter Pm.letter

theorem letter47 : Pm.letter 47 = false := by decide

theorem filter_flat : ∀ (w : List UInt8), (∀ x ∈ w, Pm.letter x = true) → (Pm.flat w).filter Pm.letter = w
  | [], _ => rfl
  | c :: r, h => by
    show (47 :: c :: Pm.flat r).filter Pm.letter = c :: r
    rw [List.filter_cons_of_neg (by simp [letter47]), List.filter_cons_of_pos (h c (by simp)), filter_flat r (fun x hx => h x (List.mem_cons_of_mem _ hx))]

theorem wordOf_pB {w : List UInt8} (h : ∀ x ∈ w, Pm.letter x = true) : wordOf (pB w) = w := by
  unfold wordOf
  rw [pB_list]
  unfold Pm.pathOf
  split
  · rename_i e; subst e; decide
  · exact filter_flat w h

/-- spec.TreeSum. -/
def treeSum (ns : List Nd) (p : ByteArray) : Int := if (validT ns && vpB p) = true then sumW (Fof ns) (4 - (wordOf p).length) (wordOf p) else -1

theorem treeSum_word {ns : List Nd} {w : List UInt8} (h : validT ns = true) (hw : Wrd w) : treeSum ns (pB w) = sumW (Fof ns) (4 - w.length) w := by
  unfold treeSum
  rw [h, vpB_pB hw, wordOf_pB hw.2]; rfl

theorem Fof_valid {ns : List Nd} (h : validT ns = true) (w : List UInt8) : validB (Fof ns w).1 (Fof ns w).2 = true := getT_valid h (pB w)

theorem treeSum_range {ns : List Nd} {p : ByteArray} (h : validT ns = true) (hv : vpB p = true) : 0 ≤ treeSum ns p ∧ treeSum ns p ≤ 9972 := by
  unfold treeSum
  rw [h, hv]
  exact sumW_range (fun w => Fof_valid h w) _ _

theorem treeSum_neg {ns : List Nd} {p : ByteArray} (h : treeSum ns p < 0) : (validT ns && vpB p) = false := by
  cases hc : (validT ns && vpB p) with
  | false => rfl
  | true =>
    rw [Bool.and_eq_true] at hc
    have := treeSum_range hc.1 hc.2
    omega

theorem flat_inj : ∀ {a b : List UInt8}, Pm.flat a = Pm.flat b → a = b
  | [], [], _ => rfl
  | [], _ :: _, h => by simp [Pm.flat] at h
  | _ :: _, [], h => by simp [Pm.flat] at h
  | c :: a, d :: b, h => by
    simp only [Pm.flat, List.cons.injEq, true_and] at h
    rw [h.1, flat_inj h.2]

theorem pB_inj' {a b : List UInt8} (h : pB a = pB b) : a = b := by
  have h : Pm.pathOf a = Pm.pathOf b := congrArg (fun x : ByteArray => x.data.toList) h
  unfold Pm.pathOf at h
  split at h <;> split at h
  · rename_i h1 h2; rw [h1, h2]
  · rename_i h1 h2
    exfalso
    have := congrArg List.length h
    rw [Pm.flat_length] at this
    simp at this; omega
  · rename_i h1 h2
    exfalso
    have := congrArg List.length h
    rw [Pm.flat_length] at this
    simp at this; omega
  · exact flat_inj h

/-- Nothing is deeper than four letters. -/
theorem deep_none {ns : List Nd} (h : validT ns = true) {w : List UInt8} (h5 : 4 < w.length) : Fof ns w = (0, 0) := by
  unfold Fof getT
  have hne : pB w ≠ (⟨#[47]⟩ : ByteArray) := fun e => by
    have h1 : w = [] := pB_inj' (e.trans pB_root.symm)
    rw [h1] at h5; simp at h5
  rw [if_neg hne]
  unfold getL
  have hl : look ns (pB w) = none := look_none.2 fun n hn e => by
    have g := good_path h hn
    obtain ⟨u, hu, he⟩ := vpB_word g.2
    rw [he] at e
    have := hu.1
    rw [pB_inj' e] at this
    omega
  rw [hl]

/-- P31: what is put elsewhere does not turn the sum. -/
theorem sum_elsewhere {ns out : List Nd} {p o : ByteArray} {k v : Int} (h : treePut ns o k v = some out) (hv : vpB p = true) (hne : o ≠ p) (hu : undB p o = false) : treeSum out p = treeSum ns p := by
  obtain ⟨h1, h2, h3, rfl, h5⟩ := treePut_some h
  have ha := ((validT_iff ns).1 h1).1
  obtain ⟨w, hw, rfl⟩ := vpB_word hv
  obtain ⟨x, hx, rfl⟩ := vpB_word (vp_of_depth h2)
  rw [treeSum_word h5 hw, treeSum_word h1 hw]
  refine sumW_congr _ _ fun u => ?_
  unfold Fof
  rw [getT_put ha h2 h3]
  by_cases e : pB (w ++ u) = pB x
  · exfalso
    have e := pB_inj' e
    subst e
    rw [undB_pB hw hx] at hu
    simp only [decide_eq_false_iff_not, not_and, List.length_append] at hu
    have := hu (List.prefix_append w u)
    have h0 : u = [] := List.length_eq_zero_iff.1 (by omega)
    subst h0
    rw [List.append_nil] at hne
    exact hne rfl
  · rw [if_neg e]

/-- P32: a file's sum tells its value. -/
theorem sum_file {ns : List Nd} {p : ByteArray} (h : validT ns = true) (hv : vpB p = true) (hk : (getT ns p).1 = 2) : treeSum ns p = 401 + (getT ns p).2 := by
  obtain ⟨w, hw, rfl⟩ := vpB_word hv
  rw [treeSum_word h hw, sumW_file _ _ _ (by show (getT ns (pB w)).1 ≠ 1; rw [hk]; decide)]
  show 1 + 200 * (getT ns (pB w)).1 + (getT ns (pB w)).2 = _
  rw [hk]; omega

/-- spec.TreeSums. -/
def treeSums (ns : List Nd) : List Int := if validT ns = true then ns.map (fun n => treeSum ns n.p) else []

/-! ## Changes -/

/-- The paths of two trees, each once, in order. -/
def mergeP : List Nd → List Nd → List ByteArray
  | [], b => b.map Nd.p
  | x :: a, [] => (x :: a).map Nd.p
  | x :: a, y :: b =>
    if ltB x.p y.p = true then x.p :: mergeP a (y :: b)
    else if ltB y.p x.p = true then y.p :: mergeP (x :: a) b
    else x.p :: mergeP a b
termination_by a b => a.length + b.length

theorem mergeP_nil (b : List Nd) : mergeP [] b = b.map Nd.p := by rw [mergeP]
theorem mergeP_nil' (a : List Nd) : mergeP a [] = a.map Nd.p := by
  cases a with
  | nil => rw [mergeP]
  | cons x a => rw [mergeP]
theorem mergeP_cons (x y : Nd) (a b : List Nd) : mergeP (x :: a) (y :: b) = if ltB x.p y.p = true then x.p :: mergeP a (y :: b) else if ltB y.p x.p = true then y.p :: mergeP (x :: a) b else x.p :: mergeP a b := by rw [mergeP]

theorem mergeP_mem : ∀ (m : Nat) (a b : List Nd), a.length + b.length ≤ m → ∀ p, p ∈ mergeP a b ↔ (∃ n ∈ a, n.p = p) ∨ ∃ n ∈ b, n.p = p
  | _, [], b, _, p => by rw [mergeP_nil]; simp
  | _, x :: a, [], _, p => by rw [mergeP_nil', List.mem_map]; simp
  | 0, x :: a, y :: b, h, _ => by simp at h
  | m + 1, x :: a, y :: b, h, p => by
    rw [mergeP_cons]
    simp only [List.length_cons] at h
    split
    · rw [List.mem_cons, mergeP_mem m a (y :: b) (by simp; omega)]
      simp only [List.mem_cons, exists_eq_or_imp]
      constructor
      · rintro (h1 | h1 | h1)
        · exact .inl (.inl h1.symm)
        · exact .inl (.inr h1)
        · exact .inr h1
      · rintro ((h1 | h1) | h1)
        · exact .inl h1.symm
        · exact .inr (.inl h1)
        · exact .inr (.inr h1)
    · split
      · rw [List.mem_cons, mergeP_mem m (x :: a) b (by simp; omega)]
        simp only [List.mem_cons, exists_eq_or_imp]
        constructor
        · rintro (h1 | h1 | h1)
          · exact .inr (.inl h1.symm)
          · exact .inl h1
          · exact .inr (.inr h1)
        · rintro (h1 | h1 | h1)
          · exact .inr (.inl h1)
          · exact .inl h1.symm
          · exact .inr (.inr h1)
      · rename_i h2 h3
        have e : x.p = y.p := ltB_tri (by simpa using h2) (by simpa using h3)
        rw [List.mem_cons, mergeP_mem m a b (by omega)]
        simp only [List.mem_cons, exists_eq_or_imp, ← e]
        constructor
        · rintro (h1 | h1 | h1)
          · exact .inl (.inl h1.symm)
          · exact .inl (.inr h1)
          · exact .inr (.inr h1)
        · rintro ((h1 | h1) | (h1 | h1))
          · exact .inl h1.symm
          · exact .inr (.inl h1)
          · exact .inl h1.symm
          · exact .inr (.inr h1)

/-- Paths ascend. -/
def AscP (l : List ByteArray) : Prop := l.Pairwise (fun x y => ltB x y = true)

theorem ascP_map {ns : List Nd} (h : Asc ns) : AscP (ns.map Nd.p) := List.pairwise_map.2 h

theorem mergeP_asc : ∀ (m : Nat) (a b : List Nd), a.length + b.length ≤ m → Asc a → Asc b → AscP (mergeP a b)
  | _, [], b, _, _, hb => by rw [mergeP_nil]; exact ascP_map hb
  | _, x :: a, [], _, ha, _ => by rw [mergeP_nil']; exact ascP_map ha
  | 0, x :: a, y :: b, h, _, _ => by simp at h
  | m + 1, x :: a, y :: b, h, ha, hb => by
    rw [mergeP_cons]
    simp only [List.length_cons] at h
    obtain ⟨ha1, ha2⟩ := asc_cons.1 ha
    obtain ⟨hb1, hb2⟩ := asc_cons.1 hb
    split
    · rename_i h1
      refine List.pairwise_cons.2 ⟨fun p hp => ?_, mergeP_asc m a (y :: b) (by simp; omega) ha2 hb⟩
      rcases (mergeP_mem m a (y :: b) (by simp; omega) p).1 hp with ⟨n, hn, rfl⟩ | ⟨n, hn, rfl⟩
      · exact ha1 n hn
      · rcases List.mem_cons.1 hn with rfl | hn
        · exact h1
        · exact ltB_trans h1 (hb1 n hn)
    · split
      · rename_i h1
        refine List.pairwise_cons.2 ⟨fun p hp => ?_, mergeP_asc m (x :: a) b (by simp; omega) ha hb2⟩
        rcases (mergeP_mem m (x :: a) b (by simp; omega) p).1 hp with ⟨n, hn, rfl⟩ | ⟨n, hn, rfl⟩
        · rcases List.mem_cons.1 hn with rfl | hn
          · exact h1
          · exact ltB_trans h1 (ha1 n hn)
        · exact hb1 n hn
      · rename_i h2 h3
        have e : x.p = y.p := ltB_tri (by simpa using h2) (by simpa using h3)
        refine List.pairwise_cons.2 ⟨fun p hp => ?_, mergeP_asc m a b (by omega) ha2 hb2⟩
        rcases (mergeP_mem m a b (by omega) p).1 hp with ⟨n, hn, rfl⟩ | ⟨n, hn, rfl⟩
        · exact ha1 n hn
        · rw [e]; exact hb1 n hn

theorem mergeP_len : ∀ (m : Nat) (a b : List Nd), a.length + b.length ≤ m → (mergeP a b).length ≤ a.length + b.length
  | _, [], b, _ => by rw [mergeP_nil]; simp
  | _, x :: a, [], _ => by rw [mergeP_nil']; simp
  | 0, x :: a, y :: b, h => by simp at h
  | m + 1, x :: a, y :: b, h => by
    rw [mergeP_cons]
    simp only [List.length_cons] at h ⊢
    split
    · have := mergeP_len m a (y :: b) (by simp; omega); simp only [List.length_cons] at this ⊢; omega
    · split
      · have := mergeP_len m (x :: a) b (by simp; omega); simp only [List.length_cons] at this ⊢; omega
      · have := mergeP_len m a b (by omega); simp only [List.length_cons] at this ⊢; omega

def diffB (a b : List Nd) (p : ByteArray) : Bool := decide (getT a p ≠ getT b p)

/-- spec.TreeChanged. -/
def chgL (a b : List Nd) : List ByteArray := if (validT a && validT b) = true then (mergeP a b).filter (diffB a b) else []

theorem chg_asc {a b : List Nd} : AscP (chgL a b) := by
  unfold chgL
  split
  · rename_i h
    rw [Bool.and_eq_true] at h
    exact List.Pairwise.filter _ (mergeP_asc _ a b (Nat.le_refl _) ((validT_iff a).1 h.1).1 ((validT_iff b).1 h.2).1)
  · exact List.Pairwise.nil

theorem chg_len (a b : List Nd) : (chgL a b).length ≤ 20 := by
  unfold chgL
  split
  · rename_i h
    rw [Bool.and_eq_true] at h
    have h1 := ((validT_iff a).1 h.1).2.2
    have h2 := ((validT_iff b).1 h.2).2.2
    have := mergeP_len _ a b (Nat.le_refl _)
    have := List.length_filter_le (diffB a b) (mergeP a b)
    omega
  · simp

theorem getT_none {ns : List Nd} {p : ByteArray} (hp : p ≠ rootB) (h : ∀ n ∈ ns, n.p ≠ p) : getT ns p = (0, 0) := by
  unfold getT getL
  rw [if_neg (show ¬ p = (⟨#[47]⟩ : ByteArray) from hp), look_none.2 h]

/-- P34: exactly the paths whose contents differ. -/
theorem chg_mem {a b : List Nd} (ha : validT a = true) (hb : validT b = true) (p : ByteArray) : p ∈ chgL a b ↔ getT a p ≠ getT b p := by
  unfold chgL
  rw [ha, hb]
  simp only [Bool.and_self, if_true, List.mem_filter]
  unfold diffB
  rw [decide_eq_true_eq, mergeP_mem _ a b (Nat.le_refl _)]
  constructor
  · exact fun h => h.2
  · intro h
    refine ⟨?_, h⟩
    by_cases h1 : ∃ n ∈ a, n.p = p
    · exact .inl h1
    · by_cases h2 : ∃ n ∈ b, n.p = p
      · exact .inr h2
      · exfalso
        by_cases hr : p = rootB
        · subst hr; exact h (by rw [getT_root, getT_root])
        · exact h (by rw [getT_none hr (fun n hn e => h1 ⟨n, hn, e⟩), getT_none hr (fun n hn e => h2 ⟨n, hn, e⟩)])

/-- Ascending lists are told by their members. -/
theorem ascP_ext : ∀ {a b : List ByteArray}, AscP a → AscP b → (∀ p, p ∈ a ↔ p ∈ b) → a = b
  | [], [], _, _, _ => rfl
  | [], y :: b, _, _, h => by have := (h y).2 (by simp); cases this
  | x :: a, [], _, _, h => by have := (h x).1 (by simp); cases this
  | x :: a, y :: b, ha, hb, h => by
    obtain ⟨hx, ha'⟩ := List.pairwise_cons.1 ha
    obtain ⟨hy, hb'⟩ := List.pairwise_cons.1 hb
    have e : x = y := by
      rcases List.mem_cons.1 ((h x).1 (by simp)) with e | e
      · exact e
      · rcases List.mem_cons.1 ((h y).2 (by simp)) with e' | e'
        · exact e'.symm
        · have h1 := hy x e
          have h2 := hx y e'
          rw [ltB_asymm h1] at h2; cases h2
    subst e
    rw [ascP_ext ha' hb' (fun p => by
      constructor
      · intro hp
        rcases List.mem_cons.1 ((h p).1 (List.mem_cons_of_mem _ hp)) with e | e
        · subst e; have := hx p hp; rw [ltB_irrefl] at this; cases this
        · exact e
      · intro hp
        rcases List.mem_cons.1 ((h p).2 (List.mem_cons_of_mem _ hp)) with e | e
        · subst e; have := hy p hp; rw [ltB_irrefl] at this; cases this
        · exact e)]

/-- P35: changes have no direction. -/
theorem chg_symm {a b : List Nd} (ha : validT a = true) (hb : validT b = true) : chgL b a = chgL a b :=
  ascP_ext chg_asc chg_asc fun p => by rw [chg_mem hb ha, chg_mem ha hb]; exact ⟨fun h e => h e.symm, fun h e => h e.symm⟩

/-- P35: equal trees have no changes, and others have some. -/
theorem chg_nil {a b : List Nd} (ha : validT a = true) (hb : validT b = true) : chgL a b = [] ↔ a = b := by
  constructor
  · intro h
    have hg : ∀ p, getT a p = getT b p := fun p => by
      by_cases e : getT a p = getT b p
      · exact e
      · have := (chg_mem ha hb p).2 e
        rw [h] at this; cases this
    have hs : ∀ {c d : List Nd}, validT c = true → validT d = true → (∀ p, getT c p = getT d p) → ∀ p n, look c p = some n → look d p = some n := by
      intro c d hc hd hcd p n hn
      obtain ⟨h1, h2⟩ := look_some hn
      subst h2
      have h3 := getT_mem hc h1
      rw [hcd] at h3
      have g := ((validT_iff c).1 hc).2.1 n h1
      rcases getT_some (ns := d) (p := n.p) (by rw [h3]; exact g.2.2.1) with e | ⟨m, hm, hmp, hml⟩
      · have := g.1; rw [e] at this; exact absurd this (by decide)
      · have h4 := getT_mem hd hm
        rw [hmp, h3] at h4
        rw [hml]
        congr 1
        cases m; cases n
        simp only [Prod.mk.injEq] at h4 hmp
        simp [hmp, h4.1, h4.2]
    refine asc_ext ((validT_iff a).1 ha).1 ((validT_iff b).1 hb).1 fun p => ?_
    cases h1 : look a p with
    | some n => rw [hs ha hb hg p n h1]
    | none =>
      cases h2 : look b p with
      | none => rfl
      | some n => rw [hs hb ha (fun q => (hg q).symm) p n h2] at h1; cases h1
  · rintro rfl
    rw [List.eq_nil_iff_forall_not_mem]
    intro p hp
    exact (chg_mem ha hb p).1 hp rfl

/-- P36: one change is one path. -/
theorem chg_put {ns out : List Nd} {p : ByteArray} {k v : Int} (h : treePut ns p k v = some out) : chgL ns out = if getT ns p = (k, v) then [] else [p] := by
  obtain ⟨h1, h2, h3, rfl, h5⟩ := treePut_some h
  have ha := ((validT_iff ns).1 h1).1
  have hm : ∀ q, q ∈ chgL ns (putL ns p k v) ↔ q = p ∧ getT ns p ≠ (k, v) := fun q => by
    rw [chg_mem h1 h5, getT_put ha h2 h3]
    by_cases e : q = p
    · subst e; simp
    · simp [e]
  split
  · rename_i e
    rw [List.eq_nil_iff_forall_not_mem]
    intro q hq
    exact ((hm q).1 hq).2 e
  · rename_i e
    exact ascP_ext chg_asc (List.pairwise_singleton _ _) fun q => by rw [hm, List.mem_singleton]; exact ⟨fun h => h.1, fun h => ⟨h, e⟩⟩

end Go.Proofs.YtkaokncaockjkaaDoor

/-
  PLAIN MATHEMATICS OF COMMANDS: what is valid, what a command does to a tree, what takes it back.
-/
namespace Go.Proofs.YtkaokncaockjkaaDoor

/-- A command: its path, the content that is there, the content that is to be there. -/
structure Cmd where
  p : ByteArray
  fk : Int
  fv : Int
  tk : Int
  tv : Int

def zeroC : Cmd := ⟨⟨#[]⟩, 0, 0, 0, 0⟩

def sameFT (c : Cmd) : Bool := c.fk == c.tk && c.fv == c.tv

def validC (c : Cmd) : Bool := decide (1 ≤ depB c.p) && validB c.fk c.fv && validB c.tk c.tv && !sameFT c

theorem validC_iff (c : Cmd) : validC c = true ↔ 1 ≤ depB c.p ∧ validB c.fk c.fv = true ∧ validB c.tk c.tv = true ∧ (c.fk, c.fv) ≠ (c.tk, c.tv) := by
  unfold validC sameFT
  simp only [Bool.and_eq_true, decide_eq_true_eq, Bool.not_eq_true', Bool.and_eq_false_iff, beq_eq_false_iff_ne, ne_eq, Prod.mk.injEq, not_and]
  constructor
  · rintro ⟨⟨⟨h1, h2⟩, h3⟩, h4⟩
    exact ⟨h1, h2, h3, fun e1 e2 => by rcases h4 with h | h; exact h e1; exact h e2⟩
  · rintro ⟨h1, h2, h3, h4⟩
    refine ⟨⟨⟨h1, h2⟩, h3⟩, ?_⟩
    by_cases e : c.fk = c.tk
    · exact .inr (h4 e)
    · exact .inl e

/-- spec.CommandApply. -/
def applyC (ns : List Nd) (c : Cmd) : List Nd × Bool :=
  if (validT ns && validC c) = true then
    (if getT ns c.p = (c.fk, c.fv) then (match treePut ns c.p c.tk c.tv with
      | some out => (out, true)
      | none => (ns, false)) else (ns, false))
  else ([], false)

/-- spec.CommandUndo. -/
def undoC (c : Cmd) : Cmd := if validC c = true then ⟨c.p, c.tk, c.tv, c.fk, c.fv⟩ else zeroC

theorem applyC_bad {ns : List Nd} {c : Cmd} (h : validT ns = false ∨ validC c = false) : applyC ns c = ([], false) := by
  unfold applyC
  rw [if_neg]
  rcases h with h | h <;> simp [h]

theorem applyC_ok {ns : List Nd} {c : Cmd} (h1 : validT ns = true) (h2 : validC c = true) :
    applyC ns c = if getT ns c.p = (c.fk, c.fv) then (match treePut ns c.p c.tk c.tv with
      | some out => (out, true)
      | none => (ns, false)) else (ns, false) := by
  unfold applyC
  rw [if_pos (by rw [h1, h2]; rfl)]

/-- A command that is done. -/
theorem applyC_some {ns out : List Nd} {c : Cmd} (h : applyC ns c = (out, true)) : validT ns = true ∧ validC c = true ∧ getT ns c.p = (c.fk, c.fv) ∧ treePut ns c.p c.tk c.tv = some out := by
  unfold applyC at h
  split at h
  · rename_i hc
    rw [Bool.and_eq_true] at hc
    split at h
    · rename_i hg
      cases hp : treePut ns c.p c.tk c.tv with
      | none => rw [hp] at h; simp at h
      | some o =>
        rw [hp] at h
        simp at h
        exact ⟨hc.1, hc.2, hg, by rw [h]⟩
    · simp at h
  · simp at h

theorem applyC_done {ns out : List Nd} {c : Cmd} (h1 : validT ns = true) (h2 : validC c = true) (h3 : getT ns c.p = (c.fk, c.fv)) (h4 : treePut ns c.p c.tk c.tv = some out) : applyC ns c = (out, true) := by
  rw [applyC_ok h1 h2, if_pos h3, h4]

theorem applyC_valid {ns out : List Nd} {c : Cmd} (h : applyC ns c = (out, true)) : validT out = true := by
  obtain ⟨_, _, _, h4⟩ := applyC_some h
  exact (treePut_some h4).2.2.2.2

/-- P37: a command changes one path. -/
theorem apply_one {ns out : List Nd} {c : Cmd} (h : applyC ns c = (out, true)) : treeGet ns c.p = (c.fk, c.fv) ∧ treeGet out c.p = (c.tk, c.tv) ∧ chgL ns out = [c.p] := by
  obtain ⟨h1, h2, h3, h4⟩ := applyC_some h
  obtain ⟨hd, _, _, hne⟩ := (validC_iff c).1 h2
  refine ⟨by rw [treeGet_eq h1 (vp_of_depth hd), h3], (put_get h4).2.2, ?_⟩
  rw [chg_put h4, h3, if_neg hne]

/-- P38: a command that breaks changes nothing. -/
theorem apply_break {ns out : List Nd} {c : Cmd} (h : applyC ns c = (out, false)) (h1 : validT ns = true) (h2 : validC c = true) : out = ns ∧ (treeGet ns c.p ≠ (c.fk, c.fv) ∨ treePut ns c.p c.tk c.tv = none) := by
  have hd := ((validC_iff c).1 h2).1
  rw [applyC_ok h1 h2] at h
  rw [treeGet_eq h1 (vp_of_depth hd)]
  split at h
  · cases hp : treePut ns c.p c.tk c.tv with
    | none => rw [hp] at h; simp at h; exact ⟨h.symm, .inr rfl⟩
    | some o => rw [hp] at h; simp at h
  · rename_i hg
    simp at h
    exact ⟨h.symm, .inl hg⟩

theorem undoC_ok {c : Cmd} (h : validC c = true) : undoC c = ⟨c.p, c.tk, c.tv, c.fk, c.fv⟩ := if_pos h
theorem undoC_bad {c : Cmd} (h : validC c = false) : undoC c = zeroC := if_neg (by rw [h]; decide)

theorem undo_valid {c : Cmd} (h : validC c = true) : validC ⟨c.p, c.tk, c.tv, c.fk, c.fv⟩ = true := by
  obtain ⟨h1, h2, h3, h4⟩ := (validC_iff c).1 h
  exact (validC_iff _).2 ⟨h1, h3, h2, fun e => h4 e.symm⟩

/-- P40: taking back twice is doing. -/
theorem undo_twice {c : Cmd} (h : validC c = true) : undoC (undoC c) = c := by
  rw [undoC_ok h, undoC_ok (undo_valid h)]

/-- P39: a command can be taken back. -/
theorem undo_back {ns out : List Nd} {c : Cmd} (h : applyC ns c = (out, true)) : applyC out (undoC c) = (ns, true) := by
  obtain ⟨h1, h2, h3, h4⟩ := applyC_some h
  have hd := ((validC_iff c).1 h2).1
  obtain ⟨_, hg, _⟩ := apply_one h
  have ho := applyC_valid h
  rw [treeGet_eq ho (vp_of_depth hd)] at hg
  rw [undoC_ok h2]
  have hb := put_back h4
  rw [treeGet_eq h1 (vp_of_depth hd), h3] at hb
  exact applyC_done ho (undo_valid h2) hg hb

/-- P41: a command is done once. -/
theorem apply_once {ns out : List Nd} {c : Cmd} (h : applyC ns c = (out, true)) : applyC out c = (out, false) := by
  obtain ⟨h1, h2, h3, h4⟩ := applyC_some h
  obtain ⟨hd, _, _, hne⟩ := (validC_iff c).1 h2
  obtain ⟨_, hg, _⟩ := apply_one h
  have ho := applyC_valid h
  rw [treeGet_eq ho (vp_of_depth hd)] at hg
  rw [applyC_ok ho h2, if_neg]
  rw [hg]
  exact fun e => hne e.symm

/-- P44: a command changes something. -/
theorem not_same (c : Cmd) : validC ⟨c.p, c.fk, c.fv, c.fk, c.fv⟩ = false ∧ validC ⟨rootB, c.fk, c.fv, c.tk, c.tv⟩ = false := by
  constructor
  · rw [Bool.eq_false_iff]
    intro h
    exact ((validC_iff _).1 h).2.2.2 rfl
  · rw [Bool.eq_false_iff]
    intro h
    have := ((validC_iff _).1 h).1
    exact absurd (show 1 ≤ depB rootB from this) (by decide)

theorem applyC_len {ns : List Nd} {c : Cmd} (h : ns.length ≤ 10) : (applyC ns c).1.length ≤ 10 := by
  cases hb : applyC ns c with
  | mk out b =>
    cases b with
    | true => exact ((validT_iff out).1 (applyC_valid hb)).2.2
    | false =>
      unfold applyC at hb
      split at hb
      · rename_i hc
        rw [Bool.and_eq_true] at hc
        have := (apply_break (by rw [applyC_ok hc.1 hc.2]; exact hb) hc.1 hc.2).1
        rw [this]; exact h
      · simp at hb
        rw [hb]; simp

end Go.Proofs.YtkaokncaockjkaaDoor

/-
  WALKS: contents that are drawn (spec.l91Content).
-/
namespace Go.Proofs.YtkaokncaockjkaaDoor
open Go.RowKit
set_option linter.unusedVariables false

/-- A drawn content: its numbers are small; the reader some places on. -/
def ConDraw (N0 B p : Nat) (W : World) (e : Ending) (W' : World) : Prop :=
  ∃ (k v : Int) (q : Nat), e = .returned (con k v) ∧ -1 ≤ k ∧ k ≤ 3 ∧ -1 ≤ v ∧ v ≤ 100 ∧ q ≤ p + 4 ∧ RdAt N0 W' B q ∧ W.grownBy W' (some B)

theorem con_draw {N0 B p : Nat} {W W' : World} (k v : Int) (q : Nat) (hk : -1 ≤ k ∧ k ≤ 3) (hv : -1 ≤ v ∧ v ≤ 100) (hq : q ≤ p + 4) (hR : RdAt N0 W' B q) (hg : W.grownBy W' (some B)) :
    ConDraw N0 B p W (.returned (con k v)) W' := ⟨k, v, q, rfl, hk.1, hk.2, hv.1, hv.2, hq, hR, hg⟩

/-- What stands in a new block of two numbers, when a reader has gone on. -/
theorem new_pair {W W1 : World} {B : Nat} {a b : Value} {t : TypeId} (hg : (W.alloc (.cells #[a, b] t)).grownBy W1 (some B)) (hB : B < W.heap.size) :
    W1.cell? ⟨W.heap.size, 0, none⟩ = some a ∧ W1.cell? ⟨W.heap.size, 1, none⟩ = some b ∧ W1.frozen? ⟨W.heap.size, 0, none⟩ = false ∧ W1.frozen? ⟨W.heap.size, 1, none⟩ = false ∧ W.heap.size < W1.heap.size := by
  have hne : some W.heap.size ≠ some B := by simp; omega
  have hs : W.heap.size < (W.alloc (.cells #[a, b] t)).heap.size := by simp
  have hb := hg.block W.heap.size hs hne
  have hz := hg.size
  refine ⟨hg.cell (by rw [World.cell?_alloc_new]; rfl) hne, hg.cell (by rw [World.cell?_alloc_new]; rfl) hne, (World.frozen?_of_block hb).trans ?_, (World.frozen?_of_block hb).trans ?_, by omega⟩
  · simp only [World.frozen?, World.alloc_heap_new]; rfl
  · simp only [World.frozen?, World.alloc_heap_new]; rfl

theorem set_same {W : World} {a : Addr} {v u : Value} (h : W.cell? a = some u) : (W.setCell a v).cell? a = some v := by
  rw [World.cell?_setCell_same W a v h]

theorem set_two {W : World} {n : Nat} {a b u v : Value} (c0 : W.cell? ⟨n, 0, none⟩ = some u) (c1 : W.cell? ⟨n, 1, none⟩ = some v) :
    ((W.setCell ⟨n, 0, none⟩ a).setCell ⟨n, 1, none⟩ b).cell? ⟨n, 0, none⟩ = some a ∧ ((W.setCell ⟨n, 0, none⟩ a).setCell ⟨n, 1, none⟩ b).cell? ⟨n, 1, none⟩ = some b := by
  refine ⟨?_, set_same (u := v) ?_⟩
  · rw [World.cell?_setCell_other _ _ _ _ (by simp)]; exact set_same c0
  · rw [World.cell?_setCell_other _ _ _ _ (by simp)]; exact c1

theorem con_results (fn : Func) (hf : fn.results = #[.cell 2 34]) (W : World) (n : Nat) (k v : Int) (tmps : Array Value) (ht : tmps[2]? = some (.pointer (some ⟨n, 0, none⟩)))
    (h : W.cell? ⟨n, 0, none⟩ = some (.int .i64 k) ∧ W.cell? ⟨n, 1, none⟩ = some (.int .i64 v)) : (results fn tmps).run Tryd.prog W = .ok (con k v) W := by
  obtain ⟨c0, c1⟩ := h
  simp [results, hf, go_sem, ht, c0, c1]

/-- Two numbers in a block of the call's own. -/
def Two (W : World) (n : Nat) (a b : Value) : Prop :=
  W.cell? ⟨n, 0, none⟩ = some a ∧ W.cell? ⟨n, 1, none⟩ = some b ∧ W.frozen? ⟨n, 0, none⟩ = false ∧ W.frozen? ⟨n, 1, none⟩ = false ∧ n < W.heap.size

theorem Two.keep {W W' : World} {n B : Nat} {a b : Value} (h : Two W n a b) (hg : W.grownBy W' (some B)) (hB : n ≠ B) : Two W' n a b := by
  obtain ⟨c0, c1, f0, f1, hz⟩ := h
  have hne : some n ≠ some B := by simpa using hB
  have hb := hg.block n hz hne
  have hs := hg.size
  exact ⟨hg.cell c0 hne, hg.cell c1 hne, (World.frozen?_of_block hb).trans f0, (World.frozen?_of_block hb).trans f1, by omega⟩

theorem Two.below {W W' : World} {n : Nat} {a b : Value} (h : Two W n a b) (hg : Below W.heap.size W W') : Two W' n a b := by
  obtain ⟨c0, c1, f0, f1, hz⟩ := h
  exact ⟨(hg.cell (p := ⟨n, 0, none⟩) hz).trans c0, (hg.cell (p := ⟨n, 1, none⟩) hz).trans c1, (World.frozen?_of_block (hg.block n hz)).trans f0, (World.frozen?_of_block (hg.block n hz)).trans f1, Nat.lt_of_lt_of_le hz hg.size⟩

theorem two_new (W : World) (a b : Value) (t : TypeId) : Two (W.alloc (.cells #[a, b] t)) W.heap.size a b := by
  refine ⟨by rw [World.cell?_alloc_new]; rfl, by rw [World.cell?_alloc_new]; rfl, ?_, ?_, by simp⟩
  · simp only [World.frozen?, World.alloc_heap_new]; rfl
  · simp only [World.frozen?, World.alloc_heap_new]; rfl

theorem Two.set0 {W : World} {n : Nat} {a b c : Value} (h : Two W n a b) : Two (W.setCell ⟨n, 0, none⟩ c) n c b := by
  obtain ⟨c0, c1, f0, f1, hz⟩ := h
  exact ⟨set_same c0, by rw [World.cell?_setCell_other _ _ _ _ (by simp)]; exact c1, by rw [World.frozen?_setCell]; exact f0, by rw [World.frozen?_setCell]; exact f1, by simpa [World.setCell] using hz⟩

theorem Two.set1 {W : World} {n : Nat} {a b c : Value} (h : Two W n a b) : Two (W.setCell ⟨n, 1, none⟩ c) n a c := by
  obtain ⟨c0, c1, f0, f1, hz⟩ := h
  exact ⟨by rw [World.cell?_setCell_other _ _ _ _ (by simp)]; exact c0, set_same c1, by rw [World.frozen?_setCell]; exact f0, by rw [World.frozen?_setCell]; exact f1, by simpa [World.setCell] using hz⟩

theorem Two.setOther {W : World} {n : Nat} {a b c : Value} {x : Addr} (h : Two W n a b) (hx : x.block ≠ n) : Two (W.setCell x c) n a b := by
  obtain ⟨c0, c1, f0, f1, hz⟩ := h
  exact ⟨by rw [World.cell?_setCell_other _ _ _ _ (fun e => hx (congrArg Addr.block e))]; exact c0, by rw [World.cell?_setCell_other _ _ _ _ (fun e => hx (congrArg Addr.block e))]; exact c1, by rw [World.frozen?_setCell]; exact f0, by rw [World.frozen?_setCell]; exact f1, by simpa [World.setCell] using hz⟩

/-- The end of the draw: the result's two cells are written. -/
theorem con_end {N0 B p q : Nat} {W W' : World} {a b : Value} {k v : Int} {tmps : Array Value} (hT : Two W' W.heap.size a b) (hk : -1 ≤ k ∧ k ≤ 3) (hv : -1 ≤ v ∧ v ≤ 100) (hq : q ≤ p + 4)
    (hR : RdAt N0 W' B q) (hL : N0 ≤ W.heap.size) (hg : W.grownBy W' (some B)) (ht : tmps[2]? = some (.pointer (some ⟨W.heap.size, 0, none⟩))) :
    bodyPost Tryd.prog Tryd.f50 (ConDraw N0 B p W) .ret ⟨tmps, []⟩ ((W'.setCell ⟨W.heap.size, 0, none⟩ (.int .i64 k)).setCell ⟨W.heap.size, 1, none⟩ (.int .i64 v)) :=
  bodyPost_ret (con_results _ rfl _ W.heap.size k v _ ht (let h2 := (hT.set0 (c := .int .i64 k)).set1 (c := .int .i64 v); ⟨h2.1, h2.2.1⟩)) rfl
    (con_draw k v q hk hv hq ((hR.setNew _ _ hL).setNew _ _ hL) (grownBy_setCell_new (grownBy_setCell_new hg _ _ (Nat.le_refl _)) _ _ (Nat.le_refl _)))

set_option maxHeartbeats 1000000 in
theorem l91Content_c (N0 B p : Nat) (W : World) (hp : p < 29000) (hR : RdAt N0 W B p) :
    Calls Tryd.prog 50 #[.pointer (some ⟨B, 0, none⟩)] W (ConDraw N0 B p W) := by
  have HP1 := Lib.hid (fun W hR => pick_c N0 B p 6 (by omega) (by omega) W (by omega) hR)
  have HP2 := Lib.hid (fun W hR => pick_c N0 B (p + 1) 5 (by omega) (by omega) W (by omega) hR)
  have HP3 := Lib.hid (fun W hR => pick_c N0 B (p + 1 + 1) 40 (by omega) (by omega) W (by omega) hR)
  have HP4 := Lib.hid (fun W hR => pick_c N0 B (p + 1 + 1 + 1) 3 (by omega) (by omega) W (by omega) hR)
  have HR := Lib.hid hR
  have hle := hR.le
  have hlt := hR.lt
  have HL := Lib.hid hle
  have HT := Lib.hid hlt
  clear hR hle hlt hp
  go_enter Tryd.func50, Tryd.ntmps50
  go_wp2_with fail
  refine (HP1.out _ (HR.out.alloc _)).mono ?_
  rintro e W1 ⟨r, rfl, h0, h1, hR1, hg1⟩
  have TW1 := Lib.hid (show Two W1 W.heap.size _ _ from new_pair hg1 HT.out)
  have GW1 := Lib.hid (grownBy_trans (grownBy_new W _ (some B)) hg1)
  clear hg1
  by_cases r0 : r = 0
  · subst r0
    obtain ⟨g0, g1, f0, f1, -⟩ := TW1.out
    clear h0 h1
    go_wp2
    exact con_end TW1.out (by omega) (by omega) (by omega) hR1 HL.out GW1.out rfl
  · have b0 : (r == 0) = false := beq_eq_false_iff_ne.2 r0
    by_cases r1 : r = 1
    · subst r1
      obtain ⟨g0, g1, f0, f1, -⟩ := TW1.out
      clear h0 h1 r0
      go_wp2
      exact con_end TW1.out (by omega) (by omega) (by omega) hR1 HL.out GW1.out rfl
    by_cases r2 : r = 2
    · subst r2
      obtain ⟨g0, g1, f0, f1, -⟩ := TW1.out
      clear h0 h1 r0 r1
      go_wp2
      exact con_end TW1.out (by omega) (by omega) (by omega) hR1 HL.out GW1.out rfl
    have b1 : (r == 1) = false := beq_eq_false_iff_ne.2 r1
    have b2 : (r == 2) = false := beq_eq_false_iff_ne.2 r2
    clear h0 h1 r0 r1 r2
    go_wp2_with fail
    refine (HP2.out _ hR1).mono ?_
    rintro e W2 ⟨z, rfl, z0, z1, hR2, hg2⟩
    have ZB := Lib.hid (And.intro z0 z1)
    have TW2 := Lib.hid (TW1.out.keep hg2 (by have := HT.out; omega))
    have GW2 := Lib.hid (grownBy_trans GW1.out hg2)
    have HT2 := Lib.hid hR2.lt
    have HL2 := Lib.hid hR2.le
    clear hg2 hR1 TW1 GW1 z0 z1
    go_wp2_with fail
    refine (HP3.out _ (hR2.alloc _)).mono ?_
    rintro e W3 ⟨s, rfl, s0, s1, hR3, hg3⟩
    have CW3 := Lib.hid (show Two W3 W2.heap.size _ _ from new_pair hg3 HT2.out)
    have GW3 := Lib.hid (grownBy_trans GW2.out (grownBy_trans (grownBy_new W2 _ (some B)) hg3))
    have TW3 := Lib.hid (TW2.out.keep (grownBy_trans (grownBy_new W2 _ (some B)) hg3) (by have := HT.out; omega))
    have hsz : W.heap.size < W2.heap.size := TW2.out.2.2.2.2
    have HS := Lib.hid hsz
    clear hg3 hR2 TW2 GW2 hsz
    by_cases s0' : s = 0
    · subst s0'
      clear s0 s1
      go_wp2_with fail
      refine (HP4.out _ (hR3.alloc _)).mono ?_
      rintro e W4 ⟨x, rfl, x0, x1, hR4, hg4⟩
      have CW4 := Lib.hid (CW3.out.keep (grownBy_trans (grownBy_new W3 _ (some B)) hg4) (by have := HT2.out; omega))
      have TW4 := Lib.hid (TW3.out.keep (grownBy_trans (grownBy_new W3 _ (some B)) hg4) (by have := HT.out; omega))
      have GW4 := Lib.hid (grownBy_trans GW3.out (grownBy_trans (grownBy_new W3 _ (some B)) hg4))
      have hx : x = 0 ∨ x = 1 ∨ x = 2 := by omega
      rcases hx with hx | hx | hx
      · subst hx
        have L0 : W4.cell? ⟨W3.heap.size, 0, none⟩ = some (.int .i64 (-1)) := hg4.cell (by rw [World.cell?_alloc_new]; rfl) (by have := hR3.lt; simp; omega)
        have CW5 := Lib.hid (CW4.out.set1 (c := (.int .i64 (-1))))
        have TW5 := Lib.hid (TW4.out.setOther (c := (.int .i64 (-1))) (x := ⟨W2.heap.size, 1, none⟩) (by have := HS.out; show W2.heap.size ≠ _; omega))
        obtain ⟨d0, d1, e0, e1, -⟩ := CW4.out
        obtain ⟨m0, m1, -, -, -⟩ := CW5.out
        obtain ⟨g0, g1, f0, f1, -⟩ := TW5.out
        clear x0 x1 hg4
        go_wp2
        exact con_end (TW5.out) (by omega) (by omega) (by omega) (hR4.setNew _ _ HL2.out) HL.out (grownBy_setCell_new GW4.out _ _ (Nat.le_of_lt HS.out)) rfl
      · subst hx
        have L0 : W4.cell? ⟨W3.heap.size, 1, none⟩ = some (.int .i64 99) := hg4.cell (by rw [World.cell?_alloc_new]; rfl) (by have := hR3.lt; simp; omega)
        have CW5 := Lib.hid (CW4.out.set1 (c := (.int .i64 99)))
        have TW5 := Lib.hid (TW4.out.setOther (c := (.int .i64 99)) (x := ⟨W2.heap.size, 1, none⟩) (by have := HS.out; show W2.heap.size ≠ _; omega))
        obtain ⟨d0, d1, e0, e1, -⟩ := CW4.out
        obtain ⟨m0, m1, -, -, -⟩ := CW5.out
        obtain ⟨g0, g1, f0, f1, -⟩ := TW5.out
        clear x0 x1 hg4
        go_wp2
        exact con_end (TW5.out) (by omega) (by omega) (by omega) (hR4.setNew _ _ HL2.out) HL.out (grownBy_setCell_new GW4.out _ _ (Nat.le_of_lt HS.out)) rfl
      · subst hx
        have L0 : W4.cell? ⟨W3.heap.size, 2, none⟩ = some (.int .i64 100) := hg4.cell (by rw [World.cell?_alloc_new]; rfl) (by have := hR3.lt; simp; omega)
        have CW5 := Lib.hid (CW4.out.set1 (c := (.int .i64 100)))
        have TW5 := Lib.hid (TW4.out.setOther (c := (.int .i64 100)) (x := ⟨W2.heap.size, 1, none⟩) (by have := HS.out; show W2.heap.size ≠ _; omega))
        obtain ⟨d0, d1, e0, e1, -⟩ := CW4.out
        obtain ⟨m0, m1, -, -, -⟩ := CW5.out
        obtain ⟨g0, g1, f0, f1, -⟩ := TW5.out
        clear x0 x1 hg4
        go_wp2
        exact con_end (TW5.out) (by omega) (by omega) (by omega) (hR4.setNew _ _ HL2.out) HL.out (grownBy_setCell_new GW4.out _ _ (Nat.le_of_lt HS.out)) rfl
    · have c0 : (s == 0) = false := beq_eq_false_iff_ne.2 s0'
      by_cases s1' : s = 1
      · subst s1'
        clear s0 s1 s0'
        go_wp2_with fail
        refine (HP4.out _ (hR3.alloc _)).mono ?_
        rintro e W4 ⟨x, rfl, x0, x1, hR4, hg4⟩
        have CW4 := Lib.hid (CW3.out.keep (grownBy_trans (grownBy_new W3 _ (some B)) hg4) (by have := HT2.out; omega))
        have TW4 := Lib.hid (TW3.out.keep (grownBy_trans (grownBy_new W3 _ (some B)) hg4) (by have := HT.out; omega))
        have GW4 := Lib.hid (grownBy_trans GW3.out (grownBy_trans (grownBy_new W3 _ (some B)) hg4))
        have hx : x = 0 ∨ x = 1 ∨ x = 2 := by omega
        rcases hx with hx | hx | hx
        · subst hx
          have L0 : W4.cell? ⟨W3.heap.size, 0, none⟩ = some (.int .i64 3) := hg4.cell (by rw [World.cell?_alloc_new]; rfl) (by have := hR3.lt; simp; omega)
          have CW5 := Lib.hid (CW4.out.set0 (c := (.int .i64 3)))
          have TW5 := Lib.hid (TW4.out.setOther (c := (.int .i64 3)) (x := ⟨W2.heap.size, 0, none⟩) (by have := HS.out; show W2.heap.size ≠ _; omega))
          obtain ⟨d0, d1, e0, e1, -⟩ := CW4.out
          obtain ⟨m0, m1, -, -, -⟩ := CW5.out
          obtain ⟨g0, g1, f0, f1, -⟩ := TW5.out
          clear x0 x1 hg4
          go_wp2
          exact con_end (TW5.out) (by omega) (by have := ZB.out; omega) (by omega) (hR4.setNew _ _ HL2.out) HL.out (grownBy_setCell_new GW4.out _ _ (Nat.le_of_lt HS.out)) rfl
        · subst hx
          have L0 : W4.cell? ⟨W3.heap.size, 1, none⟩ = some (.int .i64 (-1)) := hg4.cell (by rw [World.cell?_alloc_new]; rfl) (by have := hR3.lt; simp; omega)
          have CW5 := Lib.hid (CW4.out.set0 (c := (.int .i64 (-1))))
          have TW5 := Lib.hid (TW4.out.setOther (c := (.int .i64 (-1))) (x := ⟨W2.heap.size, 0, none⟩) (by have := HS.out; show W2.heap.size ≠ _; omega))
          obtain ⟨d0, d1, e0, e1, -⟩ := CW4.out
          obtain ⟨m0, m1, -, -, -⟩ := CW5.out
          obtain ⟨g0, g1, f0, f1, -⟩ := TW5.out
          clear x0 x1 hg4
          go_wp2
          exact con_end (TW5.out) (by omega) (by have := ZB.out; omega) (by omega) (hR4.setNew _ _ HL2.out) HL.out (grownBy_setCell_new GW4.out _ _ (Nat.le_of_lt HS.out)) rfl
        · subst hx
          have L0 : W4.cell? ⟨W3.heap.size, 2, none⟩ = some (.int .i64 1) := hg4.cell (by rw [World.cell?_alloc_new]; rfl) (by have := hR3.lt; simp; omega)
          have CW5 := Lib.hid (CW4.out.set0 (c := (.int .i64 1)))
          have TW5 := Lib.hid (TW4.out.setOther (c := (.int .i64 1)) (x := ⟨W2.heap.size, 0, none⟩) (by have := HS.out; show W2.heap.size ≠ _; omega))
          obtain ⟨d0, d1, e0, e1, -⟩ := CW4.out
          obtain ⟨m0, m1, -, -, -⟩ := CW5.out
          obtain ⟨g0, g1, f0, f1, -⟩ := TW5.out
          clear x0 x1 hg4
          go_wp2
          exact con_end (TW5.out) (by omega) (by have := ZB.out; omega) (by omega) (hR4.setNew _ _ HL2.out) HL.out (grownBy_setCell_new GW4.out _ _ (Nat.le_of_lt HS.out)) rfl
      · have c1 : (s == 1) = false := beq_eq_false_iff_ne.2 s1'
        obtain ⟨d0, d1, e0, e1, -⟩ := CW3.out
        obtain ⟨g0, g1, f0, f1, -⟩ := TW3.out
        clear s0 s1 s0' s1'
        go_wp2
        exact con_end TW3.out (by omega) (by have := ZB.out; omega) (by omega) hR3 HL.out GW3.out rfl

end Go.Proofs.YtkaokncaockjkaaDoor

/-
  WALKS: lists of nodes in memory; spec.l3Get.
-/
namespace Go.Proofs.YtkaokncaockjkaaDoor
open Go.RowKit
set_option linter.unusedVariables false

/-- A list of nodes in memory. -/
def NodesAt (W : World) (a : Option Addr) (len : Nat) (ns : List Nd) : Prop :=
  ns.length = len ∧ (len = 0 ∨ ∃ b off, a = some ⟨b, off, none⟩ ∧ ∀ i n, ns[i]? = some n →
    W.cell? ⟨b, off + i * 3, none⟩ = some (.string n.p) ∧ W.cell? ⟨b, off + i * 3 + 1, none⟩ = some (.int .i64 n.k) ∧ W.cell? ⟨b, off + i * 3 + 2, none⟩ = some (.int .i64 n.v))

theorem NodesAt.keep {W W' : World} {a : Option Addr} {len : Nat} {ns : List Nd} (h : NodesAt W a len ns) (hb : Below W.heap.size W W') : NodesAt W' a len ns := by
  obtain ⟨h1, h0 | ⟨b, off, ha, hc⟩⟩ := h
  · exact ⟨h1, .inl h0⟩
  · exact ⟨h1, .inr ⟨b, off, ha, fun i n hn => ⟨cell_kept hb (hc i n hn).1, cell_kept hb (hc i n hn).2.1, cell_kept hb (hc i n hn).2.2⟩⟩⟩

/-- The cells of a node at a place. -/
theorem NodesAt.node {W : World} {a : Option Addr} {len : Nat} {ns : List Nd} (h : NodesAt W a len ns) {i : Nat} (hi : i < len) :
    ∃ b off n, a = some ⟨b, off, none⟩ ∧ ns[i]? = some n ∧ W.cell? ⟨b, off + i * 3, none⟩ = some (.string n.p) ∧ W.cell? ⟨b, off + i * 3 + 1, none⟩ = some (.int .i64 n.k) ∧ W.cell? ⟨b, off + i * 3 + 2, none⟩ = some (.int .i64 n.v) := by
  obtain ⟨h1, h0 | ⟨b, off, ha, hc⟩⟩ := h
  · omega
  · obtain ⟨n, hn⟩ : ∃ n, ns[i]? = some n := ⟨_, List.getElem?_eq_getElem (by omega)⟩
    exact ⟨b, off, n, ha, hn, hc i n hn⟩

/-- The content of a result cell, wherever the cell's address stands. -/
theorem conS_results (s : Nat) (fn : Func) (hf : fn.results = #[.cell s 34]) (W : World) (n : Nat) (k v : Int) (tmps : Array Value) (ht : tmps[s]? = some (.pointer (some ⟨n, 0, none⟩)))
    (h : W.cell? ⟨n, 0, none⟩ = some (.int .i64 k) ∧ W.cell? ⟨n, 1, none⟩ = some (.int .i64 v)) : (results fn tmps).run Tryd.prog W = .ok (con k v) W := by
  obtain ⟨c0, c1⟩ := h
  simp [results, hf, go_sem, ht, c0, c1]

theorem conS_at (s : Nat) (fn : Func) (hf : fn.results = #[.cell s 34]) {W W' : World} {k v : Int} {c : Int × Int} (hc : c = (k, v)) {tmps : Array Value} (n : Nat) (h : W'.cell? ⟨n, 0, none⟩ = some (.int .i64 k) ∧ W'.cell? ⟨n, 1, none⟩ = some (.int .i64 v))
    (hB : Below W.heap.size W W') (ht : tmps[s]? = some (.pointer (some ⟨n, 0, none⟩))) : bodyPost Tryd.prog fn (ConRet c.1 c.2 W) .ret ⟨tmps, []⟩ W' := by
  subst hc
  exact bodyPost_ret (conS_results s fn hf _ n k v _ ht h) rfl ⟨rfl, hB⟩

/-- .. and when the cell is written last. -/
theorem conS_set (s : Nat) (fn : Func) (hf : fn.results = #[.cell s 34]) {W W' : World} {a b : Value} {k v : Int} {c : Int × Int} (hc : c = (k, v)) {tmps : Array Value} (hT : Two W' W.heap.size a b) (hB : Below W.heap.size W W') (ht : tmps[s]? = some (.pointer (some ⟨W.heap.size, 0, none⟩))) :
    bodyPost Tryd.prog fn (ConRet c.1 c.2 W) .ret ⟨tmps, []⟩ ((W'.setCell ⟨W.heap.size, 0, none⟩ (.int .i64 k)).setCell ⟨W.heap.size, 1, none⟩ (.int .i64 v)) :=
  conS_at s fn hf hc W.heap.size (let h2 := (hT.set0 (c := .int .i64 k)).set1 (c := .int .i64 v); ⟨h2.1, h2.2.1⟩) (below_setCell (below_setCell hB _ _ (Nat.le_refl _)) _ _ (Nat.le_refl _)) ht

theorem getT_find {ns : List Nd} {p : ByteArray} (hr : p ≠ ⟨#[47]⟩) {i : Nat} {n : Nd} (hn : ns[i]? = some n) (hp : n.p = p) (hm : ∀ j m, j < i → ns[j]? = some m → m.p ≠ p) : getT ns p = (n.k, n.v) := by
  unfold getT getL look
  rw [if_neg hr]
  have : ns.find? (fun n => decide (n.p = p)) = some n := by
    rw [List.find?_eq_some_iff_getElem]
    obtain ⟨h1, h2⟩ := List.getElem?_eq_some_iff.1 hn
    refine ⟨by simpa using hp, i, h1, h2, fun j hj => ?_⟩
    simpa using hm j _ hj (List.getElem?_eq_getElem (by omega))
  rw [this]

theorem getT_miss {ns : List Nd} {p : ByteArray} (hr : p ≠ ⟨#[47]⟩) (hm : ∀ j m, j < ns.length → ns[j]? = some m → m.p ≠ p) : getT ns p = (0, 0) := by
  unfold getT getL
  rw [if_neg hr, look_none.2 (fun n hn => by
    obtain ⟨i, hi⟩ := List.getElem?_of_mem hn
    exact hm i n (List.getElem?_eq_some_iff.1 hi).1 hi)]

def GetRel (ns : List Nd) (p : ByteArray) (i : Value) : Prop := ∃ n : Nat, i = .int .i64 n ∧ n ≤ ns.length ∧ Hid (∀ j m, j < n → ns[j]? = some m → m.p ≠ p)

set_option maxHeartbeats 1000000 in
theorem l3Get_c (a : Option Addr) (len cap : Nat) (ns : List Nd) (p : ByteArray) (hl : len ≤ 2097152) (W : World) (hN : NodesAt W a len ns) :
    Calls Tryd.prog 57 #[.slice a len cap, .string p] W (ConRet (getT ns p).1 (getT ns p).2 W) := by
  by_cases hr : p = ⟨#[47]⟩
  · subst hr
    go_enter Tryd.func57, Tryd.ntmps57
    go_wp2
    exact conS_at 4 _ rfl rfl W.heap.size ⟨by rw [World.cell?_alloc_new]; rfl, by rw [World.cell?_alloc_new]; rfl⟩ (below_box _ _) rfl
  · have hne : (p.toList == [47]) = false := by
      rw [beq_eq_false_iff_ne, Lib.toList_data]
      exact fun e => hr (by rw [← Lib.mk_data p, e])
    have HR := Lib.hid hr
    have HN := Lib.hid hN
    have hlen := hN.1
    have HE := Lib.hid hlen
    clear hr hN hlen
    go_enter Tryd.func57, Tryd.ntmps57
    go_wp2
    clear hne
    go_loop [5] (fun i => GetRel ns p i) (fun i => len - (intOf i).toNat)
    case atStart => exact ⟨0, rfl, by omega, Lib.hid (fun j m h _ => absurd h (by omega))⟩
    case round =>
      obtain ⟨i, rfl, hi, HM⟩ := hrel
      by_cases hlt : i < len
      · obtain ⟨b, off, n, rfl, hn, c0, c1, c2⟩ := (HN.out.keep (below_box W (.cells #[.int .i64 0, .int .i64 0] 34))).node hlt
        have hlt' : (i : Int) < len := by omega
        have HI := Lib.hid hn
        by_cases hp : n.p = p
        · have HG := Lib.hid (getT_find HR.out hn hp HM.out)
          have hpp : (n.p.toList == p.toList) = true := by rw [hp]; simp
          clear hi hlt hn hp
          go_wp2
          exact conS_at 4 _ rfl HG.out W.heap.size ⟨by rw [World.cell?_alloc_new]; rfl, by rw [World.cell?_alloc_new]; rfl⟩ (below_box _ _) rfl
        · have hpp : (n.p.toList == p.toList) = false := by
            rw [beq_eq_false_iff_ne, Lib.toList_data, Lib.toList_data]
            exact fun e => hp (by rw [← Lib.mk_data n.p, ← Lib.mk_data p, e])
          have HP := Lib.hid hp
          have HL := Lib.hid hlt
          clear hi hlt hn hp
          go_wp2
          go_round
          case rel =>
            refine ⟨i + 1, by go_num, by have := HL.out; have := HE.out; omega, ?_⟩
            intro j m hj hm
            by_cases hji : j < i
            · exact HM.out j m hji hm
            · have : j = i := by omega
              subst this
              rw [HI.out] at hm
              obtain rfl := Option.some.inj hm
              exact HP.out
          case measure => have := HL.out; simp [intOf]; omega
      · have hge : (len : Int) ≤ i := by omega
        have HG := Lib.hid (getT_miss HR.out (fun j m hj hm => HM.out j m (by have := HE.out; omega) hm))
        clear hi hlt
        go_wp2
        exact conS_at 4 _ rfl HG.out W.heap.size ⟨by rw [World.cell?_alloc_new]; rfl, by rw [World.cell?_alloc_new]; rfl⟩ (below_box _ _) rfl

end Go.Proofs.YtkaokncaockjkaaDoor

/-
  WALKS: names (impl.isName, spec.l1Name), strings.CutPrefix and strings.Cut at a slash, strings.HasPrefix, strings.LastIndexByte.
-/
namespace Go.Proofs.YtkaokncaockjkaaDoor
open Go.RowKit

theorem ret_bool {a b : Bool} (h : a = b) : Ending.returned (.bool a) = .returned (.bool b) := by rw [h]
theorem ret_int {k : IntKind} {a b : Int} (h : a = b) : Ending.returned (.int k a) = .returned (.int k b) := by rw [h]

set_option maxHeartbeats 400000 in
set_option maxRecDepth 100000 in
theorem isName_c (s : ByteArray) (w : World) :
    Calls Tryd.prog 82 #[.string s] w fun e w' => e = .returned (.bool (Pm.nameB s.data.toList)) ∧ w' = w := by
  obtain ⟨⟨l⟩⟩ := s
  match l with
  | [] =>
    go_enter Tryd.func82, Tryd.ntmps82
    go_wp2
    go_ret
    exact ⟨rfl, rfl⟩
  | [c] =>
    go_enter Tryd.func82, Tryd.ntmps82
    go_wp2
    · rename_i h
      go_ret
      refine ⟨ret_bool ?_, rfl⟩
      have h : 97 ≤ (c.toNat : Int) := h
      show decide ((c.toNat : Int) ≤ 100) = decide (97 ≤ (c.toNat : Int) ∧ (c.toNat : Int) ≤ 100)
      simp [h]
    · rename_i h
      go_ret
      refine ⟨ret_bool ?_, rfl⟩
      have h : (c.toNat : Int) < 97 := h
      show false = decide (97 ≤ (c.toNat : Int) ∧ (c.toNat : Int) ≤ 100)
      exact (decide_eq_false (by omega)).symm
  | c :: d :: l =>
    go_enter Tryd.func82, Tryd.ntmps82
    go_wp2
    go_ret
    refine ⟨ret_bool ?_, rfl⟩
    simp only [Pm.nameB]
    first | done | exact decide_eq_false (by omega)

set_option maxHeartbeats 400000 in
set_option maxRecDepth 100000 in
theorem l1Name_c (s : ByteArray) (w : World) :
    Calls Tryd.prog 86 #[.string s] w fun e w' => e = .returned (.bool (Pm.nameB s.data.toList)) ∧ w' = w := by
  obtain ⟨⟨l⟩⟩ := s
  match l with
  | [] =>
    go_enter Tryd.func86, Tryd.ntmps86
    go_wp2
    go_ret
    exact ⟨rfl, rfl⟩
  | [c] =>
    go_enter Tryd.func86, Tryd.ntmps86
    go_wp2
    · rename_i h
      go_ret
      refine ⟨ret_bool ?_, rfl⟩
      have h : 97 ≤ (c.toNat : Int) := h
      show decide ((c.toNat : Int) ≤ 100) = decide (97 ≤ (c.toNat : Int) ∧ (c.toNat : Int) ≤ 100)
      simp [h]
    · rename_i h
      go_ret
      refine ⟨ret_bool ?_, rfl⟩
      have h : (c.toNat : Int) < 97 := h
      show false = decide (97 ≤ (c.toNat : Int) ∧ (c.toNat : Int) ≤ 100)
      exact (decide_eq_false (by omega)).symm
  | c :: d :: l =>
    go_enter Tryd.func86, Tryd.ntmps86
    go_wp2
    go_ret
    refine ⟨ret_bool ?_, rfl⟩
    simp only [Pm.nameB]
    first | done | exact decide_eq_false (by omega)

set_option maxHeartbeats 400000 in
set_option maxRecDepth 100000 in
theorem indexByte_c (s : ByteArray) (c : Int) (w : World) :
    Calls Tryd.prog 98 #[.string s, .int .u8 c] w fun e w' => e = .returned (.int .i64 (Lib.indexByte s.data.toList c.toNat.toUInt8)) ∧ w' = w := by
  go_enter Tryd.func98, Tryd.ntmps98
  go_wp2
  rw [run_callFunc_extern Tryd.func102 (by kernel_rfl) (by kernel_rfl) (by kernel_rfl) (e := Extern.BytealgIndexByte.indexByte) (by kernel_rfl), Lib.run_indexByteString]
  simp only [Result.andThen]
  rw [Oper.upon_value]
  go_wp2
  go_ret
  exact ⟨rfl, rfl⟩

theorem toList_47 {s : ByteArray} (h : ([47] == s.toList) = true) : s.data.toList = [47] := by
  have h := eq_of_beq h
  rw [Lib.toList_data] at h
  exact h.symm

set_option maxHeartbeats 400000 in
set_option maxRecDepth 100000 in
theorem index_c (s : ByteArray) (w : World) :
    Calls Tryd.prog 97 #[.string s, .string ⟨#[47]⟩] w fun e w' => e = .returned (.int .i64 (Lib.indexByte s.data.toList 47)) ∧ w' = w := by
  cases h : ([47] == s.toList)
  · go_enter Tryd.func97, Tryd.ntmps97
    go_wp2_with fail
    refine (indexByte_c s 47 _).mono ?_
    rintro e w' ⟨rfl, rfl⟩
    go_wp2
    go_ret
    exact ⟨rfl, rfl⟩
  · have h47 := toList_47 h
    have h0 : Lib.indexByte s.data.toList 47 = 0 := by rw [h47]; rfl
    have H0 := Lib.hid h0
    clear h0 h47
    go_enter Tryd.func97, Tryd.ntmps97
    go_wp2
    go_ret
    exact ⟨ret_int H0.out.symm, rfl⟩

set_option maxHeartbeats 400000 in
set_option maxRecDepth 100000 in
theorem slCut_miss (s : ByteArray) (w : World) (h : Lib.indexByte s.data.toList 47 = -1) :
    Calls Tryd.prog 94 #[.string s, .string ⟨#[47]⟩] w fun e w' => e = .returned (.tuple #[.string s, .string ⟨#[]⟩, .bool false]) ∧ w' = w := by
  have hx : ∀ w, Calls Tryd.prog 97 #[.string s, .string ⟨#[47]⟩] w fun e w' => e = .returned (.int .i64 (-1)) ∧ w' = w := fun w => by
    rw [← h]; exact index_c s w
  clear h
  go_enter Tryd.func94, Tryd.ntmps94
  go_wp2_with (go_at_call 97; refine (hx _).mono ?_; rintro e w' ⟨rfl, rfl⟩)
  go_ret3
  exact ⟨rfl, rfl⟩

set_option maxHeartbeats 400000 in
set_option maxRecDepth 100000 in
theorem cut_miss (s : ByteArray) (w : World) (h : Lib.indexByte s.data.toList 47 = -1) :
    Calls Tryd.prog 90 #[.string s, .string ⟨#[47]⟩] w fun e w' => e = .returned (.tuple #[.string s, .string ⟨#[]⟩, .bool false]) ∧ w' = w := by
  have hx := fun w => slCut_miss s w h
  clear h
  go_enter Tryd.func90, Tryd.ntmps90
  go_wp2_with (go_at_call 94; refine (hx _).mono ?_; rintro e w' ⟨rfl, rfl⟩)
  go_ret3
  exact ⟨rfl, rfl⟩

set_option maxHeartbeats 400000 in
set_option maxRecDepth 100000 in
theorem slCut_hit (s : ByteArray) (i : Nat) (w : World) (h : Lib.indexByte s.data.toList 47 = i) (hi : i + 1 ≤ s.size) (hs : s.size ≤ 140737488355328) :
    Calls Tryd.prog 94 #[.string s, .string ⟨#[47]⟩] w fun e w' => e = .returned (.tuple #[.string (s.extract 0 i), .string (s.extract (i + 1) s.size), .bool true]) ∧ w' = w.drew := by
  have hx : ∀ w, Calls Tryd.prog 97 #[.string s, .string ⟨#[47]⟩] w fun e w' => e = .returned (.int .i64 i) ∧ w' = w := fun w => by
    rw [← h]; exact index_c s w
  clear h
  have c1 : (0 : Int) ≤ ↑i := by omega
  have c2 : (↑i : Int) ≤ ↑s.size := by omega
  have c3 : (0 : Int) ≤ ↑i + 1 := by omega
  have c4 : (↑i + 1 : Int) ≤ ↑s.size := by omega
  go_enter Tryd.func94, Tryd.ntmps94
  go_wp2_with (go_at_call 97; refine (hx _).mono ?_; rintro e w' ⟨rfl, rfl⟩)
  go_region
  all_goals go_wp2
  all_goals go_ret3
  all_goals exact ⟨rfl, rfl⟩

set_option maxHeartbeats 400000 in
set_option maxRecDepth 100000 in
theorem cut_hit (s : ByteArray) (i : Nat) (w : World) (h : Lib.indexByte s.data.toList 47 = i) (hi : i + 1 ≤ s.size) (hs : s.size ≤ 140737488355328) :
    Calls Tryd.prog 90 #[.string s, .string ⟨#[47]⟩] w fun e w' => e = .returned (.tuple #[.string (s.extract 0 i), .string (s.extract (i + 1) s.size), .bool true]) ∧ w' = w.drew := by
  have hx := fun w => slCut_hit s i w h hi hs
  clear h
  go_enter Tryd.func90, Tryd.ntmps90
  go_wp2_with (go_at_call 94; refine (hx _).mono ?_; rintro e w' ⟨rfl, rfl⟩)
  go_ret3
  exact ⟨rfl, rfl⟩

set_option maxHeartbeats 400000 in
set_option maxRecDepth 100000 in
theorem cutPrefix_yes (s : ByteArray) (w : World) (h : (s.extract 0 1).toList = [47]) (hs : 1 ≤ s.size) (hl : s.size ≤ 140737488355328) :
    Calls Tryd.prog 89 #[.string s, .string ⟨#[47]⟩] w fun e w' => e = .returned (.tuple #[.string (s.extract 1 s.size), .bool true]) ∧ w' = w := by
  have h1 : ((s.extract 0 1).toList == [47]) = true := by rw [h]; rfl
  have h2 : (1 : Int) ≤ s.size := by omega
  clear h
  go_enter Tryd.func89, Tryd.ntmps89
  go_wp2
  go_ret2
  exact ⟨rfl, rfl⟩

set_option maxHeartbeats 400000 in
set_option maxRecDepth 100000 in
theorem cutPrefix_no (s : ByteArray) (w : World) (h : 1 ≤ s.size → ((s.extract 0 1).toList == [47]) = false) (hl : s.size ≤ 140737488355328) :
    Calls Tryd.prog 89 #[.string s, .string ⟨#[47]⟩] w fun e w' => e = .returned (.tuple #[.string s, .bool false]) ∧ w' = w := by
  by_cases hs : 1 ≤ s.size
  · have h1 := h hs
    have h2 : (1 : Int) ≤ s.size := by omega
    clear h
    go_enter Tryd.func89, Tryd.ntmps89
    go_wp2
    go_ret2
    exact ⟨rfl, rfl⟩
  · have h2 : (s.size : Int) < 1 := by omega
    clear h
    go_enter Tryd.func89, Tryd.ntmps89
    go_wp2
    go_ret2
    exact ⟨rfl, rfl⟩

end Go.Proofs.YtkaokncaockjkaaDoor

/-
  WALKS: the iterator over the parts of a text (impl.partsOf).
-/
namespace Go.Proofs.YtkaokncaockjkaaDoor
open Go.RowKit

attribute [local go_sem] Oper.semAt_some

/-- How much is left to be cut. -/
def cutLeft : Value → Value → Nat
  | .string s, .bool true => s.size + 1
  | _, _ => 0

def tailOf (r : ByteArray) (m : Bool) : List ByteArray := if m = true then Pm.splitB r else []

set_option maxRecDepth 100000 in
set_option maxHeartbeats 1000000 in
/-- The closure's walk, for whatever loop body. -/
theorem parts1_in (n : Nat) (hn : 1 ≤ n) (l Bn n₀ : Nat) (s : ByteArray) (hs : s.size ≤ 140737488355328) (J Jx : List ByteArray → World → Prop)
    (hJd : ∀ pre W, J pre W → J pre W.drew)
    (hY : ∀ pre x W, J pre W → pre.length < (Pm.partsB s).length → YieldAt Fence.wide (n - 1) Tryd.prog l #[.string x] W fun e W' =>
      (e = .returned (.bool true) ∧ J (pre ++ [x]) W' ∧ Below n₀ W W') ∨ (e = .returned (.bool false) ∧ Jx (pre ++ [x]) W'))
    (W : World) (hBn : W.cell? ⟨Bn, 0, none⟩ = some (.string s)) (h0 : J [] W) :
    CallsIn Fence.wide n Tryd.prog 88 #[.func (.yield l) #[] #[], .pointer (some ⟨Bn, 0, none⟩)] W fun e W' => (∃ v, e = .returned v) ∧
      ((∃ ys, ys = Pm.partsB s ∧ J ys W') ∨ (∃ pre, pre <+: Pm.partsB s ∧ Jx pre W')) := by
  have key : ∃ (r : ByteArray) (m : Bool), r.size ≤ 140737488355328 ∧ Hid (Pm.partsB s = tailOf r m) ∧ ∀ w, Calls Tryd.prog 89 #[.string s, .string ⟨#[47]⟩] w fun e w' => e = .returned (.tuple #[.string r, .bool m]) ∧ w' = w := by
    by_cases h : (s.extract 0 1).toList = [47]
    · have h1 : 1 ≤ s.size := by
        exact Pm.one_le_of_head h
      exact ⟨s.extract 1 s.size, true, Pm.extract_le s 1 _ hs, Pm.partsB_yes s h, fun w => cutPrefix_yes s w h h1 hs⟩
    · have h' : 1 ≤ s.size → ((s.extract 0 1).toList == [47]) = false := fun _ => by simpa using h
      exact ⟨s, false, hs, Pm.partsB_no s h', fun w => cutPrefix_no s w h' hs⟩
  obtain ⟨r0, m0, hr0, HP, hcp⟩ := key
  refine callsIn_of_wp Tryd.func88 rfl trivial ?_ rfl
  simp only [Tryd.ntmps88, List.size_toArray, List.length_cons, List.length_nil, Nat.reduceAdd, Nat.reduceSub, Array.replicate_succ, Array.replicate_zero, List.push_toArray, List.append_toArray, List.nil_append, List.cons_append]
  gi_wp2_with (refine ⟨trivial, ?_⟩; gi_at_call 89; refine (callsIn_wide.2 (hcp _)).mono ?_; rintro e w' ⟨rfl, rfl⟩)
  gi_loopw [3, 4] (fun r m wr => ∃ (pre : List ByteArray) (rb : ByteArray) (mb : Bool), r = .string rb ∧ m = .bool mb ∧ rb.size ≤ 140737488355328 ∧ Hid (Pm.partsB s = pre ++ tailOf rb mb) ∧ J pre wr)
    (fun r m wr => cutLeft r m)
  case atStart =>
    exact ⟨[], r0, m0, rfl, rfl, hr0, HP, h0⟩
  case round =>
    obtain ⟨pre, rb, mb, rfl, rfl, hrb, HX, hJs⟩ := hrel
    cases mb with
    | false =>
      gi_wp2
      go_end0
      exact ⟨⟨_, rfl⟩, .inl ⟨pre, by have := HX.out; simpa [tailOf] using this.symm, hJs⟩⟩
    | true =>
      rcases Pm.indexByte_cases rb with hix | ⟨i, hix, hroom⟩
      · have hsp := Pm.splitB_miss rb hix
        have HX2 : Hid (Pm.partsB s = pre ++ [rb]) := by have := HX.out; show _ = _; simpa [tailOf, hsp] using this
        have hc := fun w => cut_miss rb w hix
        have hlt : pre.length < (Pm.partsB s).length := by rw [HX2.out]; simp
        obtain ⟨fn, tmps, assign, body, hy, hR⟩ := hY pre rb wr hJs hlt
        clear hlt hix hsp
        gi_wp2_with (refine ⟨trivial, ?_⟩; gi_at_call 90; refine (callsIn_wide.2 (hc _)).mono ?_; rintro e w' ⟨rfl, rfl⟩)
        refine hR.mono ?_
        rintro e W3 (⟨rfl, hJ3, hk3⟩ | ⟨rfl, hJx3⟩)
        · gi_wp2
          go_roundw
          case rel => exact ⟨pre ++ [rb], ⟨#[]⟩, false, rfl, rfl, Nat.zero_le _, by have := HX2.out; show _ = _; simpa [tailOf] using this, hJ3⟩
          case measure => show 0 < rb.size + 1; omega
        · gi_wp2
          refine bodyPost_ret (results_none rfl _ _ _) rfl ?_
          exact ⟨⟨_, rfl⟩, .inr ⟨pre ++ [rb], by rw [HX2.out]; exact List.prefix_rfl, hJx3⟩⟩
      · have hsp := Pm.splitB_hit rb i hix
        have HX2 : Hid (Pm.partsB s = pre ++ (rb.extract 0 i :: Pm.splitB (rb.extract (i + 1) rb.size))) := by have := HX.out; show _ = _; simpa [tailOf, hsp] using this
        have hc := fun w => cut_hit rb i w hix hroom hrb
        have hlt : pre.length < (Pm.partsB s).length := by rw [HX2.out]; simp
        obtain ⟨fn, tmps, assign, body, hy, hR⟩ := hY pre (rb.extract 0 i) wr.drew (hJd _ _ hJs) hlt
        clear hlt hix hsp
        gi_wp2_with (refine ⟨trivial, ?_⟩; gi_at_call 90; refine (callsIn_wide.2 (hc _)).mono ?_; rintro e w' ⟨rfl, rfl⟩)
        refine hR.mono ?_
        rintro e W3 (⟨rfl, hJ3, hk3⟩ | ⟨rfl, hJx3⟩)
        · gi_wp2
          go_roundw
          case rel => exact ⟨pre ++ [rb.extract 0 i], rb.extract (i + 1) rb.size, true, rfl, rfl, Pm.extract_le rb _ _ hrb, by have := HX2.out; show _ = _; simpa [tailOf] using this, hJ3⟩
          case measure => show (rb.extract (i + 1) rb.size).size + 1 < rb.size + 1; rw [ByteArray.size_extract]; omega
        · gi_wp2
          refine bodyPost_ret (results_none rfl _ _ _) rfl ?_
          exact ⟨⟨_, rfl⟩, .inr ⟨pre ++ [rb.extract 0 i], by rw [HX2.out]; exact ⟨Pm.splitB (rb.extract (i + 1) rb.size), by simp⟩, hJx3⟩⟩

set_option maxHeartbeats 1000000 in
set_option maxRecDepth 100000 in
/-- impl.partsOf: the text is boxed; the function value captures the box. -/
theorem partsOf_in (n : Nat) (s : ByteArray) (w : World) :
    CallsIn Fence.wide n Tryd.prog 81 #[.string s] w fun e w' => e = .returned (.func (.func 88) #[] #[.pointer (some ⟨w.heap.size, 0, none⟩)]) ∧ w' = w.alloc (.cells #[.string s] 9) := by
  refine callsIn_of_wp Tryd.func81 rfl trivial ?_ rfl
  simp only [Tryd.ntmps81, List.size_toArray, List.length_cons, List.length_nil, Nat.reduceAdd, Nat.reduceSub, Array.replicate_succ, Array.replicate_zero, List.push_toArray, List.append_toArray, List.nil_append, List.cons_append]
  gi_wp2
  go_ret
  exact ⟨rfl, rfl⟩

theorem partsOf_stops (n : Nat) (hn : 1 ≤ n) (Bn n₀ : Nat) (s : ByteArray) (hs : s.size ≤ 140737488355328) (w : World) (hBn : Bn < w.heap.size)
    (hc : w.cell? ⟨Bn, 0, none⟩ = some (.string s)) :
    SeqStopsK Fence.wide n Tryd.prog 88 #[.pointer (some ⟨Bn, 0, none⟩)] (fun x : ByteArray => #[Value.string x]) (Below n₀) (fun ys => ys = Pm.partsB s) (fun pre => pre <+: Pm.partsB s) (Pm.partsB s).length w := fun l J Jx W hW hJ _ hY h0 =>
  parts1_in n hn l Bn n₀ s hs J Jx (fun pre W h => hJ pre W W.drew none h (Lib.Hx.grownBy_drew (Lib.Hx.grownBy_refl W none)) (fun r e => by cases e)) hY W ((hW.cell (p := ⟨Bn, 0, none⟩) hBn).trans hc) h0

end Go.Proofs.YtkaokncaockjkaaDoor

/-
  WALKS: impl.PathDepth, impl.PathValid.
-/
namespace Go.Proofs.YtkaokncaockjkaaDoor
open Go.RowKit Go.Shelf

attribute [local go_sem] Oper.semAt_some

theorem name_yes {x : ByteArray} (h : Pm.nameBB x = true) (w : World) : Calls Tryd.prog 82 #[.string x] w fun e w' => e = .returned (.bool true) ∧ w' = w := by
  rw [← h]; exact isName_c x w
theorem name_no {x : ByteArray} (h : Pm.nameBB x = false) (w : World) : Calls Tryd.prog 82 #[.string x] w fun e w' => e = .returned (.bool false) ∧ w' = w := by
  rw [← h]; exact isName_c x w

set_option maxRecDepth 100000 in
set_option maxHeartbeats 2000000 in
theorem pathDepth_root (w : World) :
    Calls Tryd.prog 71 #[.string ⟨#[47]⟩] w fun e w' => e = .returned (.int .i64 0) ∧ Below w.heap.size w w' := by
  go_enter Tryd.func71, Tryd.ntmps71
  go_wp2
  exact bodyPost_ret (v := .int .i64 0) (by simp [results, Tryd.f71, go_sem]) rfl ⟨rfl, (Below.refl _ _).alloc (Nat.le_refl _) _⟩

set_option maxRecDepth 100000 in
set_option maxHeartbeats 2000000 in
theorem pathDepth_in (s : ByteArray) (hr : s ≠ ⟨#[47]⟩) (hs : s.size ≤ 140737488355328) (w : World) :
    CallsIn Fence.wide 6 Tryd.prog 71 #[.string s] w fun e w' => e = .returned (.int .i64 (Pm.depth s.data.toList)) ∧ Below w.heap.size w w' := by
  have hr2 : (s.toList == [47]) = false := by
    rw [Lib.toList_data]; simpa using fun e => hr (by rw [← Lib.mk_data s, e])
  refine callsIn_of_wp_marks Tryd.func71 rfl trivial ?_ rfl
  simp only [Tryd.ntmps71, List.size_toArray, List.length_cons, List.length_nil, Nat.reduceAdd, Nat.reduceSub, Array.replicate_succ, Array.replicate_zero, List.push_toArray, List.append_toArray, List.nil_append, List.cons_append]
  gi_wp2_with (refine ⟨trivial, ?_⟩; gi_at_call 81; refine (partsOf_in _ s _).mono ?_; rintro e w' ⟨rfl, rfl⟩)
  have b0 := Boxed.new w 3 (.int .i64 0)
  have b1 := Boxed.new (w.alloc (.cells #[.int .i64 0] 3)) 3 (.int .i64 0)
  have b2 := Boxed.new ((w.alloc (.cells #[.int .i64 0] 3)).alloc (.cells #[.int .i64 0] 3)) 9 (.string s)
  simp only [World.size_alloc] at b1 b2
  have hB0 : Below w.heap.size w (((w.alloc (.cells #[.int .i64 0] 3)).alloc (.cells #[.int .i64 0] 3)).alloc (.cells #[.string s] 9)) := (((Below.refl _ w).alloc (Nat.le_refl _) _).alloc (by simp) _).alloc (by simp; omega) _
  refine wpIn_rangeFunc_ownG rfl (by omega) (gf := 88) (lb := #[.pointer (some ⟨w.heap.size + 1 + 1, 0, none⟩)]) rfl trivial (enters_of Tryd.func88 (by kernel_rfl) rfl)
    (partsOf_stops _ (by omega) (w.heap.size + 1 + 1) w.heap.size s hs _ (by simp) b2.cell) belowK_t (belowK_b (by simp; omega)) (Below.refl _ _) (fun _ => rfl)
    (fun pre W => ((pre.all Pm.nameBB = true ∧ pre.length ≤ 4) ∧ Boxed W w.heap.size 3 (.int .i64 0) ∧ Boxed W (w.heap.size + 1) 3 (.int .i64 pre.length)) ∧ Below w.heap.size w W)
    (fun c pre W => (c = .ret ∧ (pre.all Pm.nameBB = false ∨ 4 < pre.length) ∧ Boxed W w.heap.size 3 (.int .i64 (-1))) ∧ Below w.heap.size w W)
    (OwnFrom.and (Own.from (fun s A B row hs hg hr => ⟨hs.1, boxed_own _ _ (fun _ : Unit => _) () A B row hs.2.1 hg hr, boxed_own _ _ (fun _ : Unit => _) () A B row hs.2.2 hg hr⟩) _) (ownFrom_below (Nat.le_refl _) (by simp; omega)))
    (fun c => OwnFrom.and (Own.from (fun s A B row hs hg hr => ⟨hs.1, hs.2.1, boxed_own _ _ (fun _ : Unit => _) () A B row hs.2.2 hg hr⟩) _) (ownFrom_below (Nat.le_refl _) (by simp; omega)))
    ⟨⟨⟨rfl, by simp⟩, (b0.alloc _).alloc _, b1.alloc _⟩, hB0⟩
    (fun x => { tmps := #[.string s, undef, .pointer (some ⟨w.heap.size, 0, none⟩), .pointer (some ⟨w.heap.size + 1, 0, none⟩), .string x, .string s, .bool false, .string s, .func (.func 88) #[] #[.pointer (some ⟨w.heap.size + 1 + 1, 0, none⟩)], .string x, undef, undef, undef, undef, undef, undef, undef, undef, undef, undef, undef, undef], defers := [] }) ?assign ?body ?done ?stop
  case assign =>
    intro l x W K hK
    gi_wp2
    exact hK
  case body =>
    rintro l pre x W ⟨⟨⟨hp1, hp2⟩, q0, q1⟩, hB⟩ _
    have hc0 := q0.cell
    have hf0 := q0.frozen
    have hc1 := q1.cell
    have hf1 := q1.frozen
    cases hx : Pm.nameBB x with
    | false =>
      have hn := fun w => name_no hx w
      have hall : Hid ((pre ++ [x]).all Pm.nameBB = false) := by show _ = _; simp [hx]
      clear hx
      gi_wp2_with (refine ⟨trivial, ?_⟩; gi_at_call 82; refine (CallsIn.inRound l (callsIn_wide.2 (hn _))).mono ?_; rintro e w' ⟨rfl, rfl⟩)
      exact ⟨(KeepsOthers.setCell _ _ _).from _, ⟨rfl, .inl hall.out, q0.set _⟩, hB.setCell (p := ⟨w.heap.size, 0, none⟩) (Nat.le_refl _) _⟩
    | true =>
      have hn := fun w => name_yes hx w
      have hall : Hid ((pre ++ [x]).all Pm.nameBB = true) := by show _ = _; simp [hx, hp1]
      clear hx
      by_cases h4 : pre.length = 4
      · have H4 : Hid (4 < (pre ++ [x]).length) := by show _ < _; simp [h4]
        have he : ((pre.length : Int) == 4) = true := by rw [h4]; rfl
        clear h4
        gi_wp2_with (refine ⟨trivial, ?_⟩; gi_at_call 82; refine (CallsIn.inRound l (callsIn_wide.2 (hn _))).mono ?_; rintro e w' ⟨rfl, rfl⟩)
        exact ⟨(KeepsOthers.setCell _ _ _).from _, ⟨rfl, .inr H4.out, q0.set _⟩, hB.setCell (p := ⟨w.heap.size, 0, none⟩) (Nat.le_refl _) _⟩
      · have he : ((pre.length : Int) == 4) = false := by simp; omega
        have hle : (pre.length : Int) ≤ 3 := by omega
        gi_wp2_with (refine ⟨trivial, ?_⟩; gi_at_call 82; refine (CallsIn.inRound l (callsIn_wide.2 (hn _))).mono ?_; rintro e w' ⟨rfl, rfl⟩)
        refine ⟨(KeepsOthers.setCell _ _ _).from _, (Below.refl w.heap.size _).setCell (p := ⟨w.heap.size + 1, 0, none⟩) (by simp) _, ⟨⟨hall.out, by simp; omega⟩, q0.other (by simp) _, ?_⟩, hB.setCell (p := ⟨w.heap.size + 1, 0, none⟩) (by simp) _⟩
        have := q1.set (.int .i64 ((pre.length : Int) + 1))
        simpa using this
  case done =>
    rintro D ys W hD rfl ⟨⟨⟨hp1, hp2⟩, q0, q1⟩, hB⟩ hK
    have hc0 := q0.cell
    have hf0 := q0.frozen
    have hc1 := q1.cell
    have hf1 := q1.frozen
    by_cases h0 : (Pm.partsB s).length = 0
    · have hd : Hid (Pm.depth s.data.toList = -1) := Pm.depth_bad s hr (fun _ h _ => by omega)
      have he : (((Pm.partsB s).length : Int) == 0) = true := by rw [h0]; rfl
      clear h0 hp1
      gi_wp2
      have hK' := (KeepsOthers.setCell W ⟨w.heap.size, 0, none⟩ (.int .i64 (-1))).same D _ hK rfl
      refine ⟨by simp, .inl ⟨_, _, rfl, run_takeDeferred hK', ?_⟩⟩
      have hc5 := _root_.Go.cell_kept (q0.set (.int .i64 (-1))).cell (grownBy_putObj' _ D (.deferred none)) (fun r e => by cases e; exact ⟨_, hK', rfl⟩)
      refine ⟨.int .i64 (-1), ?_, by rw [hd.out], (hB.setCell (p := ⟨w.heap.size, 0, none⟩) (Nat.le_refl _) _).trans (belowK_b (w := w) (Nat.le_refl _) _ D _ _ (by simp at hD; omega) hK' rfl rfl)⟩
      simp [results, Tryd.f71, go_sem, hc5]
    · have hd : Hid (Pm.depth s.data.toList = (Pm.partsB s).length) := Pm.depth_good s hr hp1 (by omega) hp2
      have he : (((Pm.partsB s).length : Int) == 0) = false := beq_eq_false_iff_ne.2 (by omega)
      clear h0 hp1
      gi_wp2
      have hK' := (KeepsOthers.setCell W ⟨w.heap.size, 0, none⟩ (.int .i64 ((Pm.partsB s).length))).same D _ hK rfl
      refine ⟨by simp, .inl ⟨_, _, rfl, run_takeDeferred hK', ?_⟩⟩
      have hc5 := _root_.Go.cell_kept (q0.set (.int .i64 ((Pm.partsB s).length))).cell (grownBy_putObj' _ D (.deferred none)) (fun r e => by cases e; exact ⟨_, hK', rfl⟩)
      refine ⟨.int .i64 ((Pm.partsB s).length), ?_, by rw [hd.out], (hB.setCell (p := ⟨w.heap.size, 0, none⟩) (Nat.le_refl _) _).trans (belowK_b (w := w) (Nat.le_refl _) _ D _ _ (by simp at hD; omega) hK' rfl rfl)⟩
      simp [results, Tryd.f71, go_sem, hc5]
  case stop =>
    rintro D c pre W hD hpre ⟨⟨rfl, hbad, q0⟩, hB⟩ hK
    have hd := Pm.depth_bad s hr (Pm.prefix_bad hpre hbad)
    gi_wp2
    refine ⟨by simp, .inl ⟨_, _, rfl, run_takeDeferred hK, ?_⟩⟩
    have hc5 := _root_.Go.cell_kept q0.cell (grownBy_putObj' _ D (.deferred none)) (fun r e => by cases e; exact ⟨_, hK, rfl⟩)
    refine ⟨.int .i64 (-1), ?_, by rw [hd], hB.trans (belowK_b (w := w) (Nat.le_refl _) W D _ _ (by simp at hD; omega) hK rfl rfl)⟩
    simp [results, Tryd.f71, go_sem, hc5]

theorem depth_root : Pm.depth [47] = 0 := by decide

/-- impl.PathDepth, at every text. -/
theorem pathDepth_c (s : ByteArray) (hs : s.size ≤ 140737488355328) (w : World) :
    Calls Tryd.prog 71 #[.string s] w fun e w' => e = .returned (.int .i64 (Pm.depth s.data.toList)) ∧ Below w.heap.size w w' := by
  by_cases hr : s = ⟨#[47]⟩
  · subst hr; exact pathDepth_root w
  · exact callsIn_wide.1 (pathDepth_in s hr hs w)

set_option maxHeartbeats 400000 in
set_option maxRecDepth 100000 in
theorem pathValid_c (s : ByteArray) (hs : s.size ≤ 140737488355328) (w : World) :
    Calls Tryd.prog 73 #[.string s] w fun e w' => e = .returned (.bool (Pm.valid s.data.toList)) ∧ Below w.heap.size w w' := by
  obtain ⟨d, hd⟩ : ∃ d, Pm.depth s.data.toList = d := ⟨_, rfl⟩
  have hc : ∀ w, Calls Tryd.prog 71 #[.string s] w fun e w' => e = .returned (.int .i64 d) ∧ Below w.heap.size w w' := fun w => by rw [← hd]; exact pathDepth_c s hs w
  have hv : Hid (decide (0 ≤ d) = Pm.valid s.data.toList) := by
    show _ = _
    rw [← hd]; unfold Pm.depth
    cases Pm.valid s.data.toList <;> simp <;> omega
  clear hd
  go_enter Tryd.func73, Tryd.ntmps73
  go_wp2_with (go_at_call 71; refine (hc _).mono ?_; rintro e w' ⟨rfl, hb⟩)
  go_ret
  exact ⟨ret_bool hv.out, hb⟩

end Go.Proofs.YtkaokncaockjkaaDoor

/-
  WALKS: spec.l1Names, spec.PathValid, spec.PathDepth.
-/
namespace Go.Proofs.YtkaokncaockjkaaDoor
open Go.RowKit

theorem infoStr : (Tryd.prog.info? 9).map (fun i => (i.zero, i.size, i.bytes)) = some (some (.string ⟨#[]⟩), 1, 16) := by kernel_rfl

/-- A slice of texts that the call has made. -/
def OwnsTexts (base : Nat) (xs : List ByteArray) (e : Ending) (w' : World) : Prop :=
  ∃ g cap, e = .returned (.slice (some ⟨g, 0, none⟩) xs.length cap) ∧ w'.ownsRow base 9 1 (.slice (some ⟨g, 0, none⟩) xs.length cap) xs.length (xs.map Value.string)

def namesB (s : ByteArray) : List ByteArray := Pm.splitB (s.extract 1 s.size)

def NamesRel (s : ByteArray) (w : World) (v fr i : Value) (wr : World) : Prop :=
  ∃ (done : List ByteArray) (f k : Nat), fr = .int .i64 f ∧ i = .int .i64 k ∧ 1 ≤ f ∧ f ≤ k ∧ k ≤ s.size ∧ done.length + 1 ≤ f ∧ wr.ownsRow w.heap.size 9 1 v done.length (done.map Value.string) ∧
    Below w.heap.size w wr ∧ Hid (namesB s = done ++ Pm.splitB (s.extract f s.size)) ∧ Hid (Pm.NoSl s f k)

set_option maxRecDepth 100000 in
set_option maxHeartbeats 1000000 in
theorem l1Names_c (s : ByteArray) (h1 : 1 ≤ s.size) (hs : s.size ≤ 2097152) (w : World) :
    Calls Tryd.prog 85 #[.string s] w fun e w' => OwnsTexts w.heap.size (namesB s) e w' ∧ Below w.heap.size w w' := by
  obtain ⟨i0, hi, hz0, hz1, hz2⟩ := info_parts infoStr
  go_enter Tryd.func85, Tryd.ntmps85
  go_wp2
  go_loopw [3, 4, 5] (fun v fr i wr => NamesRel s w v fr i wr) (fun _ _ i _ => s.size - (intOf i).toNat)
  case atStart =>
    exact ⟨[], 1, 1, rfl, rfl, by omega, by omega, h1, by simp, World.ownsRow_lit (e := 9) (size := 1) w #[] 0 (Nat.le_refl _) (by simp [maxLen]) rfl, (Below.refl _ _).alloc (Nat.le_refl _) _, rfl, fun j a b => by omega⟩
  case round =>
    obtain ⟨done, f, k, rfl, rfl, hf1, hfk, hk, hd, hrow, hB, HN, HS⟩ := hrel
    have hlt0 := hrow.lt
    by_cases hlt : k < s.size
    · cases hb : ((s[k].toNat : Int) == 47) with
      | false =>
        have HS2 : Hid (Pm.NoSl s f (k + 1)) := HS.out.step hlt hb
        go_wp2
        go_roundw
        case rel => exact ⟨done, f, k + 1, rfl, by go_num, hf1, by omega, by omega, hd, hrow, hB, HN, HS2⟩
        case measure => simp [intOf]; omega
      | true =>
        have hsp := Pm.split_at s f k hfk hlt HS.out hb
        have HN2 : Hid (namesB s = (done ++ [s.extract f k]) ++ Pm.splitB (s.extract (k + 1) s.size)) := by
          show _ = _; rw [HN.out, hsp, List.append_assoc]; rfl
        clear hsp
        have c1 : (0 : Int) ≤ ↑f := by omega
        have c2 : (↑f : Int) ≤ ↑k := by omega
        have c3 : (↑k : Int) ≤ ↑s.size := by omega
        go_wp2_with (at_builtin; refine wpList_append_own _ rfl _ _ 90 rfl w.heap.size 9 i0 (.string ⟨#[]⟩) 1 16 Tryd.underlying90 hi hz0 hz1 hz2 rfl (by decide) _ _ _ rfl (hrow.alloc _) ⟨wr.heap.size, 0, none⟩ 1 1 [.string (s.extract f k)] rfl rfl (cell_one_new _ _ _) (fun x hx => by simp at hx; subst hx; rfl) (by unfold maxLen; omega) (by omega) (by have := hB.size; simp; omega) ?_; intro v' w3 hown' hgrow3 hnil3)
        have hB3 : Below w.heap.size w w3 := (hB.alloc hB.size _).grown hgrow3 (by have := hB.size; simp; omega) (fun k e => (hlt0 k e).1)
        go_roundw
        case rel => exact ⟨done ++ [s.extract f k], k + 1, k + 1, by go_num, by go_num, by omega, by omega, by omega, by simp; omega, by simpa using hown', hB3, HN2, fun j a b => by omega⟩
        case measure => simp [intOf]; omega
    · obtain rfl : k = s.size := by omega
      have hsp := Pm.split_end s f HS.out
      have HN2 : Hid (namesB s = done ++ [s.extract f s.size]) := by show _ = _; rw [HN.out, hsp]
      clear hsp hlt
      have c1 : (0 : Int) ≤ ↑f := by omega
      have c2 : (↑f : Int) ≤ ↑s.size := by omega
      go_wp2_with (at_builtin; refine wpList_append_own _ rfl _ _ 90 rfl w.heap.size 9 i0 (.string ⟨#[]⟩) 1 16 Tryd.underlying90 hi hz0 hz1 hz2 rfl (by decide) _ _ _ rfl (hrow.alloc _) ⟨wr.heap.size, 0, none⟩ 1 1 [.string (s.extract f s.size)] rfl rfl (cell_one_new _ _ _) (fun x hx => by simp at hx; subst hx; rfl) (by unfold maxLen; omega) (by omega) (by have := hB.size; simp; omega) ?_; intro v' w3 hown' hgrow3 hnil3)
      have hB3 : Below w.heap.size w w3 := (hB.alloc hB.size _).grown hgrow3 (by have := hB.size; simp; omega) (fun k e => (hlt0 k e).1)
      go_ret
      refine ⟨?_, hB3⟩
      obtain ⟨g, cap, hv⟩ := ownsRow_succ hown'
      subst hv
      refine ⟨g, cap, ?_, ?_⟩
      · rw [HN2.out]; simp
      · rw [HN2.out]; simpa using hown'

theorem lname_yes {x : ByteArray} (h : Pm.nameBB x = true) (w : World) : Calls Tryd.prog 86 #[.string x] w fun e w' => e = .returned (.bool true) ∧ w = w' := by
  rw [← h]; exact (l1Name_c x w).mono fun _ _ ⟨a, b⟩ => ⟨a, b.symm⟩
theorem lname_no {x : ByteArray} (h : Pm.nameBB x = false) (w : World) : Calls Tryd.prog 86 #[.string x] w fun e w' => e = .returned (.bool false) ∧ w = w' := by
  rw [← h]; exact (l1Name_c x w).mono fun _ _ ⟨a, b⟩ => ⟨a, b.symm⟩

theorem size_one_47 {s : ByteArray} (hr : s ≠ ⟨#[47]⟩) : (s.toList == [47]) = false := by
  rw [Lib.toList_data]; simpa using fun e => hr (by rw [← Lib.mk_data s, e])

set_option maxRecDepth 100000 in
set_option maxHeartbeats 1000000 in
/-- spec.PathValid behind the first test: a slash stands at the beginning. -/
theorem specValid_slash (s : ByteArray) (hr : s ≠ ⟨#[47]⟩) (h1 : 1 ≤ s.size) (h0 : ((s[0].toNat : Int) != 47) = false) (hs : s.size ≤ 2097152) (w : World) :
    Calls Tryd.prog 76 #[.string s] w fun e w' => e = .returned (.bool (Pm.valid s.data.toList)) ∧ Below w.heap.size w w' := by
  have hr2 := size_one_47 hr
  have h1' : (0 : Int) < s.size := by omega
  have hz : ((s.size : Int) == 0) = false := beq_eq_false_iff_ne.2 (by omega)
  have hp : Pm.partsB s = namesB s := Pm.partsB_slash s h1 (by
    rw [Pm.byte_getElem? s 0 h1]; congr 1
    exact Pm.byte_47 (by simpa using h0))
  obtain ⟨ps, hps⟩ : ∃ ps, namesB s = ps := ⟨_, rfl⟩
  have hpos : 1 ≤ ps.length := by rw [← hps]; exact Pm.splitB_pos _
  have hN : ∀ w, Calls Tryd.prog 85 #[.string s] w fun e w' => OwnsTexts w.heap.size ps e w' ∧ Below w.heap.size w w' := fun w => by
    rw [← hps]; exact l1Names_c s h1 hs w
  rw [hps] at hp
  have hgood : Hid (ps.all Pm.nameBB = true → Pm.valid s.data.toList = decide (ps.length ≤ 4)) := fun h => by
    rw [← hp] at h hpos ⊢; exact Pm.valid_good s hr hpos h
  have hbad : Hid (ps.all Pm.nameBB = false → Pm.valid s.data.toList = false) := fun h => by
    rw [← hp] at h; exact Pm.valid_bad s hr (fun h' _ _ => by rw [h] at h'; cases h')
  clear hp hps hr
  have HN := Lib.hid hN
  clear hN
  go_enter Tryd.func76, Tryd.ntmps76
  go_wp2_with (go_at_call 85; refine (HN.out _).mono ?_; rintro e w1 ⟨⟨g, cap, rfl, hrow⟩, hB⟩)
  have hlen : (ps.length : Int) ≤ 9223372036854775807 := by
    rcases hrow.2 with ⟨h, _⟩ | ⟨_, _, _, h, _, _, h3, h4, _⟩
    · cases h
    · cases h; have := Nat.le_trans h3 h4; unfold maxLen at this; omega
  go_loop [4] (fun i => ∃ k : Nat, k ≤ ps.length ∧ i = .int .i64 k ∧ Hid ((ps.take k).all Pm.nameBB = true)) (fun i => ps.length - (intOf i).toNat)
  case atStart => exact ⟨0, Nat.zero_le _, rfl, rfl⟩
  case round =>
    obtain ⟨k, hk, rfl, ha⟩ := hrel
    by_cases hlt : k < ps.length
    · obtain ⟨x, hx⟩ : ∃ x, ps[k]? = some x := ⟨ps[k], List.getElem?_eq_getElem hlt⟩
      have hcell : w1.cell? ⟨g, k, none⟩ = some (.string x) := by
        rw [hrow.cellAt k (by omega), List.getElem?_map, hx]; rfl
      cases hn : Pm.nameBB x with
      | true =>
        have ha2 : Hid ((ps.take (k + 1)).all Pm.nameBB = true) := Pm.all_take_succ _ _ _ _ hx ha.out hn
        have hc := fun w => lname_yes hn w
        clear hn hx
        go_wp2_with (go_at_call 86; refine (hc _).mono ?_; rintro e w' ⟨rfl, rfl⟩)
        go_round
        case rel => exact ⟨k + 1, by omega, by go_num, ha2⟩
        case measure => simp [intOf]; omega
      | false =>
        have hf := hbad.out (Pm.all_false_of _ _ _ _ hx hn)
        have hc := fun w => lname_no hn w
        clear hn hx
        have HF := Lib.hid hf
        clear hf
        go_wp2_with (go_at_call 86; refine (hc _).mono ?_; rintro e w' ⟨rfl, rfl⟩)
        go_ret
        exact ⟨ret_bool HF.out.symm, hB⟩
    · obtain rfl : k = ps.length := by omega
      have hf := hgood.out (by have := ha.out; rwa [List.take_length] at this)
      have HF := Lib.hid hf
      clear hf hlt
      go_wp2
      go_ret
      refine ⟨ret_bool ?_, hB⟩
      rw [HF.out]
      exact decide_eq_decide.2 (by omega)

set_option maxHeartbeats 400000 in
set_option maxRecDepth 100000 in
theorem specValid_root (w : World) :
    Calls Tryd.prog 76 #[.string ⟨#[47]⟩] w fun e w' => e = .returned (.bool true) ∧ w = w' := by
  go_enter Tryd.func76, Tryd.ntmps76
  go_wp2
  go_ret
  exact ⟨rfl, rfl⟩

set_option maxHeartbeats 400000 in
set_option maxRecDepth 100000 in
theorem specValid_empty (s : ByteArray) (h : s.size = 0) (w : World) :
    Calls Tryd.prog 76 #[.string s] w fun e w' => e = .returned (.bool false) ∧ w = w' := by
  obtain rfl : s = ⟨#[]⟩ := by
    obtain ⟨⟨l⟩⟩ := s
    have : l.length = 0 := h
    rw [List.length_eq_zero_iff] at this
    rw [this]
  go_enter Tryd.func76, Tryd.ntmps76
  go_wp2
  go_ret
  exact ⟨rfl, rfl⟩

set_option maxHeartbeats 400000 in
set_option maxRecDepth 100000 in
theorem specValid_other (s : ByteArray) (h1 : 1 ≤ s.size) (h0 : ((s[0].toNat : Int) != 47) = true) (hr : s ≠ ⟨#[47]⟩) (w : World) :
    Calls Tryd.prog 76 #[.string s] w fun e w' => e = .returned (.bool false) ∧ w = w' := by
  have hr2 := size_one_47 hr
  have h1' : (0 : Int) < s.size := by omega
  have hz : ((s.size : Int) == 0) = false := beq_eq_false_iff_ne.2 (by omega)
  clear hr
  go_enter Tryd.func76, Tryd.ntmps76
  go_wp2
  go_ret
  exact ⟨rfl, rfl⟩

/-- spec.PathValid, at every text of modest length. -/
theorem specValid_c (s : ByteArray) (hs : s.size ≤ 2097152) (w : World) :
    Calls Tryd.prog 76 #[.string s] w fun e w' => e = .returned (.bool (Pm.valid s.data.toList)) ∧ Below w.heap.size w w' := by
  by_cases hr : s = ⟨#[47]⟩
  · subst hr
    exact (specValid_root w).mono fun e w' ⟨h, h2⟩ => by subst h2; exact ⟨h, Below.refl _ _⟩
  · by_cases hz : s.size = 0
    · refine (specValid_empty s hz w).mono fun e w' ⟨h, h2⟩ => ?_
      subst h2
      refine ⟨?_, Below.refl _ _⟩
      rw [h, Pm.valid_no_slash]
      rw [List.getElem?_eq_none (by rw [← Lib.size_eq]; omega)]
      simp
    · cases h0 : ((s[0].toNat : Int) != 47) with
      | false => exact specValid_slash s hr (by omega) h0 hs w
      | true =>
        refine (specValid_other s (by omega) h0 hr w).mono fun e w' ⟨h, h2⟩ => ?_
        subst h2
        refine ⟨?_, Below.refl _ _⟩
        rw [h, Pm.valid_no_slash]
        rw [Pm.byte_getElem? s 0 (by omega)]
        intro e
        have : s[0] = 47 := by simpa using e
        rw [this] at h0
        exact absurd h0 (by decide)

theorem specValid_yes {s : ByteArray} (hs : s.size ≤ 2097152) (h : Pm.valid s.data.toList = true) (w : World) :
    Calls Tryd.prog 76 #[.string s] w fun e w' => e = .returned (.bool true) ∧ Below w.heap.size w w' := by rw [← h]; exact specValid_c s hs w
theorem specValid_no {s : ByteArray} (hs : s.size ≤ 2097152) (h : Pm.valid s.data.toList = false) (w : World) :
    Calls Tryd.prog 76 #[.string s] w fun e w' => e = .returned (.bool false) ∧ Below w.heap.size w w' := by rw [← h]; exact specValid_c s hs w

set_option maxHeartbeats 400000 in
set_option maxRecDepth 100000 in
theorem specDepth_c (s : ByteArray) (hs : s.size ≤ 2097152) (w : World) :
    Calls Tryd.prog 55 #[.string s] w fun e w' => e = .returned (.int .i64 (Pm.depth s.data.toList)) ∧ Below w.heap.size w w' := by
  cases hv : Pm.valid s.data.toList with
  | true =>
    have hd : Hid (Pm.depth s.data.toList = ((s.size / 2 : Nat) : Int)) := by show _ = _; unfold Pm.depth; rw [if_pos hv, ← Lib.size_eq]
    have hc := fun w => specValid_yes hs hv w
    clear hv
    go_enter Tryd.func55, Tryd.ntmps55
    go_wp2_with (go_at_call 76; refine (hc _).mono ?_; rintro e w' ⟨rfl, hb⟩)
    go_ret
    refine ⟨ret_int ?_, hb⟩
    rw [hd.out]; omega
  | false =>
    have hd : Hid (Pm.depth s.data.toList = -1) := by show _ = _; unfold Pm.depth; rw [hv]; rfl
    have hc := fun w => specValid_no hs hv w
    clear hv
    go_enter Tryd.func55, Tryd.ntmps55
    go_wp2_with (go_at_call 76; refine (hc _).mono ?_; rintro e w' ⟨rfl, hb⟩)
    go_ret
    exact ⟨ret_int hd.out.symm, hb⟩

end Go.Proofs.YtkaokncaockjkaaDoor

/-
  PLAIN: parents and prefixes of texts, as values.
-/
namespace Go.Proofs.YtkaokncaockjkaaDoor
open Go.RowKit

theorem ret_str {a b : ByteArray} (h : a = b) : Ending.returned (.string a) = .returned (.string b) := by rw [h]

def pfxB (s p : ByteArray) : Bool := decide (p.size ≤ s.size) && ((s.extract 0 p.size).toList == p.toList)

theorem pfxB_eq (s p : ByteArray) : pfxB s p = (decide (p.data.toList.length ≤ s.data.toList.length) && s.data.toList.take p.data.toList.length == p.data.toList) := by
  unfold pfxB
  rw [Lib.extract_toList, Lib.toList_data, Lib.size_eq, Lib.size_eq]; simp

theorem toNat_47 {c : UInt8} (h : c = 47) : ((c.toNat : Int) == 47) = true := by subst h; decide
theorem toNat_not_47 {c : UInt8} (h : c ≠ 47) : ((c.toNat : Int) == 47) = false := by
  rw [beq_eq_false_iff_ne]
  intro e
  exact h (UInt8.toNat_inj.1 (by show c.toNat = 47; omega))

def parentB (s : ByteArray) : ByteArray := ⟨⟨Pm.parent s.data.toList⟩⟩

def l1pB (s : ByteArray) : ByteArray := if s.size ≤ 2 then ⟨#[47]⟩ else s.extract 0 (s.size - 2)

def underB (a b : ByteArray) : Bool := Pm.under a.data.toList b.data.toList

def l1uB (a b : ByteArray) : Bool := (a.toList == [47] && !(b.toList == [47])) || (decide (a.size < b.size) && (b.extract 0 a.size).toList == a.toList)

theorem underB_eq (a b : ByteArray) : underB a b = (Pm.valid a.data.toList && Pm.valid b.data.toList && l1uB a b) := by
  unfold underB Pm.under l1uB
  rw [Lib.extract_toList, Lib.toList_data, Lib.toList_data, Lib.size_eq, Lib.size_eq]
  simp

theorem parentB_size (s : ByteArray) (m : Nat) (h : s.size ≤ m) (h1 : 1 ≤ m) : (parentB s).size ≤ m := by
  show (Pm.parent s.data.toList).length ≤ m
  unfold Pm.parent
  split
  · exact Nat.zero_le _
  · split
    · exact h1
    · rw [List.length_take, ← Lib.size_eq]; omega

theorem toList_ne {a b : ByteArray} (h : a ≠ b) : (a.toList == b.toList) = false := by
  rw [Lib.toList_data, Lib.toList_data]
  simpa using fun e => h (by rw [← Lib.mk_data a, ← Lib.mk_data b, e])

theorem l1pB_parent (s : ByteArray) (h : 1 ≤ Pm.depth s.data.toList) : l1pB s = parentB s := by
  obtain ⟨m, k1, k2, ⟨c, k3, k4⟩, k5, k6⟩ := Pm.last_facts s.data.toList h
  have hsz : s.size = m + 2 := by rw [Lib.size_eq]; exact k1
  unfold parentB l1pB
  rw [k5, ← Lib.size_eq]
  by_cases h : s.size ≤ 2
  · rw [if_pos h, if_pos h]
  · rw [if_neg h, if_neg h, Lib.extract_eq, hsz]; simp

end Go.Proofs.YtkaokncaockjkaaDoor

/-
  WALKS: spec.l1Parent, spec.l1Under.
-/
namespace Go.Proofs.YtkaokncaockjkaaDoor
open Go.RowKit

set_option maxHeartbeats 400000 in
set_option maxRecDepth 100000 in
theorem l1Parent_c (s : ByteArray) (hs : s.size ≤ 2097152) (h2 : 2 ≤ s.size) (w : World) :
    Calls Tryd.prog 58 #[.string s] w fun e w' => e = .returned (.string (l1pB s)) ∧ w = w' := by
  by_cases h : s.size ≤ 2
  · have h1 : (s.size : Int) ≤ 2 := by omega
    have hv : Hid (l1pB s = ⟨#[47]⟩) := if_pos h
    clear h
    go_enter Tryd.func58, Tryd.ntmps58
    go_wp2
    go_ret
    exact ⟨ret_str hv.out.symm, rfl⟩
  · obtain ⟨m, hm⟩ : ∃ m, s.size = m + 2 := ⟨s.size - 2, by omega⟩
    have hv : Hid (l1pB s = s.extract 0 m) := by show _ = _; unfold l1pB; rw [if_neg h, hm]; rfl
    have h1 : (2 : Int) < (m : Int) + 2 := by omega
    clear h h2
    go_enter Tryd.func58, Tryd.ntmps58
    go_wp2
    go_ret
    exact ⟨ret_str hv.out.symm, rfl⟩

end Go.Proofs.YtkaokncaockjkaaDoor
