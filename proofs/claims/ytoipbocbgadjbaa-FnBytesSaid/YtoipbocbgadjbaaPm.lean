/-
  PLAIN MATHEMATICS OF PATHS: names, parts between slashes, depth, parents, prefixes; of no program.
-/
import Derived.Lib.CutLaws
namespace Go.Proofs.Ytoipbocbgadjbaa.Pm

/-- A name: one letter from a to d. -/
def nameB : List UInt8 → Bool
  | [c] => decide (97 ≤ (c.toNat : Int) ∧ (c.toNat : Int) ≤ 100)
  | _ => false

/-- What is between the slashes; never empty. -/
def splitS : List UInt8 → List (List UInt8)
  | [] => [[]]
  | c :: l => if c = 47 then [] :: splitS l else match splitS l with
    | [] => [[c]]
    | p :: ps => (c :: p) :: ps

theorem splitS_ne (l : List UInt8) : splitS l ≠ [] := by
  cases l with
  | nil => simp [splitS]
  | cons c l =>
    unfold splitS
    split
    · simp
    · split <;> simp

theorem splitS_cut (a b : List UInt8) (h : ∀ x ∈ a, x ≠ 47) : splitS (a ++ 47 :: b) = a :: splitS b := by
  induction a with
  | nil => simp [splitS]
  | cons c a ih =>
    have hc : c ≠ 47 := h c (by simp)
    have := ih (fun x hx => h x (by simp [hx]))
    simp [splitS, hc, this]

theorem splitS_one (a : List UInt8) (h : ∀ x ∈ a, x ≠ 47) : splitS a = [a] := by
  induction a with
  | nil => simp [splitS]
  | cons c a ih =>
    have hc : c ≠ 47 := h c (by simp)
    have := ih (fun x hx => h x (by simp [hx]))
    simp [splitS, hc, this]

/-- What an iterator over a text yields. -/
def parts : List UInt8 → List (List UInt8)
  | [] => []
  | c :: l => if c = 47 then splitS l else []

/-- A text is a path. -/
def valid (l : List UInt8) : Bool := l == [47] || ((parts l).all nameB && decide (1 ≤ (parts l).length ∧ (parts l).length ≤ 4))

def depth (l : List UInt8) : Int := if valid l = true then ((l.length / 2 : Nat) : Int) else -1

theorem splitS_two (c d : UInt8) (l : List UInt8) (hc : c ≠ 47) : splitS (c :: d :: l) = if d = 47 then [c] :: splitS l else match splitS l with | [] => [[c, d]] | p :: ps => (c :: d :: p) :: ps := by
  by_cases hd : d = 47
  · simp [splitS, hc, hd]
  · cases h : splitS l with
    | nil => exact absurd h (splitS_ne l)
    | cons p ps => simp [splitS, hc, hd, h]

theorem splitS_names_len : ∀ (n : Nat) (l : List UInt8), l.length ≤ n → (splitS l).all nameB = true → l.length + 1 = 2 * (splitS l).length
  | _, [], _, h => by simp [splitS, nameB] at h
  | _, [c], _, h => by
    by_cases hc : c = 47
    · simp [splitS, hc, nameB] at h
    · simp [splitS, hc]
  | 0, _ :: _ :: _, hl, _ => by simp at hl
  | n + 1, c :: d :: l, hl, h => by
    by_cases hc : c = 47
    · simp [splitS, hc, nameB] at h
    · rw [splitS_two c d l hc] at h ⊢
      by_cases hd : d = 47
      · rw [if_pos hd] at h ⊢
        have h2 : (splitS l).all nameB = true := by simp at h; simpa using h.2
        have := splitS_names_len n l (by simp at hl; omega) h2
        simp; omega
      · rw [if_neg hd] at h
        cases hs : splitS l with
        | nil => exact absurd hs (splitS_ne l)
        | cons p ps => rw [hs] at h; simp [nameB] at h

/-- A path that is not the root has twice as many bytes as names. -/
theorem valid_len (l : List UInt8) (h : l ≠ [47]) (hv : valid l = true) : l.length = 2 * (parts l).length := by
  unfold valid at hv
  have h1 : (parts l).all nameB = true ∧ 1 ≤ (parts l).length ∧ (parts l).length ≤ 4 := by
    simpa [h, and_assoc] using hv
  cases l with
  | nil => simp [parts] at h1
  | cons c l =>
    simp only [parts] at h1 ⊢
    by_cases hc : c = 47
    · rw [if_pos hc] at h1 ⊢
      have := splitS_names_len l.length l (Nat.le_refl _) h1.1
      simp; omega
    · rw [if_neg hc] at h1; simp at h1

/-- The parts of a text, as byte arrays. -/
def partsB (s : ByteArray) : List ByteArray := (parts s.data.toList).map fun l => ⟨⟨l⟩⟩
def splitB (s : ByteArray) : List ByteArray := (splitS s.data.toList).map fun l => ⟨⟨l⟩⟩

theorem indexByte_none {l : List UInt8} (h : Lib.indexByte l 47 = -1) : ∀ x ∈ l, x ≠ 47 := by
  induction l with
  | nil => simp
  | cons b l ih =>
    unfold Lib.indexByte at h
    have hg := Lib.indexByte_ge l 47
    by_cases hb : (b == 47) = true
    · rw [if_pos hb] at h; simp at h
    · rw [if_neg hb] at h
      by_cases h2 : (Lib.indexByte l 47 == -1) = true
      · intro x hx
        rcases List.mem_cons.1 hx with rfl | hx
        · simpa using hb
        · exact ih (by simpa using h2) x hx
      · rw [if_neg h2] at h; simp at h2; omega

theorem indexByte_some : ∀ {l : List UInt8} {i : Nat}, Lib.indexByte l 47 = i → i < l.length ∧ (∀ x ∈ l.take i, x ≠ 47) ∧ l = l.take i ++ 47 :: l.drop (i + 1)
  | [], i, h => by simp [Lib.indexByte] at h
  | b :: l, i, h => by
    unfold Lib.indexByte at h
    have hg := Lib.indexByte_ge l 47
    by_cases hb : (b == 47) = true
    · rw [if_pos hb] at h
      obtain rfl : i = 0 := by omega
      have : b = 47 := by simpa using hb
      subst this
      simp
    · rw [if_neg hb] at h
      by_cases h2 : (Lib.indexByte l 47 == -1) = true
      · rw [if_pos h2] at h; omega
      · rw [if_neg h2] at h
        simp at h2
        obtain ⟨j, rfl⟩ : ∃ j, i = j + 1 := ⟨i - 1, by omega⟩
        obtain ⟨h3, h4, h5⟩ := indexByte_some (l := l) (i := j) (by omega)
        refine ⟨by simp; omega, ?_, ?_⟩
        · intro x hx
          rw [List.take_succ_cons] at hx
          rcases List.mem_cons.1 hx with rfl | hx
          · simpa using hb
          · exact h4 x hx
        · rw [List.take_succ_cons, List.drop_succ_cons, List.cons_append, ← h5]

theorem indexByte_cases (s : ByteArray) : Lib.indexByte s.data.toList 47 = -1 ∨ ∃ i : Nat, Lib.indexByte s.data.toList 47 = i ∧ i + 1 ≤ s.size := by
  have hge := Lib.indexByte_ge s.data.toList 47
  by_cases h : Lib.indexByte s.data.toList 47 = -1
  · exact .inl h
  · refine .inr ⟨(Lib.indexByte s.data.toList 47).toNat, by omega, ?_⟩
    have := (indexByte_some (l := s.data.toList) (i := (Lib.indexByte s.data.toList 47).toNat) (by omega)).1
    rw [Lib.size_eq]; omega

theorem splitB_miss (s : ByteArray) (h : Lib.indexByte s.data.toList 47 = -1) : splitB s = [s] := by
  unfold splitB
  rw [splitS_one _ (indexByte_none h)]
  rfl

theorem splitB_hit (s : ByteArray) (i : Nat) (h : Lib.indexByte s.data.toList 47 = i) : splitB s = s.extract 0 i :: splitB (s.extract (i + 1) s.size) := by
  obtain ⟨h1, h2, h3⟩ := indexByte_some h
  unfold splitB
  have e2 : (s.extract (i + 1) s.size).data.toList = s.data.toList.drop (i + 1) := by
    rw [Lib.extract_data]; exact List.take_of_length_le (by rw [List.length_drop, ← Lib.size_eq]; omega)
  have e1 : s.extract 0 i = ⟨⟨s.data.toList.take i⟩⟩ := by rw [Lib.extract_eq]; simp
  rw [e2, e1]
  have := splitS_cut (s.data.toList.take i) (s.data.toList.drop (i + 1)) h2
  rw [← h3] at this
  rw [this]
  rfl

theorem extract_le (s : ByteArray) (a b : Nat) {n : Nat} (h : s.size ≤ n) : (s.extract a b).size ≤ n := by
  rw [ByteArray.size_extract]; omega

theorem one_le_of_head {s : ByteArray} (h : (s.extract 0 1).toList = [47]) : 1 ≤ s.size := by
  have h2 : (s.extract 0 1).size = 1 := by
    rw [Lib.size_eq, ← Lib.toList_data, h]; rfl
  rw [ByteArray.size_extract] at h2
  omega

theorem partsB_yes (s : ByteArray) (h : (s.extract 0 1).toList = [47]) : partsB s = splitB (s.extract 1 s.size) := by
  obtain ⟨⟨l⟩⟩ := s
  rw [Lib.extract_toList] at h
  cases l with
  | nil => simp at h
  | cons c l =>
    have hc : c = 47 := by simpa using h
    subst hc
    unfold partsB splitB
    rw [Lib.extract_data]
    have : List.take ((⟨⟨47 :: l⟩⟩ : ByteArray).size - 1) (List.drop 1 (47 :: l)) = l := by
      apply List.take_of_length_le
      show l.length ≤ (47 :: l).length - 1
      simp
    rw [this]
    simp [parts]

theorem partsB_no (s : ByteArray) (h : 1 ≤ s.size → ((s.extract 0 1).toList == [47]) = false) : partsB s = [] := by
  obtain ⟨⟨l⟩⟩ := s
  rw [Lib.extract_toList] at h
  cases l with
  | nil => rfl
  | cons c l =>
    have := h (by show 1 ≤ (c :: l).length; simp)
    have hc : c ≠ 47 := by simpa using this
    simp [partsB, parts, hc]

/-- A name, as a byte array. -/
def nameBB (x : ByteArray) : Bool := nameB x.data.toList

theorem partsB_length (s : ByteArray) : (partsB s).length = (parts s.data.toList).length := by simp [partsB]
theorem partsB_all (s : ByteArray) : (partsB s).all nameBB = (parts s.data.toList).all nameB := by
  simp [partsB, nameBB, List.all_map, Function.comp_def]

theorem depth_good (s : ByteArray) (hr : s ≠ ⟨#[47]⟩) (h : (partsB s).all nameBB = true) (h1 : 1 ≤ (partsB s).length) (h4 : (partsB s).length ≤ 4) : depth s.data.toList = (partsB s).length := by
  rw [partsB_all] at h
  rw [partsB_length] at h1 h4 ⊢
  have hr' : s.data.toList ≠ [47] := fun e => hr (by rw [← Lib.mk_data s, e])
  have hv : valid s.data.toList = true := by simp only [valid, h, Bool.true_and, Bool.or_eq_true, decide_eq_true_eq]; exact .inr ⟨h1, h4⟩
  have := valid_len _ hr' hv
  unfold depth
  rw [if_pos hv, this]
  congr 1
  omega

theorem valid_bad (s : ByteArray) (hr : s ≠ ⟨#[47]⟩) (h : (partsB s).all nameBB = true → 1 ≤ (partsB s).length → (partsB s).length ≤ 4 → False) : valid s.data.toList = false := by
  rw [partsB_all, partsB_length] at h
  have hr' : s.data.toList ≠ [47] := fun e => hr (by rw [← Lib.mk_data s, e])
  cases hv : valid s.data.toList with
  | false => rfl
  | true =>
    unfold valid at hv
    simp only [Bool.or_eq_true, Bool.and_eq_true, decide_eq_true_eq, beq_iff_eq] at hv
    rcases hv with hv | ⟨h1, h2, h3⟩
    · exact absurd hv hr'
    · exact (h h1 h2 h3).elim

theorem depth_bad (s : ByteArray) (hr : s ≠ ⟨#[47]⟩) (h : (partsB s).all nameBB = true → 1 ≤ (partsB s).length → (partsB s).length ≤ 4 → False) : depth s.data.toList = -1 := by
  unfold depth; rw [valid_bad s hr h]; rfl

theorem prefix_bad {pre ps : List ByteArray} (hp : pre <+: ps) (h : pre.all nameBB = false ∨ 4 < pre.length) : ps.all nameBB = true → 1 ≤ ps.length → ps.length ≤ 4 → False := by
  obtain ⟨t, rfl⟩ := hp
  intro ha _ h4
  rw [List.all_append, Bool.and_eq_true] at ha
  rcases h with h | h
  · rw [h] at ha; exact absurd ha.1 (by decide)
  · rw [List.length_append] at h4; omega

/-- No slash stands from place a up to b. -/
def NoSl (s : ByteArray) (a b : Nat) : Prop := ∀ j, a ≤ j → j < b → s.data.toList[j]? ≠ some 47

theorem byte_getElem? (s : ByteArray) (i : Nat) (h : i < s.size) : s.data.toList[i]? = some s[i] := by
  have h' : i < s.data.toList.length := by rw [← Lib.size_eq]; exact h
  rw [List.getElem?_eq_getElem h']
  rfl

theorem byte_47 {c : UInt8} (h : ((c.toNat : Int) == 47) = true) : c = 47 := by
  have h : (c.toNat : Int) = 47 := eq_of_beq h
  have h2 : c.toNat = 47 := by omega
  exact UInt8.toNat_inj.1 h2
theorem byte_not_47 {c : UInt8} (h : ((c.toNat : Int) == 47) = false) : c ≠ 47 := by
  intro e
  subst e
  exact absurd h (by decide)

theorem NoSl.step {s : ByteArray} {a b : Nat} (h : NoSl s a b) (hb : b < s.size) (hc : ((s[b].toNat : Int) == 47) = false) : NoSl s a (b + 1) := by
  intro j hj1 hj2
  by_cases e : j = b
  · subst e
    rw [byte_getElem? s j hb]
    intro e
    exact byte_not_47 hc (by simpa using e)
  · exact h j hj1 (by omega)

theorem extract_end_data (s : ByteArray) (a : Nat) : (s.extract a s.size).data.toList = s.data.toList.drop a := by
  rw [Lib.extract_data]; exact List.take_of_length_le (by rw [List.length_drop, ← Lib.size_eq]; omega)

theorem NoSl.mem {s : ByteArray} {a b : Nat} (h : NoSl s a b) : ∀ x ∈ (s.data.toList.drop a).take (b - a), x ≠ 47 := by
  intro x hx e
  obtain ⟨k, hk⟩ := List.mem_iff_getElem?.1 hx
  rw [List.getElem?_take] at hk
  split at hk
  · rw [List.getElem?_drop] at hk
    exact h (a + k) (by omega) (by omega) (by rw [hk, e])
  · cases hk

theorem split_at (s : ByteArray) (a i : Nat) (h1 : a ≤ i) (hi : i < s.size) (hno : NoSl s a i) (hc : ((s[i].toNat : Int) == 47) = true) :
    splitB (s.extract a s.size) = s.extract a i :: splitB (s.extract (i + 1) s.size) := by
  have hcc : s.data.toList[i]? = some 47 := by rw [byte_getElem? s i hi, byte_47 hc]
  have hl : i < s.data.toList.length := by rw [← Lib.size_eq]; exact hi
  have hd : s.data.toList.drop a = (s.data.toList.drop a).take (i - a) ++ 47 :: s.data.toList.drop (i + 1) := by
    have e := List.take_append_drop (i - a) (s.data.toList.drop a)
    rw [List.drop_drop, show a + (i - a) = i from by omega] at e
    have e2 : s.data.toList.drop i = 47 :: s.data.toList.drop (i + 1) := by
      rw [List.drop_eq_getElem_cons hl]
      congr 1
      rw [List.getElem?_eq_getElem hl] at hcc
      simpa using hcc
    rw [e2] at e
    exact e.symm
  unfold splitB
  rw [extract_end_data, extract_end_data]
  have := splitS_cut ((s.data.toList.drop a).take (i - a)) (s.data.toList.drop (i + 1)) hno.mem
  rw [← hd] at this
  rw [this, List.map_cons]
  congr 1
  rw [Lib.extract_eq]

theorem split_end (s : ByteArray) (a : Nat) (hno : NoSl s a s.size) : splitB (s.extract a s.size) = [s.extract a s.size] := by
  unfold splitB
  have e : (s.data.toList.drop a).take (s.size - a) = s.data.toList.drop a := List.take_of_length_le (by rw [List.length_drop, ← Lib.size_eq]; omega)
  rw [extract_end_data]
  have hm := hno.mem
  rw [e] at hm
  rw [splitS_one _ hm, List.map_cons, List.map_nil, ← extract_end_data]

theorem all_take_succ {α : Type} (p : α → Bool) (l : List α) (k : Nat) (x : α) (h : l[k]? = some x) (ha : (l.take k).all p = true) (hx : p x = true) : (l.take (k + 1)).all p = true := by
  have hk : k < l.length := by
    rcases Nat.lt_or_ge k l.length with h' | h'
    · exact h'
    · rw [List.getElem?_eq_none h'] at h; cases h
  rw [List.take_succ_eq_append_getElem hk, List.all_append, ha]
  rw [List.getElem?_eq_getElem hk] at h
  have : l[k] = x := by simpa using h
  simp [this, hx]

theorem all_false_of {α : Type} (p : α → Bool) (l : List α) (k : Nat) (x : α) (h : l[k]? = some x) (hx : p x = false) : l.all p = false := by
  have hm : x ∈ l := List.mem_of_getElem? h
  cases ha : l.all p with
  | false => rfl
  | true => rw [List.all_eq_true] at ha; rw [ha x hm] at hx; cases hx

theorem partsB_slash (s : ByteArray) (h : 1 ≤ s.size) (hc : s.data.toList[0]? = some 47) : partsB s = splitB (s.extract 1 s.size) := by
  obtain ⟨⟨l⟩⟩ := s
  cases l with
  | nil => simp at hc
  | cons c l =>
    have hc : c = 47 := by simpa using hc
    subst hc
    unfold partsB splitB
    rw [extract_end_data]
    simp [parts]

theorem valid_good (s : ByteArray) (hr : s ≠ ⟨#[47]⟩) (h1 : 1 ≤ (partsB s).length) (ha : (partsB s).all nameBB = true) : valid s.data.toList = decide ((partsB s).length ≤ 4) := by
  have hr' : s.data.toList ≠ [47] := fun e => hr (by rw [← Lib.mk_data s, e])
  rw [partsB_all] at ha
  rw [partsB_length] at h1 ⊢
  have hb : (s.data.toList == [47]) = false := by simpa using hr'
  simp [valid, hb, ha, h1]

theorem valid_no_slash (s : ByteArray) (h : s.data.toList[0]? ≠ some 47) : valid s.data.toList = false := by
  obtain ⟨⟨l⟩⟩ := s
  cases l with
  | nil => decide
  | cons c l =>
    have hc : c ≠ 47 := by simpa using h
    simp [valid, parts, hc]

theorem splitB_pos (s : ByteArray) : 1 ≤ (splitB s).length := by
  unfold splitB
  rw [List.length_map]
  have := splitS_ne s.data.toList
  cases h : splitS s.data.toList with
  | nil => exact absurd h this
  | cons a b => simp

end Go.Proofs.Ytoipbocbgadjbaa.Pm
