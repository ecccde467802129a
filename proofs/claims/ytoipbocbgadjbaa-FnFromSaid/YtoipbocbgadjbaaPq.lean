/-
  PLAIN MATHEMATICS OF PATHS, MORE: a path as the list of its letters; parents; what is under what.
-/
import Derived.Test.YtoipbocbgadjbaaPm
namespace Go.Proofs.Ytoipbocbgadjbaa.Pm

def letter (c : UInt8) : Bool := nameB [c]

def flat : List UInt8 → List UInt8
  | [] => []
  | c :: ns => 47 :: c :: flat ns

def pathOf (ns : List UInt8) : List UInt8 := if ns = [] then [47] else flat ns

theorem letter_not_47 {c : UInt8} (h : letter c = true) : c ≠ 47 := by
  intro e; subst e; exact absurd h (by decide)

theorem flat_length (ns : List UInt8) : (flat ns).length = 2 * ns.length := by
  induction ns with
  | nil => rfl
  | cons c ns ih => simp [flat, ih]; omega

theorem flat_append (a b : List UInt8) : flat (a ++ b) = flat a ++ flat b := by
  induction a with
  | nil => rfl
  | cons c a ih => simp [flat, ih]

theorem splitS_flat (c : UInt8) (ns : List UInt8) (h : ∀ x ∈ c :: ns, letter x = true) : splitS (c :: flat ns) = (c :: ns).map fun x => [x] := by
  induction ns generalizing c with
  | nil =>
    have := letter_not_47 (h c (by simp))
    simp [flat, splitS, this]
  | cons d ns ih =>
    have h1 := letter_not_47 (h c (by simp))
    have := ih d (fun x hx => h x (List.mem_cons_of_mem _ hx))
    rw [flat, splitS_two _ _ _ h1, if_pos rfl, this]
    rfl

theorem splitS_names : ∀ (n : Nat) (l : List UInt8), l.length ≤ n → (splitS l).all nameB = true → ∃ c ns, l = c :: flat ns ∧ (∀ x ∈ c :: ns, letter x = true)
  | _, [], _, h => by simp [splitS, nameB] at h
  | _, [c], _, h => by
    by_cases hc : c = 47
    · simp [splitS, hc, nameB] at h
    · refine ⟨c, [], rfl, ?_⟩
      intro x hx
      obtain rfl : x = c := by simpa using hx
      simpa [splitS, hc, letter] using h
  | 0, _ :: _ :: _, hl, _ => by simp at hl
  | n + 1, c :: d :: l, hl, h => by
    by_cases hc : c = 47
    · simp [splitS, hc, nameB] at h
    · rw [splitS_two c d l hc] at h
      by_cases hd : d = 47
      · rw [if_pos hd] at h
        rw [List.all_cons, Bool.and_eq_true] at h
        obtain ⟨e, ns, rfl, hns⟩ := splitS_names n l (by simp at hl; omega) h.2
        subst hd
        refine ⟨c, e :: ns, rfl, ?_⟩
        intro x hx
        rcases List.mem_cons.1 hx with rfl | hx
        · exact h.1
        · exact hns x hx
      · rw [if_neg hd] at h
        cases hs : splitS l with
        | nil => exact absurd hs (splitS_ne l)
        | cons p ps => rw [hs] at h; simp [nameB] at h

theorem valid_of (l : List UInt8) (h : valid l = true) : ∃ ns, ns.length ≤ 4 ∧ (∀ x ∈ ns, letter x = true) ∧ l = pathOf ns := by
  unfold valid at h
  simp only [Bool.or_eq_true, Bool.and_eq_true, decide_eq_true_eq, beq_iff_eq] at h
  rcases h with h | ⟨h1, h2, h3⟩
  · exact ⟨[], by simp, by simp, by simp [pathOf, h]⟩
  · cases l with
    | nil => simp [parts] at h2
    | cons c l =>
      simp only [parts] at h1 h2 h3
      by_cases hc : c = 47
      · rw [if_pos hc] at h1 h2 h3
        obtain ⟨e, ns, rfl, hns⟩ := splitS_names l.length l (Nat.le_refl _) h1
        rw [splitS_flat e ns hns] at h3
        subst hc
        exact ⟨e :: ns, by simpa using h3, hns, rfl⟩
      · rw [if_neg hc] at h2; simp at h2

theorem parts_path (ns : List UInt8) (hn : ns ≠ []) (h : ∀ x ∈ ns, letter x = true) : parts (pathOf ns) = ns.map fun x => [x] := by
  cases ns with
  | nil => exact absurd rfl hn
  | cons c ns =>
    have : pathOf (c :: ns) = 47 :: c :: flat ns := rfl
    rw [this]
    simp only [parts, if_pos]
    exact splitS_flat c ns h

theorem valid_path (ns : List UInt8) (h4 : ns.length ≤ 4) (h : ∀ x ∈ ns, letter x = true) : valid (pathOf ns) = true := by
  by_cases hn : ns = []
  · subst hn; rfl
  · unfold valid
    rw [parts_path ns hn h]
    have : 1 ≤ ns.length := by cases ns with | nil => exact absurd rfl hn | cons => simp
    have ha : (ns.map fun x => [x]).all nameB = true := by
      rw [List.all_map, List.all_eq_true]; intro x hx; exact h x hx
    rw [ha]
    simp [h4]
    exact .inr this

theorem pathOf_length (ns : List UInt8) : (pathOf ns).length / 2 = ns.length := by
  unfold pathOf
  split
  · rename_i h; subst h; rfl
  · rw [flat_length]; omega

theorem depth_path (ns : List UInt8) (h4 : ns.length ≤ 4) (h : ∀ x ∈ ns, letter x = true) : depth (pathOf ns) = ns.length := by
  unfold depth
  rw [if_pos (valid_path ns h4 h), pathOf_length]

theorem pathOf_inj {a b : List UInt8} (h : pathOf a = pathOf b) (ha : ∀ x ∈ a, letter x = true) (hb : ∀ x ∈ b, letter x = true) : a = b := by
  by_cases h1 : a = []
  · by_cases h2 : b = []
    · rw [h1, h2]
    · have := congrArg List.length h
      rw [h1] at this
      simp only [pathOf, if_neg h2, flat_length] at this
      simp at this; omega
  · by_cases h2 : b = []
    · have := congrArg List.length h
      rw [h2] at this
      simp only [pathOf, if_neg h1, flat_length] at this
      simp at this; omega
    · have e := parts_path a h1 ha
      rw [h, parts_path b h2 hb] at e
      have := congrArg (List.map fun l : List UInt8 => l.headD 0) e
      simpa [List.map_map, Function.comp_def] using this.symm

theorem flat_prefix {a b : List UInt8} (h : flat a <+: flat b) : a <+: b := by
  induction a generalizing b with
  | nil => exact List.nil_prefix
  | cons c a ih =>
    cases b with
    | nil => simp [flat] at h
    | cons d b =>
      simp only [flat, List.cons_prefix_cons, true_and] at h
      rw [List.cons_prefix_cons]
      exact ⟨h.1, ih h.2⟩

/-- Under: both are paths, and the letters of the first are a beginning of those of the second, which has more. -/
def under (a b : List UInt8) : Bool := valid a && valid b && ((a == [47] && !(b == [47])) || (decide (a.length < b.length) && b.take a.length == a))

theorem under_path (a b : List UInt8) (ha4 : a.length ≤ 4) (hb4 : b.length ≤ 4) (ha : ∀ x ∈ a, letter x = true) (hb : ∀ x ∈ b, letter x = true) :
    under (pathOf a) (pathOf b) = decide (a <+: b ∧ a.length < b.length) := by
  unfold under
  rw [valid_path a ha4 ha, valid_path b hb4 hb]
  simp only [Bool.true_and]
  by_cases h1 : a = []
  · subst h1
    have : pathOf [] = [47] := rfl
    rw [this]
    by_cases h2 : b = []
    · subst h2; decide
    · have h3 : pathOf b ≠ [47] := fun e => h2 (pathOf_inj (a := b) (b := []) e hb (by simp))
      have h4 : ([] : List UInt8).length < b.length := by cases b with | nil => exact absurd rfl h2 | cons => simp
      have h5 : (pathOf b == [47]) = false := by simpa using h3
      simp [h5]
      simpa using h4
  · have h3 : pathOf a ≠ [47] := fun e => h1 (pathOf_inj (a := a) (b := []) e ha (by simp))
    have h5 : (pathOf a == [47]) = false := by simpa using h3
    rw [h5]
    simp only [Bool.false_and, Bool.false_or]
    by_cases h2 : b = []
    · subst h2
      have e1 : (pathOf a).length = 2 * a.length := by simp [pathOf, h1, flat_length]
      have e2 : (pathOf []).length = 1 := rfl
      have e3 : 1 ≤ a.length := by cases a with | nil => exact absurd rfl h1 | cons => simp
      rw [e1, e2, decide_eq_false (by omega), decide_eq_false (by simp)]
      rfl
    · have e1 : pathOf a = flat a := by simp [pathOf, h1]
      have e2 : pathOf b = flat b := by simp [pathOf, h2]
      rw [e1, e2, flat_length, flat_length]
      by_cases h6 : a.length < b.length
      · rw [decide_eq_true (by omega), Bool.true_and]
        by_cases h7 : a <+: b
        · rw [decide_eq_true ⟨h7, h6⟩]
          obtain ⟨t, rfl⟩ := h7
          rw [flat_append, ← flat_length, List.take_left']
          · simp
          · rfl
        · rw [decide_eq_false (fun h => h7 h.1)]
          have : (flat b).take (2 * a.length) ≠ flat a := fun e => h7 (flat_prefix (by rw [← e]; exact List.take_prefix _ _))
          simpa using this
      · rw [decide_eq_false (by omega), decide_eq_false (fun h => h6 h.2)]
        rfl

/-- The parent of a path. -/
def parent (l : List UInt8) : List UInt8 := if depth l < 1 then [] else if l.length ≤ 2 then [47] else l.take (l.length - 2)

theorem flat_dropLast (ns : List UInt8) (h : ns ≠ []) : (flat ns).take ((flat ns).length - 2) = flat ns.dropLast := by
  have e := List.dropLast_concat_getLast h
  have : flat ns = flat ns.dropLast ++ [47, ns.getLast h] := by
    conv => lhs; rw [← e]
    rw [flat_append]; rfl
  rw [this]
  simp

theorem parent_path (ns : List UInt8) (hn : ns ≠ []) (h4 : ns.length ≤ 4) (h : ∀ x ∈ ns, letter x = true) : parent (pathOf ns) = pathOf ns.dropLast := by
  have hl : 1 ≤ ns.length := by cases ns with | nil => exact absurd rfl hn | cons => simp
  unfold parent
  rw [depth_path ns h4 h, if_neg (by omega)]
  have e1 : pathOf ns = flat ns := by simp [pathOf, hn]
  rw [e1, flat_length]
  by_cases h1 : ns.length = 1
  · rw [if_pos (by omega)]
    have : ns.dropLast = [] := by rw [← List.length_eq_zero_iff, List.length_dropLast]; omega
    rw [this]; rfl
  · rw [if_neg (by omega), ← flat_length, flat_dropLast ns hn]
    have : ns.dropLast ≠ [] := by rw [Ne, ← List.length_eq_zero_iff, List.length_dropLast]; omega
    simp [pathOf, this]

theorem parent_root : parent (pathOf []) = [] := by decide

theorem parent_bad (l : List UInt8) (h : valid l = false) : parent l = [] := by
  unfold parent depth; rw [h]; rfl

theorem pathOf_ne (ns : List UInt8) : pathOf ns ≠ [] := by
  unfold pathOf
  split
  · simp
  · cases ns with
    | nil => contradiction
    | cons => simp [flat]

/-- What parents are good for. -/
theorem parent_facts (l : List UInt8) (h : parent l ≠ []) : valid (parent l) = true ∧ depth (parent l) = depth l - 1 ∧ under (parent l) l = true ∧ under l (parent l) = false := by
  cases hv : valid l with
  | false => exact absurd (parent_bad l hv) h
  | true =>
    obtain ⟨ns, h4, hns, rfl⟩ := valid_of l hv
    by_cases hn : ns = []
    · subst hn; exact absurd parent_root h
    · have hl : 1 ≤ ns.length := by cases ns with | nil => exact absurd rfl hn | cons => simp
      have hd : ∀ x ∈ ns.dropLast, letter x = true := fun x hx => hns x (List.dropLast_subset _ hx)
      have hdl : ns.dropLast.length = ns.length - 1 := List.length_dropLast
      rw [parent_path ns hn h4 hns, valid_path _ (by omega) hd, depth_path _ (by omega) hd, depth_path _ h4 hns, under_path _ _ (by omega) h4 hd hns, under_path _ _ h4 (by omega) hns hd, hdl]
      refine ⟨rfl, by omega, decide_eq_true ⟨List.dropLast_prefix ns, by omega⟩, decide_eq_false (fun h => by omega)⟩

theorem under_facts (a b : List UInt8) (h : under a b = true) : parent b = a ∨ under a (parent b) = true := by
  have hv : valid a = true ∧ valid b = true := by
    unfold under at h
    rw [Bool.and_eq_true, Bool.and_eq_true] at h
    exact h.1
  obtain ⟨na, a4, ha, rfl⟩ := valid_of a hv.1
  obtain ⟨nb, b4, hb, rfl⟩ := valid_of b hv.2
  rw [under_path na nb a4 b4 ha hb] at h
  obtain ⟨hp, hl⟩ := of_decide_eq_true h
  have hn : nb ≠ [] := by intro e; subst e; simp at hl
  have hd : ∀ x ∈ nb.dropLast, letter x = true := fun x hx => hb x (List.dropLast_subset _ hx)
  have hdl : nb.dropLast.length = nb.length - 1 := List.length_dropLast
  rw [parent_path nb hn b4 hb, under_path na nb.dropLast a4 (by omega) ha hd]
  have hp2 : na <+: nb.dropLast := by
    refine List.prefix_of_prefix_length_le hp (List.dropLast_prefix nb) (by omega)
  by_cases he : na.length = nb.dropLast.length
  · left; rw [hp2.eq_of_length he]
  · right; exact decide_eq_true ⟨hp2, by have := hp2.length_le; omega⟩

theorem under_root (b : List UInt8) (h : valid b = true) : under [47] b = !(b == [47]) ∧ under b b = false := by
  obtain ⟨nb, b4, hb, rfl⟩ := valid_of b h
  constructor
  · have := under_path [] nb (by simp) b4 (by simp) hb
    rw [show pathOf [] = [47] from rfl] at this
    rw [this]
    by_cases hn : nb = []
    · subst hn; decide
    · have h3 : pathOf nb ≠ [47] := fun e => hn (pathOf_inj (a := nb) (b := []) e hb (by simp))
      have h4 : 0 < nb.length := by cases nb with | nil => exact absurd rfl hn | cons => simp
      have h5 : (pathOf nb == [47]) = false := by simpa using h3
      rw [h5, decide_eq_true ⟨List.nil_prefix, h4⟩]; rfl
  · rw [under_path nb nb b4 b4 hb hb]
    exact decide_eq_false (fun h => by omega)

theorem flat_last (ns : List UInt8) (h : ns ≠ []) : flat ns = flat ns.dropLast ++ [47, ns.getLast h] := by
  have e := List.dropLast_concat_getLast h
  conv => lhs; rw [← e]
  rw [flat_append]; rfl

/-- A path of two names or more ends with a slash and a letter. -/
theorem last_facts (l : List UInt8) (h : 1 ≤ depth l) : ∃ m, l.length = m + 2 ∧ l[m]? = some 47 ∧ (∃ c, l[m + 1]? = some c ∧ c ≠ 47) ∧ (parent l = if l.length ≤ 2 then [47] else l.take m) ∧ (depth l = 1 ↔ l.length ≤ 2) := by
  cases hv : valid l with
  | false => unfold depth at h; rw [hv] at h; simp at h
  | true =>
    obtain ⟨ns, h4, hns, rfl⟩ := valid_of l hv
    have hd := depth_path ns h4 hns
    rw [hd] at h
    have hn : ns ≠ [] := by intro e; subst e; simp at h
    have e1 : pathOf ns = flat ns := by simp [pathOf, hn]
    have e2 := flat_last ns hn
    have hl : (flat ns.dropLast).length + 2 = (flat ns).length := by rw [e2]; simp
    rw [hd, e1]
    refine ⟨(flat ns.dropLast).length, hl.symm, ?_, ⟨ns.getLast hn, ?_, letter_not_47 (hns _ (List.getLast_mem hn))⟩, ?_, ?_⟩
    · rw [e2]; simp
    · rw [e2]; simp
    · unfold parent
      rw [← e1, hd, if_neg (by omega)]
      rw [e1, ← hl]; simp
    · rw [flat_length]; omega

/-- What impl.PathUnder asks. -/
theorem under_impl (a b : List UInt8) : (decide (0 ≤ depth a) && (decide (depth a < depth b) && (decide (a.length ≤ b.length) && b.take a.length == a))) = under a b := by
  cases hva : valid a with
  | false =>
    have : depth a = -1 := by unfold depth; rw [hva]; rfl
    rw [this]; unfold under; rw [hva]; rfl
  | true =>
    cases hvb : valid b with
    | false =>
      have : depth b = -1 := by unfold depth; rw [hvb]; rfl
      have h2 : depth a = (a.length / 2 : Nat) := by unfold depth; rw [if_pos hva]
      rw [this, h2, decide_eq_false (p := ((a.length / 2 : Nat) : Int) < -1) (by omega)]
      unfold under; rw [hva, hvb]; simp
    | true =>
      obtain ⟨na, a4, ha, rfl⟩ := valid_of a hva
      obtain ⟨nb, b4, hb, rfl⟩ := valid_of b hvb
      rw [under_path na nb a4 b4 ha hb, depth_path na a4 ha, depth_path nb b4 hb, decide_eq_true (p := (0 : Int) ≤ na.length) (by omega), Bool.true_and]
      by_cases h6 : na.length < nb.length
      · rw [decide_eq_true (p := (na.length : Int) < nb.length) (by omega), Bool.true_and]
        have h2 : nb ≠ [] := by intro e; subst e; simp at h6
        have e2 : pathOf nb = flat nb := by simp [pathOf, h2]
        by_cases h1 : na = []
        · subst h1
          have : pathOf [] = [47] := rfl
          rw [this, e2, decide_eq_true (p := _ ∧ _) ⟨List.nil_prefix, h6⟩]
          cases nb with
          | nil => exact absurd rfl h2
          | cons c nb => simp [flat]
        · have e1 : pathOf na = flat na := by simp [pathOf, h1]
          rw [e1, e2, flat_length, flat_length, decide_eq_true (p := 2 * na.length ≤ 2 * nb.length) (by omega), Bool.true_and]
          by_cases h7 : na <+: nb
          · rw [decide_eq_true (p := _ ∧ _) ⟨h7, h6⟩]
            obtain ⟨t, rfl⟩ := h7
            rw [flat_append, ← flat_length, List.take_left']
            · simp
            · rfl
          · rw [decide_eq_false (p := _ ∧ _) (fun h => h7 h.1)]
            have : (flat nb).take (2 * na.length) ≠ flat na := fun e => h7 (flat_prefix (by rw [← e]; exact List.take_prefix _ _))
            simpa using this
      · rw [decide_eq_false (p := (na.length : Int) < nb.length) (by omega), decide_eq_false (p := _ ∧ _) (fun h => h6 h.2)]; rfl

theorem depth_facts (l : List UInt8) (hv : valid l = true) : (l = [47] → depth l = 0) ∧ (l ≠ [47] → 0 < depth l ∧ 2 * depth l = (l.length : Int) ∧ depth l ≤ 4) := by
  obtain ⟨ns, h4, hns, rfl⟩ := valid_of l hv
  rw [depth_path ns h4 hns]
  constructor
  · intro h
    have := pathOf_inj (a := ns) (b := []) h hns (by simp)
    subst this; rfl
  · intro h
    have hn : ns ≠ [] := by intro e; subst e; exact h rfl
    have : 1 ≤ ns.length := by cases ns with | nil => exact absurd rfl hn | cons => simp
    refine ⟨by omega, ?_, by omega⟩
    simp only [pathOf, if_neg hn, flat_length]
    omega

end Go.Proofs.Ytoipbocbgadjbaa.Pm
