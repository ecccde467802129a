/-
  PLAIN MATHEMATICS OF NORMAL PATHS: parts are run on a stack of letters.
-/
import Derived.Test.YtlnjcikoeiffgaaPq
import Derived.Lib.Join
namespace Go.Proofs.Ytlnjcikoeiffgaa.Pm

def stepN (ns : List UInt8) (p : List UInt8) : Option (List UInt8) :=
  if p = [] ∨ p = [46] then some ns
  else if p = [46, 46] ∧ ns ≠ [] then some ns.dropLast
  else if nameB p = true then some (ns ++ p)
  else none

def runN : List (List UInt8) → List UInt8 → Option (List UInt8)
  | [], ns => some ns
  | p :: ps, ns => match stepN ns p with
    | none => none
    | some ms => runN ps ms

theorem runN_append (a b : List (List UInt8)) (ns : List UInt8) : runN (a ++ b) ns = match runN a ns with | none => none | some ms => runN b ms := by
  induction a generalizing ns with
  | nil => rfl
  | cons p a ih =>
    rw [List.cons_append, runN, runN]
    cases stepN ns p with
    | none => rfl
    | some ms => exact ih ms

theorem runN_snoc (a : List (List UInt8)) (p : List UInt8) (ns ms : List UInt8) (h : runN a ns = some ms) : runN (a ++ [p]) ns = stepN ms p := by
  rw [runN_append, h]
  show (match stepN ms p with | none => none | some q => some q) = _
  cases stepN ms p <;> rfl

theorem runN_stop (a b : List (List UInt8)) (ns : List UInt8) (h : runN a ns = none) : runN (a ++ b) ns = none := by
  rw [runN_append, h]

theorem name_form {p : List UInt8} (h : nameB p = true) : ∃ c, p = [c] ∧ letter c = true := by
  match p, h with
  | [c], h => exact ⟨c, rfl, h⟩

theorem stepN_letters {ns p ms : List UInt8} (h : stepN ns p = some ms) (hl : ∀ x ∈ ns, letter x = true) : (∀ x ∈ ms, letter x = true) ∧ ms.length ≤ ns.length + 1 := by
  unfold stepN at h
  split at h
  · obtain rfl := Option.some.inj h; exact ⟨hl, by omega⟩
  · split at h
    · obtain rfl := Option.some.inj h
      exact ⟨fun x hx => hl x (List.dropLast_subset _ hx), by rw [List.length_dropLast]; omega⟩
    · split at h
      · rename_i hn
        obtain rfl := Option.some.inj h
        obtain ⟨c, rfl, hc⟩ := name_form hn
        refine ⟨fun x hx => ?_, by simp⟩
        rcases List.mem_append.1 hx with hx | hx
        · exact hl x hx
        · obtain rfl : x = c := by simpa using hx
          exact hc
      · cases h

theorem runN_letters {a : List (List UInt8)} {ns ms : List UInt8} (h : runN a ns = some ms) (hl : ∀ x ∈ ns, letter x = true) : (∀ x ∈ ms, letter x = true) ∧ ms.length ≤ ns.length + a.length := by
  induction a generalizing ns with
  | nil => obtain rfl := Option.some.inj h; exact ⟨hl, by simp⟩
  | cons p a ih =>
    rw [runN] at h
    cases hs : stepN ns p with
    | none => rw [hs] at h; cases h
    | some qs =>
      rw [hs] at h
      obtain ⟨h1, h2⟩ := stepN_letters hs hl
      obtain ⟨h3, h4⟩ := ih h h1
      exact ⟨h3, by simp; omega⟩

/-- The path that a text means. -/
def normal (t : List UInt8) : Option (List UInt8) :=
  if 40 < t.length ∨ t.head? ≠ some 47 then none
  else match runN (parts t) [] with
    | none => none
    | some ns => if ns.length ≤ 4 then some (pathOf ns) else none

theorem runN_names (ns ms : List UInt8) (h : ∀ x ∈ ns, letter x = true) : runN (ns.map fun x => [x]) ms = some (ms ++ ns) := by
  induction ns generalizing ms with
  | nil => simp [runN]
  | cons c ns ih =>
    have hc := h c (by simp)
    have h46 : c ≠ 46 := by intro e; subst e; exact absurd hc (by decide)
    have hs : stepN ms [c] = some (ms ++ [c]) := by
      unfold stepN
      rw [if_neg (by simp [h46]), if_neg (by simp), if_pos (show nameB [c] = true from hc)]
    rw [List.map_cons, runN, hs]
    show runN _ (ms ++ [c]) = _
    rw [ih _ (fun x hx => h x (List.mem_cons_of_mem _ hx))]
    simp

theorem normal_path (ns : List UInt8) (h4 : ns.length ≤ 4) (h : ∀ x ∈ ns, letter x = true) : normal (pathOf ns) = some (pathOf ns) := by
  by_cases hn : ns = []
  · subst hn; decide
  · have e1 : pathOf ns = flat ns := by simp [pathOf, hn]
    have hl : (pathOf ns).length ≤ 40 := by rw [e1, flat_length]; omega
    have hh : (pathOf ns).head? = some 47 := by
      rw [e1]
      cases ns with
      | nil => exact absurd rfl hn
      | cons c ns => rfl
    unfold normal
    rw [if_neg (by rw [hh]; simp; omega), parts_path ns hn h, runN_names ns [] h]
    simp [h4]

theorem normal_valid (t : List UInt8) (h : valid t = true) : normal t = some t := by
  obtain ⟨ns, h4, hns, rfl⟩ := valid_of t h
  exact normal_path ns h4 hns

theorem normal_some {t p : List UInt8} (h : normal t = some p) : ∃ ns, runN (parts t) [] = some ns ∧ ns.length ≤ 4 ∧ (∀ x ∈ ns, letter x = true) ∧ p = pathOf ns ∧ t.length ≤ 40 ∧ t.head? = some 47 := by
  unfold normal at h
  split at h
  · cases h
  · rename_i hc
    split at h
    · cases h
    · rename_i ns hr
      split at h
      · rename_i h4
        obtain rfl := Option.some.inj h
        refine ⟨ns, hr, h4, (runN_letters hr (by simp)).1, rfl, ?_, ?_⟩
        · have := fun e => hc (.inl e); omega
        · exact Decidable.byContradiction fun e => hc (.inr e)
      · cases h

theorem normal_facts {t p : List UInt8} (h : normal t = some p) : normal p = some p ∧ valid p = true := by
  obtain ⟨ns, _, h4, hns, rfl, _⟩ := normal_some h
  exact ⟨normal_path ns h4 hns, valid_path ns h4 hns⟩

theorem splitS_append (a b : List UInt8) : splitS (a ++ 47 :: b) = splitS a ++ splitS b := by
  induction a with
  | nil => simp [splitS]
  | cons c a ih =>
    by_cases hc : c = 47
    · subst hc; simp [splitS, ih]
    · have step : ∀ l, splitS (c :: l) = match splitS l with | [] => [[c]] | p :: ps => (c :: p) :: ps := fun l => by
        conv => lhs; unfold splitS
        rw [if_neg hc]
        rfl
      rw [List.cons_append, step, step, ih]
      cases hs : splitS a with
      | nil => exact absurd hs (splitS_ne a)
      | cons p ps => rfl

theorem parts_append (t b : List UInt8) (h : t.head? = some 47) : parts (t ++ 47 :: b) = parts t ++ splitS b := by
  cases t with
  | nil => simp at h
  | cons c t =>
    obtain rfl : c = 47 := by simpa using h
    simp only [List.cons_append, parts, if_pos]
    exact splitS_append t b

theorem normal_more {t p : List UInt8} (b : List UInt8) (h : normal t = some p) (hl : (t ++ 47 :: b).length ≤ 40) (hb : ∀ ns, (∀ x ∈ ns, letter x = true) → runN (splitS b) ns = some ns) : normal (t ++ 47 :: b) = some p := by
  obtain ⟨ns, hr, h4, hns, rfl, _, hh⟩ := normal_some h
  have hh2 : (t ++ 47 :: b).head? = some 47 := by
    cases t with
    | nil => simp at hh
    | cons c t => exact hh
  unfold normal
  rw [if_neg (by rw [hh2]; simp; simp at hl; omega), parts_append t b hh, runN_append, hr]
  show (match runN (splitS b) ns with | none => none | some ns => if ns.length ≤ 4 then some (pathOf ns) else none) = _
  rw [hb ns hns]
  simp [h4]

theorem normal_dots {t p : List UInt8} (h : normal t = some p) (hl : t.length ≤ 30) :
    normal (t ++ [47, 46]) = some p ∧ normal (t ++ [47]) = some p ∧ normal (t ++ [47, 97, 47, 46, 46]) = some p := by
  refine ⟨normal_more [46] h (by simp; omega) ?_, normal_more [] h (by simp; omega) ?_, normal_more [97, 47, 46, 46] h (by simp; omega) ?_⟩
  · intro ns _
    have : splitS [46] = [[46]] := by decide
    rw [this]; simp [runN, stepN]
  · intro ns _
    have : splitS [] = [[]] := by decide
    rw [this]; simp [runN, stepN]
  · intro ns _
    have : splitS [97, 47, 46, 46] = [[97], [46, 46]] := by decide
    have h97 : nameB [97] = true := by decide
    rw [this]
    simp [runN, stepN, h97]

/-- As the program builds it. -/
theorem join_path (ns : List UInt8) : 47 :: Lib.join (ns.map fun x => [x]) [47] = pathOf ns := by
  cases ns with
  | nil => rfl
  | cons c ns =>
    have key : ∀ (ns : List UInt8), Lib.joinTail [47] (ns.map fun x => [x]) = flat ns := by
      intro ns
      induction ns with
      | nil => rfl
      | cons d ns ih =>
        have : Lib.joinTail [47] ((d :: ns).map fun x => [x]) = 47 :: d :: Lib.joinTail [47] (ns.map fun x => [x]) := rfl
        rw [this, ih]; rfl
    rw [List.map_cons, Lib.join_cons, key]
    rfl

/-- What the model's last test asks. -/
theorem valid_pathOf (ns : List UInt8) (h : ∀ x ∈ ns, letter x = true) : valid (pathOf ns) = decide (ns.length ≤ 4) := by
  by_cases h4 : ns.length ≤ 4
  · rw [decide_eq_true h4]; exact valid_path ns h4 h
  · rw [decide_eq_false h4]
    have hn : ns ≠ [] := by intro e; subst e; simp at h4
    unfold valid
    rw [parts_path ns hn h]
    have hne : (pathOf ns == [47]) = false := by
      have : pathOf ns ≠ [47] := fun e => hn (pathOf_inj (a := ns) (b := []) e h (by simp))
      simpa using this
    rw [hne]
    simp
    intro _ _; omega

theorem parts_length (t : List UInt8) : (parts t).length ≤ t.length := by
  have key : ∀ (l : List UInt8), (splitS l).length ≤ l.length + 1 := by
    intro l
    induction l with
    | nil => simp [splitS]
    | cons c l ih =>
      unfold splitS
      split
      · simp; omega
      · cases hs : splitS l with
        | nil => simp
        | cons p ps => rw [hs] at ih; simp at ih ⊢; omega
  cases t with
  | nil => simp [parts]
  | cons c t =>
    simp only [parts]
    split
    · have := key t; simp; omega
    · simp

end Go.Proofs.Ytlnjcikoeiffgaa.Pm
