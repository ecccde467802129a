/-
  PLAIN MATHEMATICS OF CANONICAL LOGS, fourth part: canonical logs can be joined (P63); what a canonical log looks like (P64).
-/
import Derived.Test.YtmlnakkfjecibaaGreatDoorNc
namespace Go.Proofs.YtmlnakkfjecibaaGreatDoor

theorem fold_some {p : ByteArray} : ∀ (cs : List Cmd) (s : (Int × Int) × (Int × Int)), foldP p (some s) cs ≠ some none
  | [], s => by rw [fold_nil]; intro h; cases h
  | d :: cs, (f, t) => by
    by_cases hp : d.p = p
    · by_cases hk : (d.fk, d.fv) = t
      · rw [fold_on hp hk]; exact fold_some cs _
      · rw [fold_bad hp hk]; intro h; cases h
    · rw [fold_skip hp]; exact fold_some cs _

theorem fold_empty {p : ByteArray} : ∀ (cs : List Cmd), foldP p none cs = some none → ∀ d ∈ cs, d.p ≠ p
  | [], _, d, h => by cases h
  | c :: cs, h, d, hd => by
    by_cases hp : c.p = p
    · rw [fold_begin hp] at h
      exact absurd h (fold_some cs _)
    · rw [fold_skip hp] at h
      rcases List.mem_cons.1 hd with rfl | hd
      · exact hp
      · exact fold_empty cs h d hd

/-- Where it began has no influence. -/
theorem fold_other {p : ByteArray} : ∀ (cs : List Cmd) (f g t u : Int × Int), foldP p (some (f, t)) cs = some (some (f, u)) → foldP p (some (g, t)) cs = some (some (g, u))
  | [], f, g, t, u, h => by
    rw [fold_nil] at h ⊢
    have := congrArg Prod.snd (Option.some.inj (Option.some.inj h))
    rw [show t = u from this]
  | d :: cs, f, g, t, u, h => by
    by_cases hp : d.p = p
    · by_cases hk : (d.fk, d.fv) = t
      · rw [fold_on hp hk] at h ⊢
        exact fold_other cs f g _ u h
      · rw [fold_bad hp hk] at h; cases h
    · rw [fold_skip hp] at h ⊢
      exact fold_other cs f g t u h

theorem fold_join {p : ByteArray} : ∀ (cs : List Cmd) (f t u : Int × Int), foldP p none cs = some (some (t, u)) → foldP p (some (f, t)) cs = some (some (f, u))
  | [], f, t, u, h => by cases h
  | d :: cs, f, t, u, h => by
    by_cases hp : d.p = p
    · rw [fold_begin hp] at h
      have h1 : t = (d.fk, d.fv) := (fold_on_from cs _ _ _ h).1
      rw [fold_on hp h1.symm]
      rw [h1] at h
      exact fold_other cs _ f _ u h
    · rw [fold_skip hp] at h ⊢
      exact fold_join cs f t u h

theorem fold_split {p : ByteArray} : ∀ (cs : List Cmd) (f t : Int × Int) (r : Option ((Int × Int) × (Int × Int))), foldP p (some (f, t)) cs = some r →
    (foldP p none cs = some none ∧ r = some (f, t)) ∨ ∃ u, foldP p none cs = some (some (t, u)) ∧ r = some (f, u)
  | [], f, t, r, h => by
    rw [fold_nil] at h
    exact .inl ⟨fold_nil _ _, (Option.some.inj h).symm⟩
  | d :: cs, f, t, r, h => by
    by_cases hp : d.p = p
    · by_cases hk : (d.fk, d.fv) = t
      · rw [fold_on hp hk] at h
        rw [fold_begin hp, hk]
        cases r with
        | none => exact absurd h (fold_some cs _)
        | some s =>
          have h1 := (fold_on_from cs _ _ s h).1
          obtain ⟨s1, s2⟩ := s
          simp only at h1
          subst h1
          exact .inr ⟨s2, fold_other cs _ t _ _ h, rfl⟩
      · rw [fold_bad hp hk] at h; cases h
    · rw [fold_skip hp] at h ⊢
      exact fold_split cs f t r h

/-- What a canonical log says of a path. -/
theorem canon_fold {cs out : List Cmd} (h : logCanon cs = (out, true)) (p : ByteArray) :
    (∀ f t, foldP p none cs = some (some (f, t)) → f ≠ t → foldP p none out = some (some (f, t))) ∧ ((foldP p none cs = some none ∨ ∃ f, foldP p none cs = some (some (f, f))) → foldP p none out = some none) := by
  obtain ⟨_, _, h3, _, h5, _⟩ := canon_some h
  have hfo := fold_once out h3
  constructor
  · intro f t hf hne
    have := hfo ⟨p, f.1, f.2, t.1, t.2⟩ ((h5 _).2 ⟨hf, hne⟩)
    exact this
  · intro hc
    apply fold_none
    intro d hd e
    have hk := (h5 d).1 hd
    obtain ⟨h1, h2⟩ := hk
    rw [e] at h1
    rcases hc with hc | ⟨f, hc⟩
    · rw [hc] at h1; cases h1
    · rw [hc] at h1
      have := Option.some.inj (Option.some.inj h1)
      have e1 : f = (d.fk, d.fv) := congrArg Prod.fst this
      have e2 : f = (d.tk, d.tv) := congrArg Prod.snd this
      exact h2 (e1.symm.trans e2)

/-- P63: canonical logs can be joined. -/
theorem canon_join {a b out : List Cmd} (h : logCanon (a ++ b) = (out, true)) : ∃ x y, logCanon a = (x, true) ∧ logCanon b = (y, true) ∧ logCanon (x ++ y) = (out, true) ∧ x.length ≤ a.length ∧ y.length ≤ b.length := by
  obtain ⟨hv, hco, hno, hok, hmem, hlen⟩ := canon_some h
  have hva : validL a = true := validL_part hv (List.sublist_append_left a b)
  have hvb : validL b = true := validL_part hv (List.sublist_append_right a b)
  have hA : ∀ p, ∃ s, foldP p none a = some s ∧ foldP p none (a ++ b) = foldP p s b := by
    intro p
    have := hok p
    rw [fold_append] at this ⊢
    cases hs : foldP p none a with
    | none => rw [hs] at this; exact absurd rfl this
    | some s => exact ⟨s, rfl, rfl⟩
  have hB : ∀ p, foldP p none b ≠ none := by
    intro p hb
    obtain ⟨s, hs, hab⟩ := hA p
    have hne := hok p
    rw [hab] at hne
    cases s with
    | none => exact hne hb
    | some s =>
      obtain ⟨f, t⟩ := s
      cases hr : foldP p (some (f, t)) b with
      | none => exact hne hr
      | some r =>
        rcases fold_split b f t r hr with ⟨e, _⟩ | ⟨u, e, _⟩
        · rw [e] at hb; cases hb
        · rw [e] at hb; cases hb
  obtain ⟨x, hx⟩ := canon_ok hva (fun p => by obtain ⟨s, hs, _⟩ := hA p; rw [hs]; intro h; cases h)
  obtain ⟨y, hy⟩ := canon_ok hvb hB
  obtain ⟨ox, lx, lxl⟩ := canon_once hx
  obtain ⟨oy, ly, lyl⟩ := canon_once hy
  have hvx := (canonV_iff.1 ox).2.2
  have hvy := (canonV_iff.1 oy).2.2
  have hl20 := ((validL_iff _).1 hv).2
  rw [List.length_append] at hl20
  have hvxy : validL (x ++ y) = true := (validL_iff _).2 ⟨fun c hc => by
    rcases List.mem_append.1 hc with hc | hc
    · exact ((validL_iff _).1 hvx).1 c hc
    · exact ((validL_iff _).1 hvy).1 c hc, by rw [List.length_append]; omega⟩
  -- path by path
  have key : ∀ p, foldP p none (x ++ y) ≠ none ∧ ∀ f t, f ≠ t → (foldP p none (x ++ y) = some (some (f, t)) ↔ foldP p none (a ++ b) = some (some (f, t))) := by
    intro p
    obtain ⟨s, hs, hab⟩ := hA p
    obtain ⟨cx1, cx2⟩ := canon_fold hx p
    obtain ⟨cy1, cy2⟩ := canon_fold hy p
    rw [hab, fold_append]
    cases s with
    | none =>
      rw [cx2 (.inl hs)]
      show foldP p none y ≠ none ∧ ∀ f t, f ≠ t → (foldP p none y = _ ↔ _)
      cases hb : foldP p none b with
      | none => exact absurd hb (hB p)
      | some r =>
        cases r with
        | none =>
          rw [cy2 (.inl hb)]
          exact ⟨(fun h => by cases h), fun f t _ => Iff.rfl⟩
        | some r =>
          obtain ⟨g, u⟩ := r
          by_cases hgu : g = u
          · subst hgu
            rw [cy2 (.inr ⟨g, hb⟩)]
            refine ⟨(fun h => by cases h), fun f t hne => ⟨(fun h => by cases h), fun h => ?_⟩⟩
            have := Option.some.inj (Option.some.inj h)
            exact absurd ((congrArg Prod.fst this).symm.trans (congrArg Prod.snd this)) hne
          · rw [cy1 g u hb hgu]
            exact ⟨(fun h => by cases h), fun f t _ => Iff.rfl⟩
    | some s =>
      obtain ⟨f0, t0⟩ := s
      have hne := hok p
      rw [hab] at hne
      cases hr : foldP p (some (f0, t0)) b with
      | none => exact absurd hr hne
      | some r =>
        rcases fold_split b f0 t0 r hr with ⟨e, hre⟩ | ⟨u, e, hre⟩
        · have hyn := cy2 (.inl e)
          have hyd := fold_empty y hyn
          by_cases hft : f0 = t0
          · subst hft
            rw [cx2 (.inr ⟨f0, hs⟩)]
            show foldP p none y ≠ none ∧ ∀ f t, f ≠ t → (foldP p none y = _ ↔ _)
            rw [hyn, hre]
            refine ⟨(fun h => by cases h), fun f t hne => ⟨(fun h => by cases h), fun h => ?_⟩⟩
            have := Option.some.inj (Option.some.inj h)
            exact absurd ((congrArg Prod.fst this).symm.trans (congrArg Prod.snd this)) hne
          · rw [cx1 f0 t0 hs hft]
            show foldP p (some (f0, t0)) y ≠ none ∧ ∀ f t, f ≠ t → (foldP p (some (f0, t0)) y = _ ↔ _)
            rw [fold_none y _ hyd, hre]
            exact ⟨(fun h => by cases h), fun f t _ => Iff.rfl⟩
        · by_cases hft : f0 = t0
          · subst hft
            rw [cx2 (.inr ⟨f0, hs⟩)]
            show foldP p none y ≠ none ∧ ∀ f t, f ≠ t → (foldP p none y = _ ↔ _)
            rw [hre]
            by_cases htu : f0 = u
            · subst htu
              rw [cy2 (.inr ⟨f0, e⟩)]
              refine ⟨(fun h => by cases h), fun f t hne => ⟨(fun h => by cases h), fun h => ?_⟩⟩
              have := Option.some.inj (Option.some.inj h)
              exact absurd ((congrArg Prod.fst this).symm.trans (congrArg Prod.snd this)) hne
            · rw [cy1 f0 u e htu]
              exact ⟨(fun h => by cases h), fun f t _ => Iff.rfl⟩
          · rw [cx1 f0 t0 hs hft]
            show foldP p (some (f0, t0)) y ≠ none ∧ ∀ f t, f ≠ t → (foldP p (some (f0, t0)) y = _ ↔ _)
            rw [hre]
            by_cases htu : t0 = u
            · subst htu
              rw [fold_none y _ (fold_empty y (cy2 (.inr ⟨t0, e⟩)))]
              exact ⟨(fun h => by cases h), fun f t _ => Iff.rfl⟩
            · rw [fold_join y f0 t0 u (cy1 t0 u e htu)]
              exact ⟨(fun h => by cases h), fun f t _ => Iff.rfl⟩
  obtain ⟨o, ho⟩ := canon_ok hvxy (fun p => (key p).1)
  refine ⟨x, y, hx, hy, ?_, lxl, lyl⟩
  rw [ho]
  congr 1
  refine canon_is ho hco (fun e => ?_)
  rw [hmem]
  unfold isK
  constructor
  · rintro ⟨h1, h2⟩
    exact ⟨((key e.p).2 _ _ h2).2 h1, h2⟩
  · rintro ⟨h1, h2⟩
    exact ⟨((key e.p).2 _ _ h2).1 h1, h2⟩

/-- P64: what a canonical log looks like. -/
theorem canon_look {cs : List Cmd} (h : canonV cs = true) {i k : Nat} {c d : Cmd} (hi : cs[k]? = some c) (hk : cs[i]? = some d) (hlt : k < i) : c.p ≠ d.p ∧ befC c d = true := by
  obtain ⟨h1, h2, _⟩ := canonV_iff.1 h
  obtain ⟨q1, e1⟩ := List.getElem?_eq_some_iff.1 hi
  obtain ⟨q2, e2⟩ := List.getElem?_eq_some_iff.1 hk
  unfold Canon at h1
  rw [List.pairwise_iff_getElem] at h1
  rw [List.nodup_iff_pairwise_ne, List.pairwise_map, List.pairwise_iff_getElem] at h2
  have a := h1 k i q1 q2 hlt
  have b := h2 k i q1 q2 hlt
  rw [e1, e2] at a b
  exact ⟨b, a⟩

theorem bef_look {c d : Cmd} (h : befC c d = true) : (endsC d = true → endsC c = true ∧ ltB c.p d.p = false) ∧ (endsC d = false → endsC c = false → ltB d.p c.p = false) := by
  unfold befC at h
  cases hc : endsC c <;> cases hd : endsC d <;> simp [hc, hd] at h ⊢
  · exact ltB_asymm h
  · exact ltB_asymm h

end Go.Proofs.YtmlnakkfjecibaaGreatDoor
