/-
  PLAIN MATHEMATICS OF CANONICAL LOGS, third part: what LogCanon finds, path by path (P58, P59, P61 to P64, P67).
-/
import Derived.Test.YtmlnakkfjecibaaGreatDoorNb
namespace Go.Proofs.YtmlnakkfjecibaaGreatDoor

/-- What the commands on a path say together: nothing yet, or from what to what; none where two do not fit. -/
def foldP (p : ByteArray) : Option ((Int × Int) × (Int × Int)) → List Cmd → Option (Option ((Int × Int) × (Int × Int)))
  | st, [] => some st
  | none, d :: r => if d.p = p then foldP p (some ((d.fk, d.fv), (d.tk, d.tv))) r else foldP p none r
  | some s, d :: r => if d.p = p then (if (d.fk, d.fv) = s.2 then foldP p (some (s.1, (d.tk, d.tv))) r else none) else foldP p (some s) r

theorem fold_nil (p : ByteArray) (st : Option ((Int × Int) × (Int × Int))) : foldP p st [] = some st := by cases st <;> rfl

theorem fold_skip {p : ByteArray} {d : Cmd} (h : d.p ≠ p) (st : Option ((Int × Int) × (Int × Int))) (r : List Cmd) : foldP p st (d :: r) = foldP p st r := by
  cases st with
  | none => show (if _ then _ else _) = _; rw [if_neg h]
  | some s => show (if _ then _ else _) = _; rw [if_neg h]

theorem fold_begin {p : ByteArray} {d : Cmd} (h : d.p = p) (r : List Cmd) : foldP p none (d :: r) = foldP p (some ((d.fk, d.fv), (d.tk, d.tv))) r := by
  show (if _ then _ else _) = _
  rw [if_pos h]

theorem fold_on {p : ByteArray} {d : Cmd} {f t : Int × Int} (h : d.p = p) (k : (d.fk, d.fv) = t) (r : List Cmd) : foldP p (some (f, t)) (d :: r) = foldP p (some (f, (d.tk, d.tv))) r := by
  show (if _ then _ else _) = _
  rw [if_pos h, if_pos k]

theorem fold_bad {p : ByteArray} {d : Cmd} {f t : Int × Int} (h : d.p = p) (k : (d.fk, d.fv) ≠ t) (r : List Cmd) : foldP p (some (f, t)) (d :: r) = none := by
  show (if _ then _ else _) = _
  rw [if_pos h, if_neg k]

theorem fold_append {p : ByteArray} : ∀ (a b : List Cmd) (st : Option ((Int × Int) × (Int × Int))), foldP p st (a ++ b) = (foldP p st a).bind (fun s => foldP p s b)
  | [], b, st => by rw [fold_nil]; rfl
  | d :: a, b, st => by
    by_cases h : d.p = p
    · cases st with
      | none => rw [List.cons_append, fold_begin h, fold_begin h, fold_append a b]
      | some s =>
        obtain ⟨f, t⟩ := s
        by_cases k : (d.fk, d.fv) = t
        · rw [List.cons_append, fold_on h k, fold_on h k, fold_append a b]
        · rw [List.cons_append, fold_bad h k, fold_bad h k]; rfl
    · rw [List.cons_append, fold_skip h, fold_skip h, fold_append a b]

theorem fold_none {p : ByteArray} : ∀ (cs : List Cmd) (st : Option ((Int × Int) × (Int × Int))), (∀ d ∈ cs, d.p ≠ p) → foldP p st cs = some st
  | [], st, _ => fold_nil p st
  | d :: cs, st, h => by rw [fold_skip (h d (by simp)), fold_none cs st (fun e he => h e (List.mem_cons_of_mem _ he))]

/-- The inner loop of LogCanon. -/
def chainK (c : Cmd) : List Cmd → Option Cmd
  | [] => some c
  | d :: r => if d.p = c.p then (if (d.fk, d.fv) = (c.tk, c.tv) then chainK ⟨c.p, c.fk, c.fv, d.tk, d.tv⟩ r else none) else chainK c r

theorem chain_fold : ∀ (r : List Cmd) (c : Cmd), (chainK c r = none → foldP c.p (some ((c.fk, c.fv), (c.tk, c.tv))) r = none) ∧
    (∀ d, chainK c r = some d → d.p = c.p ∧ foldP c.p (some ((c.fk, c.fv), (c.tk, c.tv))) r = some (some ((d.fk, d.fv), (d.tk, d.tv))))
  | [], c => ⟨fun h => (by cases h), fun d h => by cases h; exact ⟨rfl, fold_nil _ _⟩⟩
  | e :: r, c => by
    unfold chainK
    by_cases h : e.p = c.p
    · by_cases k : (e.fk, e.fv) = (c.tk, c.tv)
      · rw [if_pos h, if_pos k, fold_on h k]
        exact chain_fold r ⟨c.p, c.fk, c.fv, e.tk, e.tv⟩
      · rw [if_pos h, if_neg k, fold_bad h k]
        exact ⟨fun _ => rfl, fun d hd => (by cases hd)⟩
    · rw [if_neg h, fold_skip h]
      exact chain_fold r c

/-- spec.l14First. -/
def firstK (cs : List Cmd) (i : Nat) (p : ByteArray) : Bool := (cs.take i).all (fun d => !decide (d.p = p))

theorem firstK_iff {cs : List Cmd} {i : Nat} {p : ByteArray} : firstK cs i p = true ↔ ∀ d ∈ cs.take i, d.p ≠ p := by
  unfold firstK
  rw [List.all_eq_true]
  constructor
  · intro h d hd e
    have := h d hd
    simp [e] at this
  · intro h d hd
    simp [h d hd]

/-- What LogCanon has found before a place; none where it has failed. -/
def stepK (cs : List Cmd) (i : Nat) (c : Cmd) (out : List Cmd) : Option (List Cmd) :=
  if firstK cs i c.p = true then (match chainK c (cs.drop (i + 1)) with
    | none => none
    | some d => if (d.fk, d.fv) = (d.tk, d.tv) then some out else some (out ++ [d])) else some out
def midK (cs : List Cmd) : Nat → Option (List Cmd)
  | 0 => some []
  | i + 1 => match midK cs i with
    | none => none
    | some out => match cs[i]? with
      | none => some out
      | some c => stepK cs i c out
/-- spec.LogCanon. -/
def logCanon (cs : List Cmd) : List Cmd × Bool := if validL cs = true then (match midK cs cs.length with
  | none => ([], false)
  | some out => (sortK out, true)) else ([], false)

def seenK (cs : List Cmd) (i : Nat) (p : ByteArray) : Prop := ∃ d ∈ cs.take i, d.p = p

theorem seen_next {cs : List Cmd} {i : Nat} {c : Cmd} (hc : cs[i]? = some c) (p : ByteArray) : seenK cs (i + 1) p ↔ seenK cs i p ∨ c.p = p := by
  unfold seenK
  rw [List.take_add_one, hc]
  constructor
  · rintro ⟨d, hd, e⟩
    rcases List.mem_append.1 hd with hd | hd
    · exact .inl ⟨d, hd, e⟩
    · have hd' : d = c := by simpa using hd
      rw [hd'] at e
      exact .inr e
  · rintro (⟨d, hd, e⟩ | e)
    · exact ⟨d, List.mem_append_left _ hd, e⟩
    · exact ⟨c, by simp, e⟩

/-- The commands of a path from its first one on. -/
theorem fold_first {cs : List Cmd} {i : Nat} {c : Cmd} (hc : cs[i]? = some c) (h : ∀ d ∈ cs.take i, d.p ≠ c.p) : foldP c.p none cs = foldP c.p (some ((c.fk, c.fv), (c.tk, c.tv))) (cs.drop (i + 1)) := by
  have hlt := (List.getElem?_eq_some_iff.1 hc).1
  conv => lhs; rw [← List.take_append_drop i cs]
  rw [fold_append, fold_none _ _ h, List.drop_eq_getElem_cons hlt, (List.getElem?_eq_some_iff.1 hc).2]
  exact fold_begin rfl _

/-- A command of the answer. -/
def isK (cs : List Cmd) (e : Cmd) : Prop := foldP e.p none cs = some (some ((e.fk, e.fv), (e.tk, e.tv))) ∧ (e.fk, e.fv) ≠ (e.tk, e.tv)

theorem mid_char (cs : List Cmd) : ∀ i, i ≤ cs.length → (midK cs i = none → ∃ p, foldP p none cs = none) ∧
    (∀ out, midK cs i = some out → (out.map Cmd.p).Nodup ∧ (∀ p, seenK cs i p → foldP p none cs ≠ none) ∧ (∀ e, e ∈ out ↔ seenK cs i e.p ∧ isK cs e) ∧ out.length ≤ i)
  | 0, _ => ⟨fun h => (by cases h), fun out h => by
    cases h
    refine ⟨List.nodup_nil, fun p hp => ?_, fun e => ?_, Nat.le_refl _⟩
    · obtain ⟨d, hd, _⟩ := hp
      cases hd
    · constructor
      · intro h; cases h
      · rintro ⟨⟨d, hd, _⟩, _⟩; cases hd⟩
  | i + 1, hi => by
    have ih := mid_char cs i (by omega)
    obtain ⟨c, hc⟩ : ∃ c, cs[i]? = some c := ⟨_, List.getElem?_eq_getElem (by omega)⟩
    unfold midK
    cases hm : midK cs i with
    | none =>
      simp only
      exact ⟨fun _ => ih.1 hm, fun out h => (by cases h)⟩
    | some out =>
      obtain ⟨h1, h2, h3, h4⟩ := ih.2 out hm
      simp only [hc]
      unfold stepK
      by_cases hf : firstK cs i c.p = true
      · rw [if_pos hf]
        have hnot := firstK_iff.1 hf
        have hfo := fold_first hc hnot
        obtain ⟨k1, k2⟩ := chain_fold (cs.drop (i + 1)) c
        cases hch : chainK c (cs.drop (i + 1)) with
        | none =>
          simp only
          exact ⟨fun _ => ⟨c.p, by rw [hfo]; exact k1 hch⟩, fun out h => (by cases h)⟩
        | some d =>
          obtain ⟨hdp, hdf⟩ := k2 d hch
          have hfd : foldP c.p none cs = some (some ((d.fk, d.fv), (d.tk, d.tv))) := hfo.trans hdf
          have hns : ¬ seenK cs i c.p := fun ⟨e, he, hep⟩ => hnot e he hep
          simp only
          by_cases hs : (d.fk, d.fv) = (d.tk, d.tv)
          · rw [if_pos hs]
            refine ⟨fun h => (by cases h), fun o h => ?_⟩
            cases h
            refine ⟨h1, fun p hp => ?_, fun e => ?_, by omega⟩
            · rcases (seen_next hc p).1 hp with hp | rfl
              · exact h2 p hp
              · rw [hfd]; intro h; cases h
            · rw [h3, seen_next hc]
              constructor
              · rintro ⟨a, b⟩; exact ⟨.inl a, b⟩
              · rintro ⟨a | a, b⟩
                · exact ⟨a, b⟩
                · exfalso
                  obtain ⟨b1, b2⟩ := b
                  rw [← a, hfd] at b1
                  have := Option.some.inj (Option.some.inj b1)
                  have e1 := congrArg Prod.fst this
                  have e2 := congrArg Prod.snd this
                  exact b2 (e1.symm.trans (hs.trans e2))
          · rw [if_neg hs]
            refine ⟨fun h => (by cases h), fun o h => ?_⟩
            cases h
            refine ⟨?_, fun p hp => ?_, fun e => ?_, by simp; omega⟩
            · rw [List.map_append, List.nodup_append]
              refine ⟨h1, by simp, fun x hx y hy e => ?_⟩
              obtain ⟨z, hz, rfl⟩ := List.mem_map.1 hx
              have : y = c.p := by simpa [hdp] using hy
              exact hns (by rw [← this, ← e]; exact ((h3 z).1 hz).1)
            · rcases (seen_next hc p).1 hp with hp | rfl
              · exact h2 p hp
              · rw [hfd]; intro h; cases h
            · rw [List.mem_append, h3, seen_next hc, List.mem_singleton]
              constructor
              · rintro (⟨a, b⟩ | rfl)
                · exact ⟨.inl a, b⟩
                · exact ⟨.inr hdp.symm, by rw [hdp]; exact hfd, hs⟩
              · rintro ⟨a | a, b⟩
                · exact .inl ⟨a, b⟩
                · refine .inr ?_
                  obtain ⟨b1, b2⟩ := b
                  rw [← a, hfd] at b1
                  have := Option.some.inj (Option.some.inj b1)
                  have e1 := congrArg Prod.fst this
                  have e2 := congrArg Prod.snd this
                  obtain ⟨ep, efk, efv, etk, etv⟩ := e
                  obtain ⟨dp, dfk, dfv, dtk, dtv⟩ := d
                  simp only [Prod.mk.injEq] at e1 e2 a hdp ⊢
                  simp only [Cmd.mk.injEq]
                  exact ⟨by rw [← a, hdp], e1.1.symm, e1.2.symm, e2.1.symm, e2.2.symm⟩
      · rw [if_neg hf]
        have hseen : seenK cs i c.p := by
          apply Classical.byContradiction
          intro h
          exact hf (firstK_iff.2 (fun d hd e => h ⟨d, hd, e⟩))
        refine ⟨fun h => (by cases h), fun o h => ?_⟩
        cases h
        have hsame : ∀ p, seenK cs (i + 1) p ↔ seenK cs i p := fun p => by
          rw [seen_next hc]
          exact ⟨fun h => h.elim id (fun e => e ▸ hseen), .inl⟩
        exact ⟨h1, fun p hp => h2 p ((hsame p).1 hp), fun e => by rw [h3, hsame], by omega⟩

theorem seen_all {cs : List Cmd} {p : ByteArray} : seenK cs cs.length p ↔ ∃ d ∈ cs, d.p = p := by
  unfold seenK
  rw [List.take_length]

theorem unseen {cs : List Cmd} {p : ByteArray} (h : ¬ ∃ d ∈ cs, d.p = p) : foldP p none cs = some none := fold_none cs none (fun d hd e => h ⟨d, hd, e⟩)

theorem canon_some {cs out : List Cmd} (h : logCanon cs = (out, true)) : validL cs = true ∧ Canon out ∧ (out.map Cmd.p).Nodup ∧ (∀ p, foldP p none cs ≠ none) ∧ (∀ e, e ∈ out ↔ isK cs e) ∧ out.length ≤ cs.length := by
  unfold logCanon at h
  split at h
  · rename_i hv
    cases hm : midK cs cs.length with
    | none => rw [hm] at h; cases h
    | some o =>
      rw [hm] at h
      simp only at h
      have e : sortK o = out := congrArg Prod.fst h
      subst e
      obtain ⟨h1, h2, h3, h4⟩ := (mid_char cs cs.length (Nat.le_refl _)).2 o hm
      refine ⟨hv, canon_sort h1, nodup_sort h1, fun p => ?_, fun e => ?_, by rw [sort_length h1]; exact h4⟩
      · by_cases hs : ∃ d ∈ cs, d.p = p
        · exact h2 p (seen_all.2 hs)
        · rw [unseen hs]; intro h; cases h
      · rw [mem_sort h1, h3, seen_all]
        constructor
        · exact fun h => h.2
        · intro hk
          refine ⟨?_, hk⟩
          apply Classical.byContradiction
          intro hs
          have := hk.1
          rw [unseen hs] at this
          cases this
  · cases h

theorem canon_ok {cs : List Cmd} (hv : validL cs = true) (h : ∀ p, foldP p none cs ≠ none) : ∃ out, logCanon cs = (out, true) := by
  unfold logCanon
  rw [if_pos hv]
  cases hm : midK cs cs.length with
  | none =>
    obtain ⟨p, hp⟩ := (mid_char cs cs.length (Nat.le_refl _)).1 hm
    exact absurd hp (h p)
  | some o => exact ⟨_, rfl⟩

/-- Only what each path's commands say together counts. -/
theorem canon_is {cs out ds : List Cmd} (h : logCanon cs = (out, true)) (hd : Canon ds) (hm : ∀ e, e ∈ ds ↔ isK cs e) : out = ds := by
  obtain ⟨_, h2, _, _, h5, _⟩ := canon_some h
  exact canon_ext h2 hd (fun e => by rw [h5, hm])

/-- A log that fits says of each path: from what was there to what is there. -/
theorem fold_run : ∀ (cs : List Cmd) (t : List Nd), (runL t cs).2 = cs.length → ∀ p,
    (∀ f, foldP p (some (f, getT t p)) cs = some (some (f, getT (runL t cs).1 p))) ∧ ((∃ d ∈ cs, d.p = p) → foldP p none cs = some (some (getT t p, getT (runL t cs).1 p)))
  | [], t, _, p => ⟨fun f => fold_nil _ _, fun ⟨d, hd, _⟩ => by cases hd⟩
  | c :: cs, t, h, p => by
    cases ha : applyC t c with
    | mk out b =>
      cases b with
      | false => rw [runL_cons_no (by rw [ha])] at h; simp at h
      | true =>
        rw [runL_cons_yes ha] at h ⊢
        simp only [List.length_cons] at h ⊢
        obtain ⟨_, hvc, hg, _⟩ := applyC_some ha
        obtain ⟨g1, g2⟩ := apply_get ha
        obtain ⟨ih1, ih2⟩ := fold_run cs out (by omega) p
        by_cases hp : c.p = p
        · subst hp
          refine ⟨fun f => ?_, fun _ => ?_⟩
          · rw [fold_on rfl hg.symm, ← g1]
            exact ih1 f
          · rw [fold_begin rfl, ← g1, ← hg]
            exact ih1 _
        · have e := g2 p (fun e => hp e.symm)
          refine ⟨fun f => ?_, fun hs => ?_⟩
          · rw [fold_skip hp, ← e]
            exact ih1 f
          · rw [fold_skip hp, ← e]
            obtain ⟨d, hd, hdp⟩ := hs
            rcases List.mem_cons.1 hd with rfl | hd
            · exact absurd hdp hp
            · exact ih2 ⟨d, hd, hdp⟩

/-- P61: only the result counts. -/
theorem canon_diff {ns x : List Nd} {cs : List Cmd} {n : Nat} (h : fitsL ns cs = true) (hx : logApply ns cs = (x, (n : Int))) : logCanon cs = (sortK (diffL ns x), true) ∧ canonDiff ns x = (sortK (diffL ns x), true) := by
  obtain ⟨h1, h2, h3⟩ := fitsL_iff.1 h
  rw [logApply_ok h1 h2] at hx
  have ex : (runL ns cs).1 = x := congrArg Prod.fst hx
  have hvx : validT x = true := by rw [← ex]; exact runL_valid cs ns h1
  have hfr := fold_run cs ns h3
  rw [ex] at hfr
  obtain ⟨out, ho⟩ := canon_ok h2 (fun p => by
    by_cases hs : ∃ d ∈ cs, d.p = p
    · rw [(hfr p).2 hs]; intro h; cases h
    · rw [unseen hs]; intro h; cases h)
  refine ⟨?_, diff_ok h1 hvx⟩
  have := canon_is ho (canon_sort (diff_nodup ns x)) (fun e => by
    rw [mem_sort (diff_nodup ns x), diff_mem h1 hvx]
    unfold isK
    by_cases hs : ∃ d ∈ cs, d.p = e.p
    · rw [(hfr e.p).2 hs]
      constructor
      · rintro ⟨h1, h2⟩
        obtain ⟨ep, efk, efv, etk, etv⟩ := e
        unfold diffC at h2
        simp only [Cmd.mk.injEq, true_and] at h1 h2 ⊢
        obtain ⟨a1, a2, a3, a4⟩ := h2
        subst a1; subst a2; subst a3; subst a4
        exact ⟨rfl, h1⟩
      · rintro ⟨h1, h2⟩
        have h := Option.some.inj (Option.some.inj h1)
        have e1 : getT ns e.p = (e.fk, e.fv) := congrArg Prod.fst h
        have e2 : getT x e.p = (e.tk, e.tv) := congrArg Prod.snd h
        refine ⟨by rw [e1, e2]; exact h2, ?_⟩
        unfold diffC
        rw [e1, e2]
    · rw [unseen hs]
      constructor
      · rintro ⟨h, _⟩
        exact absurd (by rw [← ex]; exact (run_other h1 (fun c hc e' => hs ⟨c, hc, e'⟩)).symm) h
      · rintro ⟨h, _⟩; cases h)
  rw [ho, this]

/-- P58: a canonical log does the same. -/
theorem canon_same {ns x : List Nd} {cs : List Cmd} {n : Nat} (h : fitsL ns cs = true) (hx : logApply ns cs = (x, (n : Int))) : ∃ out, logCanon cs = (out, true) ∧ logApply ns out = (x, (out.length : Int)) ∧ out.length ≤ 20 := by
  obtain ⟨h1, h2⟩ := canon_diff h hx
  obtain ⟨_, _, h5, h6, _⟩ := diff_told h2
  exact ⟨_, h1, h6, ((validL_iff _).1 (canonV_iff.1 h5).2.2).2⟩

theorem fits_run {ns : List Nd} {cs : List Cmd} (h : fitsL ns cs = true) : ∃ x, logApply ns cs = (x, (cs.length : Int)) ∧ validT ns = true ∧ validT x = true ∧ validL cs = true := by
  obtain ⟨h1, h2, h3⟩ := fitsL_iff.1 h
  obtain ⟨x, hx, hv⟩ := fits_apply h
  exact ⟨x, hx, h1, hv, h2⟩

/-- P67: the canonical way back has the same paths. -/
theorem canon_undo {ns : List Nd} {cs : List Cmd} (h : fitsL ns cs = true) : ∃ x y, logCanon cs = (x, true) ∧ logCanon (undoL cs) = (y, true) ∧ x.length = y.length ∧ (∀ c ∈ x, undoC c ∈ y) ∧ x.length ≤ 20 ∧ (∀ c ∈ x, validC c = true) := by
  obtain ⟨t, ht, hv, hvt, hvl⟩ := fits_run h
  obtain ⟨h1, hd⟩ := canon_diff h ht
  have hb := log_back h ht
  have hfb : fitsL t (undoL cs) = true := fitsL_iff.2 ⟨hvt, undoL_valid hvl, by
    rw [logApply_ok hvt (undoL_valid hvl)] at hb
    have := congrArg Prod.snd hb
    simp only at this
    rw [undoL_length hvl]
    omega⟩
  obtain ⟨h2, _⟩ := canon_diff hfb hb
  obtain ⟨e1, e2⟩ := diff_turn hv hvt
  obtain ⟨_, _, h5, _, _⟩ := diff_told hd
  exact ⟨_, _, h1, h2, e1.symm, e2, ((validL_iff _).1 (canonV_iff.1 h5).2.2).2, ((validL_iff _).1 (canonV_iff.1 h5).2.2).1⟩

/-- P62: doing and taking back is nothing. -/
theorem canon_none {ns : List Nd} {cs : List Cmd} (h : fitsL ns cs = true) (hl : cs.length ≤ 10) : logCanon (cs ++ undoL cs) = ([], true) := by
  obtain ⟨t, ht, hv, hvt, hvl⟩ := fits_run h
  obtain ⟨_, _, h3⟩ := fitsL_iff.1 h
  have hcs := ((validL_iff cs).1 hvl).1
  have hb := run_back cs ns hcs h3 hv
  have hr : runL ns (cs ++ undoL cs) = (ns, (cs ++ undoL cs).length) := by
    rw [undoL_ok hvl, runL_append, if_pos h3, hb]
    simp
  have hvb : validL (cs ++ undoL cs) = true := (validL_iff _).2 ⟨fun c hc => by
    rcases List.mem_append.1 hc with hc | hc
    · exact hcs c hc
    · exact ((validL_iff _).1 (undoL_valid hvl)).1 c hc, by rw [List.length_append, undoL_length hvl]; omega⟩
  have hf : fitsL ns (cs ++ undoL cs) = true := fitsL_iff.2 ⟨hv, hvb, by rw [hr]⟩
  obtain ⟨h1, _⟩ := canon_diff hf (logApply_pair hv hvb hr)
  rw [h1]
  have : diffL ns ns = [] := by
    unfold diffL
    rw [(chg_nil hv hv).2 rfl]
    rfl
  rw [this]
  rfl

/-- A list that has each path once says of a path what its command says. -/
theorem fold_once : ∀ (cs : List Cmd), (cs.map Cmd.p).Nodup → ∀ c ∈ cs, foldP c.p none cs = some (some ((c.fk, c.fv), (c.tk, c.tv)))
  | [], _, c, h => by cases h
  | d :: cs, hn, c, h => by
    rw [List.map_cons, List.nodup_cons] at hn
    rcases List.mem_cons.1 h with rfl | h
    · rw [fold_begin rfl]
      exact fold_none _ _ (fun e he e' => hn.1 (by rw [← e']; exact List.mem_map_of_mem he))
    · rw [fold_skip (fun e => hn.1 (by rw [e]; exact List.mem_map_of_mem h))]
      exact fold_once cs hn.2 c h

theorem fold_on_from {p : ByteArray} : ∀ (cs : List Cmd) (f t : Int × Int) (s : (Int × Int) × (Int × Int)), foldP p (some (f, t)) cs = some (some s) → s.1 = f ∧ (s.2 = t ∨ ∃ c ∈ cs, c.p = p ∧ s.2 = (c.tk, c.tv))
  | [], f, t, s, h => by
    rw [fold_nil] at h
    cases h
    exact ⟨rfl, .inl rfl⟩
  | d :: cs, f, t, s, h => by
    by_cases hp : d.p = p
    · by_cases hk : (d.fk, d.fv) = t
      · rw [fold_on hp hk] at h
        obtain ⟨h1, h2⟩ := fold_on_from cs f _ s h
        refine ⟨h1, .inr ?_⟩
        rcases h2 with h2 | ⟨c, hc, hcp, h2⟩
        · exact ⟨d, by simp, hp, h2⟩
        · exact ⟨c, List.mem_cons_of_mem _ hc, hcp, h2⟩
      · rw [fold_bad hp hk] at h; cases h
    · rw [fold_skip hp] at h
      obtain ⟨h1, h2⟩ := fold_on_from cs f t s h
      refine ⟨h1, ?_⟩
      rcases h2 with h2 | ⟨c, hc, hcp, h2⟩
      · exact .inl h2
      · exact .inr ⟨c, List.mem_cons_of_mem _ hc, hcp, h2⟩

theorem fold_from {p : ByteArray} : ∀ (cs : List Cmd) (s : (Int × Int) × (Int × Int)), foldP p none cs = some (some s) → (∃ c ∈ cs, c.p = p ∧ s.1 = (c.fk, c.fv)) ∧ ∃ c ∈ cs, c.p = p ∧ s.2 = (c.tk, c.tv)
  | [], s, h => by cases h
  | d :: cs, s, h => by
    by_cases hp : d.p = p
    · rw [fold_begin hp] at h
      obtain ⟨h1, h2⟩ := fold_on_from cs _ _ s h
      refine ⟨⟨d, by simp, hp, h1⟩, ?_⟩
      rcases h2 with h2 | ⟨c, hc, hcp, h2⟩
      · exact ⟨d, by simp, hp, h2⟩
      · exact ⟨c, List.mem_cons_of_mem _ hc, hcp, h2⟩
    · rw [fold_skip hp] at h
      obtain ⟨⟨c, hc, a⟩, ⟨e, he, b⟩⟩ := fold_from cs s h
      exact ⟨⟨c, List.mem_cons_of_mem _ hc, a⟩, ⟨e, List.mem_cons_of_mem _ he, b⟩⟩

theorem isK_valid {cs : List Cmd} (hv : validL cs = true) {e : Cmd} (h : isK cs e) : validC e = true := by
  obtain ⟨⟨c, hc, hcp, h1⟩, ⟨d, hd, hdp, h2⟩⟩ := fold_from cs _ h.1
  have vc := (validC_iff c).1 (((validL_iff cs).1 hv).1 c hc)
  have vd := (validC_iff d).1 (((validL_iff cs).1 hv).1 d hd)
  simp only [Prod.mk.injEq] at h1 h2
  exact (validC_iff e).2 ⟨by rw [← hcp]; exact vc.1, by rw [h1.1, h1.2]; exact vc.2.1, by rw [h2.1, h2.2]; exact vd.2.2.1, h.2⟩

/-- P59: a canonical log is canonical. -/
theorem canon_once {cs out : List Cmd} (h : logCanon cs = (out, true)) : canonV out = true ∧ logCanon out = (out, true) ∧ out.length ≤ cs.length := by
  obtain ⟨h1, h2, h3, h4, h5, h6⟩ := canon_some h
  have hl := ((validL_iff cs).1 h1).2
  have hv : validL out = true := (validL_iff out).2 ⟨fun e he => isK_valid h1 ((h5 e).1 he), by omega⟩
  refine ⟨canonV_iff.2 ⟨h2, h3, hv⟩, ?_, h6⟩
  have hfo := fold_once out h3
  obtain ⟨o, ho⟩ := canon_ok hv (fun p => by
    by_cases hs : ∃ d ∈ out, d.p = p
    · obtain ⟨d, hd, rfl⟩ := hs
      rw [hfo d hd]; intro h; cases h
    · rw [unseen hs]; intro h; cases h)
  rw [ho]
  congr 1
  refine canon_is ho h2 (fun e => ⟨fun he => ⟨hfo e he, ((h5 e).1 he).2⟩, fun ⟨he, _⟩ => ?_⟩)
  obtain ⟨⟨c, hc, hcp, a1⟩, _⟩ := fold_from out _ he
  have := hfo c hc
  rw [hcp, he] at this
  have hh := Option.some.inj (Option.some.inj this)
  have e1 := congrArg Prod.fst hh
  have e2 := congrArg Prod.snd hh
  simp only [Prod.mk.injEq] at e1 e2
  obtain ⟨ep, efk, efv, etk, etv⟩ := e
  obtain ⟨cp, cfk, cfv, ctk, ctv⟩ := c
  simp only at hcp e1 e2
  obtain ⟨b1, b2⟩ := e1
  obtain ⟨b3, b4⟩ := e2
  subst hcp; subst b1; subst b2; subst b3; subst b4
  exact hc

end Go.Proofs.YtmlnakkfjecibaaGreatDoor
