/-
  PLAIN MATHEMATICS OF THE PROGRAM'S MAP of commands: what the commands on each path say together; and what the heap hands out of it.
-/
import Derived.Maps.Views
import Derived.Test.YtmlnakkfjecibaaGreatDoorNe
import Derived.Test.YtmlnakkfjecibaaGreatDoorHa
namespace Go.Proofs.YtmlnakkfjecibaaGreatDoor
set_option linter.unusedVariables false
open Go.Maps (IsMap has)

/-- A path as a key of a map. -/
def keyL (p : ByteArray) : Lit := .string p.data.toList

theorem keyL_inj {p q : ByteArray} (h : keyL p = keyL q) : p = q := by
  unfold keyL at h
  injection h with h
  cases p; cases q
  simp at h
  rw [h]

theorem keyL_key (p : ByteArray) : WideAt.IsKeyLit (keyL p) := trivial

/-- How a command reads as an element of a map. -/
def encD {H : Type} (c : Cmd) : DataW H := .agg [.lit (.string c.p.data.toList), .lit (.int .i64 c.fk), .lit (.int .i64 c.fv), .lit (.int .i64 c.tk), .lit (.int .i64 c.tv)]

theorem encD_inj {H : Type} {c d : Cmd} (h : encD (H := H) c = encD d) : c = d := by
  unfold encD at h
  simp at h
  obtain ⟨h1, h2, h3, h4, h5⟩ := h
  obtain ⟨p, a, b, e, f⟩ := c
  obtain ⟨q, a', b', e', f'⟩ := d
  simp at h1 h2 h3 h4 h5
  have hp : p = q := keyL_inj (by unfold keyL; rw [h1])
  subst hp; subst h2; subst h3; subst h4; subst h5
  rfl

def cmdElem {H : Type} : Value → Option (DataW H × List MemPlace)
  | .agg cs => (match cs.toList with
    | [.string p, .int .i64 a, .int .i64 b, .int .i64 c, .int .i64 d] => some (encD ⟨p, a, b, c, d⟩, [])
    | _ => none)
  | _ => none

theorem cmdElem_mk {H : Type} (c : Cmd) : cmdElem (H := H) (.agg #[.string c.p, .int .i64 c.fk, .int .i64 c.fv, .int .i64 c.tk, .int .i64 c.tv]) = some (encD c, []) := rfl

theorem cmdElem_inv {H : Type} {v : Value} {z : DataW H × List MemPlace} (h : cmdElem v = some z) : ∃ c : Cmd, v = .agg #[.string c.p, .int .i64 c.fk, .int .i64 c.fv, .int .i64 c.tk, .int .i64 c.tv] ∧ z = (encD c, []) := by
  unfold cmdElem at h
  split at h
  · rename_i cs
    split at h
    · rename_i p a b c d e
      cases h
      refine ⟨⟨p, a, b, c, d⟩, ?_, rfl⟩
      congr 1
      exact Array.toList_inj.1 e
    · cases h
  · cases h

/-- The map of what the commands on each path say together, of the first ones of a list. -/
def WholeK {H : Type} (cs : List Cmd) (i : Nat) (D : DataW H) : Prop := IsMap D ∧ ∀ p, (foldP p none (cs.take i) = some none ∧ has D (keyL p) = false) ∨
  (∃ c : Cmd, c.p = p ∧ foldP p none (cs.take i) = some (some ((c.fk, c.fv), (c.tk, c.tv))) ∧ has D (keyL p) = true ∧ ∀ z, D.atKey (keyL p) z = encD c)

theorem whole_start {H : Type} (cs : List Cmd) : WholeK (H := H) cs 0 (.map []) := ⟨⟨[], rfl⟩, fun p => .inl ⟨by rw [List.take_zero, fold_nil], rfl⟩⟩

theorem fold_take {p : ByteArray} {cs : List Cmd} {i : Nat} {c : Cmd} (hc : cs[i]? = some c) : foldP p none (cs.take (i + 1)) = (foldP p none (cs.take i)).bind (fun s => foldP p s [c]) := by
  rw [List.take_add_one, hc, ← fold_append]
  rfl

theorem fold_later {p : ByteArray} {cs : List Cmd} (i : Nat) (h : foldP p none (cs.take i) = none) : foldP p none cs = none := by
  conv => lhs; rw [← List.take_append_drop i cs]
  rw [fold_append, h]
  rfl

theorem whole_put {H : Type} {cs : List Cmd} {i : Nat} {D : DataW H} {c d : Cmd} (h : WholeK cs i D) (hc : cs[i]? = some c) (hp : d.p = c.p) (hd : foldP c.p none (cs.take (i + 1)) = some (some ((d.fk, d.fv), (d.tk, d.tv)))) : WholeK cs (i + 1) (D.put (keyL c.p) (encD d)) := by
  obtain ⟨h1, h2⟩ := h
  refine ⟨h1.put _ _, fun p => ?_⟩
  by_cases e : p = c.p
  · subst e
    exact .inr ⟨d, hp, hd, Maps.has_put_same h1 (keyL_key _) _, fun z => Maps.atKey_put_same h1 (keyL_key _) _ _⟩
  · have hne : keyL p ≠ keyL c.p := fun k => e (keyL_inj k)
    have hf : foldP p none (cs.take (i + 1)) = foldP p none (cs.take i) := by
      rw [fold_take hc]
      cases foldP p none (cs.take i) with
      | none => rfl
      | some s =>
        show foldP p s [c] = some s
        rw [fold_skip (fun k => e k.symm), fold_nil]
    rw [hf]
    rcases h2 p with ⟨a, b⟩ | ⟨x, a, b, b2, b3⟩
    · exact .inl ⟨a, by rw [Maps.has_put_other hne]; exact b⟩
    · exact .inr ⟨x, a, b, by rw [Maps.has_put_other hne]; exact b2, fun z => by rw [Maps.atKey_put_other hne]; exact b3 z⟩

/-- The path was not there. -/
theorem whole_new {H : Type} {cs : List Cmd} {i : Nat} {D : DataW H} {c : Cmd} (h : WholeK cs i D) (hc : cs[i]? = some c) (hn : has D (keyL c.p) = false) : WholeK cs (i + 1) (D.put (keyL c.p) (encD c)) := by
  refine whole_put h hc rfl ?_
  rw [fold_take hc]
  rcases h.2 c.p with ⟨a, _⟩ | ⟨x, _, _, b, _⟩
  · rw [a]
    show foldP c.p none [c] = _
    rw [fold_begin rfl, fold_nil]
  · rw [hn] at b; cases b

/-- The path was there. -/
theorem whole_there {H : Type} {cs : List Cmd} {i : Nat} {D : DataW H} {c x : Cmd} {z : DataW H} (h : WholeK cs i D) (hn : has D (keyL c.p) = true) (hx : D.atKey (keyL c.p) z = encD x) :
    x.p = c.p ∧ foldP c.p none (cs.take i) = some (some ((x.fk, x.fv), (x.tk, x.tv))) := by
  rcases h.2 c.p with ⟨_, b⟩ | ⟨y, a, b, _, b3⟩
  · rw [hn] at b; cases b
  · have := encD_inj ((b3 z).symm.trans hx)
    subst this
    exact ⟨a, b⟩

theorem whole_on {H : Type} {cs : List Cmd} {i : Nat} {D : DataW H} {c x : Cmd} {z : DataW H} (h : WholeK cs i D) (hc : cs[i]? = some c) (hn : has D (keyL c.p) = true) (hx : D.atKey (keyL c.p) z = encD x) (he : (c.fk, c.fv) = (x.tk, x.tv)) :
    WholeK cs (i + 1) (D.put (keyL c.p) (encD ⟨c.p, x.fk, x.fv, c.tk, c.tv⟩)) := by
  obtain ⟨_, hf⟩ := whole_there h hn hx
  refine whole_put h hc rfl ?_
  rw [fold_take hc, hf]
  show foldP c.p (some ((x.fk, x.fv), (x.tk, x.tv))) [c] = _
  rw [fold_on rfl he, fold_nil]

theorem whole_bad {H : Type} {cs : List Cmd} {i : Nat} {D : DataW H} {c x : Cmd} {z : DataW H} (h : WholeK cs i D) (hc : cs[i]? = some c) (hn : has D (keyL c.p) = true) (hx : D.atKey (keyL c.p) z = encD x) (he : (c.fk, c.fv) ≠ (x.tk, x.tv)) :
    foldP c.p none cs = none := by
  obtain ⟨_, hf⟩ := whole_there h hn hx
  refine fold_later (i + 1) ?_
  rw [fold_take hc, hf]
  show foldP c.p (some ((x.fk, x.fv), (x.tk, x.tv))) [c] = none
  exact fold_bad rfl he _

theorem logCanon_bad {cs : List Cmd} (h : validL cs = false) : logCanon cs = ([], false) := by
  unfold logCanon
  rw [h]
  rfl

theorem logCanon_fail {cs : List Cmd} {p : ByteArray} (h : foldP p none cs = none) : logCanon cs = ([], false) := by
  cases hr : logCanon cs with
  | mk out ok =>
    cases ok with
    | true => exact absurd h ((canon_some hr).2.2.2.1 p)
    | false =>
      unfold logCanon at hr
      split at hr
      · split at hr
        · exact hr.symm
        · injection hr with _ e; cases e
      · exact hr.symm

/-- All of the map's elements, of a list that is whole. -/
theorem whole_fold {H : Type} {cs : List Cmd} {D : DataW H} (h : WholeK cs cs.length D) (p : ByteArray) : foldP p none cs ≠ none := by
  have := h.2 p
  rw [List.take_length] at this
  rcases this with ⟨a, _⟩ | ⟨x, _, a, _⟩ <;> rw [a] <;> intro e <;> cases e

theorem whole_at {H : Type} {cs : List Cmd} {D : DataW H} (h : WholeK cs cs.length D) {p : ByteArray} {c : Cmd} (hh : has D (keyL p) = true) (hx : ∀ z, D.atKey (keyL p) z = encD c) : c.p = p ∧ foldP p none cs = some (some ((c.fk, c.fv), (c.tk, c.tv))) := by
  have := h.2 p
  rw [List.take_length] at this
  rcases this with ⟨_, b⟩ | ⟨x, a, b, _, b3⟩
  · rw [hh] at b; cases b
  · have := encD_inj ((b3 .nil).symm.trans (hx .nil))
    subst this
    exact ⟨a, b⟩

theorem whole_has {H : Type} {cs : List Cmd} {D : DataW H} (h : WholeK cs cs.length D) {c : Cmd} (hk : isK cs c) : has D (keyL c.p) = true := by
  have := h.2 c.p
  rw [List.take_length] at this
  rcases this with ⟨a, _⟩ | ⟨x, _, _, b, _⟩
  · rw [hk.1] at a; cases a
  · exact b

/-- What has been pushed while the entries in 'left' are still to come. -/
def PushK (cs : List Cmd) (left : Lit → Bool) (zs : List Cmd) : Prop := (zs.map Cmd.p).Nodup ∧ ∀ e, e ∈ zs ↔ isK cs e ∧ left (keyL e.p) = false

theorem push_start {H : Type} {cs : List Cmd} {D : DataW H} (h : WholeK cs cs.length D) : PushK cs (has D) [] :=
  ⟨List.nodup_nil, fun e => ⟨fun k => by (cases k), fun ⟨k, l⟩ => by rw [whole_has h k] at l; cases l⟩⟩

theorem push_len {cs zs : List Cmd} {left : Lit → Bool} (h : PushK cs left zs) : zs.length ≤ cs.length := by
  have h1 : (zs.map Cmd.p).length ≤ (cs.map Cmd.p).length := nodup_len _ _ h.1 (fun x hx => by
    obtain ⟨e, he, rfl⟩ := List.mem_map.1 hx
    have hk := ((h.2 e).1 he).1.1
    refine Classical.byContradiction (fun hn => ?_)
    rw [unseen (fun ⟨d, hd, hp⟩ => hn (List.mem_map.2 ⟨d, hd, hp⟩))] at hk
    cases hk)
  simpa using h1

theorem push_skip {H : Type} {cs zs : List Cmd} {left : Lit → Bool} {D : DataW H} {c : Cmd} (hw : WholeK cs cs.length D) (hh : has D (keyL c.p) = true) (hx : ∀ z, D.atKey (keyL c.p) z = encD c) (h : PushK cs left zs) (he : (c.fk, c.fv) = (c.tk, c.tv)) :
    PushK cs (fun z => left z && !z.sameKey (keyL c.p)) zs := by
  refine ⟨h.1, fun e => ?_⟩
  rw [h.2 e]
  have hf := (whole_at hw hh hx).2
  constructor
  · rintro ⟨a, b⟩
    exact ⟨a, by show (left (keyL e.p) && _) = false; rw [b]; rfl⟩
  · rintro ⟨a, b⟩
    refine ⟨a, ?_⟩
    cases hl : left (keyL e.p) with
    | false => rfl
    | true =>
      replace b : (left (keyL e.p) && !(keyL e.p).sameKey (keyL c.p)) = false := b
      rw [hl] at b
      have hk : (keyL e.p).sameKey (keyL c.p) = true := by simpa using b
      have hp := keyL_inj (WideAt.sameKey_eq hk)
      obtain ⟨a1, a2⟩ := a
      rw [hp, hf] at a1
      injection a1 with a1
      injection a1 with a1
      injection a1 with x1 x2
      exact absurd (x1.symm.trans (he.trans x2)) a2

theorem push_one {H : Type} {cs zs ys : List Cmd} {left : Lit → Bool} {D : DataW H} {c : Cmd} (hw : WholeK cs cs.length D) (hh : has D (keyL c.p) = true) (hx : ∀ z, D.atKey (keyL c.p) z = encD c) (h : PushK cs left zs) (hl : left (keyL c.p) = true) (he : (c.fk, c.fv) ≠ (c.tk, c.tv))
    (hy : ys.Perm (zs ++ [c])) : PushK cs (fun z => left z && !z.sameKey (keyL c.p)) ys := by
  have hf := (whole_at hw hh hx).2
  have hnew : ∀ z ∈ zs, z.p ≠ c.p := fun z hz e => by
    have := ((h.2 z).1 hz).2
    rw [e, hl] at this
    cases this
  refine ⟨?_, fun e => ?_⟩
  · refine (hy.map Cmd.p).nodup_iff.2 ?_
    rw [List.map_append, List.nodup_append]
    refine ⟨h.1, by simp, fun x hx y hy e => ?_⟩
    obtain ⟨z, hz, rfl⟩ := List.mem_map.1 hx
    have : y = c.p := by simpa using hy
    exact hnew z hz (e.trans this)
  · rw [hy.mem_iff, List.mem_append, List.mem_singleton, h.2 e]
    constructor
    · rintro (⟨a, b⟩ | rfl)
      · exact ⟨a, by show (left (keyL e.p) && _) = false; rw [b]; rfl⟩
      · exact ⟨⟨hf, he⟩, by show (left (keyL e.p) && !(keyL e.p).sameKey (keyL e.p)) = false; rw [WideAt.sameKey_self (keyL_key _)]; simp⟩
    · rintro ⟨a, b⟩
      cases hle : left (keyL e.p) with
      | false => exact .inl ⟨a, rfl⟩
      | true =>
        right
        replace b : (left (keyL e.p) && !(keyL e.p).sameKey (keyL c.p)) = false := b
        rw [hle] at b
        have hk : (keyL e.p).sameKey (keyL c.p) = true := by simpa using b
        have hp := keyL_inj (WideAt.sameKey_eq hk)
        obtain ⟨a1, a2⟩ := a
        rw [hp, hf] at a1
        injection a1 with a1
        injection a1 with a1
        injection a1 with x1 x2
        obtain ⟨p, a, b, c', d⟩ := e
        obtain ⟨p', a', b', c'', d'⟩ := c
        simp at x1 x2 hp
        obtain ⟨rfl, rfl⟩ := x1
        obtain ⟨rfl, rfl⟩ := x2
        rw [hp]

/-- All have been pushed and taken again. -/
theorem push_end {H : Type} {cs zs acc : List Cmd} {left : Lit → Bool} {D : DataW H} (hv : validL cs = true) (hw : WholeK cs cs.length D) (h : PushK cs left zs) (hl : ∀ k, left k = false) (ht : TakeK zs acc []) : logCanon cs = (acc, true) := by
  obtain ⟨out, ho⟩ := canon_ok hv (whole_fold hw)
  obtain ⟨hc, hm⟩ := take_end ht h.1
  rw [ho, canon_is ho hc (fun e => by rw [hm e, h.2 e]; exact ⟨fun a => a.1, fun a => ⟨a, hl _⟩⟩)]

/-- A log with each path once. -/
theorem canon_nodup {cs : List Cmd} (hv : validL cs = true) (hn : (cs.map Cmd.p).Nodup) : logCanon cs = (sortK cs, true) := by
  have hf : ∀ p, foldP p none cs ≠ none := fun p => by
    by_cases h : ∃ d ∈ cs, d.p = p
    · obtain ⟨d, hd, rfl⟩ := h
      rw [fold_once cs hn d hd]
      intro e; cases e
    · rw [unseen h]
      intro e; cases e
  obtain ⟨out, ho⟩ := canon_ok hv hf
  rw [ho, canon_is ho (canon_sort hn) (fun e => ?_)]
  rw [mem_sort hn]
  constructor
  · intro he
    exact ⟨fold_once cs hn e he, ((validC_iff e).1 (((validL_iff cs).1 hv).1 e he)).2.2.2⟩
  · rintro ⟨a, _⟩
    have h : ∃ d ∈ cs, d.p = e.p := Classical.byContradiction (fun h => by rw [unseen h] at a; cases a)
    obtain ⟨d, hd, hp⟩ := h
    have := fold_once cs hn d hd
    rw [hp, a] at this
    injection this with this
    injection this with this
    injection this with x1 x2
    obtain ⟨p, a, b, c', d'⟩ := e
    obtain ⟨p', a', b', c'', d''⟩ := d
    simp at x1 x2 hp
    obtain ⟨rfl, rfl⟩ := x1
    obtain ⟨rfl, rfl⟩ := x2
    rw [← hp]
    exact hd

/-- A log is canonical if it is its own canonical log. -/
theorem canonV_self (cs : List Cmd) : canonV cs = true ↔ logCanon cs = (cs, true) := by
  constructor
  · intro h
    obtain ⟨h1, h2, h3⟩ := canonV_iff.1 h
    rw [canon_nodup h3 h2, sort_same h2 h1]
  · exact fun h => (canon_once h).1

theorem diff_canon {a b : List Nd} (ha : validT a = true) (hb : validT b = true) : logCanon (diffL a b) = (sortK (diffL a b), true) := by
  refine canon_nodup ((validL_iff _).2 ⟨fun c hc => diff_valid ha hb hc, ?_⟩) (diff_nodup a b)
  have := chg_bound ha hb
  unfold diffL
  rw [List.length_map]
  exact this

end Go.Proofs.YtmlnakkfjecibaaGreatDoor
