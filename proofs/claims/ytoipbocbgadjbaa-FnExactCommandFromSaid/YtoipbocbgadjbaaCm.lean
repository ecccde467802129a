/-
  PLAIN MATHEMATICS OF COMMANDS: what is valid, what a command does to a tree, what takes it back.
-/
import Derived.Test.YtoipbocbgadjbaaSu
namespace Go.Proofs.Ytoipbocbgadjbaa

/-- A command: its path, the content that is there, the content that is to be there. -/
structure Cmd where
  p : ByteArray
  fk : Int
  fv : Int
  tk : Int
  tv : Int

def zeroC : Cmd := ⟨⟨#[]⟩, 0, 0, 0, 0⟩

def sameFT (c : Cmd) : Bool := c.fk == c.tk && c.fv == c.tv

def validC (c : Cmd) : Bool := decide (1 ≤ depB c.p) && validB c.fk c.fv && validB c.tk c.tv && !sameFT c

theorem validC_iff (c : Cmd) : validC c = true ↔ 1 ≤ depB c.p ∧ validB c.fk c.fv = true ∧ validB c.tk c.tv = true ∧ (c.fk, c.fv) ≠ (c.tk, c.tv) := by
  unfold validC sameFT
  simp only [Bool.and_eq_true, decide_eq_true_eq, Bool.not_eq_true', Bool.and_eq_false_iff, beq_eq_false_iff_ne, ne_eq, Prod.mk.injEq, not_and]
  constructor
  · rintro ⟨⟨⟨h1, h2⟩, h3⟩, h4⟩
    exact ⟨h1, h2, h3, fun e1 e2 => by rcases h4 with h | h; exact h e1; exact h e2⟩
  · rintro ⟨h1, h2, h3, h4⟩
    refine ⟨⟨⟨h1, h2⟩, h3⟩, ?_⟩
    by_cases e : c.fk = c.tk
    · exact .inr (h4 e)
    · exact .inl e

/-- spec.CommandApply. -/
def applyC (ns : List Nd) (c : Cmd) : List Nd × Bool :=
  if (validT ns && validC c) = true then
    (if getT ns c.p = (c.fk, c.fv) then (match treePut ns c.p c.tk c.tv with
      | some out => (out, true)
      | none => (ns, false)) else (ns, false))
  else ([], false)

/-- spec.CommandUndo. -/
def undoC (c : Cmd) : Cmd := if validC c = true then ⟨c.p, c.tk, c.tv, c.fk, c.fv⟩ else zeroC

theorem applyC_bad {ns : List Nd} {c : Cmd} (h : validT ns = false ∨ validC c = false) : applyC ns c = ([], false) := by
  unfold applyC
  rw [if_neg]
  rcases h with h | h <;> simp [h]

theorem applyC_ok {ns : List Nd} {c : Cmd} (h1 : validT ns = true) (h2 : validC c = true) :
    applyC ns c = if getT ns c.p = (c.fk, c.fv) then (match treePut ns c.p c.tk c.tv with
      | some out => (out, true)
      | none => (ns, false)) else (ns, false) := by
  unfold applyC
  rw [if_pos (by rw [h1, h2]; rfl)]

/-- A command that is done. -/
theorem applyC_some {ns out : List Nd} {c : Cmd} (h : applyC ns c = (out, true)) : validT ns = true ∧ validC c = true ∧ getT ns c.p = (c.fk, c.fv) ∧ treePut ns c.p c.tk c.tv = some out := by
  unfold applyC at h
  split at h
  · rename_i hc
    rw [Bool.and_eq_true] at hc
    split at h
    · rename_i hg
      cases hp : treePut ns c.p c.tk c.tv with
      | none => rw [hp] at h; simp at h
      | some o =>
        rw [hp] at h
        simp at h
        exact ⟨hc.1, hc.2, hg, by rw [h]⟩
    · simp at h
  · simp at h

theorem applyC_done {ns out : List Nd} {c : Cmd} (h1 : validT ns = true) (h2 : validC c = true) (h3 : getT ns c.p = (c.fk, c.fv)) (h4 : treePut ns c.p c.tk c.tv = some out) : applyC ns c = (out, true) := by
  rw [applyC_ok h1 h2, if_pos h3, h4]

theorem applyC_valid {ns out : List Nd} {c : Cmd} (h : applyC ns c = (out, true)) : validT out = true := by
  obtain ⟨_, _, _, h4⟩ := applyC_some h
  exact (treePut_some h4).2.2.2.2

/-- P37: a command changes one path. -/
theorem apply_one {ns out : List Nd} {c : Cmd} (h : applyC ns c = (out, true)) : treeGet ns c.p = (c.fk, c.fv) ∧ treeGet out c.p = (c.tk, c.tv) ∧ chgL ns out = [c.p] := by
  obtain ⟨h1, h2, h3, h4⟩ := applyC_some h
  obtain ⟨hd, _, _, hne⟩ := (validC_iff c).1 h2
  refine ⟨by rw [treeGet_eq h1 (vp_of_depth hd), h3], (put_get h4).2.2, ?_⟩
  rw [chg_put h4, h3, if_neg hne]

/-- P38: a command that breaks changes nothing. -/
theorem apply_break {ns out : List Nd} {c : Cmd} (h : applyC ns c = (out, false)) (h1 : validT ns = true) (h2 : validC c = true) : out = ns ∧ (treeGet ns c.p ≠ (c.fk, c.fv) ∨ treePut ns c.p c.tk c.tv = none) := by
  have hd := ((validC_iff c).1 h2).1
  rw [applyC_ok h1 h2] at h
  rw [treeGet_eq h1 (vp_of_depth hd)]
  split at h
  · cases hp : treePut ns c.p c.tk c.tv with
    | none => rw [hp] at h; simp at h; exact ⟨h.symm, .inr rfl⟩
    | some o => rw [hp] at h; simp at h
  · rename_i hg
    simp at h
    exact ⟨h.symm, .inl hg⟩

theorem undoC_ok {c : Cmd} (h : validC c = true) : undoC c = ⟨c.p, c.tk, c.tv, c.fk, c.fv⟩ := if_pos h
theorem undoC_bad {c : Cmd} (h : validC c = false) : undoC c = zeroC := if_neg (by rw [h]; decide)

theorem undo_valid {c : Cmd} (h : validC c = true) : validC ⟨c.p, c.tk, c.tv, c.fk, c.fv⟩ = true := by
  obtain ⟨h1, h2, h3, h4⟩ := (validC_iff c).1 h
  exact (validC_iff _).2 ⟨h1, h3, h2, fun e => h4 e.symm⟩

/-- P40: taking back twice is doing. -/
theorem undo_twice {c : Cmd} (h : validC c = true) : undoC (undoC c) = c := by
  rw [undoC_ok h, undoC_ok (undo_valid h)]

/-- P39: a command can be taken back. -/
theorem undo_back {ns out : List Nd} {c : Cmd} (h : applyC ns c = (out, true)) : applyC out (undoC c) = (ns, true) := by
  obtain ⟨h1, h2, h3, h4⟩ := applyC_some h
  have hd := ((validC_iff c).1 h2).1
  obtain ⟨_, hg, _⟩ := apply_one h
  have ho := applyC_valid h
  rw [treeGet_eq ho (vp_of_depth hd)] at hg
  rw [undoC_ok h2]
  have hb := put_back h4
  rw [treeGet_eq h1 (vp_of_depth hd), h3] at hb
  exact applyC_done ho (undo_valid h2) hg hb

/-- P41: a command is done once. -/
theorem apply_once {ns out : List Nd} {c : Cmd} (h : applyC ns c = (out, true)) : applyC out c = (out, false) := by
  obtain ⟨h1, h2, h3, h4⟩ := applyC_some h
  obtain ⟨hd, _, _, hne⟩ := (validC_iff c).1 h2
  obtain ⟨_, hg, _⟩ := apply_one h
  have ho := applyC_valid h
  rw [treeGet_eq ho (vp_of_depth hd)] at hg
  rw [applyC_ok ho h2, if_neg]
  rw [hg]
  exact fun e => hne e.symm

/-- P44: a command changes something. -/
theorem not_same (c : Cmd) : validC ⟨c.p, c.fk, c.fv, c.fk, c.fv⟩ = false ∧ validC ⟨rootB, c.fk, c.fv, c.tk, c.tv⟩ = false := by
  constructor
  · rw [Bool.eq_false_iff]
    intro h
    exact ((validC_iff _).1 h).2.2.2 rfl
  · rw [Bool.eq_false_iff]
    intro h
    have := ((validC_iff _).1 h).1
    exact absurd (show 1 ≤ depB rootB from this) (by decide)

theorem applyC_len {ns : List Nd} {c : Cmd} (h : ns.length ≤ 10) : (applyC ns c).1.length ≤ 10 := by
  cases hb : applyC ns c with
  | mk out b =>
    cases b with
    | true => exact ((validT_iff out).1 (applyC_valid hb)).2.2
    | false =>
      unfold applyC at hb
      split at hb
      · rename_i hc
        rw [Bool.and_eq_true] at hc
        have := (apply_break (by rw [applyC_ok hc.1 hc.2]; exact hb) hc.1 hc.2).1
        rw [this]; exact h
      · simp at hb
        rw [hb]; simp

end Go.Proofs.Ytoipbocbgadjbaa
