/-
  PLAIN MATHEMATICS OF CANONICAL LOGS, fifth part: the rounds of the model's loops.
-/
import Derived.Test.YtmlnakkfjecibaaGreatDoorNd
namespace Go.Proofs.YtmlnakkfjecibaaGreatDoor

theorem nextOk_idx : ∀ cs : List Cmd, nextOk cs = true ↔ ∀ (j : Nat) (c d : Cmd), cs[j]? = some c → cs[j + 1]? = some d → befC c d = true
  | [] => ⟨fun _ j c d h _ => (by simp at h), fun _ => rfl⟩
  | [x] => ⟨fun _ j c d h k => (by simp at k), fun _ => rfl⟩
  | x :: y :: r => by
    have ih := nextOk_idx (y :: r)
    unfold nextOk
    rw [Bool.and_eq_true, ih]
    constructor
    · rintro ⟨h1, h2⟩ j c d hc hd
      cases j with
      | zero =>
        simp at hc hd
        subst hc; subst hd
        exact h1
      | succ j => exact h2 j c d (by simpa using hc) (by simpa using hd)
    · intro h
      exact ⟨h 0 x y rfl rfl, fun j c d hc hd => h (j + 1) c d (by simpa using hc) (by simpa using hd)⟩

theorem nodup_idx {cs : List Cmd} : (cs.map Cmd.p).Nodup ↔ ∀ (j : Nat) (d : Cmd), cs[j]? = some d → firstK cs j d.p = true := by
  rw [List.nodup_iff_pairwise_ne, List.pairwise_map, List.pairwise_iff_getElem]
  constructor
  · intro h j d hd
    refine firstK_iff.2 (fun e he hep => ?_)
    obtain ⟨i, hi, rfl⟩ := List.getElem_of_mem he
    rw [List.length_take] at hi
    obtain ⟨q, e2⟩ := List.getElem?_eq_some_iff.1 hd
    have := h i j (by omega) q (by omega)
    rw [e2] at this
    rw [List.getElem_take] at hep
    exact this hep
  · intro h i j hi hj hij e
    have := firstK_iff.1 (h j cs[j] (List.getElem?_eq_getElem hj)) cs[i] (by
      rw [List.mem_take_iff_getElem]
      exact ⟨i, by omega, rfl⟩)
    exact this e

/-- CanonValid's loop has gone through. -/
theorem canonV_all {cs : List Cmd} (h1 : ∀ (j : Nat) (c d : Cmd), cs[j]? = some c → cs[j + 1]? = some d → befC c d = true ∧ firstK cs (j + 1) d.p = true) : canonV cs = validL cs := by
  have a : nextOk cs = true := (nextOk_idx cs).2 (fun j c d hc hd => (h1 j c d hc hd).1)
  have b : (cs.map Cmd.p).Nodup := nodup_idx.2 (fun j d hd => by
    cases j with
    | zero => exact firstK_iff.2 (fun e he => by cases he)
    | succ j =>
      have hj := (List.getElem?_eq_some_iff.1 hd).1
      exact (h1 j cs[j] d (List.getElem?_eq_getElem (by omega)) hd).2)
  unfold canonV
  rw [a, decide_eq_true b]
  rfl

theorem canonV_not {cs : List Cmd} {j : Nat} {c d : Cmd} (hc : cs[j]? = some c) (hd : cs[j + 1]? = some d) (h : befC c d = false ∨ firstK cs (j + 1) d.p = false) : canonV cs = false := by
  rw [Bool.eq_false_iff]
  intro hv
  obtain ⟨h1, h2, _⟩ := canonV_iff.1 hv
  rcases h with h | h
  · rw [(nextOk_idx cs).1 ((nextOk_iff cs).2 h1) j c d hc hd] at h; cases h
  · rw [nodup_idx.1 h2 (j + 1) d hd] at h; cases h

theorem canonV_bad {cs : List Cmd} (h : validL cs = false) : canonV cs = false := by
  unfold canonV
  rw [h]
  simp

theorem putK_past {c : Cmd} : ∀ (l r : List Cmd), (∀ d ∈ l, befC c d = false) → putK c (l ++ r) = l ++ putK c r
  | [], _, _ => rfl
  | d :: l, r, h => by
    have ih := putK_past l r (fun e he => h e (List.mem_cons_of_mem _ he))
    show (if befC c d = true then _ else d :: putK c (l ++ r)) = _
    rw [if_neg (by rw [h d (by simp)]; decide), ih]
    rfl

theorem putK_here {c d : Cmd} {r : List Cmd} (h : befC c d = true) : putK c (d :: r) = c :: d :: r := if_pos h

theorem take_drop_at {α : Type} {l : List α} {i : Nat} {x : α} (h : l[i]? = some x) : l = l.take i ++ x :: l.drop (i + 1) := by
  have hlt := (List.getElem?_eq_some_iff.1 h).1
  conv => lhs; rw [← List.take_append_drop i l]
  rw [List.drop_eq_getElem_cons hlt, (List.getElem?_eq_some_iff.1 h).2]

theorem take_push {α : Type} {l : List α} {i : Nat} {x : α} (h : l[i]? = some x) : l.take (i + 1) = l.take i ++ [x] := by
  rw [List.take_add_one, h]
  rfl

/-- l14Put: not placed yet; placed. -/
def putMid (c : Cmd) (l : List Cmd) (i : Nat) (done : Bool) (acc : List Cmd) : Prop :=
  if done = true then acc ++ l.drop i = putK c l else acc = l.take i ∧ ∀ d ∈ l.take i, befC c d = false

theorem put_mid0 (c : Cmd) (l : List Cmd) : putMid c l 0 false [] := ⟨rfl, fun d hd => by cases hd⟩

theorem put_mid_no {c d : Cmd} {l acc : List Cmd} {i : Nat} (hd : l[i]? = some d) (h : putMid c l i false acc) (hb : befC c d = false) : putMid c l (i + 1) false (acc ++ [d]) := by
  obtain ⟨h1, h2⟩ := h
  refine ⟨by rw [h1, take_push hd], fun e he => ?_⟩
  rw [take_push hd] at he
  rcases List.mem_append.1 he with he | he
  · exact h2 e he
  · rw [List.mem_singleton.1 he]; exact hb

theorem put_mid_now {c d : Cmd} {l acc : List Cmd} {i : Nat} (hd : l[i]? = some d) (h : putMid c l i false acc) (hb : befC c d = true) : putMid c l (i + 1) true (acc ++ [c] ++ [d]) := by
  obtain ⟨h1, h2⟩ := h
  show acc ++ [c] ++ [d] ++ l.drop (i + 1) = putK c l
  conv => rhs; rw [take_drop_at hd]
  rw [putK_past _ _ h2, putK_here hb, h1]
  simp

theorem put_mid_on {c d : Cmd} {l acc : List Cmd} {i : Nat} (hd : l[i]? = some d) (h : putMid c l i true acc) : putMid c l (i + 1) true (acc ++ [d]) := by
  show acc ++ [d] ++ l.drop (i + 1) = putK c l
  have h' : acc ++ l.drop i = putK c l := h
  rw [List.drop_eq_getElem_cons (List.getElem?_eq_some_iff.1 hd).1, (List.getElem?_eq_some_iff.1 hd).2] at h'
  rw [← h']
  simp

theorem put_end_no {c : Cmd} {l acc : List Cmd} (h : putMid c l l.length false acc) : acc ++ [c] = putK c l := by
  obtain ⟨h1, h2⟩ := h
  rw [List.take_length] at h1 h2
  have := putK_past (c := c) l [] h2
  rw [List.append_nil] at this
  rw [this, h1]
  rfl

theorem put_end_yes {c : Cmd} {l acc : List Cmd} (h : putMid c l l.length true acc) : acc = putK c l := by
  have h' : acc ++ l.drop l.length = putK c l := h
  rwa [List.drop_length, List.append_nil] at h'

theorem put_mid_len {c : Cmd} {l acc : List Cmd} {i : Nat} {done : Bool} (h : putMid c l i done acc) : acc.length ≤ l.length + 1 := by
  cases done with
  | false =>
    obtain ⟨h1, _⟩ := h
    rw [h1, List.length_take]
    omega
  | true =>
    have h' : acc ++ l.drop i = putK c l := h
    have := congrArg List.length h'
    rw [List.length_append, putK_length] at this
    omega

/-- l14Sort. -/
def sortMid (cs : List Cmd) (i : Nat) : List Cmd := (cs.take i).foldl (fun acc c => putK c acc) []
theorem sort_next {cs : List Cmd} {i : Nat} {c : Cmd} (hc : cs[i]? = some c) : sortMid cs (i + 1) = putK c (sortMid cs i) := by
  unfold sortMid
  rw [take_push hc, List.foldl_append]
  rfl
theorem sort_mid_len (cs : List Cmd) : ∀ i, (sortMid cs i).length ≤ i
  | 0 => by unfold sortMid; simp
  | i + 1 => by
    have ih := sort_mid_len cs i
    cases hc : cs[i]? with
    | none =>
      have : sortMid cs (i + 1) = sortMid cs i := by
        unfold sortMid
        rw [List.take_add_one, hc]
        simp
      rw [this]; omega
    | some c => rw [sort_next hc, putK_length]; omega
theorem sort_mid_all (cs : List Cmd) : sortMid cs cs.length = sortK cs := by unfold sortMid sortK; rw [List.take_length]

/-- l14First. -/
theorem first_no {cs : List Cmd} {i j : Nat} {d : Cmd} {p : ByteArray} (hd : cs[j]? = some d) (hj : j < i) (h : d.p = p) : firstK cs i p = false := by
  rw [Bool.eq_false_iff]
  intro hf
  refine firstK_iff.1 hf d ?_ h
  obtain ⟨q, e⟩ := List.getElem?_eq_some_iff.1 hd
  rw [List.mem_take_iff_getElem]
  exact ⟨j, by omega, e⟩

theorem first_yes {cs : List Cmd} {i : Nat} {p : ByteArray} (h : ∀ (j : Nat) (d : Cmd), j < i → cs[j]? = some d → d.p ≠ p) : firstK cs i p = true :=
  firstK_iff.2 (fun d hd => by
    rw [List.mem_take_iff_getElem] at hd
    obtain ⟨j, hj, e⟩ := hd
    exact h j d (by omega) (by rw [List.getElem?_eq_getElem (by omega), e]))

/-- LogCanon's inner loop. -/
theorem chain_other {cs : List Cmd} {k : Nat} {c d : Cmd} (hd : cs[k]? = some d) (h : d.p ≠ c.p) : chainK c (cs.drop k) = chainK c (cs.drop (k + 1)) := by
  rw [List.drop_eq_getElem_cons (List.getElem?_eq_some_iff.1 hd).1, (List.getElem?_eq_some_iff.1 hd).2]
  show (if d.p = c.p then _ else _) = _
  rw [if_neg h]
theorem chain_bad {cs : List Cmd} {k : Nat} {c d : Cmd} (hd : cs[k]? = some d) (h : d.p = c.p) (hb : (d.fk, d.fv) ≠ (c.tk, c.tv)) : chainK c (cs.drop k) = none := by
  rw [List.drop_eq_getElem_cons (List.getElem?_eq_some_iff.1 hd).1, (List.getElem?_eq_some_iff.1 hd).2]
  show (if d.p = c.p then _ else _) = _
  rw [if_pos h, if_neg hb]
theorem chain_next {cs : List Cmd} {k : Nat} {c d : Cmd} (hd : cs[k]? = some d) (h : d.p = c.p) (hb : (d.fk, d.fv) = (c.tk, c.tv)) : chainK c (cs.drop k) = chainK ⟨c.p, c.fk, c.fv, d.tk, d.tv⟩ (cs.drop (k + 1)) := by
  rw [List.drop_eq_getElem_cons (List.getElem?_eq_some_iff.1 hd).1, (List.getElem?_eq_some_iff.1 hd).2]
  show (if d.p = c.p then _ else _) = _
  rw [if_pos h, if_pos hb]
theorem chain_end {cs : List Cmd} {c : Cmd} : chainK c (cs.drop cs.length) = some c := by rw [List.drop_length]; rfl

/-- LogCanon's outer loop. -/
theorem mid_next {cs out : List Cmd} {i : Nat} {c : Cmd} (h : midK cs i = some out) (hc : cs[i]? = some c) : midK cs (i + 1) = stepK cs i c out := by
  show (match midK cs i with
    | none => none
    | some out => match cs[i]? with
      | none => some out
      | some c => stepK cs i c out) = _
  rw [h]
  simp only [hc]
theorem mid_none {cs : List Cmd} {i : Nat} (h : midK cs i = none) : ∀ j, i ≤ j → midK cs j = none
  | 0, hj => by
    obtain rfl : i = 0 := by omega
    exact h
  | j + 1, hj => by
    by_cases e : i = j + 1
    · rw [← e]; exact h
    · have := mid_none h j (by omega)
      show (match midK cs j with
        | none => none
        | some out => match cs[j]? with
          | none => some out
          | some c => stepK cs j c out) = _
      rw [this]
theorem step_not {cs out : List Cmd} {i : Nat} {c : Cmd} (h : firstK cs i c.p = false) : stepK cs i c out = some out := by
  unfold stepK
  rw [if_neg (by rw [h]; decide)]
theorem step_fail {cs out : List Cmd} {i : Nat} {c : Cmd} (h : firstK cs i c.p = true) (k : chainK c (cs.drop (i + 1)) = none) : stepK cs i c out = none := by
  unfold stepK
  rw [if_pos h, k]
theorem step_same {cs out : List Cmd} {i : Nat} {c d : Cmd} (h : firstK cs i c.p = true) (k : chainK c (cs.drop (i + 1)) = some d) (e : (d.fk, d.fv) = (d.tk, d.tv)) : stepK cs i c out = some out := by
  unfold stepK
  rw [if_pos h, k]
  simp only
  rw [if_pos e]
theorem step_add {cs out : List Cmd} {i : Nat} {c d : Cmd} (h : firstK cs i c.p = true) (k : chainK c (cs.drop (i + 1)) = some d) (e : (d.fk, d.fv) ≠ (d.tk, d.tv)) : stepK cs i c out = some (out ++ [d]) := by
  unfold stepK
  rw [if_pos h, k]
  simp only
  rw [if_neg e]
theorem canon_fail {cs : List Cmd} {i : Nat} (hi : i ≤ cs.length) (h : midK cs i = none) : logCanon cs = ([], false) := by
  unfold logCanon
  split
  · rw [mid_none h _ hi]
  · rfl
theorem canon_bad {cs : List Cmd} (h : validL cs = false) : logCanon cs = ([], false) := by
  unfold logCanon
  rw [if_neg (by rw [h]; decide)]
theorem canon_done {cs out : List Cmd} (hv : validL cs = true) (h : midK cs cs.length = some out) : logCanon cs = (sortK out, true) := by
  unfold logCanon
  rw [if_pos hv, h]
theorem mid_len {cs out : List Cmd} {i : Nat} (hi : i ≤ cs.length) (h : midK cs i = some out) : out.length ≤ i := ((mid_char cs i hi).2 out h).2.2.2

end Go.Proofs.YtmlnakkfjecibaaGreatDoor
