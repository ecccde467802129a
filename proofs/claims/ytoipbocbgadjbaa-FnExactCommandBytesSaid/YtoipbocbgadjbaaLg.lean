/-
  PLAIN MATHEMATICS OF LOGS: commands one after the other, what takes them back; P45 to P51 as lemmas.
-/
import Derived.Test.YtoipbocbgadjbaaCm
namespace Go.Proofs.Ytoipbocbgadjbaa

/-- spec.LogValid. -/
def validL (cs : List Cmd) : Bool := cs.all validC && decide (cs.length ≤ 20)

theorem validL_iff (cs : List Cmd) : validL cs = true ↔ (∀ c ∈ cs, validC c = true) ∧ cs.length ≤ 20 := by
  unfold validL
  rw [Bool.and_eq_true, List.all_eq_true, decide_eq_true_eq]

/-- Commands one after the other, as far as none breaks: the tree, and how many were done. -/
def runL : List Nd → List Cmd → List Nd × Nat
  | ns, [] => (ns, 0)
  | ns, c :: cs => if (applyC ns c).2 = true then ((runL (applyC ns c).1 cs).1, (runL (applyC ns c).1 cs).2 + 1) else (ns, 0)

/-- spec.LogApply. -/
def logApply (ns : List Nd) (cs : List Cmd) : List Nd × Int := if (validT ns && validL cs) = true then ((runL ns cs).1, ((runL ns cs).2 : Int)) else ([], -1)

/-- spec.LogFits. -/
def fitsL (ns : List Nd) (cs : List Cmd) : Bool := decide ((logApply ns cs).2 = (cs.length : Int))

/-- spec.LogUndo. -/
def undoL (cs : List Cmd) : List Cmd := if validL cs = true then cs.reverse.map undoC else []

theorem runL_cons_yes {ns out : List Nd} {c : Cmd} {cs : List Cmd} (h : applyC ns c = (out, true)) : runL ns (c :: cs) = ((runL out cs).1, (runL out cs).2 + 1) := by
  show (if (applyC ns c).2 = true then ((runL (applyC ns c).1 cs).1, (runL (applyC ns c).1 cs).2 + 1) else (ns, 0)) = _
  rw [h, if_pos rfl]
theorem runL_cons_no {ns : List Nd} {c : Cmd} {cs : List Cmd} (h : (applyC ns c).2 = false) : runL ns (c :: cs) = (ns, 0) := by
  show (if (applyC ns c).2 = true then ((runL (applyC ns c).1 cs).1, (runL (applyC ns c).1 cs).2 + 1) else (ns, 0)) = _
  rw [h, if_neg (by decide)]

theorem runL_le : ∀ (cs : List Cmd) (ns : List Nd), (runL ns cs).2 ≤ cs.length
  | [], ns => Nat.le_refl _
  | c :: cs, ns => by
    cases hc : applyC ns c with
    | mk out b =>
      cases b with
      | true => rw [runL_cons_yes hc]; have := runL_le cs out; simp; omega
      | false => rw [runL_cons_no (by rw [hc])]; simp

theorem runL_valid : ∀ (cs : List Cmd) (ns : List Nd), validT ns = true → validT (runL ns cs).1 = true
  | [], ns, h => h
  | c :: cs, ns, h => by
    cases hc : applyC ns c with
    | mk out b =>
      cases b with
      | true => rw [runL_cons_yes hc]; exact runL_valid cs out (applyC_valid hc)
      | false => rw [runL_cons_no (by rw [hc])]; exact h

/-- The first ones, then the others. -/
theorem runL_append : ∀ (a b : List Cmd) (ns : List Nd), runL ns (a ++ b) = if (runL ns a).2 = a.length then ((runL (runL ns a).1 b).1, a.length + (runL (runL ns a).1 b).2) else runL ns a
  | [], b, ns => by
    show runL ns b = if (0 : Nat) = 0 then ((runL ns b).1, 0 + (runL ns b).2) else (ns, 0)
    rw [if_pos rfl, Nat.zero_add]
  | c :: a, b, ns => by
    cases hc : applyC ns c with
    | mk out d =>
      cases d with
      | true =>
        rw [List.cons_append, runL_cons_yes hc, runL_cons_yes hc, runL_append a b out]
        by_cases h : (runL out a).2 = a.length
        · rw [if_pos h, if_pos (by simp [h])]
          simp only [List.length_cons]
          congr 1
          omega
        · rw [if_neg h, if_neg (by simp only [List.length_cons]; omega)]
      | false =>
        rw [List.cons_append, runL_cons_no (by rw [hc]), runL_cons_no (by rw [hc]), if_neg (by simp)]

/-- One more command behind a log that was done whole. -/
theorem runL_push {ns : List Nd} {cs : List Cmd} {c : Cmd} (h : (runL ns cs).2 = cs.length) : runL ns (cs ++ [c]) = if (applyC (runL ns cs).1 c).2 = true then ((applyC (runL ns cs).1 c).1, cs.length + 1) else ((runL ns cs).1, cs.length) := by
  rw [runL_append, if_pos h]
  cases hc : applyC (runL ns cs).1 c with
  | mk out b =>
    cases b with
    | true => rw [runL_cons_yes hc]; rfl
    | false => rw [runL_cons_no (by rw [hc])]; rfl

/-- Where a log ends, what was done ahead of it was done whole. -/
theorem runL_take : ∀ (cs : List Cmd) (ns : List Nd), runL ns (cs.take (runL ns cs).2) = runL ns cs
  | [], ns => rfl
  | c :: cs, ns => by
    cases hc : applyC ns c with
    | mk out b =>
      cases b with
      | true => rw [runL_cons_yes hc]; show runL ns (c :: cs.take _) = _; rw [runL_cons_yes hc, runL_take cs out]
      | false => rw [runL_cons_no (by rw [hc])]; rfl

theorem runL_done {cs : List Cmd} {ns : List Nd} {k : Nat} (hk : k ≤ (runL ns cs).2) : (runL ns (cs.take k)).2 = k := by
  have hle := runL_le cs ns
  have hl : (cs.take k).length = k := by rw [List.length_take]; omega
  have e := runL_append (cs.take k) (cs.drop k) ns
  rw [List.take_append_drop] at e
  by_cases h : (runL ns (cs.take k)).2 = (cs.take k).length
  · rw [h, hl]
  · rw [if_neg h] at e
    have := runL_le (cs.take k) ns
    rw [e] at hk
    omega

/-- P46: the first command that breaks is told. -/
theorem runL_break : ∀ (cs : List Cmd) (ns : List Nd) (c : Cmd), cs[(runL ns cs).2]? = some c → (applyC (runL ns cs).1 c).2 = false
  | [], ns, c, h => by cases h
  | d :: cs, ns, c, h => by
    cases hc : applyC ns d with
    | mk out b =>
      cases b with
      | true => rw [runL_cons_yes hc] at h ⊢; exact runL_break cs out c h
      | false =>
        rw [runL_cons_no (by rw [hc])] at h ⊢
        obtain rfl : d = c := by simpa using h
        show (applyC ns d).2 = false
        rw [hc]

theorem validL_part {cs ds : List Cmd} (h : validL cs = true) (hs : ds.Sublist cs) : validL ds = true := by
  obtain ⟨h1, h2⟩ := (validL_iff cs).1 h
  exact (validL_iff ds).2 ⟨fun c hc => h1 c (hs.subset hc), Nat.le_trans hs.length_le h2⟩

theorem validL_take {cs : List Cmd} (h : validL cs = true) (k : Nat) : validL (cs.take k) = true := validL_part h (List.take_sublist k cs)
theorem validL_drop {cs : List Cmd} (h : validL cs = true) (k : Nat) : validL (cs.drop k) = true := validL_part h (List.drop_sublist k cs)

theorem logApply_ok {ns : List Nd} {cs : List Cmd} (h1 : validT ns = true) (h2 : validL cs = true) : logApply ns cs = ((runL ns cs).1, ((runL ns cs).2 : Int)) := by
  unfold logApply
  rw [h1, h2]
  rfl
theorem logApply_bad {ns : List Nd} {cs : List Cmd} (h : validT ns = false ∨ validL cs = false) : logApply ns cs = ([], -1) := by
  unfold logApply
  rw [if_neg]
  rcases h with h | h <;> simp [h]

theorem logApply_pos {ns : List Nd} {cs : List Cmd} {out : List Nd} {n : Int} (h : logApply ns cs = (out, n)) (hn : 0 ≤ n) : validT ns = true ∧ validL cs = true ∧ runL ns cs = (out, n.toNat) ∧ n.toNat ≤ cs.length := by
  unfold logApply at h
  split at h
  · rename_i hc
    rw [Bool.and_eq_true] at hc
    have e1 := congrArg Prod.fst h
    have e2 := congrArg Prod.snd h
    simp only at e1 e2
    have hle := runL_le cs ns
    refine ⟨hc.1, hc.2, ?_, by omega⟩
    rw [← e1, show n.toNat = (runL ns cs).2 by omega]
  · have e2 := congrArg Prod.snd h
    simp only at e2
    omega

theorem logApply_pair {ns out : List Nd} {cs : List Cmd} {n : Nat} (h1 : validT ns = true) (h2 : validL cs = true) (h : runL ns cs = (out, n)) : logApply ns cs = (out, (n : Int)) := by rw [logApply_ok h1 h2, h]

/-- P45: commands are done one after the other. -/
theorem log_parts {ns out : List Nd} {cs : List Cmd} {n : Int} (h : logApply ns cs = (out, n)) (hn : 0 ≤ n) (k : Nat) (hk : k ≤ cs.length) :
    ∃ x p, logApply ns (cs.take k) = (x, p) ∧ (p < (k : Int) → p = n ∧ x = out) ∧ (¬ p < (k : Int) → ∃ y q, logApply x (cs.drop k) = (y, q) ∧ (k : Int) + q = n ∧ y = out) := by
  obtain ⟨h1, h2, h3, h4⟩ := logApply_pos h hn
  have hl : (cs.take k).length = k := by rw [List.length_take]; omega
  have e := runL_append (cs.take k) (cs.drop k) ns
  rw [List.take_append_drop, h3] at e
  cases hr : runL ns (cs.take k) with
  | mk x p =>
    have hv := runL_valid (cs.take k) ns h1
    have hp := runL_le (cs.take k) ns
    rw [hr] at e hv hp
    simp only at e hv hp
    refine ⟨x, p, logApply_pair h1 (validL_take h2 k) hr, fun hlt => ?_, fun hge => ?_⟩
    · rw [if_neg (by omega)] at e
      have e1 := congrArg Prod.fst e
      have e2 := congrArg Prod.snd e
      simp only at e1 e2
      exact ⟨by omega, e1.symm⟩
    · rw [if_pos (by omega)] at e
      have e1 := congrArg Prod.fst e
      have e2 := congrArg Prod.snd e
      simp only at e1 e2
      exact ⟨_, _, logApply_pair hv (validL_drop h2 k) rfl, by omega, e1.symm⟩

/-- P46. -/
theorem log_break {ns out : List Nd} {cs : List Cmd} {n : Int} (h : logApply ns cs = (out, n)) (hn : 0 ≤ n) (hne : n ≠ (cs.length : Int)) : ∃ c, cs[n.toNat]? = some c ∧ applyC out c = (out, false) := by
  obtain ⟨h1, h2, h3, h4⟩ := logApply_pos h hn
  have hlt : n.toNat < cs.length := by omega
  have hc : cs[n.toNat]? = some cs[n.toNat] := List.getElem?_eq_getElem hlt
  have hv := runL_valid cs ns h1
  have hb := runL_break cs ns cs[n.toNat] (by rw [h3]; exact hc)
  rw [h3] at hb hv
  simp only at hb hv
  refine ⟨_, hc, ?_⟩
  have hcv : validC cs[n.toNat] = true := ((validL_iff cs).1 h2).1 _ (List.getElem_mem hlt)
  have e := (apply_break (ns := out) (out := (applyC out cs[n.toNat]).1) (c := cs[n.toNat]) (by rw [← hb]) hv hcv).1
  cases hq : applyC out cs[n.toNat] with
  | mk o b =>
    rw [hq] at hb e
    simp only at hb e
    rw [hb, e]

theorem run_paths : ∀ (cs : List Cmd) (ns : List Nd), validT ns = true → ∀ p, getT ns p ≠ getT (runL ns cs).1 p → ∃ k c, k < (runL ns cs).2 ∧ cs[k]? = some c ∧ c.p = p
  | [], ns, _, p, h => absurd rfl h
  | c :: cs, ns, hv, p, h => by
    cases hc : applyC ns c with
    | mk out b =>
      cases b with
      | false => rw [runL_cons_no (by rw [hc])] at h; exact absurd rfl h
      | true =>
        rw [runL_cons_yes hc] at h ⊢
        simp only at h ⊢
        by_cases e : getT out p = getT (runL out cs).1 p
        · rw [← e] at h
          have ho := applyC_valid hc
          have hm := (chg_mem hv ho p).2 h
          rw [(apply_one hc).2.2] at hm
          exact ⟨0, c, by omega, rfl, (List.mem_singleton.1 hm).symm⟩
        · obtain ⟨k, d, hk, hd, hp⟩ := run_paths cs out (applyC_valid hc) p e
          exact ⟨k + 1, d, by omega, hd, hp⟩

/-- P47: a tree stays a tree, and only paths of the commands have changed. -/
theorem log_tree {ns out : List Nd} {cs : List Cmd} {n : Int} (h : logApply ns cs = (out, n)) (hn : 0 ≤ n) : validT out = true ∧ ∀ p ∈ chgL ns out, ∃ k c, k < n.toNat ∧ cs[k]? = some c ∧ c.p = p := by
  obtain ⟨h1, h2, h3, h4⟩ := logApply_pos h hn
  have hv := runL_valid cs ns h1
  rw [h3] at hv
  refine ⟨hv, fun p hp => ?_⟩
  have := run_paths cs ns h1 p (by rw [h3]; exact (chg_mem h1 hv p).1 hp)
  rw [h3] at this
  exact this

theorem fitsL_iff {ns : List Nd} {cs : List Cmd} : fitsL ns cs = true ↔ validT ns = true ∧ validL cs = true ∧ (runL ns cs).2 = cs.length := by
  unfold fitsL
  rw [decide_eq_true_eq]
  constructor
  · intro h
    cases hr : logApply ns cs with
    | mk out n =>
      rw [hr] at h
      simp only at h
      obtain ⟨h1, h2, h3, h4⟩ := logApply_pos hr (by omega)
      exact ⟨h1, h2, by rw [h3]; simp only; omega⟩
  · rintro ⟨h1, h2, h3⟩
    rw [logApply_ok h1 h2, h3]

theorem fits_apply {ns : List Nd} {cs : List Cmd} (h : fitsL ns cs = true) : ∃ out, logApply ns cs = (out, (cs.length : Int)) ∧ validT out = true := by
  obtain ⟨h1, h2, h3⟩ := fitsL_iff.1 h
  exact ⟨(runL ns cs).1, by rw [logApply_ok h1 h2, h3], runL_valid cs ns h1⟩

theorem undoC_valid {c : Cmd} (h : validC c = true) : validC (undoC c) = true := by rw [undoC_ok h]; exact undo_valid h

theorem undoL_ok {cs : List Cmd} (h : validL cs = true) : undoL cs = cs.reverse.map undoC := if_pos h
theorem undoL_bad {cs : List Cmd} (h : validL cs = false) : undoL cs = [] := if_neg (by rw [h]; decide)

theorem undoL_valid {cs : List Cmd} (h : validL cs = true) : validL (undoL cs) = true := by
  obtain ⟨h1, h2⟩ := (validL_iff cs).1 h
  rw [undoL_ok h]
  refine (validL_iff _).2 ⟨fun c hc => ?_, by simpa using h2⟩
  obtain ⟨d, hd, rfl⟩ := List.mem_map.1 hc
  exact undoC_valid (h1 d (List.mem_reverse.1 hd))

/-- P50: taking back twice is doing. -/
theorem undoL_twice {cs : List Cmd} (h : validL cs = true) : undoL (undoL cs) = cs := by
  have h1 := ((validL_iff cs).1 h).1
  rw [undoL_ok (undoL_valid h), undoL_ok h, ← List.map_reverse, List.reverse_reverse, List.map_map]
  have : ∀ l : List Cmd, (∀ c ∈ l, validC c = true) → l.map (undoC ∘ undoC) = l := by
    intro l
    induction l with
    | nil => intro _; rfl
    | cons c l ih =>
      intro hl
      rw [List.map_cons, ih (fun x hx => hl x (List.mem_cons_of_mem _ hx))]
      congr 1
      exact undo_twice (hl c (by simp))
  exact this cs h1

theorem undoL_length {cs : List Cmd} (h : validL cs = true) : (undoL cs).length = cs.length := by rw [undoL_ok h]; simp

theorem run_back : ∀ (cs : List Cmd) (ns : List Nd), (∀ c ∈ cs, validC c = true) → (runL ns cs).2 = cs.length → validT ns = true → runL (runL ns cs).1 (cs.reverse.map undoC) = (ns, cs.length)
  | [], ns, _, _, _ => rfl
  | c :: cs, ns, hv, h, ht => by
    cases hc : applyC ns c with
    | mk out b =>
      cases b with
      | false => rw [runL_cons_no (by rw [hc])] at h; simp at h
      | true =>
        rw [runL_cons_yes hc] at h ⊢
        simp only [List.length_cons] at h ⊢
        have ih := run_back cs out (fun x hx => hv x (List.mem_cons_of_mem _ hx)) (by omega) (applyC_valid hc)
        rw [List.reverse_cons, List.map_append, runL_append, ih, if_pos (by simp)]
        simp only [List.map_cons, List.map_nil, List.length_map, List.length_reverse]
        rw [runL_cons_yes (undo_back hc)]
        rfl

/-- P48: a log can be taken back. -/
theorem log_back {ns out : List Nd} {cs : List Cmd} (h : fitsL ns cs = true) (ho : logApply ns cs = (out, (cs.length : Int))) : logApply out (undoL cs) = (ns, (cs.length : Int)) := by
  obtain ⟨h1, h2, h3⟩ := fitsL_iff.1 h
  obtain ⟨_, _, h5, _⟩ := logApply_pos ho (by omega)
  have hb := run_back cs ns ((validL_iff cs).1 h2).1 h3 h1
  rw [h5] at hb
  simp only at hb
  have hv := runL_valid cs ns h1
  rw [h5] at hv
  rw [← undoL_ok h2] at hb
  exact logApply_pair hv (undoL_valid h2) hb

/-- P49: the beginning of a log fits. -/
theorem fits_take {ns : List Nd} {cs : List Cmd} (h : fitsL ns cs = true) (k : Nat) (hk : k ≤ cs.length) : fitsL ns (cs.take k) = true ∧ ∃ x, logApply ns (cs.take k) = (x, (k : Int)) := by
  obtain ⟨h1, h2, h3⟩ := fitsL_iff.1 h
  have hd := runL_done (cs := cs) (ns := ns) (k := k) (by omega)
  have hl : (cs.take k).length = k := by rw [List.length_take]; omega
  refine ⟨fitsL_iff.2 ⟨h1, validL_take h2 k, by rw [hd, hl]⟩, (runL ns (cs.take k)).1, by rw [logApply_ok h1 (validL_take h2 k), hd]⟩

/-- P51: commands may be missing; one that changes nothing is none. -/
theorem part_valid {cs : List Cmd} (h : validL cs = true) (k : Nat) : validL (cs.take k ++ cs.drop (k + 1)) = true := by
  refine validL_part h ?_
  have e := List.take_append_drop k cs
  conv => rhs; rw [← e]
  refine List.Sublist.append_left ?_ _
  rw [show cs.drop (k + 1) = (cs.drop k).drop 1 by rw [List.drop_drop]]
  exact List.drop_sublist 1 _

theorem same_invalid {cs : List Cmd} {k : Nat} {c : Cmd} (hc : cs[k]? = some c) : validL (cs.set k ⟨c.p, c.fk, c.fv, c.fk, c.fv⟩) = false := by
  rw [Bool.eq_false_iff]
  intro h
  have hlt : k < cs.length := by
    rcases Nat.lt_or_ge k cs.length with h' | h'
    · exact h'
    · rw [List.getElem?_eq_none h'] at hc; cases hc
  have := ((validL_iff _).1 h).1 ⟨c.p, c.fk, c.fv, c.fk, c.fv⟩ (List.mem_of_getElem? (i := k) (by rw [List.getElem?_set_self hlt]))
  rw [(not_same c).1] at this
  cases this

/-- A round of LogApply's loop. -/
theorem run_step {ns acc out : List Nd} {cs : List Cmd} {n : Nat} {c : Cmd} (h : runL ns (cs.take n) = (acc, n)) (hc : cs[n]? = some c) (ha : applyC acc c = (out, true)) : runL ns (cs.take (n + 1)) = (out, n + 1) := by
  have hlt := (List.getElem?_eq_some_iff.1 hc).1
  have hl : (cs.take n).length = n := by rw [List.length_take]; omega
  rw [List.take_add_one, hc, Option.toList_some, runL_push (by rw [h, hl]), h, ha, if_pos rfl, hl]

theorem run_stop {ns acc : List Nd} {cs : List Cmd} {n : Nat} {c : Cmd} (h : runL ns (cs.take n) = (acc, n)) (hc : cs[n]? = some c) (ha : (applyC acc c).2 = false) : runL ns cs = (acc, n) := by
  have hlt := (List.getElem?_eq_some_iff.1 hc).1
  have hl : (cs.take n).length = n := by rw [List.length_take]; omega
  have e : cs = cs.take n ++ c :: cs.drop (n + 1) := by
    conv => lhs; rw [← List.take_append_drop n cs]
    congr 1
    rw [List.drop_eq_getElem_cons hlt, (List.getElem?_eq_some_iff.1 hc).2]
  conv => lhs; rw [e]
  rw [runL_append, h, hl, if_pos rfl, runL_cons_no ha]
  rfl

theorem run_whole {ns acc : List Nd} {cs : List Cmd} (h : runL ns (cs.take cs.length) = (acc, cs.length)) : runL ns cs = (acc, cs.length) := by
  rwa [List.take_of_length_le (Nat.le_refl _)] at h

theorem validL_short {cs : List Cmd} (h : ∀ (j : Nat) (c : Cmd), cs[j]? = some c → validC c = true) : validL cs = decide (cs.length ≤ 20) := by
  unfold validL
  rw [List.all_eq_true.2 (fun c hc => by obtain ⟨j, hj⟩ := List.getElem?_of_mem hc; exact h j c hj), Bool.true_and]

theorem validL_one {cs : List Cmd} {j : Nat} {c : Cmd} (hc : cs[j]? = some c) (h : validC c = false) : validL cs = false := by
  rw [Bool.eq_false_iff]
  intro hv
  have := ((validL_iff cs).1 hv).1 c (List.mem_of_getElem? hc)
  rw [h] at this
  cases this

theorem validL_at {cs : List Cmd} {j : Nat} {c : Cmd} (h : validL cs = true) (hc : cs[j]? = some c) : validC c = true := ((validL_iff cs).1 h).1 c (List.mem_of_getElem? hc)

/-- A round of LogUndo's loop. -/
theorem undo_round {cs : List Cmd} {n : Nat} {c : Cmd} (hc : cs[n]? = some c) : (cs.drop n).reverse.map undoC = (cs.drop (n + 1)).reverse.map undoC ++ [undoC c] := by
  have hlt := (List.getElem?_eq_some_iff.1 hc).1
  rw [List.drop_eq_getElem_cons hlt, (List.getElem?_eq_some_iff.1 hc).2]
  simp

theorem logApply_len {ns : List Nd} {cs : List Cmd} : (logApply ns cs).1.length ≤ 10 := by
  unfold logApply
  split
  · rename_i hc
    rw [Bool.and_eq_true] at hc
    exact ((validT_iff _).1 (runL_valid cs ns hc.1)).2.2
  · simp

end Go.Proofs.Ytoipbocbgadjbaa
