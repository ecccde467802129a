/-
  PLAIN MATHEMATICS OF TREES: the promises of the chapter on trees.
-/
import Derived.Test.YtoipbocbgadjbaaTq
namespace Go.Proofs.Ytoipbocbgadjbaa

theorem good_path {ns : List Nd} (h : validT ns = true) {n : Nd} (hn : n ∈ ns) : 1 ≤ depB n.p ∧ vpB n.p = true :=
  let g := ((validT_iff ns).1 h).2.1 n hn
  ⟨g.1, vp_of_depth g.1⟩

theorem getT_mem {ns : List Nd} (h : validT ns = true) {n : Nd} (hn : n ∈ ns) : getT ns n.p = (n.k, n.v) := by
  rw [getT_other (good_path h hn).1]
  unfold getL
  rw [look_mem ((validT_iff ns).1 h).1 hn]

theorem getT_some {ns : List Nd} {p : ByteArray} (h : (getT ns p).1 ≠ 0) : p = rootB ∨ ∃ n, n ∈ ns ∧ n.p = p ∧ look ns p = some n := by
  unfold getT at h
  split at h
  · rename_i e; exact .inl e
  · unfold getL at h
    cases hl : look ns p with
    | none => rw [hl] at h; exact absurd rfl h
    | some n => exact .inr ⟨n, (look_some hl).1, (look_some hl).2, rfl⟩

theorem valid_zero {v : Int} (h : validB 0 v = true) : v = 0 := by
  unfold validB at h; simpa using h

theorem getT_valid {ns : List Nd} (h : validT ns = true) (p : ByteArray) : validB (getT ns p).1 (getT ns p).2 = true := by
  by_cases h0 : (getT ns p).1 = 0
  · have : getT ns p = (0, 0) := by
      unfold getT at h0 ⊢
      split at h0
      · exact absurd h0 (by decide)
      · rename_i e
        rw [if_neg e]
        unfold getL at h0 ⊢
        cases hl : look ns p with
        | none => rfl
        | some n =>
          rw [hl] at h0
          exact absurd h0 (((validT_iff ns).1 h).2.1 n (look_some hl).1).2.2.1
    rw [this]; rfl
  · rcases getT_some h0 with e | ⟨n, hn, e, -⟩
    · subst e; rw [getT_root]; rfl
    · subst e; rw [getT_mem h hn]; exact (((validT_iff ns).1 h).2.1 n hn).2.1

theorem treeGet_eq {ns : List Nd} {p : ByteArray} (h : validT ns = true) (hv : vpB p = true) : treeGet ns p = getT ns p := by
  unfold treeGet; rw [h, hv]; rfl

/-- P15: what is in a tree is in a directory. -/
theorem get_parent {ns : List Nd} {p : ByteArray} (h : (treeGet ns p).1 ≠ 0) (hr : p ≠ rootB) : (treeGet ns (parB p)).1 = 1 := by
  unfold treeGet at h
  split at h
  · rename_i hc
    rw [Bool.and_eq_true] at hc
    rcases getT_some h with e | ⟨n, hn, e, -⟩
    · exact absurd e hr
    · subst e
      have g := ((validT_iff ns).1 hc.1).2.1 n hn
      rw [treeGet_eq hc.1 (parB_valid g.1).1]
      exact g.2.2.2
  · exact absurd rfl h

theorem treePut_some {ns out : List Nd} {p : ByteArray} {k v : Int} (h : treePut ns p k v = some out) :
    validT ns = true ∧ 1 ≤ depB p ∧ validB k v = true ∧ out = putL ns p k v ∧ validT out = true := by
  unfold treePut at h
  split at h
  · rename_i hc
    simp only [Bool.and_eq_true, decide_eq_true_eq] at hc
    split at h
    · rename_i hv
      have := (Option.some.inj h).symm
      subst this
      exact ⟨hc.1.1, hc.1.2, hc.2, rfl, hv⟩
    · cases h
  · cases h

theorem getT_put {ns : List Nd} (ha : Asc ns) {p : ByteArray} (hp : 1 ≤ depB p) {k v : Int} (hv : validB k v = true) (q : ByteArray) :
    getT (putL ns p k v) q = if q = p then (k, v) else getT ns q := by
  by_cases e : q = p
  · rw [if_pos e]
    subst e
    rw [getT_other hp]
    unfold getL
    rw [look_put ha, if_pos rfl]
    by_cases hk : k = 0
    · subst hk
      rw [if_pos rfl, valid_zero hv]
    · rw [if_neg hk]
  · rw [if_neg e]
    unfold getT getL
    rw [look_put ha, if_neg e]

/-- P16: what is put into a tree is there, and all else is as before. -/
theorem put_get {ns out : List Nd} {p : ByteArray} {k v : Int} (h : treePut ns p k v = some out) :
    (∀ n ∈ ns, n.p ≠ p → treeGet out n.p = (n.k, n.v)) ∧ (∀ n ∈ out, n.p ≠ p → treeGet ns n.p = (n.k, n.v)) ∧ treeGet out p = (k, v) := by
  obtain ⟨h1, h2, h3, rfl, h5⟩ := treePut_some h
  have ha := ((validT_iff ns).1 h1).1
  refine ⟨fun n hn hne => ?_, fun n hn hne => ?_, ?_⟩
  · rw [treeGet_eq h5 (good_path h1 hn).2, getT_put ha h2 h3, if_neg hne, getT_mem h1 hn]
  · have := getT_mem h5 hn
    rw [getT_put ha h2 h3, if_neg hne] at this
    rw [treeGet_eq h1 (good_path h5 hn).2, this]
  · rw [treeGet_eq h5 (vp_of_depth h2), getT_put ha h2 h3, if_pos rfl]

/-- P17: what was there can be put back. -/
theorem put_back {ns out : List Nd} {p : ByteArray} {k v : Int} (h : treePut ns p k v = some out) :
    treePut out p (treeGet ns p).1 (treeGet ns p).2 = some ns := by
  obtain ⟨h1, h2, h3, rfl, h5⟩ := treePut_some h
  have ha := ((validT_iff ns).1 h1).1
  rw [treeGet_eq h1 (vp_of_depth h2)]
  have hv := getT_valid h1 p
  obtain ⟨k0, v0⟩ : ∃ c, getT ns p = c := ⟨_, rfl⟩
  have hb : putL (putL ns p k v) p (getT ns p).1 (getT ns p).2 = ns := by
    have hp := putL_asc ha p k v
    refine asc_ext (putL_asc hp _ _ _) ha fun q => ?_
    rw [look_put hp]
    by_cases e : q = p
    · rw [if_pos e]
      subst e
      rw [getT_other h2]
      unfold getL
      cases hl : look ns q with
      | none => rfl
      | some n =>
        obtain ⟨hn, e⟩ := look_some hl
        have g := ((validT_iff ns).1 h1).2.1 n hn
        show (if n.k = 0 then none else some (⟨q, n.k, n.v⟩ : Nd)) = some n
        rw [if_neg g.2.2.1, ← e]
    · rw [if_neg e, look_put ha, if_neg e]
  unfold treePut
  rw [h5, hv, hb, h1, decide_eq_true h2]
  rfl

/-- Somebody is directly in p where somebody is under it. -/
theorem child_of_under {ns : List Nd} (h : validT ns = true) (p : ByteArray) : ∀ (d : Nat) (n : Nd), n ∈ ns → undB p n.p = true → depB n.p ≤ d → ∃ m ∈ ns, parB m.p = p
  | 0, n, hn, hu, hd => by have := (und_depth hu).2.1; omega
  | d + 1, n, hn, hu, hd => by
    rcases und_trans_par hu with e | e
    · exact ⟨n, hn, e⟩
    · have g := ((validT_iff ns).1 h).2.1 n hn
      have hne : parB n.p ≠ rootB := fun q => by have := (und_depth e).2.1; rw [q] at this; exact absurd this (by decide)
      have hd' := (parB_valid g.1).2.1
      rcases getT_some (p := parB n.p) (ns := ns) (by rw [g.2.2.2]; decide) with q | ⟨m, hm, hmp, -⟩
      · exact absurd q hne
      · exact child_of_under h p d m hm (by rw [hmp]; exact e) (by rw [hmp]; omega)

theorem under_of_child {ns : List Nd} (h : validT ns = true) {m : Nd} (hm : m ∈ ns) : undB (parB m.p) m.p = true :=
  (parB_valid (good_path h hm).1).2.2.1

/-- P20: nothing is under a file. -/
theorem under_dir {ns : List Nd} {p : ByteArray} (h : treeUnder ns p ≠ []) : (treeGet ns p).1 = 1 := by
  unfold treeUnder at h
  split at h
  · rename_i hc
    rw [Bool.and_eq_true] at hc
    obtain ⟨x, hx⟩ := List.exists_mem_of_ne_nil _ h
    obtain ⟨n, hn, -⟩ := List.mem_map.1 hx
    obtain ⟨hn, hu⟩ := List.mem_filter.1 hn
    obtain ⟨m, hm, rfl⟩ := child_of_under hc.1 p (depB n.p).toNat n hn hu (by have := (good_path hc.1 hn).1; omega)
    rw [treeGet_eq hc.1 hc.2]
    exact (((validT_iff ns).1 hc.1).2.1 m hm).2.2.2
  · exact absurd rfl h

/-- P18: a tree has rules. -/
theorem put_when {ns : List Nd} {p : ByteArray} {k v : Int} (h1 : validT ns = true) (h2 : 1 ≤ depB p) (h3 : validB k v = true) :
    (treePut ns p k v).isSome = true ↔ ((treeGet ns (parB p)).1 = 1 ∨ k = 0) ∧ (treeUnder ns p = [] ∨ k = 1) ∧ (ns.length + (if (treeGet ns p).1 = 0 ∧ k ≠ 0 then 1 else 0) ≤ 10) := by
  have ha := ((validT_iff ns).1 h1).1
  have hall := ((validT_iff ns).1 h1).2.1
  have hlen := ((validT_iff ns).1 h1).2.2
  have hpv := vp_of_depth h2
  have hpar := parB_valid h2
  have hpp : parB p ≠ p := fun e => by have := hpar.2.1; rw [e] at this; omega
  have hput : (treePut ns p k v).isSome = true ↔ validT (putL ns p k v) = true := by
    unfold treePut
    rw [h1, h3, decide_eq_true h2]
    simp only [Bool.and_self, if_true]
    split <;> simp_all
  have hund : treeUnder ns p = [] ↔ ∀ m ∈ ns, parB m.p ≠ p := by
    unfold treeUnder
    rw [h1, hpv]
    simp only [Bool.and_self, if_true, List.map_eq_nil_iff, List.filter_eq_nil_iff]
    constructor
    · intro h m hm e
      exact h m hm (by rw [← e]; exact under_of_child h1 hm)
    · intro h n hn hu
      obtain ⟨m, hm, e⟩ := child_of_under h1 p (depB n.p).toNat n hn hu (by have := (good_path h1 hn).1; omega)
      exact h m hm e
  have hlook : look ns p = none ↔ (treeGet ns p).1 = 0 := by
    rw [treeGet_eq h1 hpv, getT_other h2]
    unfold getL
    cases hl : look ns p with
    | none => simp
    | some n => simpa using (hall n (look_some hl).1).2.2.1
  have hcount := putL_length ha p k v
  have hpl : (putL ns p k v).length ≤ 10 ↔ ns.length + (if (treeGet ns p).1 = 0 ∧ k ≠ 0 then 1 else 0) ≤ 10 := by
    by_cases e1 : look ns p = none
    · rw [if_pos e1] at hcount
      have e2 := hlook.1 e1
      by_cases e3 : k = 0
      · rw [if_pos e3] at hcount; rw [if_neg (fun c => c.2 e3)]; omega
      · rw [if_neg e3] at hcount; rw [if_pos ⟨e2, e3⟩]; omega
    · rw [if_neg e1] at hcount
      have e2 : ¬ (treeGet ns p).1 = 0 := fun c => e1 (hlook.2 c)
      rw [if_neg (fun c => e2 c.1)]
      by_cases e3 : k = 0
      · rw [if_pos e3] at hcount; omega
      · rw [if_neg e3] at hcount; omega
  rw [hput, validT_iff, hund, treeGet_eq h1 hpar.1]
  constructor
  · rintro ⟨-, hg, hl⟩
    refine ⟨?_, ?_, hpl.1 hl⟩
    · by_cases hk : k = 0
      · exact .inr hk
      · left
        have := (hg ⟨p, k, v⟩ (putL_mem.2 (.inl ⟨hk, rfl⟩))).2.2.2
        rw [getT_put ha h2 h3, if_neg hpp] at this
        exact this
    · by_cases hk : k = 1
      · exact .inr hk
      · left
        intro m hm e
        have hmp : m.p ≠ p := fun q => hpp (by rw [← q] at e ⊢; exact e)
        have := (hg m (putL_mem.2 (.inr ⟨hm, hmp⟩))).2.2.2
        rw [e, getT_put ha h2 h3, if_pos rfl] at this
        exact hk this
  · rintro ⟨t1, t2, t3⟩
    refine ⟨putL_asc ha p k v, fun n hn => ?_, hpl.2 t3⟩
    rcases putL_mem.1 hn with ⟨hk, rfl⟩ | ⟨hn, hne⟩
    · refine ⟨h2, h3, hk, ?_⟩
      rw [getT_put ha h2 h3, if_neg hpp]
      rcases t1 with t | t
      · exact t
      · exact absurd t hk
    · obtain ⟨g1, g2, g3, g4⟩ := hall n hn
      refine ⟨g1, g2, g3, ?_⟩
      rw [getT_put ha h2 h3]
      by_cases e : parB n.p = p
      · rw [if_pos e]
        rcases t2 with t | t
        · exact absurd e (t n hn)
        · exact t
      · rw [if_neg e]; exact g4

/-- P21, the first half: a valid tree stays valid without its last node. -/
theorem valid_dropLast {ns : List Nd} (h : validT ns = true) : validT ns.dropLast = true := by
  obtain ⟨ha, hg, hl⟩ := (validT_iff ns).1 h
  rw [validT_iff]
  have hsub : ns.dropLast.Sublist ns := List.dropLast_sublist ns
  refine ⟨ha.sublist hsub, fun n hn => ?_, by rw [List.length_dropLast]; omega⟩
  have hn' := hsub.subset hn
  obtain ⟨g1, g2, g3, g4⟩ := hg n hn'
  refine ⟨g1, g2, g3, ?_⟩
  by_cases hd : 1 ≤ depB (parB n.p)
  · rw [getT_other hd] at g4 ⊢
    unfold getL at g4 ⊢
    cases hlk : look ns (parB n.p) with
    | none => rw [hlk] at g4; exact absurd g4 (by decide)
    | some m =>
      rw [hlk] at g4
      obtain ⟨hm, e⟩ := look_some hlk
      have hlt := par_lt hd
      have hmem : m ∈ ns.dropLast := by
        rcases List.eq_nil_or_concat ns with e0 | ⟨r, x, rfl⟩
        · rw [e0] at hm; cases hm
        · rw [List.concat_eq_append] at hn hm ha ⊢
          rw [List.dropLast_concat] at hn ⊢
          rcases List.mem_append.1 hm with hm | hm
          · exact hm
          · exfalso
            rw [List.mem_singleton] at hm
            subst hm
            have := (List.pairwise_append.1 ha).2.2 n hn m (by simp)
            rw [e, ltB_asymm hlt] at this; cases this
      have := look_mem (ha.sublist hsub) hmem
      rw [e] at this
      rw [this]; exact g4
  · have : parB n.p = rootB := root_of_depth (parB_valid g1).1 hd
    rw [this, getT_root]

/-- A node that has nothing makes a tree invalid. -/
theorem invalid_none {ns : List Nd} {n : Nd} (hn : n ∈ ns) (h : n.k = 0) : validT ns = false := by
  rw [Bool.eq_false_iff]
  intro hv
  exact (((validT_iff ns).1 hv).2.1 n hn).2.2.1 h

/-- P22: a path twice makes a tree invalid. -/
theorem invalid_twice {ns : List Nd} {j : Nat} {m n : Nd} (hm : ns[j]? = some m) (hn : ns[j + 1]? = some n) (h : m.p = n.p) : validT ns = false := by
  rw [Bool.eq_false_iff]
  intro hv
  have := (asc_iff ns).1 ((validT_iff ns).1 hv).1 j m n hm hn
  rw [h, ltB_irrefl] at this; cases this

end Go.Proofs.Ytoipbocbgadjbaa
