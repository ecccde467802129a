/-
  PLAIN MATHEMATICS OF CANONICAL LOGS, second part: the difference of two trees (P60, P65).
-/
import Derived.Test.YtmlnakkfjecibaaGreatDoorNa
import Derived.Test.YtmlnakkfjecibaaGreatDoorMi
namespace Go.Proofs.YtmlnakkfjecibaaGreatDoor

def diffC (a b : List Nd) (p : ByteArray) : Cmd := ⟨p, (getT a p).1, (getT a p).2, (getT b p).1, (getT b p).2⟩
def diffL (a b : List Nd) : List Cmd := (chgL a b).map (diffC a b)
/-- spec.CanonDiff. -/
def canonDiff (a b : List Nd) : List Cmd × Bool := if (validT a && validT b) = true then (sortK (diffL a b), true) else ([], false)

theorem diff_paths (a b : List Nd) : (diffL a b).map Cmd.p = chgL a b := by
  unfold diffL
  rw [List.map_map]
  exact List.map_id _

theorem diff_nodup (a b : List Nd) : ((diffL a b).map Cmd.p).Nodup := by
  rw [diff_paths, List.nodup_iff_pairwise_ne]
  exact List.Pairwise.imp (fun h => ltB_ne h) (chg_asc (a := a) (b := b))

theorem diff_mem {a b : List Nd} (ha : validT a = true) (hb : validT b = true) (c : Cmd) : c ∈ diffL a b ↔ getT a c.p ≠ getT b c.p ∧ c = diffC a b c.p := by
  unfold diffL
  rw [List.mem_map]
  constructor
  · rintro ⟨p, hp, rfl⟩
    exact ⟨(chg_mem ha hb p).1 hp, rfl⟩
  · rintro ⟨h, e⟩
    exact ⟨c.p, (chg_mem ha hb c.p).2 h, e.symm⟩

theorem zero_both {a b : List Nd} (ha : validT a = true) (hb : validT b = true) {q : ByteArray} (h1 : (getT a q).1 = 0) (h2 : (getT b q).1 = 0) : getT a q = getT b q := by
  have v1 := getT_valid ha q
  have v2 := getT_valid hb q
  unfold validB at v1 v2
  rw [decide_eq_true_eq] at v1 v2
  refine Prod.ext (by rw [h1, h2]) ?_
  omega

theorem dir_both {a b : List Nd} (ha : validT a = true) (hb : validT b = true) {q : ByteArray} (h1 : (getT a q).1 = 1) (h2 : (getT b q).1 = 1) : getT a q = getT b q := by
  have v1 := getT_valid ha q
  have v2 := getT_valid hb q
  unfold validB at v1 v2
  rw [decide_eq_true_eq] at v1 v2
  refine Prod.ext (by rw [h1, h2]) ?_
  omega

/-- A path that has something has a depth. -/
theorem dep_some {ns : List Nd} (hv : validT ns = true) {q : ByteArray} (hr : q ≠ rootB) (h : (getT ns q).1 ≠ 0) : 1 ≤ depB q := by
  obtain ⟨n, hn, rfl⟩ := node_at hr h
  exact (good_path hv hn).1

theorem diff_dep {a b : List Nd} (ha : validT a = true) (hb : validT b = true) {q : ByteArray} (h : getT a q ≠ getT b q) : 1 ≤ depB q := by
  have hr : q ≠ rootB := fun e => h (by rw [e, getT_root, getT_root])
  by_cases h1 : (getT a q).1 = 0
  · by_cases h2 : (getT b q).1 = 0
    · exact absurd (zero_both ha hb h1 h2) h
    · exact dep_some hb hr h2
  · exact dep_some ha hr h1

theorem diff_valid {a b : List Nd} (ha : validT a = true) (hb : validT b = true) {c : Cmd} (h : c ∈ diffL a b) : validC c = true := by
  obtain ⟨h1, h2⟩ := (diff_mem ha hb c).1 h
  rw [h2]
  exact (validC_iff _).2 ⟨diff_dep ha hb h1, getT_valid ha _, getT_valid hb _, h1⟩

/-- What is above something is a directory. -/
theorem up_dir {ns : List Nd} (hv : validT ns = true) {p r : ByteArray} (hg : (getT ns r).1 ≠ 0) (hu : undB p r = true) : (getT ns p).1 = 1 := by
  have hd := und_depth hu
  have hr : r ≠ rootB := fun e => by have := hd.2.1; rw [e] at this; exact absurd this (by decide)
  obtain ⟨n, hn, rfl⟩ := node_at hr hg
  rw [← treeGet_eq hv hd.1]
  refine under_dir (fun e => ?_)
  unfold treeUnder at e
  rw [hv, hd.1, if_pos (show (true && true) = true from rfl), List.map_eq_nil_iff, List.filter_eq_nil_iff] at e
  exact e n hn hu

theorem par_dir {ns : List Nd} (hv : validT ns = true) {p : ByteArray} (hd : 1 ≤ depB p) (hg : (getT ns p).1 ≠ 0) : (getT ns (parB p)).1 = 1 := up_dir hv hg (parB_valid hd).2.2.1

/-- How many paths have something: no more where all of them have something there, too. -/
theorem sub_len {t b : List Nd} (ht : validT t = true) {p : ByteArray} (hp : p ≠ rootB) (h0 : (getT t p).1 = 0) (hbp : (getT b p).1 ≠ 0) (h : ∀ n ∈ t, (getT b n.p).1 ≠ 0) : t.length + 1 ≤ b.length := by
  have hn := asc_paths ((validT_iff t).1 ht).1
  have := nodup_len (p :: t.map Nd.p) (b.map Nd.p) (List.nodup_cons.2 ⟨fun hm => by
    obtain ⟨n, hn, e⟩ := List.mem_map.1 hm
    have := getT_mem ht hn
    rw [e] at this
    rw [this] at h0
    exact (((validT_iff t).1 ht).2.1 n hn).2.2.1 h0, hn⟩) (fun x hx => by
    rcases List.mem_cons.1 hx with rfl | hx
    · obtain ⟨n, hn, e⟩ := node_at hp hbp
      exact List.mem_map.2 ⟨n, hn, e⟩
    · obtain ⟨n, hn, rfl⟩ := List.mem_map.1 hx
      obtain ⟨m, hm, e⟩ := node_at (dep_root (good_path ht hn).1) (h n hn)
      exact List.mem_map.2 ⟨m, hm, e⟩)
  simpa using this

theorem ends_iff (c : Cmd) : endsC c = true ↔ c.tk = 0 ∨ c.fk = 1 := by
  unfold endsC
  rw [Bool.or_eq_true, beq_iff_eq, beq_iff_eq]

/-- What a command of the difference says. -/
theorem diff_parts {a b : List Nd} {c : Cmd} (h : c = diffC a b c.p) : c.fk = (getT a c.p).1 ∧ c.tk = (getT b c.p).1 := by
  constructor
  · conv => lhs; rw [h]
    rfl
  · conv => lhs; rw [h]
    rfl

/-- Between two trees, in canonical order: the next command does not break. -/
theorem diff_step {a b t : List Nd} {pre suf : List Cmd} {c : Cmd} (ha : validT a = true) (hb : validT b = true) (hD : Canon (pre ++ c :: suf)) (hm : ∀ d, d ∈ pre ++ c :: suf ↔ d ∈ diffL a b) (hnp : ∀ d ∈ pre, d.p ≠ c.p) (ht : validT t = true)
    (h1 : ∀ q, (∃ d ∈ pre, d.p = q) → getT t q = getT b q) (h2 : ∀ q, (∀ d ∈ pre, d.p ≠ q) → getT t q = getT a q) : ∃ out, applyC t c = (out, true) := by
  obtain ⟨hne, hce⟩ := (diff_mem ha hb c).1 ((hm c).1 (by simp))
  obtain ⟨hcf, hct⟩ := diff_parts hce
  have hvc : validC c = true := diff_valid ha hb ((hm c).1 (by simp))
  have hdep : 1 ≤ depB c.p := diff_dep ha hb hne
  have hroot := dep_root hdep
  have htc : getT t c.p = getT a c.p := h2 c.p hnp
  have hD' := List.pairwise_append.1 hD
  have hafter : ∀ e ∈ suf, befC c e = true := (List.pairwise_cons.1 hD'.2.1).1
  have hbefore : ∀ e ∈ pre, befC e c = true := fun e he => hD'.2.2 e he c (by simp)
  -- a changed path that was not done yet lies behind
  have hloc : ∀ q, getT a q ≠ getT b q → (∀ d ∈ pre, d.p ≠ q) → q ≠ c.p → ∃ e ∈ suf, e.p = q ∧ e.fk = (getT a q).1 ∧ e.tk = (getT b q).1 := by
    intro q hq hp hqc
    have hin : diffC a b q ∈ pre ++ c :: suf := (hm _).2 ((diff_mem ha hb _).2 ⟨hq, rfl⟩)
    rcases List.mem_append.1 hin with h | h
    · exact absurd rfl (hp _ h)
    · rcases List.mem_cons.1 h with h | h
      · exact absurd (congrArg Cmd.p h) hqc
      · exact ⟨_, h, rfl, rfl, rfl⟩
  have hcase : ∀ q, (getT t q = getT b q ∧ ∃ d ∈ pre, d.p = q) ∨ (getT t q = getT a q ∧ ∀ d ∈ pre, d.p ≠ q) := by
    intro q
    by_cases h : ∃ d ∈ pre, d.p = q
    · exact .inl ⟨h1 q h, h⟩
    · exact .inr ⟨h2 q (fun d hd e => h ⟨d, hd, e⟩), fun d hd e => h ⟨d, hd, e⟩⟩
  -- the parent
  have hpar : (treeGet t (parB c.p)).1 = 1 ∨ c.tk = 0 := by
    by_cases hk : c.tk = 0
    · exact .inr hk
    · refine .inl ?_
      have hpv := parB_valid hdep
      rw [treeGet_eq ht hpv.1]
      have hbq : (getT b (parB c.p)).1 = 1 := par_dir hb hdep (by rw [← hct]; exact hk)
      rcases hcase (parB c.p) with ⟨e, -⟩ | ⟨e, hnot⟩
      · rw [e, hbq]
      · rw [e]
        by_cases hq : getT a (parB c.p) = getT b (parB c.p)
        · rw [hq, hbq]
        · have hlt : ltB (parB c.p) c.p = true := und_lt hpv.2.2.1
          obtain ⟨d, hd, hdp, hdf, hdt⟩ := hloc _ hq hnot (ltB_ne hlt)
          have hb1 := hafter d hd
          have hda : (getT a (parB c.p)).1 ≠ 1 := fun h => hq (dir_both ha hb h hbq)
          have hde : endsC d = false := by
            rw [Bool.eq_false_iff]
            intro h
            rcases (ends_iff d).1 h with h | h
            · rw [hdt, hbq] at h; exact absurd h (by decide)
            · rw [hdf] at h; exact hda h
          unfold befC at hb1
          cases hcc : endsC c with
          | false =>
            simp only [hcc, hde] at hb1
            rw [if_neg (by decide), if_pos (by decide), hdp] at hb1
            rw [ltB_asymm hlt] at hb1
            cases hb1
          | true =>
            rcases (ends_iff c).1 hcc with h | h
            · exact absurd h hk
            · exact absurd (par_dir ha hdep (by rw [← hcf, h]; decide)) hda
  -- nothing under it
  have hund : treeUnder t c.p = [] ∨ c.tk = 1 := by
    by_cases hk : c.tk = 1
    · exact .inr hk
    · refine .inl ?_
      unfold treeUnder
      rw [ht, vp_of_depth hdep, if_pos (show (true && true) = true from rfl), List.map_eq_nil_iff, List.filter_eq_nil_iff]
      intro n hn hu
      have hnk : (getT t n.p).1 ≠ 0 := by rw [getT_mem ht hn]; exact (((validT_iff t).1 ht).2.1 n hn).2.2.1
      have hbz : (getT b n.p).1 = 0 := by
        by_cases h : (getT b n.p).1 = 0
        · exact h
        · exact absurd (hct.trans (up_dir hb h hu)) hk
      rcases hcase n.p with ⟨e, -⟩ | ⟨e, hnot⟩
      · rw [e] at hnk; exact hnk hbz
      · rw [e] at hnk
        have hfa : c.fk = 1 := hcf.trans (up_dir ha hnk hu)
        have hlt := und_lt hu
        obtain ⟨d, hd, hdp, hdf, hdt⟩ := hloc n.p (fun h => hnk (by rw [h]; exact hbz)) hnot (fun h => ltB_ne hlt h.symm)
        have hb1 := hafter d hd
        have hcc : endsC c = true := (ends_iff c).2 (.inr hfa)
        have hdd : endsC d = true := (ends_iff d).2 (.inl (hdt.trans hbz))
        unfold befC at hb1
        simp only [hcc, hdd] at hb1
        rw [if_pos (by decide), hdp, ltB_asymm hlt] at hb1
        cases hb1
  -- room
  have hroom : t.length + (if (treeGet t c.p).1 = 0 ∧ c.tk ≠ 0 then 1 else 0) ≤ 10 := by
    have ht10 := ((validT_iff t).1 ht).2.2
    split
    · rename_i h
      obtain ⟨hz, hk⟩ := h
      rw [treeGet_eq ht (vp_of_depth hdep), htc] at hz
      have hb10 := ((validT_iff b).1 hb).2.2
      have hcc : endsC c = false := by
        rw [Bool.eq_false_iff]
        intro h
        rcases (ends_iff c).1 h with h | h
        · exact hk h
        · rw [hcf, hz] at h; exact absurd h (by decide)
      have := sub_len (b := b) ht hroot (by rw [htc]; exact hz) (by rw [← hct]; exact hk) (fun n hn => by
        have hnk : (getT t n.p).1 ≠ 0 := by rw [getT_mem ht hn]; exact (((validT_iff t).1 ht).2.1 n hn).2.2.1
        intro hbz
        rcases hcase n.p with ⟨e, -⟩ | ⟨e, hnot⟩
        · rw [e] at hnk; exact hnk hbz
        · rw [e] at hnk
          have hnc : n.p ≠ c.p := fun h => hnk (by rw [h]; exact hz)
          obtain ⟨d, hd, hdp, hdf, hdt⟩ := hloc n.p (fun h => hnk (by rw [h]; exact hbz)) hnot hnc
          have hb1 := hafter d hd
          have hdd : endsC d = true := (ends_iff d).2 (.inl (hdt.trans hbz))
          unfold befC at hb1
          simp only [hcc, hdd] at hb1
          rw [if_neg (by decide), if_neg (by decide)] at hb1
          cases hb1)
      omega
    · omega
  have hput := (put_when (v := c.tv) ht hdep ((validC_iff c).1 hvc).2.2.1).2 ⟨hpar, hund, hroom⟩
  obtain ⟨out, ho⟩ := Option.isSome_iff_exists.1 hput
  refine ⟨out, ?_⟩
  rw [applyC_ok ht hvc, if_pos, ho]
  rw [htc]
  conv => rhs; rw [hce]
  rfl

theorem apply_get {t out : List Nd} {c : Cmd} (h : applyC t c = (out, true)) : getT out c.p = (c.tk, c.tv) ∧ ∀ q, q ≠ c.p → getT out q = getT t q := by
  obtain ⟨h1, h2, h3, h4⟩ := applyC_some h
  have ho := applyC_valid h
  have hd := ((validC_iff c).1 h2).1
  obtain ⟨_, e2, e3⟩ := apply_one h
  refine ⟨by rw [← treeGet_eq ho (vp_of_depth hd)]; exact e2, fun q hq => ?_⟩
  by_cases e : getT t q = getT out q
  · exact e.symm
  · have := (chg_mem h1 ho q).2 e
    rw [e3, List.mem_singleton] at this
    exact absurd this hq

theorem diff_go {a b : List Nd} (ha : validT a = true) (hb : validT b = true) : ∀ (suf pre : List Cmd) (t : List Nd), Canon (pre ++ suf) → ((pre ++ suf).map Cmd.p).Nodup → (∀ d, d ∈ pre ++ suf ↔ d ∈ diffL a b) → validT t = true →
    (∀ q, (∃ d ∈ pre, d.p = q) → getT t q = getT b q) → (∀ q, (∀ d ∈ pre, d.p ≠ q) → getT t q = getT a q) → runL t suf = (b, suf.length)
  | [], pre, t, _, _, hm, ht, h1, h2 => by
    have e : t = b := tree_ext ht hb (fun q => by
      by_cases h : ∃ d ∈ pre, d.p = q
      · exact h1 q h
      · have hn : ∀ d ∈ pre, d.p ≠ q := fun d hd e => h ⟨d, hd, e⟩
        rw [h2 q hn]
        by_cases hq : getT a q = getT b q
        · exact hq
        · have hin : diffC a b q ∈ pre ++ [] := (hm _).2 ((diff_mem ha hb _).2 ⟨hq, rfl⟩)
          rw [List.append_nil] at hin
          exact absurd rfl (hn _ hin))
    rw [e]
    rfl
  | c :: suf, pre, t, hD, hn, hm, ht, h1, h2 => by
    have hnp : ∀ d ∈ pre, d.p ≠ c.p := by
      rw [List.map_append, List.map_cons, List.nodup_append] at hn
      intro d hd e
      exact hn.2.2 d.p (List.mem_map_of_mem hd) c.p (by simp) e
    obtain ⟨out, ho⟩ := diff_step ha hb hD hm hnp ht h1 h2
    obtain ⟨g1, g2⟩ := apply_get ho
    have hce := ((diff_mem ha hb c).1 ((hm c).1 (by simp))).2
    have ea : pre ++ [c] ++ suf = pre ++ c :: suf := by simp
    have ih := diff_go ha hb suf (pre ++ [c]) out (by rw [ea]; exact hD) (by rw [ea]; exact hn) (fun d => by rw [ea]; exact hm d) (applyC_valid ho) (fun q hq => by
      by_cases hqc : q = c.p
      · rw [hqc, g1]
        rw [hce]
        rfl
      · rw [g2 q hqc]
        obtain ⟨d, hd, hdq⟩ := hq
        rcases List.mem_append.1 hd with hd | hd
        · exact h1 q ⟨d, hd, hdq⟩
        · rw [List.mem_singleton.1 hd] at hdq
          exact absurd hdq.symm hqc) (fun q hq => by
      rw [g2 q (fun e => hq c (by simp) e.symm)]
      exact h2 q (fun d hd => hq d (List.mem_append_left _ hd)))
    rw [runL_cons_yes ho, ih]
    simp

theorem chg_bound {a b : List Nd} (ha : validT a = true) (hb : validT b = true) : (chgL a b).length ≤ 20 := by
  have h1 := ((validT_iff a).1 ha).2.2
  have h2 := ((validT_iff b).1 hb).2.2
  have hn := diff_nodup a b
  rw [diff_paths] at hn
  have := nodup_len (chgL a b) (a.map Nd.p ++ b.map Nd.p) hn (fun q hq => by
    have hne := (chg_mem ha hb q).1 hq
    have hr := dep_root (diff_dep ha hb hne)
    rw [List.mem_append]
    by_cases h : (getT a q).1 = 0
    · by_cases h' : (getT b q).1 = 0
      · exact absurd (zero_both ha hb h h') hne
      · obtain ⟨n, hn, e⟩ := node_at hr h'
        exact .inr (List.mem_map.2 ⟨n, hn, e⟩)
    · obtain ⟨n, hn, e⟩ := node_at hr h
      exact .inl (List.mem_map.2 ⟨n, hn, e⟩))
  simp at this
  omega

/-- P60: the difference of trees is a canonical log. -/
theorem diff_told {a b : List Nd} {out : List Cmd} (h : canonDiff a b = (out, true)) : validT a = true ∧ validT b = true ∧ canonV out = true ∧ logApply a out = (b, (out.length : Int)) ∧ out = sortK (diffL a b) := by
  unfold canonDiff at h
  split at h
  · rename_i hc
    rw [Bool.and_eq_true] at hc
    obtain ⟨ha, hb⟩ := hc
    have e : sortK (diffL a b) = out := congrArg Prod.fst h
    subst e
    have hn := diff_nodup a b
    have hv : validL (sortK (diffL a b)) = true := (validL_iff _).2 ⟨fun c hc => diff_valid ha hb ((mem_sort hn c).1 hc), by
      rw [sort_length hn]
      have := chg_bound ha hb
      unfold diffL
      rw [List.length_map]
      exact this⟩
    refine ⟨ha, hb, canonV_iff.2 ⟨canon_sort hn, nodup_sort hn, hv⟩, logApply_pair ha hv ?_, rfl⟩
    exact diff_go ha hb (sortK (diffL a b)) [] a (canon_sort hn) (nodup_sort hn) (fun d => mem_sort hn d) ha (fun q hq => by obtain ⟨d, hd, _⟩ := hq; cases hd) (fun q _ => rfl)
  · cases h

theorem diff_ok {a b : List Nd} (ha : validT a = true) (hb : validT b = true) : canonDiff a b = (sortK (diffL a b), true) := by
  unfold canonDiff
  rw [ha, hb]
  rfl

/-- P65: the way back has the same paths. -/
theorem chg_turn {a b : List Nd} (ha : validT a = true) (hb : validT b = true) : chgL b a = chgL a b :=
  sorted_ext (R := fun x y => ltB x y = true) (fun x y h => by rw [ltB_asymm h]; decide) _ _ (chg_asc (a := b) (b := a)) (chg_asc (a := a) (b := b)) (fun q => by
    rw [chg_mem ha hb, chg_mem hb ha]
    exact ⟨fun h e => h e.symm, fun h e => h e.symm⟩)

theorem diff_turn {a b : List Nd} (ha : validT a = true) (hb : validT b = true) : (sortK (diffL b a)).length = (sortK (diffL a b)).length ∧ ∀ c ∈ sortK (diffL a b), undoC c ∈ sortK (diffL b a) := by
  constructor
  · rw [sort_length (diff_nodup b a), sort_length (diff_nodup a b)]
    unfold diffL
    rw [List.length_map, List.length_map, chg_turn ha hb]
  · intro c hc
    have hc := (mem_sort (diff_nodup a b) c).1 hc
    have hvc := diff_valid ha hb hc
    obtain ⟨h1, h2⟩ := (diff_mem ha hb c).1 hc
    rw [mem_sort (diff_nodup b a), undoC_ok hvc]
    refine (diff_mem hb ha _).2 ⟨fun e => h1 e.symm, ?_⟩
    rw [h2]
    rfl

end Go.Proofs.YtmlnakkfjecibaaGreatDoor
