/-
  PLAIN MATHEMATICS OF ORDERS, first part: what must precede; possible orders (P68 to P72, P77).
-/
import Derived.Test.YtdkpabnpobpdhaaGreatHb
import Derived.Test.YtdkpabnpobpdhaaGreatPa
namespace Go.Proofs.YtdkpabnpobpdhaaGreat

/-- spec.l15Must. -/
def mustC (c d : Cmd) : Bool := (l1uB d.p c.p && d.fk == 1) || (l1uB c.p d.p && c.tk == 1)
/-- spec.MustPrecede. -/
def mustP (c d : Cmd) : Bool := validC c && validC d && mustC c d

theorem l1u_und {a b : ByteArray} (ha : vpB a = true) (hb : vpB b = true) : l1uB a b = undB a b := by
  have := underB_eq a b
  rw [show Pm.valid a.data.toList = true from ha, show Pm.valid b.data.toList = true from hb] at this
  exact this.symm

theorem validC_vp {c : Cmd} (h : validC c = true) : vpB c.p = true := vp_of_depth ((validC_iff c).1 h).1

theorem must_und {c d : Cmd} (hc : validC c = true) (hd : validC d = true) : mustC c d = ((undB d.p c.p && d.fk == 1) || (undB c.p d.p && c.tk == 1)) := by
  unfold mustC
  rw [l1u_und (validC_vp hd) (validC_vp hc), l1u_und (validC_vp hc) (validC_vp hd)]

/-- P68. -/
theorem must_paths {c d : Cmd} (h : mustP c d = true) : (undB c.p d.p || undB d.p c.p) = true ∧ c.p ≠ d.p := by
  unfold mustP at h
  rw [Bool.and_eq_true, Bool.and_eq_true] at h
  obtain ⟨⟨hc, hd⟩, hm⟩ := h
  rw [must_und hc hd, Bool.or_eq_true, Bool.and_eq_true, Bool.and_eq_true] at hm
  rcases hm with ⟨h, _⟩ | ⟨h, _⟩
  · exact ⟨by rw [h]; simp, fun e => ltB_ne (und_lt h) e.symm⟩
  · exact ⟨by rw [h]; simp, ltB_ne (und_lt h)⟩

/-- P69. -/
theorem must_when {c d : Cmd} (hc : validC c = true) (hd : validC d = true) : mustP c d = ((undB c.p d.p && c.tk == 1) || (undB d.p c.p && d.fk == 1)) := by
  unfold mustP
  rw [hc, hd, must_und hc hd, Bool.or_comm]
  rfl

theorem undo_swap {c : Cmd} (hc : validC c = true) : undoC c = ⟨c.p, c.tk, c.tv, c.fk, c.fv⟩ := by
  unfold undoC
  rw [hc]
  rfl

/-- P77. -/
theorem must_undo {c d : Cmd} (hc : validC c = true) (hd : validC d = true) (hc' : validC (undoC c) = true) (hd' : validC (undoC d) = true) : mustP (undoC d) (undoC c) = mustP c d := by
  rw [must_when hd' hc', must_when hc hd, undo_swap hc, undo_swap hd, Bool.or_comm]

/-- spec.l15Fits. -/
def FitsO (cs : List Cmd) : Prop := cs.Pairwise (fun c d => mustC d c = false)
def fitsB : List Cmd → Bool
  | [] => true
  | c :: r => r.all (fun d => !mustC d c) && fitsB r
theorem fitsB_iff : ∀ cs : List Cmd, fitsB cs = true ↔ FitsO cs
  | [] => ⟨fun _ => List.Pairwise.nil, fun _ => rfl⟩
  | c :: r => by
    unfold fitsB FitsO
    rw [Bool.and_eq_true, fitsB_iff r, List.pairwise_cons, List.all_eq_true]
    constructor
    · rintro ⟨h1, h2⟩
      exact ⟨fun d hd => by simpa using h1 d hd, h2⟩
    · rintro ⟨h1, h2⟩
      exact ⟨fun d hd => by rw [h1 d hd]; rfl, h2⟩
/-- spec.l15Once. -/
def onceV (cs : List Cmd) : Bool := decide ((cs.map Cmd.p).Nodup) && validL cs
/-- spec.OrderFits. -/
def orderV (cs : List Cmd) : Bool := onceV cs && fitsB cs

theorem onceV_iff {cs : List Cmd} : onceV cs = true ↔ (cs.map Cmd.p).Nodup ∧ validL cs = true := by
  unfold onceV
  rw [Bool.and_eq_true, decide_eq_true_eq]
theorem orderV_iff {cs : List Cmd} : orderV cs = true ↔ (cs.map Cmd.p).Nodup ∧ validL cs = true ∧ FitsO cs := by
  unfold orderV
  rw [Bool.and_eq_true, onceV_iff, fitsB_iff, and_assoc]

/-- Where a command of a log that fits is done: what stands at the paths that no command of the log has, and at its own. -/
theorem run_at : ∀ (r : List Cmd) (t : List Nd), validT t = true → (runL t r).2 = r.length → ∀ d ∈ r, ∃ t3 t4, validT t3 = true ∧ applyC t3 d = (t4, true) ∧ ∀ q, (∀ e ∈ r, e.p ≠ q) → getT t3 q = getT t q
  | [], _, _, _, d, hd => (by cases hd)
  | c :: r, t, hv, hr, d, hd => by
    cases ha : applyC t c with
    | mk out b =>
      cases b with
      | false => rw [runL_cons_no (by rw [ha])] at hr; simp at hr
      | true =>
        rw [runL_cons_yes ha] at hr
        rcases List.mem_cons.1 hd with rfl | hd
        · exact ⟨t, out, hv, ha, fun q _ => rfl⟩
        · obtain ⟨t3, t4, h1, h2, h3⟩ := run_at r out (applyC_valid ha) (by simpa using hr) d hd
          exact ⟨t3, t4, h1, h2, fun q hq => (h3 q (fun e he => hq e (List.mem_cons_of_mem _ he))).trans ((apply_get ha).2 q (fun e => hq c (by simp) e.symm))⟩

theorem dir_val {k v : Int} (h : validB k v = true) (hk : k = 1) : v = 0 := by
  unfold validB at h
  rw [decide_eq_true_eq] at h
  omega

theorem not_dir {c : Cmd} (hc : validC c = true) (h : c.fk = 1) : c.tk ≠ 1 := fun e => by
  obtain ⟨_, h1, h2, h3⟩ := (validC_iff c).1 hc
  exact h3 (by rw [h, e, dir_val h1 h, dir_val h2 e])

/-- A command that has been done, or that is about to be: something stands at its path, so what is above is a directory. -/
theorem above_dir {t t' : List Nd} {c : Cmd} (ha : applyC t c = (t', true)) {q : ByteArray} (hu : undB q c.p = true) : (getT t q).1 = 1 := by
  obtain ⟨h1, h2, h3, _⟩ := applyC_some ha
  have hq : q ≠ c.p := ltB_ne (und_lt hu)
  by_cases hf : c.fk = 0
  · have hg := apply_get ha
    obtain ⟨_, v1, v2, hne⟩ := (validC_iff c).1 h2
    have ht : (getT t' c.p).1 ≠ 0 := by
      rw [hg.1]
      intro h0
      have h0' : c.tk = 0 := h0
      unfold validB at v1 v2
      rw [decide_eq_true_eq] at v1 v2
      exact hne (by rw [hf, h0']; congr 1; omega)
    rw [← hg.2 q hq]
    exact up_dir (applyC_valid ha) ht hu
  · exact up_dir h1 (by rw [h3]; exact hf) hu

/-- P72: a log that fits is in a possible order. -/
theorem run_order : ∀ (cs : List Cmd) (t : List Nd), validT t = true → (runL t cs).2 = cs.length → (cs.map Cmd.p).Nodup → FitsO cs
  | [], _, _, _, _ => List.Pairwise.nil
  | c :: r, t, hv, hr, hn => by
    have hrun := hr
    cases ha : applyC t c with
    | mk out b =>
      cases b with
      | false => rw [runL_cons_no (by rw [ha])] at hr; simp at hr
      | true =>
        rw [runL_cons_yes ha] at hr
        have hr' : (runL out r).2 = r.length := by simpa using hr
        rw [List.map_cons, List.nodup_cons] at hn
        refine List.pairwise_cons.2 ⟨fun d hd => ?_, run_order r out (applyC_valid ha) hr' hn.2⟩
        obtain ⟨t3, t4, h1, h2, h3⟩ := run_at r out (applyC_valid ha) hr' d hd
        obtain ⟨_, hvd, hgd, _⟩ := applyC_some h2
        obtain ⟨_, hvc, hgc, _⟩ := applyC_some ha
        have hnc : ∀ e ∈ r, e.p ≠ c.p := fun e he k => hn.1 (by rw [← k]; exact List.mem_map_of_mem he)
        have hout := apply_get ha
        rw [must_und hvd hvc, Bool.or_eq_false_iff]
        constructor
        · -- d is under c, which ends a directory
          rw [Bool.and_eq_false_iff]
          by_cases hu : undB c.p d.p = true
          · right
            rw [beq_eq_false_iff_ne]
            intro hf
            have := above_dir h2 hu
            rw [h3 c.p hnc, hout.1] at this
            exact not_dir hvc hf this
          · exact .inl (by simpa using hu)
        · -- c is under d, which makes a directory
          rw [Bool.and_eq_false_iff]
          by_cases hu : undB d.p c.p = true
          · right
            rw [beq_eq_false_iff_ne]
            intro ht
            have h4 := above_dir ha hu
            have hne : d.p ≠ c.p := hnc d hd
            have h5 := run_was r out hr' hn.2 d hd
            rw [hout.2 d.p hne] at h5
            rw [h5] at h4
            exact not_dir hvd h4 ht
          · exact .inl (by simpa using hu)

theorem fits_order {ns : List Nd} {cs : List Cmd} (h : fitsL ns cs = true) (hn : (cs.map Cmd.p).Nodup) : orderV cs = true := by
  obtain ⟨h1, h2, h3⟩ := fitsL_iff.1 h
  exact orderV_iff.2 ⟨hn, h2, run_order cs ns h1 h3 hn⟩

/-- P70. -/
theorem order_canon {ns : List Nd} {cs out : List Cmd} (h : fitsL ns cs = true) (hr : logCanon cs = (out, true)) : orderV out = true := by
  obtain ⟨x, hx, _, _, _⟩ := fits_run h
  obtain ⟨o, ho, ha, _⟩ := canon_same h hx
  rw [hr] at ho
  injection ho with ho _
  subst ho
  obtain ⟨h1, h2, h3⟩ := canonV_iff.1 (canon_once hr).1
  refine fits_order (ns := ns) (fitsL_iff.2 ⟨(fitsL_iff.1 h).1, h3, ?_⟩) h2
  rw [logApply_ok (fitsL_iff.1 h).1 h3] at ha
  have := congrArg Prod.snd ha
  simp only at this
  omega

/-- Between two trees, in a possible order: the next command does not break, if there is room. -/
theorem order_step {a b t : List Nd} {pre suf : List Cmd} {c : Cmd} (ha : validT a = true) (hb : validT b = true) (hD : ∀ d ∈ suf, mustC d c = false) (hm : ∀ d, d ∈ pre ++ c :: suf ↔ d ∈ diffL a b) (hnp : ∀ d ∈ pre, d.p ≠ c.p) (ht : validT t = true)
    (h1 : ∀ q, (∃ d ∈ pre, d.p = q) → getT t q = getT b q) (h2 : ∀ q, (∀ d ∈ pre, d.p ≠ q) → getT t q = getT a q) (hlen : t.length + 1 ≤ 10) : ∃ out, applyC t c = (out, true) := by
  obtain ⟨hne, hce⟩ := (diff_mem ha hb c).1 ((hm c).1 (by simp))
  obtain ⟨hcf, hct⟩ := diff_parts hce
  have hvc : validC c = true := diff_valid ha hb ((hm c).1 (by simp))
  have hdep : 1 ≤ depB c.p := diff_dep ha hb hne
  have htc : getT t c.p = getT a c.p := h2 c.p hnp
  have hloc : ∀ q, getT a q ≠ getT b q → (∀ d ∈ pre, d.p ≠ q) → q ≠ c.p → ∃ e ∈ suf, e.p = q ∧ e.fk = (getT a q).1 ∧ e.tk = (getT b q).1 ∧ validC e = true := by
    intro q hq hp hqc
    have hin : diffC a b q ∈ pre ++ c :: suf := (hm _).2 ((diff_mem ha hb _).2 ⟨hq, rfl⟩)
    rcases List.mem_append.1 hin with h | h
    · exact absurd rfl (hp _ h)
    · rcases List.mem_cons.1 h with h | h
      · exact absurd (congrArg Cmd.p h) hqc
      · exact ⟨_, h, rfl, rfl, rfl, diff_valid ha hb ((hm _).1 hin)⟩
  have hcase : ∀ q, (getT t q = getT b q ∧ ∃ d ∈ pre, d.p = q) ∨ (getT t q = getT a q ∧ ∀ d ∈ pre, d.p ≠ q) := by
    intro q
    by_cases h : ∃ d ∈ pre, d.p = q
    · exact .inl ⟨h1 q h, h⟩
    · exact .inr ⟨h2 q (fun d hd e => h ⟨d, hd, e⟩), fun d hd e => h ⟨d, hd, e⟩⟩
  have hpar : (treeGet t (parB c.p)).1 = 1 ∨ c.tk = 0 := by
    by_cases hk : c.tk = 0
    · exact .inr hk
    · refine .inl ?_
      have hpv := parB_valid hdep
      rw [treeGet_eq ht hpv.1]
      have hbq : (getT b (parB c.p)).1 = 1 := par_dir hb hdep (by rw [← hct]; exact hk)
      rcases hcase (parB c.p) with ⟨e, -⟩ | ⟨e, hnot⟩
      · rw [e, hbq]
      · rw [e]
        by_cases hq : getT a (parB c.p) = getT b (parB c.p)
        · rw [hq, hbq]
        · obtain ⟨d, hd, hdp, hdf, hdt, hvd⟩ := hloc _ hq hnot (ltB_ne (und_lt hpv.2.2.1))
          have hb1 := hD d hd
          rw [must_und hvd hvc, hdp, hpv.2.2.1, hdt, hbq] at hb1
          simp at hb1
  have hund : treeUnder t c.p = [] ∨ c.tk = 1 := by
    by_cases hk : c.tk = 1
    · exact .inr hk
    · refine .inl ?_
      unfold treeUnder
      rw [ht, vp_of_depth hdep, if_pos (show (true && true) = true from rfl), List.map_eq_nil_iff, List.filter_eq_nil_iff]
      intro n hn hu
      have hnk : (getT t n.p).1 ≠ 0 := by rw [getT_mem ht hn]; exact (((validT_iff t).1 ht).2.1 n hn).2.2.1
      have hbz : (getT b n.p).1 = 0 := by
        by_cases h : (getT b n.p).1 = 0
        · exact h
        · exact absurd (hct.trans (up_dir hb h hu)) hk
      rcases hcase n.p with ⟨e, -⟩ | ⟨e, hnot⟩
      · rw [e] at hnk; exact hnk hbz
      · rw [e] at hnk
        have hfa : c.fk = 1 := hcf.trans (up_dir ha hnk hu)
        have hlt := und_lt hu
        obtain ⟨d, hd, hdp, hdf, hdt, hvd⟩ := hloc n.p (fun h => hnk (by rw [h]; exact hbz)) hnot (fun h => ltB_ne hlt h.symm)
        have hb1 := hD d hd
        rw [must_und hvd hvc, hdp, show undB c.p n.p = true from hu, hfa] at hb1
        simp at hb1
  have hput := (put_when (v := c.tv) ht hdep ((validC_iff c).1 hvc).2.2.1).2 ⟨hpar, hund, by split <;> omega⟩
  obtain ⟨out, ho⟩ := Option.isSome_iff_exists.1 hput
  refine ⟨out, ?_⟩
  rw [applyC_ok ht hvc, if_pos, ho]
  rw [htc]
  conv => rhs; rw [hce]
  rfl

theorem order_go {a b : List Nd} (ha : validT a = true) (hb : validT b = true) : ∀ (suf pre : List Cmd) (t : List Nd), FitsO (pre ++ suf) → ((pre ++ suf).map Cmd.p).Nodup → (∀ d, d ∈ pre ++ suf ↔ d ∈ diffL a b) → validT t = true →
    (∀ q, (∃ d ∈ pre, d.p = q) → getT t q = getT b q) → (∀ q, (∀ d ∈ pre, d.p ≠ q) → getT t q = getT a q) → t.length + suf.length ≤ 10 → runL t suf = (b, suf.length)
  | [], pre, t, _, _, hm, ht, h1, h2, _ => by
    have e : t = b := tree_ext ht hb (fun q => by
      by_cases h : ∃ d ∈ pre, d.p = q
      · exact h1 q h
      · have hn : ∀ d ∈ pre, d.p ≠ q := fun d hd e => h ⟨d, hd, e⟩
        rw [h2 q hn]
        by_cases hq : getT a q = getT b q
        · exact hq
        · have hin : diffC a b q ∈ pre ++ [] := (hm _).2 ((diff_mem ha hb _).2 ⟨hq, rfl⟩)
          rw [List.append_nil] at hin
          exact absurd rfl (hn _ hin))
    rw [e]
    rfl
  | c :: suf, pre, t, hD, hn, hm, ht, h1, h2, hl => by
    have hnp : ∀ d ∈ pre, d.p ≠ c.p := by
      rw [List.map_append, List.map_cons, List.nodup_append] at hn
      intro d hd e
      exact hn.2.2 d.p (List.mem_map_of_mem hd) c.p (by simp) e
    rw [List.length_cons] at hl
    have hD2 : ∀ d ∈ suf, mustC d c = false := by
      have := (List.pairwise_append.1 hD).2.1
      exact (List.pairwise_cons.1 this).1
    obtain ⟨out, ho⟩ := order_step ha hb hD2 hm hnp ht h1 h2 (by omega)
    obtain ⟨g1, g2⟩ := apply_get ho
    have hce := ((diff_mem ha hb c).1 ((hm c).1 (by simp))).2
    have ea : pre ++ [c] ++ suf = pre ++ c :: suf := by simp
    have hsz := step_size ho
    have ih := order_go ha hb suf (pre ++ [c]) out (by rw [ea]; exact hD) (by rw [ea]; exact hn) (fun d => by rw [ea]; exact hm d) (applyC_valid ho) (fun q hq => by
      by_cases hqc : q = c.p
      · rw [hqc, g1]
        rw [hce]
        rfl
      · rw [g2 q hqc]
        obtain ⟨d, hd, hdq⟩ := hq
        rcases List.mem_append.1 hd with hd | hd
        · exact h1 q ⟨d, hd, hdq⟩
        · rw [List.mem_singleton.1 hd] at hdq
          exact absurd hdq.symm hqc) (fun q hq => by
      rw [g2 q (fun e => hq c (by simp) e.symm)]
      exact h2 q (fun d hd => hq d (List.mem_append_left _ hd))) (by split at hsz <;> split at hsz <;> omega)
    rw [runL_cons_yes ho, ih]
    simp

/-- P71: all possible orders do the same. -/
theorem order_all {ns : List Nd} {cs : List Cmd} (h : orderV cs = true) : logCanon cs = (sortK cs, true) ∧ (fitsL ns (sortK cs) = true → ns.length + cs.length ≤ 10 → logApply ns cs = ((logApply ns (sortK cs)).1, (cs.length : Int)) ∧ (logApply ns (sortK cs)).2 = ((sortK cs).length : Int)) := by
  obtain ⟨hn, hv, hO⟩ := orderV_iff.1 h
  refine ⟨canon_nodup hv hn, fun hf hl => ?_⟩
  obtain ⟨h1, h2, h3⟩ := fitsL_iff.1 hf
  have hns := nodup_sort hn
  have hx := logApply_ok h1 h2
  obtain ⟨x, hxx⟩ : ∃ x, (runL ns (sortK cs)).1 = x := ⟨_, rfl⟩
  have hvx : validT x = true := by rw [← hxx]; exact runL_valid _ ns h1
  have hmem : ∀ d, d ∈ cs ↔ d ∈ diffL ns x := by
    intro d
    rw [diff_mem h1 hvx, ← mem_sort hn]
    constructor
    · intro hd
      have e1 := run_was (sortK cs) ns h3 hns d hd
      have e2 := runL_in (sortK cs) ns h3 hns d hd
      rw [hxx] at e2
      have hvd := (validC_iff d).1 (((validL_iff _).1 h2).1 d hd)
      refine ⟨by rw [e1, e2]; exact hvd.2.2.2, ?_⟩
      unfold diffC
      rw [e1, e2]
    · rintro ⟨hne, hd⟩
      have : ∃ e ∈ sortK cs, e.p = d.p := Classical.byContradiction (fun hno => hne (by
        have h0 : ∀ e ∈ sortK cs, e.p ≠ d.p := fun e he k => hno ⟨e, he, k⟩
        have h5 := (fold_run (sortK cs) ns h3 d.p).1 (0, 0)
        rw [fold_none _ _ h0] at h5
        injection h5 with h5
        injection h5 with h5
        injection h5 with _ h5
        rw [h5, hxx]))
      obtain ⟨e, he, hep⟩ := this
      have e1 := run_was (sortK cs) ns h3 hns e he
      have e2 := runL_in (sortK cs) ns h3 hns e he
      rw [hxx] at e2
      have : e = d := by
        rw [hd]
        unfold diffC
        rw [← hep, e1, e2]
      rw [← this]
      exact he
  have hgo := order_go h1 hvx cs [] ns hO hn hmem h1 (fun q ⟨d, hd, _⟩ => by cases hd) (fun q _ => rfl) hl
  have hl2 : (sortK cs).length = cs.length := sort_length hn
  refine ⟨?_, ?_⟩
  · rw [logApply_pair h1 hv hgo, hx, hxx]
  · rw [hx, h3]

end Go.Proofs.YtdkpabnpobpdhaaGreat
