/-
  Texts of this proof, one behind the other: Oa, Ob, Or, Ot.
-/
import Derived.Laws.Shifts
import Derived.Laws.BitsAllLaws
import Derived.Laws.Cover1
import Derived.StillTailTactics
import Derived.WalkSmall
import Derived.OwnWalk
import Derived.Laws.OwnMore
import Derived.Maps.Own
import Derived.Maps.OwnSet
import Derived.Lib.SliceRun
import Derived.WideLaws
import Derived.Deep.RegionHeld3
import Derived.Test.YtpjoahddbdmbpaaGreatDoorHb
import Derived.Test.YtpjoahddbdmbpaaGreatDoorPa
import Derived.Test.YtpjoahddbdmbpaaGreatDoorQ2
import Derived.Test.YtpjoahddbdmbpaaGreatDoorQ4
import Derived.Test.YtpjoahddbdmbpaaGreatDoorQ6
import Derived.Test.YtpjoahddbdmbpaaGreatDoorQ9
import Derived.Test.YtpjoahddbdmbpaaGreatDoorQ7
/-
  PLAIN MATHEMATICS OF ORDERS, first part: what must precede; possible orders (P68 to P72, P77).
-/
namespace Go.Proofs.YtpjoahddbdmbpaaGreatDoor

/-- spec.l15Must. -/
def mustC (c d : Cmd) : Bool := (l1uB d.p c.p && d.fk == 1) || (l1uB c.p d.p && c.tk == 1)
/-- spec.MustPrecede. -/
def mustP (c d : Cmd) : Bool := validC c && validC d && mustC c d

theorem l1u_und {a b : ByteArray} (ha : vpB a = true) (hb : vpB b = true) : l1uB a b = undB a b := by
  have := underB_eq a b
  rw [show Pm.valid a.data.toList = true from ha, show Pm.valid b.data.toList = true from hb] at this
  exact this.symm

theorem validC_vp {c : Cmd} (h : validC c = true) : vpB c.p = true := vp_of_depth ((validC_iff c).1 h).1

theorem must_und {c d : Cmd} (hc : validC c = true) (hd : validC d = true) : mustC c d = ((undB d.p c.p && d.fk == 1) || (undB c.p d.p && c.tk == 1)) := by
  unfold mustC
  rw [l1u_und (validC_vp hd) (validC_vp hc), l1u_und (validC_vp hc) (validC_vp hd)]

/-- P68. -/
theorem must_paths {c d : Cmd} (h : mustP c d = true) : (undB c.p d.p || undB d.p c.p) = true ∧ c.p ≠ d.p := by
  unfold mustP at h
  rw [Bool.and_eq_true, Bool.and_eq_true] at h
  obtain ⟨⟨hc, hd⟩, hm⟩ := h
  rw [must_und hc hd, Bool.or_eq_true, Bool.and_eq_true, Bool.and_eq_true] at hm
  rcases hm with ⟨h, _⟩ | ⟨h, _⟩
  · exact ⟨by rw [h]; simp, fun e => ltB_ne (und_lt h) e.symm⟩
  · exact ⟨by rw [h]; simp, ltB_ne (und_lt h)⟩

/-- P69. -/
theorem must_when {c d : Cmd} (hc : validC c = true) (hd : validC d = true) : mustP c d = ((undB c.p d.p && c.tk == 1) || (undB d.p c.p && d.fk == 1)) := by
  unfold mustP
  rw [hc, hd, must_und hc hd, Bool.or_comm]
  rfl

theorem undo_swap {c : Cmd} (hc : validC c = true) : undoC c = ⟨c.p, c.tk, c.tv, c.fk, c.fv⟩ := by
  unfold undoC
  rw [hc]
  rfl

/-- P77. -/
theorem must_undo {c d : Cmd} (hc : validC c = true) (hd : validC d = true) (hc' : validC (undoC c) = true) (hd' : validC (undoC d) = true) : mustP (undoC d) (undoC c) = mustP c d := by
  rw [must_when hd' hc', must_when hc hd, undo_swap hc, undo_swap hd, Bool.or_comm]

/-- spec.l15Fits. -/
def FitsO (cs : List Cmd) : Prop := cs.Pairwise (fun c d => mustC d c = false)
def fitsB : List Cmd → Bool
  | [] => true
  | c :: r => r.all (fun d => !mustC d c) && fitsB r
theorem fitsB_iff : ∀ cs : List Cmd, fitsB cs = true ↔ FitsO cs
  | [] => ⟨fun _ => List.Pairwise.nil, fun _ => rfl⟩
  | c :: r => by
    unfold fitsB FitsO
    rw [Bool.and_eq_true, fitsB_iff r, List.pairwise_cons, List.all_eq_true]
    constructor
    · rintro ⟨h1, h2⟩
      exact ⟨fun d hd => by simpa using h1 d hd, h2⟩
    · rintro ⟨h1, h2⟩
      exact ⟨fun d hd => by rw [h1 d hd]; rfl, h2⟩
/-- spec.l15Once. -/
def onceV (cs : List Cmd) : Bool := decide ((cs.map Cmd.p).Nodup) && validL cs
/-- spec.OrderFits. -/
def orderV (cs : List Cmd) : Bool := onceV cs && fitsB cs

theorem onceV_iff {cs : List Cmd} : onceV cs = true ↔ (cs.map Cmd.p).Nodup ∧ validL cs = true := by
  unfold onceV
  rw [Bool.and_eq_true, decide_eq_true_eq]
theorem orderV_iff {cs : List Cmd} : orderV cs = true ↔ (cs.map Cmd.p).Nodup ∧ validL cs = true ∧ FitsO cs := by
  unfold orderV
  rw [Bool.and_eq_true, onceV_iff, fitsB_iff, and_assoc]

/-- Where a command of a log that fits is done: what stands at the paths that no command of the log has, and at its own. -/
theorem run_at : ∀ (r : List Cmd) (t : List Nd), validT t = true → (runL t r).2 = r.length → ∀ d ∈ r, ∃ t3 t4, validT t3 = true ∧ applyC t3 d = (t4, true) ∧ ∀ q, (∀ e ∈ r, e.p ≠ q) → getT t3 q = getT t q
  | [], _, _, _, d, hd => (by cases hd)
  | c :: r, t, hv, hr, d, hd => by
    cases ha : applyC t c with
    | mk out b =>
      cases b with
      | false => rw [runL_cons_no (by rw [ha])] at hr; simp at hr
      | true =>
        rw [runL_cons_yes ha] at hr
        rcases List.mem_cons.1 hd with rfl | hd
        · exact ⟨t, out, hv, ha, fun q _ => rfl⟩
        · obtain ⟨t3, t4, h1, h2, h3⟩ := run_at r out (applyC_valid ha) (by simpa using hr) d hd
          exact ⟨t3, t4, h1, h2, fun q hq => (h3 q (fun e he => hq e (List.mem_cons_of_mem _ he))).trans ((apply_get ha).2 q (fun e => hq c (by simp) e.symm))⟩

theorem dir_val {k v : Int} (h : validB k v = true) (hk : k = 1) : v = 0 := by
  unfold validB at h
  rw [decide_eq_true_eq] at h
  omega

theorem not_dir {c : Cmd} (hc : validC c = true) (h : c.fk = 1) : c.tk ≠ 1 := fun e => by
  obtain ⟨_, h1, h2, h3⟩ := (validC_iff c).1 hc
  exact h3 (by rw [h, e, dir_val h1 h, dir_val h2 e])

/-- A command that has been done, or that is about to be: something stands at its path, so what is above is a directory. -/
theorem above_dir {t t' : List Nd} {c : Cmd} (ha : applyC t c = (t', true)) {q : ByteArray} (hu : undB q c.p = true) : (getT t q).1 = 1 := by
  obtain ⟨h1, h2, h3, _⟩ := applyC_some ha
  have hq : q ≠ c.p := ltB_ne (und_lt hu)
  by_cases hf : c.fk = 0
  · have hg := apply_get ha
    obtain ⟨_, v1, v2, hne⟩ := (validC_iff c).1 h2
    have ht : (getT t' c.p).1 ≠ 0 := by
      rw [hg.1]
      intro h0
      have h0' : c.tk = 0 := h0
      unfold validB at v1 v2
      rw [decide_eq_true_eq] at v1 v2
      exact hne (by rw [hf, h0']; congr 1; omega)
    rw [← hg.2 q hq]
    exact up_dir (applyC_valid ha) ht hu
  · exact up_dir h1 (by rw [h3]; exact hf) hu

/-- P72: a log that fits is in a possible order. -/
theorem run_order : ∀ (cs : List Cmd) (t : List Nd), validT t = true → (runL t cs).2 = cs.length → (cs.map Cmd.p).Nodup → FitsO cs
  | [], _, _, _, _ => List.Pairwise.nil
  | c :: r, t, hv, hr, hn => by
    have hrun := hr
    cases ha : applyC t c with
    | mk out b =>
      cases b with
      | false => rw [runL_cons_no (by rw [ha])] at hr; simp at hr
      | true =>
        rw [runL_cons_yes ha] at hr
        have hr' : (runL out r).2 = r.length := by simpa using hr
        rw [List.map_cons, List.nodup_cons] at hn
        refine List.pairwise_cons.2 ⟨fun d hd => ?_, run_order r out (applyC_valid ha) hr' hn.2⟩
        obtain ⟨t3, t4, h1, h2, h3⟩ := run_at r out (applyC_valid ha) hr' d hd
        obtain ⟨_, hvd, hgd, _⟩ := applyC_some h2
        obtain ⟨_, hvc, hgc, _⟩ := applyC_some ha
        have hnc : ∀ e ∈ r, e.p ≠ c.p := fun e he k => hn.1 (by rw [← k]; exact List.mem_map_of_mem he)
        have hout := apply_get ha
        rw [must_und hvd hvc, Bool.or_eq_false_iff]
        constructor
        · -- d is under c, which ends a directory
          rw [Bool.and_eq_false_iff]
          by_cases hu : undB c.p d.p = true
          · right
            rw [beq_eq_false_iff_ne]
            intro hf
            have := above_dir h2 hu
            rw [h3 c.p hnc, hout.1] at this
            exact not_dir hvc hf this
          · exact .inl (by simpa using hu)
        · -- c is under d, which makes a directory
          rw [Bool.and_eq_false_iff]
          by_cases hu : undB d.p c.p = true
          · right
            rw [beq_eq_false_iff_ne]
            intro ht
            have h4 := above_dir ha hu
            have hne : d.p ≠ c.p := hnc d hd
            have h5 := run_was r out hr' hn.2 d hd
            rw [hout.2 d.p hne] at h5
            rw [h5] at h4
            exact not_dir hvd h4 ht
          · exact .inl (by simpa using hu)

theorem fits_order {ns : List Nd} {cs : List Cmd} (h : fitsL ns cs = true) (hn : (cs.map Cmd.p).Nodup) : orderV cs = true := by
  obtain ⟨h1, h2, h3⟩ := fitsL_iff.1 h
  exact orderV_iff.2 ⟨hn, h2, run_order cs ns h1 h3 hn⟩

/-- P70. -/
theorem order_canon {ns : List Nd} {cs out : List Cmd} (h : fitsL ns cs = true) (hr : logCanon cs = (out, true)) : orderV out = true := by
  obtain ⟨x, hx, _, _, _⟩ := fits_run h
  obtain ⟨o, ho, ha, _⟩ := canon_same h hx
  rw [hr] at ho
  injection ho with ho _
  subst ho
  obtain ⟨h1, h2, h3⟩ := canonV_iff.1 (canon_once hr).1
  refine fits_order (ns := ns) (fitsL_iff.2 ⟨(fitsL_iff.1 h).1, h3, ?_⟩) h2
  rw [logApply_ok (fitsL_iff.1 h).1 h3] at ha
  have := congrArg Prod.snd ha
  simp only at this
  omega

/-- Between two trees, in a possible order: the next command does not break, if there is room. -/
theorem order_step {a b t : List Nd} {pre suf : List Cmd} {c : Cmd} (ha : validT a = true) (hb : validT b = true) (hD : ∀ d ∈ suf, mustC d c = false) (hm : ∀ d, d ∈ pre ++ c :: suf ↔ d ∈ diffL a b) (hnp : ∀ d ∈ pre, d.p ≠ c.p) (ht : validT t = true)
    (h1 : ∀ q, (∃ d ∈ pre, d.p = q) → getT t q = getT b q) (h2 : ∀ q, (∀ d ∈ pre, d.p ≠ q) → getT t q = getT a q) (hlen : t.length + 1 ≤ 10) : ∃ out, applyC t c = (out, true) := by
  obtain ⟨hne, hce⟩ := (diff_mem ha hb c).1 ((hm c).1 (by simp))
  obtain ⟨hcf, hct⟩ := diff_parts hce
  have hvc : validC c = true := diff_valid ha hb ((hm c).1 (by simp))
  have hdep : 1 ≤ depB c.p := diff_dep ha hb hne
  have htc : getT t c.p = getT a c.p := h2 c.p hnp
  have hloc : ∀ q, getT a q ≠ getT b q → (∀ d ∈ pre, d.p ≠ q) → q ≠ c.p → ∃ e ∈ suf, e.p = q ∧ e.fk = (getT a q).1 ∧ e.tk = (getT b q).1 ∧ validC e = true := by
    intro q hq hp hqc
    have hin : diffC a b q ∈ pre ++ c :: suf := (hm _).2 ((diff_mem ha hb _).2 ⟨hq, rfl⟩)
    rcases List.mem_append.1 hin with h | h
    · exact absurd rfl (hp _ h)
    · rcases List.mem_cons.1 h with h | h
      · exact absurd (congrArg Cmd.p h) hqc
      · exact ⟨_, h, rfl, rfl, rfl, diff_valid ha hb ((hm _).1 hin)⟩
  have hcase : ∀ q, (getT t q = getT b q ∧ ∃ d ∈ pre, d.p = q) ∨ (getT t q = getT a q ∧ ∀ d ∈ pre, d.p ≠ q) := by
    intro q
    by_cases h : ∃ d ∈ pre, d.p = q
    · exact .inl ⟨h1 q h, h⟩
    · exact .inr ⟨h2 q (fun d hd e => h ⟨d, hd, e⟩), fun d hd e => h ⟨d, hd, e⟩⟩
  have hpar : (treeGet t (parB c.p)).1 = 1 ∨ c.tk = 0 := by
    by_cases hk : c.tk = 0
    · exact .inr hk
    · refine .inl ?_
      have hpv := parB_valid hdep
      rw [treeGet_eq ht hpv.1]
      have hbq : (getT b (parB c.p)).1 = 1 := par_dir hb hdep (by rw [← hct]; exact hk)
      rcases hcase (parB c.p) with ⟨e, -⟩ | ⟨e, hnot⟩
      · rw [e, hbq]
      · rw [e]
        by_cases hq : getT a (parB c.p) = getT b (parB c.p)
        · rw [hq, hbq]
        · obtain ⟨d, hd, hdp, hdf, hdt, hvd⟩ := hloc _ hq hnot (ltB_ne (und_lt hpv.2.2.1))
          have hb1 := hD d hd
          rw [must_und hvd hvc, hdp, hpv.2.2.1, hdt, hbq] at hb1
          simp at hb1
  have hund : treeUnder t c.p = [] ∨ c.tk = 1 := by
    by_cases hk : c.tk = 1
    · exact .inr hk
    · refine .inl ?_
      unfold treeUnder
      rw [ht, vp_of_depth hdep, if_pos (show (true && true) = true from rfl), List.map_eq_nil_iff, List.filter_eq_nil_iff]
      intro n hn hu
      have hnk : (getT t n.p).1 ≠ 0 := by rw [getT_mem ht hn]; exact (((validT_iff t).1 ht).2.1 n hn).2.2.1
      have hbz : (getT b n.p).1 = 0 := by
        by_cases h : (getT b n.p).1 = 0
        · exact h
        · exact absurd (hct.trans (up_dir hb h hu)) hk
      rcases hcase n.p with ⟨e, -⟩ | ⟨e, hnot⟩
      · rw [e] at hnk; exact hnk hbz
      · rw [e] at hnk
        have hfa : c.fk = 1 := hcf.trans (up_dir ha hnk hu)
        have hlt := und_lt hu
        obtain ⟨d, hd, hdp, hdf, hdt, hvd⟩ := hloc n.p (fun h => hnk (by rw [h]; exact hbz)) hnot (fun h => ltB_ne hlt h.symm)
        have hb1 := hD d hd
        rw [must_und hvd hvc, hdp, show undB c.p n.p = true from hu, hfa] at hb1
        simp at hb1
  have hput := (put_when (v := c.tv) ht hdep ((validC_iff c).1 hvc).2.2.1).2 ⟨hpar, hund, by split <;> omega⟩
  obtain ⟨out, ho⟩ := Option.isSome_iff_exists.1 hput
  refine ⟨out, ?_⟩
  rw [applyC_ok ht hvc, if_pos, ho]
  rw [htc]
  conv => rhs; rw [hce]
  rfl

theorem order_go {a b : List Nd} (ha : validT a = true) (hb : validT b = true) : ∀ (suf pre : List Cmd) (t : List Nd), FitsO (pre ++ suf) → ((pre ++ suf).map Cmd.p).Nodup → (∀ d, d ∈ pre ++ suf ↔ d ∈ diffL a b) → validT t = true →
    (∀ q, (∃ d ∈ pre, d.p = q) → getT t q = getT b q) → (∀ q, (∀ d ∈ pre, d.p ≠ q) → getT t q = getT a q) → t.length + suf.length ≤ 10 → runL t suf = (b, suf.length)
  | [], pre, t, _, _, hm, ht, h1, h2, _ => by
    have e : t = b := tree_ext ht hb (fun q => by
      by_cases h : ∃ d ∈ pre, d.p = q
      · exact h1 q h
      · have hn : ∀ d ∈ pre, d.p ≠ q := fun d hd e => h ⟨d, hd, e⟩
        rw [h2 q hn]
        by_cases hq : getT a q = getT b q
        · exact hq
        · have hin : diffC a b q ∈ pre ++ [] := (hm _).2 ((diff_mem ha hb _).2 ⟨hq, rfl⟩)
          rw [List.append_nil] at hin
          exact absurd rfl (hn _ hin))
    rw [e]
    rfl
  | c :: suf, pre, t, hD, hn, hm, ht, h1, h2, hl => by
    have hnp : ∀ d ∈ pre, d.p ≠ c.p := by
      rw [List.map_append, List.map_cons, List.nodup_append] at hn
      intro d hd e
      exact hn.2.2 d.p (List.mem_map_of_mem hd) c.p (by simp) e
    rw [List.length_cons] at hl
    have hD2 : ∀ d ∈ suf, mustC d c = false := by
      have := (List.pairwise_append.1 hD).2.1
      exact (List.pairwise_cons.1 this).1
    obtain ⟨out, ho⟩ := order_step ha hb hD2 hm hnp ht h1 h2 (by omega)
    obtain ⟨g1, g2⟩ := apply_get ho
    have hce := ((diff_mem ha hb c).1 ((hm c).1 (by simp))).2
    have ea : pre ++ [c] ++ suf = pre ++ c :: suf := by simp
    have hsz := step_size ho
    have ih := order_go ha hb suf (pre ++ [c]) out (by rw [ea]; exact hD) (by rw [ea]; exact hn) (fun d => by rw [ea]; exact hm d) (applyC_valid ho) (fun q hq => by
      by_cases hqc : q = c.p
      · rw [hqc, g1]
        rw [hce]
        rfl
      · rw [g2 q hqc]
        obtain ⟨d, hd, hdq⟩ := hq
        rcases List.mem_append.1 hd with hd | hd
        · exact h1 q ⟨d, hd, hdq⟩
        · rw [List.mem_singleton.1 hd] at hdq
          exact absurd hdq.symm hqc) (fun q hq => by
      rw [g2 q (fun e => hq c (by simp) e.symm)]
      exact h2 q (fun d hd => hq d (List.mem_append_left _ hd))) (by split at hsz <;> split at hsz <;> omega)
    rw [runL_cons_yes ho, ih]
    simp

/-- P71: all possible orders do the same. -/
theorem order_all {ns : List Nd} {cs : List Cmd} (h : orderV cs = true) : logCanon cs = (sortK cs, true) ∧ (fitsL ns (sortK cs) = true → ns.length + cs.length ≤ 10 → logApply ns cs = ((logApply ns (sortK cs)).1, (cs.length : Int)) ∧ (logApply ns (sortK cs)).2 = ((sortK cs).length : Int)) := by
  obtain ⟨hn, hv, hO⟩ := orderV_iff.1 h
  refine ⟨canon_nodup hv hn, fun hf hl => ?_⟩
  obtain ⟨h1, h2, h3⟩ := fitsL_iff.1 hf
  have hns := nodup_sort hn
  have hx := logApply_ok h1 h2
  obtain ⟨x, hxx⟩ : ∃ x, (runL ns (sortK cs)).1 = x := ⟨_, rfl⟩
  have hvx : validT x = true := by rw [← hxx]; exact runL_valid _ ns h1
  have hmem : ∀ d, d ∈ cs ↔ d ∈ diffL ns x := by
    intro d
    rw [diff_mem h1 hvx, ← mem_sort hn]
    constructor
    · intro hd
      have e1 := run_was (sortK cs) ns h3 hns d hd
      have e2 := runL_in (sortK cs) ns h3 hns d hd
      rw [hxx] at e2
      have hvd := (validC_iff d).1 (((validL_iff _).1 h2).1 d hd)
      refine ⟨by rw [e1, e2]; exact hvd.2.2.2, ?_⟩
      unfold diffC
      rw [e1, e2]
    · rintro ⟨hne, hd⟩
      have : ∃ e ∈ sortK cs, e.p = d.p := Classical.byContradiction (fun hno => hne (by
        have h0 : ∀ e ∈ sortK cs, e.p ≠ d.p := fun e he k => hno ⟨e, he, k⟩
        have h5 := (fold_run (sortK cs) ns h3 d.p).1 (0, 0)
        rw [fold_none _ _ h0] at h5
        injection h5 with h5
        injection h5 with h5
        injection h5 with _ h5
        rw [h5, hxx]))
      obtain ⟨e, he, hep⟩ := this
      have e1 := run_was (sortK cs) ns h3 hns e he
      have e2 := runL_in (sortK cs) ns h3 hns e he
      rw [hxx] at e2
      have : e = d := by
        rw [hd]
        unfold diffC
        rw [← hep, e1, e2]
      rw [← this]
      exact he
  have hgo := order_go h1 hvx cs [] ns hO hn hmem h1 (fun q ⟨d, hd, _⟩ => by cases hd) (fun q _ => rfl) hl
  have hl2 : (sortK cs).length = cs.length := sort_length hn
  refine ⟨?_, ?_⟩
  · rw [logApply_pair h1 hv hgo, hx, hxx]
  · rw [hx, h3]

end Go.Proofs.YtpjoahddbdmbpaaGreatDoor

/-
  PLAIN MATHEMATICS OF ORDERS, second part: neighbours exchanged (P73, P74); orders counted (P75, P76).
-/
namespace Go.Proofs.YtpjoahddbdmbpaaGreatDoor

theorem atK_append_left {a b : List Cmd} {k : Nat} (h : k < a.length) : atK (a ++ b) k = atK a k := by
  unfold atK
  rw [List.getD_eq_getElem?_getD, List.getD_eq_getElem?_getD, List.getElem?_append_left h]
theorem atK_append_right {a b : List Cmd} {k : Nat} (h : a.length ≤ k) : atK (a ++ b) k = atK b (k - a.length) := by
  unfold atK
  rw [List.getD_eq_getElem?_getD, List.getD_eq_getElem?_getD, List.getElem?_append_right h]

theorem atK_ext {a b : List Cmd} (hl : a.length = b.length) (h : ∀ k, k < a.length → atK a k = atK b k) : a = b := by
  refine List.ext_getElem? (fun k => ?_)
  by_cases hk : k < a.length
  · rw [atK_get hk, atK_get (by omega), h k hk]
  · rw [List.getElem?_eq_none (by omega), List.getElem?_eq_none (by omega)]

/-- Two neighbours exchanged. -/
theorem swap_adj (pre suf : List Cmd) (c d : Cmd) : swapK (pre ++ c :: d :: suf) pre.length (pre.length + 1) = pre ++ d :: c :: suf := by
  refine atK_ext (by rw [swapK_length]; simp) (fun k hk => ?_)
  rw [swapK_length] at hk
  have h0 : atK (pre ++ c :: d :: suf) pre.length = c := by rw [atK_append_right (Nat.le_refl _), Nat.sub_self]; rfl
  have h1 : atK (pre ++ c :: d :: suf) (pre.length + 1) = d := by rw [atK_append_right (by omega), show pre.length + 1 - pre.length = 1 by omega]; rfl
  rw [atK_swap (by simp) (by simp), h0, h1]
  by_cases e1 : k = pre.length + 1
  · subst e1
    rw [if_pos rfl, atK_append_right (by omega), show pre.length + 1 - pre.length = 1 by omega]
    rfl
  · rw [if_neg e1]
    by_cases e2 : k = pre.length
    · subst e2
      rw [if_pos rfl, atK_append_right (Nat.le_refl _), Nat.sub_self]
      rfl
    · rw [if_neg e2]
      by_cases e3 : k < pre.length
      · rw [atK_append_left e3, atK_append_left e3]
      · rw [atK_append_right (by omega), atK_append_right (by omega)]
        obtain ⟨j, hj⟩ : ∃ j, k - pre.length = j + 2 := ⟨k - pre.length - 2, by omega⟩
        rw [hj]
        rfl

theorem split_adj {cs : List Cmd} {k : Nat} (hk : k + 1 < cs.length) : ∃ pre suf, cs = pre ++ atK cs k :: atK cs (k + 1) :: suf ∧ pre.length = k := by
  refine ⟨cs.take k, cs.drop (k + 2), ?_, by rw [List.length_take]; omega⟩
  conv => lhs; rw [← List.take_append_drop k cs]
  congr 1
  rw [List.drop_eq_getElem_cons (by omega), List.drop_eq_getElem_cons (by omega)]
  have e1 := atK_get (zs := cs) (k := k) (by omega)
  have e2 := atK_get (zs := cs) (k := k + 1) hk
  rw [List.getElem?_eq_getElem (by omega)] at e1
  rw [List.getElem?_eq_getElem hk] at e2
  rw [Option.some.inj e1, Option.some.inj e2]

/-- spec.OrderSwap. -/
def orderSwap (cs : List Cmd) (k : Int) : List Cmd × Bool :=
  if orderV cs = true ∧ 0 ≤ k ∧ k + 2 ≤ cs.length then (if fitsB (swapK cs k.toNat (k.toNat + 1)) = true then (swapK cs k.toNat (k.toNat + 1), true) else ([], false)) else ([], false)

theorem fits_swap {pre suf : List Cmd} {c d : Cmd} (h : FitsO (pre ++ c :: d :: suf)) : FitsO (pre ++ d :: c :: suf) ↔ mustC c d = false := by
  unfold FitsO at h ⊢
  rw [List.pairwise_append] at h ⊢
  obtain ⟨h1, h2, h3⟩ := h
  rw [List.pairwise_cons, List.pairwise_cons] at h2
  rw [List.pairwise_cons, List.pairwise_cons]
  obtain ⟨h4, h5, h6⟩ := h2
  constructor
  · rintro ⟨_, ⟨g, _⟩, _⟩
    exact g c (by simp)
  · intro hm
    refine ⟨h1, ⟨fun x hx => ?_, fun x hx => h4 x (List.mem_cons_of_mem _ hx), h6⟩, fun x hx y hy => h3 x hx y ?_⟩
    · rcases List.mem_cons.1 hx with rfl | hx
      · exact hm
      · exact h5 x hx
    · rcases List.mem_cons.1 hy with rfl | hy
      · simp
      · rcases List.mem_cons.1 hy with rfl | hy
        · simp
        · simp [hy]

theorem validL_perm {cs ds : List Cmd} (h : cs.Perm ds) (hv : validL cs = true) : validL ds = true := by
  obtain ⟨h1, h2⟩ := (validL_iff cs).1 hv
  exact (validL_iff ds).2 ⟨fun c hc => h1 c (h.mem_iff.2 hc), by rw [← h.length_eq]; exact h2⟩

theorem order_perm {cs ds : List Cmd} (h : cs.Perm ds) (hv : orderV cs = true) (hf : FitsO ds) : orderV ds = true := by
  obtain ⟨h1, h2, _⟩ := orderV_iff.1 hv
  exact orderV_iff.2 ⟨(h.map Cmd.p).nodup_iff.1 h1, validL_perm h h2, hf⟩

/-- P73. -/
theorem swap_told {cs out : List Cmd} {k : Int} (h : orderSwap cs k = (out, true)) : ∃ n : Nat, k = n ∧ n + 1 < cs.length ∧ out.length = cs.length ∧ out = swapK cs n (n + 1) ∧ orderSwap out k = (cs, true) ∧ orderV out = true ∧ mustP (atK cs n) (atK cs (n + 1)) = false ∧ orderV cs = true := by
  unfold orderSwap at h
  split at h
  · rename_i hc
    obtain ⟨hv, hk0, hk1⟩ := hc
    obtain ⟨n, rfl⟩ := Int.eq_ofNat_of_zero_le hk0
    have hkn : n + 1 < cs.length := by omega
    simp only [Int.toNat_natCast] at h
    split at h
    · rename_i hf
      injection h with h _
      subst h
      obtain ⟨pre, suf, hcs, hp⟩ := split_adj hkn
      obtain ⟨c, hcc⟩ : ∃ c, atK cs n = c := ⟨_, rfl⟩
      obtain ⟨d, hdd⟩ : ∃ d, atK cs (n + 1) = d := ⟨_, rfl⟩
      rw [hcc, hdd] at hcs
      have hsw : swapK cs n (n + 1) = pre ++ d :: c :: suf := by rw [hcs, ← hp]; exact swap_adj pre suf c d
      have hback : swapK (swapK cs n (n + 1)) n (n + 1) = cs := by rw [hsw, hcs, ← hp]; exact swap_adj pre suf d c
      have hO := (orderV_iff.1 hv).2.2
      have hfO := (fitsB_iff _).1 hf
      have hvo : orderV (swapK cs n (n + 1)) = true := order_perm (swapK_perm (by omega) hkn).symm hv hfO
      refine ⟨n, rfl, hkn, swapK_length _ _ _, rfl, ?_, hvo, ?_, hv⟩
      · unfold orderSwap
        rw [if_pos ⟨hvo, hk0, by rw [swapK_length]; exact hk1⟩, Int.toNat_natCast, hback, if_pos ((fitsB_iff _).2 hO)]
      · rw [hcs] at hO
        rw [hsw] at hfO
        have := (fits_swap hO).1 hfO
        rw [hcc, hdd]
        unfold mustP
        rw [this]
        simp
    · injection h with _ h; cases h
  · injection h with _ h; cases h

/-- P74. -/
theorem swap_when {cs : List Cmd} {n : Nat} (hv : orderV cs = true) (hn : n + 1 < cs.length) : (orderSwap cs n).2 = !mustP (atK cs n) (atK cs (n + 1)) := by
  unfold orderSwap
  rw [if_pos ⟨hv, by omega, by omega⟩, Int.toNat_natCast]
  obtain ⟨h1, h2, hO⟩ := orderV_iff.1 hv
  obtain ⟨pre, suf, hcs, hp⟩ := split_adj hn
  obtain ⟨c, hcc⟩ : ∃ c, atK cs n = c := ⟨_, rfl⟩
  obtain ⟨d, hdd⟩ : ∃ d, atK cs (n + 1) = d := ⟨_, rfl⟩
  have hvc := ((validL_iff cs).1 h2).1 c (by rw [← hcc]; exact atK_mem (by omega))
  have hvd := ((validL_iff cs).1 h2).1 d (by rw [← hdd]; exact atK_mem hn)
  rw [hcc, hdd] at hcs ⊢
  have hsw : swapK cs n (n + 1) = pre ++ d :: c :: suf := by rw [hcs, ← hp]; exact swap_adj pre suf c d
  rw [hcs] at hO
  rw [hsw]
  have hiff := fits_swap hO
  rw [← fitsB_iff] at hiff
  unfold mustP
  rw [hvc, hvd]
  cases hf : fitsB (pre ++ d :: c :: suf) with
  | true =>
    rw [if_pos rfl, hiff.1 hf]
    rfl
  | false =>
    rw [if_neg (by decide)]
    cases hm : mustC c d with
    | true => rfl
    | false => rw [hiff.2 hm] at hf; cases hf

/-! ### counting -/
/-- spec.l15Free. -/
def freeK (cs : List Cmd) (used : List Bool) (k : Nat) : Bool := (List.range cs.length).all (fun i => used.getD i false || !mustC (atK cs i) (atK cs k)) && !used.getD k false
/-- spec.l15Count. -/
def countK (cs : List Cmd) : List Bool → Nat → Nat
  | _, 0 => 1
  | used, left + 1 => ((List.range cs.length).map (fun k => if freeK cs used k = true then countK cs (used.set k true) left else 0)).sum
/-- spec.OrdersCount. -/
def ordersCount (cs : List Cmd) : Int := if onceV cs = true ∧ cs.length ≤ 6 then (countK cs (List.replicate cs.length false) cs.length : Nat) else -1

/-- How many are left. -/
def leftK (used : List Bool) (n : Nat) : Nat := ((List.range n).map (fun k => if used.getD k false = true then 0 else 1)).sum

theorem sum_le {f g : Nat → Nat} : ∀ (l : List Nat), (∀ k ∈ l, f k ≤ g k) → (l.map f).sum ≤ (l.map g).sum
  | [], _ => Nat.le_refl _
  | a :: l, h => by
    rw [List.map_cons, List.sum_cons, List.map_cons, List.sum_cons]
    have := sum_le l (fun k hk => h k (List.mem_cons_of_mem _ hk))
    have := h a (by simp)
    omega
theorem sum_eq {f g : Nat → Nat} (l : List Nat) (h : ∀ k ∈ l, f k = g k) : (l.map f).sum = (l.map g).sum := by
  rw [List.map_congr_left h]
theorem sum_mul {f : Nat → Nat} (c : Nat) : ∀ (l : List Nat), (l.map (fun k => f k * c)).sum = (l.map f).sum * c
  | [] => by simp
  | a :: l => by rw [List.map_cons, List.sum_cons, List.map_cons, List.sum_cons, sum_mul c l, Nat.add_mul]
theorem sum_one {f : Nat → Nat} : ∀ (l : List Nat) (k : Nat), k ∈ l → f k ≤ (l.map f).sum
  | a :: l, k, h => by
    rw [List.map_cons, List.sum_cons]
    rcases List.mem_cons.1 h with rfl | h
    · omega
    · have := sum_one (f := f) l k h; omega

theorem getD_set {used : List Bool} {k j : Nat} (hk : k < used.length) : (used.set k true).getD j false = if j = k then true else used.getD j false := by
  rw [List.getD_eq_getElem?_getD, List.getElem?_set, List.getD_eq_getElem?_getD]
  by_cases h : k = j
  · subst h
    simp [hk]
  · rw [if_neg h, if_neg (fun e => h e.symm)]

theorem left_set {used : List Bool} {n k : Nat} (hl : used.length = n) (hk : k < n) (hu : used.getD k false = false) : leftK (used.set k true) n + 1 = leftK used n := by
  have go : ∀ m, m ≤ n → ((List.range m).map (fun j => if (used.set k true).getD j false = true then 0 else 1)).sum + (if k < m then 1 else 0) = ((List.range m).map (fun j => if used.getD j false = true then 0 else 1)).sum := by
    intro m
    induction m with
    | zero => intro _; simp
    | succ m ih =>
      intro hm
      have ih := ih (by omega)
      rw [List.range_succ, List.map_append, List.map_append, List.sum_append, List.sum_append]
      simp only [List.map_cons, List.map_nil, List.sum_cons, List.sum_nil]
      rw [getD_set (by omega)]
      generalize ((List.range m).map (fun j => if (used.set k true).getD j false = true then 0 else 1)).sum = s1 at ih ⊢
      generalize ((List.range m).map (fun j => if used.getD j false = true then 0 else 1)).sum = s2 at ih ⊢
      by_cases h : m = k
      · subst h
        simp only [Nat.lt_irrefl, if_false] at ih
        simp only [hu, if_true, Nat.lt_succ_self, Bool.false_eq_true, if_false]
        omega
      · simp only [if_neg h]
        by_cases h2 : k < m
        · simp only [if_pos h2] at ih
          simp only [if_pos (show k < m + 1 by omega)]
          omega
        · simp only [if_neg h2] at ih
          simp only [if_neg (show ¬ k < m + 1 by omega)]
          omega
  have := go n (Nat.le_refl _)
  rw [if_pos hk] at this
  exact this

/-- The factorial. -/
def facK : Nat → Nat
  | 0 => 1
  | n + 1 => (n + 1) * facK n

/-- P75, above. -/
theorem count_le (cs : List Cmd) : ∀ (left : Nat) (used : List Bool), used.length = cs.length → leftK used cs.length = left → countK cs used left ≤ facK left
  | 0, _, _, _ => Nat.le_refl _
  | left + 1, used, hl, h => by
    unfold countK
    have h1 := sum_le (f := fun k => if freeK cs used k = true then countK cs (used.set k true) left else 0) (g := fun k => (if used.getD k false = true then 0 else 1) * facK left) (List.range cs.length) (fun k hk => by
      have hk := List.mem_range.1 hk
      by_cases hf : freeK cs used k = true
      · have hu : used.getD k false = false := by
          unfold freeK at hf
          rw [Bool.and_eq_true] at hf
          simpa using hf.2
        have := left_set hl hk hu
        have hc := count_le cs left (used.set k true) (by simpa using hl) (by omega)
        simp only [if_pos hf, hu]
        rw [if_neg (by decide), Nat.one_mul]
        exact hc
      · simp only [if_neg hf]
        exact Nat.zero_le _)
    rw [sum_mul] at h1
    have h2 : ((List.range cs.length).map (fun k => if used.getD k false = true then 0 else 1)).sum = left + 1 := h
    rw [h2] at h1
    exact h1

theorem leftK_pos : ∀ (n : Nat) (used : List Bool), 0 < leftK used n → ∃ k, k < n ∧ used.getD k false = false ∧ ∀ j, j < k → used.getD j false = true := by
  intro n used
  induction n with
  | zero => intro h; simp [leftK] at h
  | succ n ih =>
    intro h
    by_cases h0 : 0 < leftK used n
    · obtain ⟨k, h1, h2, h3⟩ := ih h0
      exact ⟨k, by omega, h2, h3⟩
    · have hz : leftK used n = 0 := by omega
      have hall : ∀ j, j < n → used.getD j false = true := by
        intro j hj
        cases hu : used.getD j false with
        | true => rfl
        | false =>
          have := sum_one (f := fun k => if used.getD k false = true then 0 else 1) (List.range n) j (List.mem_range.2 hj)
          simp only [hu] at this
          rw [if_neg (by decide)] at this
          unfold leftK at hz
          omega
      refine ⟨n, by omega, ?_, hall⟩
      unfold leftK at h hz
      rw [List.range_succ, List.map_append, List.sum_append, hz] at h
      simp only [List.map_cons, List.map_nil, List.sum_cons, List.sum_nil] at h
      cases hu : used.getD n false with
      | false => rfl
      | true => rw [hu, if_pos rfl] at h; omega

theorem must_self (c : Cmd) : mustC c c = false := by
  unfold mustC l1uB
  cases h1 : (c.p.toList == [47]) <;> simp

/-- P75, below. -/
theorem count_ge {cs : List Cmd} (h : FitsO cs) : ∀ (left : Nat) (used : List Bool), used.length = cs.length → leftK used cs.length = left → 1 ≤ countK cs used left
  | 0, _, _, _ => Nat.le_refl _
  | left + 1, used, hl, hh => by
    obtain ⟨k, hk, hu, hj⟩ := leftK_pos cs.length used (by omega)
    have hf : freeK cs used k = true := by
      unfold freeK
      rw [Bool.and_eq_true, List.all_eq_true, hu]
      refine ⟨fun i hi => ?_, rfl⟩
      have hi := List.mem_range.1 hi
      by_cases h1 : i < k
      · rw [hj i h1]; rfl
      · by_cases h2 : i = k
        · subst h2
          rw [must_self]
          simp
        · have := List.pairwise_iff_getElem.1 h k i hk hi (by omega)
          have e1 := atK_get (zs := cs) hk
          have e2 := atK_get (zs := cs) hi
          rw [List.getElem?_eq_getElem hk] at e1
          rw [List.getElem?_eq_getElem hi] at e2
          rw [Option.some.inj e1, Option.some.inj e2] at this
          rw [this]
          simp
    have := left_set hl hk hu
    have hc := count_ge h left (used.set k true) (by simpa using hl) (by omega)
    unfold countK
    have h1 := sum_one (f := fun k => if freeK cs used k = true then countK cs (used.set k true) left else 0) (List.range cs.length) k (List.mem_range.2 hk)
    simp only [if_pos hf] at h1
    omega

theorem left_all (n : Nat) : leftK (List.replicate n false) n = n := by
  unfold leftK
  rw [sum_eq (g := fun _ => 1) _ (fun k hk => by
    have hk := List.mem_range.1 hk
    rw [List.getD_eq_getElem?_getD, List.getElem?_replicate, if_pos hk]
    rfl)]
  induction n with
  | zero => rfl
  | succ n ih => rw [List.range_succ, List.map_append, List.sum_append, ih]; rfl

theorem atK_reverse {cs : List Cmd} {k : Nat} (hk : k < cs.length) : atK cs.reverse k = atK cs (cs.length - 1 - k) := by
  unfold atK
  rw [List.getD_eq_getElem?_getD, List.getD_eq_getElem?_getD, List.getElem?_reverse hk]
theorem getD_reverse {us : List Bool} {k : Nat} (hk : k < us.length) : us.reverse.getD k false = us.getD (us.length - 1 - k) false := by
  rw [List.getD_eq_getElem?_getD, List.getD_eq_getElem?_getD, List.getElem?_reverse hk]

theorem range_rev (n : Nat) (f : Nat → Nat) : ((List.range n).map (fun k => f (n - 1 - k))).sum = ((List.range n).map f).sum := by
  have h : (List.range n).map (fun k => f (n - 1 - k)) = ((List.range n).map f).reverse := by
    refine List.ext_getElem? (fun k => ?_)
    by_cases hk : k < n
    · rw [List.getElem?_reverse (by simpa using hk), List.getElem?_map, List.getElem?_map, List.getElem?_range hk, List.length_map, List.length_range, List.getElem?_range (by omega)]
      rfl
    · rw [List.getElem?_eq_none (by simpa using hk), List.getElem?_eq_none (by simpa using hk)]
  rw [h, List.sum_reverse]

theorem free_rev {cs : List Cmd} {us : List Bool} (hl : us.length = cs.length) {k : Nat} (hk : k < cs.length) : freeK cs.reverse us.reverse k = freeK cs us (cs.length - 1 - k) := by
  unfold freeK
  rw [getD_reverse (by omega), hl, atK_reverse hk, List.length_reverse]
  congr 1
  rw [Bool.eq_iff_iff, List.all_eq_true, List.all_eq_true]
  constructor
  · intro h i hi
    have hi := List.mem_range.1 hi
    have := h (cs.length - 1 - i) (List.mem_range.2 (by omega))
    rw [getD_reverse (by omega), hl, atK_reverse (by omega), show cs.length - 1 - (cs.length - 1 - i) = i by omega] at this
    exact this
  · intro h i hi
    have hi := List.mem_range.1 hi
    rw [getD_reverse (by omega), hl, atK_reverse hi]
    exact h _ (List.mem_range.2 (by omega))

theorem set_rev {us : List Bool} {k : Nat} (hk : k < us.length) : us.reverse.set k true = (us.set (us.length - 1 - k) true).reverse := by
  refine List.ext_getElem? (fun j => ?_)
  by_cases hj : j < us.length
  · rw [List.getElem?_reverse (by simpa using hj), List.getElem?_set, List.getElem?_set, List.length_set, List.length_reverse, List.getElem?_reverse hj]
    by_cases h : k = j
    · subst h
      rw [if_pos rfl, if_pos rfl, if_pos hk, if_pos (show us.length - 1 - k < us.length by omega)]
    · rw [if_neg h, if_neg (by omega)]
  · rw [List.getElem?_eq_none (by simpa using hj), List.getElem?_eq_none (by simpa using hj)]

/-- P76. -/
theorem count_rev (cs : List Cmd) : ∀ (left : Nat) (us : List Bool), us.length = cs.length → countK cs.reverse us.reverse left = countK cs us left
  | 0, _, _ => rfl
  | left + 1, us, hl => by
    unfold countK
    rw [List.length_reverse, ← range_rev cs.length (fun k => if freeK cs us k = true then countK cs (us.set k true) left else 0)]
    refine sum_eq _ (fun k hk => ?_)
    have hk := List.mem_range.1 hk
    rw [free_rev hl hk, set_rev (by omega), count_rev cs left _ (by simpa using hl), hl]

theorem once_rev {cs : List Cmd} (h : onceV cs = true) : onceV cs.reverse = true := by
  obtain ⟨h1, h2⟩ := onceV_iff.1 h
  exact onceV_iff.2 ⟨by rw [List.map_reverse]; exact (List.reverse_perm _).nodup_iff.2 h1, validL_perm (List.reverse_perm cs).symm h2⟩

theorem orders_rev {cs : List Cmd} (h : ordersCount cs ≠ -1) : ordersCount cs.reverse = ordersCount cs := by
  unfold ordersCount at h ⊢
  by_cases hc : onceV cs = true ∧ cs.length ≤ 6
  · rw [if_pos hc, if_pos ⟨once_rev hc.1, by rw [List.length_reverse]; exact hc.2⟩, List.length_reverse]
    have := count_rev cs cs.length (List.replicate cs.length false) (by simp)
    rw [List.reverse_replicate] at this
    rw [this]
  · rw [if_neg hc] at h
    exact absurd rfl h

/-- P75. -/
theorem orders_bound {cs : List Cmd} (h : ordersCount cs ≠ -1) : 0 ≤ ordersCount cs ∧ ordersCount cs ≤ (facK cs.length : Nat) ∧ cs.length ≤ 6 ∧ (orderV cs = true → 1 ≤ ordersCount cs) := by
  unfold ordersCount at h ⊢
  by_cases hc : onceV cs = true ∧ cs.length ≤ 6
  · rw [if_pos hc]
    have h1 := count_le cs cs.length (List.replicate cs.length false) (by simp) (left_all _)
    refine ⟨by omega, by omega, hc.2, fun hv => ?_⟩
    have := count_ge (orderV_iff.1 hv).2.2 cs.length (List.replicate cs.length false) (by simp) (left_all _)
    omega
  · rw [if_neg hc] at h
    exact absurd rfl h

end Go.Proofs.YtpjoahddbdmbpaaGreatDoor

/-
  PLAIN MATHEMATICS OF ORDERS, third part: sets of commands as the bits of a number; orders counted set by set.
-/
namespace Go.Proofs.YtpjoahddbdmbpaaGreatDoor

/-! ### sets as bits -/
/-- Of the first j commands, those that must precede a command. -/
def needTo (cs : List Cmd) (k : Nat) : Nat → Nat
  | 0 => 0
  | j + 1 => if mustP (atK cs j) (atK cs k) = true then needTo cs k j ||| 2 ^ j else needTo cs k j

theorem needTo_bit (cs : List Cmd) (k : Nat) : ∀ j i, (needTo cs k j).testBit i = (decide (i < j) && mustP (atK cs i) (atK cs k))
  | 0, i => by simp [needTo]
  | j + 1, i => by
    unfold needTo
    by_cases e : i = j
    · subst e
      cases hm : mustP (atK cs i) (atK cs k) with
      | true => rw [if_pos rfl, Nat.testBit_or, Nat.testBit_two_pow]; simp
      | false => rw [if_neg (by decide), needTo_bit cs k i i]; simp
    · have hd : decide (i < j + 1) = decide (i < j) := decide_eq_decide.2 (by omega)
      rw [hd]
      split
      · rw [Nat.testBit_or, Nat.testBit_two_pow, needTo_bit cs k j i, decide_eq_false (show ¬ j = i from fun h => e h.symm), Bool.or_false]
      · exact needTo_bit cs k j i

theorem needTo_lt (cs : List Cmd) (k : Nat) : ∀ j, needTo cs k j < 2 ^ j
  | 0 => by simp [needTo]
  | j + 1 => by
    unfold needTo
    have h := needTo_lt cs k j
    have h2 : 2 ^ j < 2 ^ (j + 1) := Nat.pow_lt_pow_right (by omega) (by omega)
    split
    · exact Nat.or_lt_two_pow (by omega) h2
    · omega

theorem pow_lt32 {j : Nat} (h : j ≤ 20) : 2 ^ j ≤ 1048576 := Nat.pow_le_pow_right (n := 2) (by omega) h

theorem hasAll_iff {a s : Nat} (hs : s < 4294967296) (ha : a < 4294967296) : a &&& (4294967295 - s) = 0 ↔ ∀ i, a.testBit i = true → s.testBit i = true := by
  have hbit : ∀ i, (a &&& (4294967295 - s)).testBit i = (a.testBit i && (decide (i < 32) && !s.testBit i)) := by
    intro i
    rw [Nat.testBit_and]
    congr 1
    have := Nat.testBit_two_pow_sub_succ (n := 32) (x := s) (by simpa using hs) i
    rw [← this]
    congr 1
    omega
  constructor
  · intro h i hi
    have h2 := hbit i
    rw [h, Nat.zero_testBit, hi, Bool.true_and] at h2
    have hi32 : i < 32 := by
      apply Classical.byContradiction
      intro h3
      have := Nat.testBit_lt_two_pow (x := a) (i := i) (Nat.lt_of_lt_of_le ha (Nat.pow_le_pow_right (show 0 < 2 by omega) (show 32 ≤ i by omega)))
      rw [this] at hi
      cases hi
    rw [decide_eq_true hi32, Bool.true_and] at h2
    simpa using h2.symm
  · intro h
    apply Nat.eq_of_testBit_eq
    intro i
    rw [hbit i, Nat.zero_testBit]
    cases hi : a.testBit i with
    | false => rfl
    | true => rw [h i hi]; simp

theorem has_iff (s k : Nat) : (s / 2 ^ k) &&& 1 = if s.testBit k = true then 1 else 0 := by
  rw [Nat.and_one_is_mod, Nat.testBit_eq_decide_div_mod_eq]
  by_cases h : s / 2 ^ k % 2 = 1
  · rw [h, if_pos (by simp)]
  · rw [if_neg (by simpa using h)]
    omega

/-! ### possible orders, by bits -/
theorem or_pow (k : Nat) : (2 ^ k - 1) ||| 2 ^ k = 2 ^ (k + 1) - 1 := by
  apply Nat.eq_of_testBit_eq
  intro i
  rw [Nat.testBit_or, Nat.testBit_two_pow_sub_one, Nat.testBit_two_pow_sub_one, Nat.testBit_two_pow, Bool.eq_iff_iff]
  simp
  omega

theorem must_valid {cs : List Cmd} (hv : ∀ c ∈ cs, validC c = true) {i k : Nat} (hi : i < cs.length) (hk : k < cs.length) : mustP (atK cs i) (atK cs k) = mustC (atK cs i) (atK cs k) := by
  unfold mustP
  rw [hv _ (atK_mem hi), hv _ (atK_mem hk)]
  rfl

theorem fits_bits {cs : List Cmd} (hv : ∀ c ∈ cs, validC c = true) : fitsB cs = true ↔ ∀ k, k < cs.length → ∀ i, (needTo cs k cs.length).testBit i = true → (2 ^ k - 1).testBit i = true := by
  rw [fitsB_iff, FitsO, List.pairwise_iff_getElem]
  have hget : ∀ i (hi : i < cs.length), cs[i] = atK cs i := fun i hi => by
    have := atK_get (zs := cs) hi
    rw [List.getElem?_eq_getElem hi] at this
    exact Option.some.inj this
  constructor
  · intro h k hk i hi
    rw [needTo_bit, Bool.and_eq_true, decide_eq_true_eq] at hi
    obtain ⟨h1, h2⟩ := hi
    rw [Nat.testBit_two_pow_sub_one, decide_eq_true_eq]
    rw [must_valid hv h1 hk] at h2
    apply Classical.byContradiction
    intro h3
    by_cases e : i = k
    · subst e; rw [must_self] at h2; cases h2
    · have := h k i hk h1 (by omega)
      rw [hget k hk, hget i h1, h2] at this
      cases this
  · intro h k i hk hi hlt
    rw [hget k hk, hget i hi]
    cases hm : mustC (atK cs i) (atK cs k) with
    | false => rfl
    | true =>
      have := h k hk i (by rw [needTo_bit, must_valid hv hi hk, hm, decide_eq_true hi]; rfl)
      rw [Nat.testBit_two_pow_sub_one, decide_eq_true_eq] at this
      omega

/-! ### counting, set by set -/
/-- A set as the model's list of marks. -/
def usedK (n S : Nat) : List Bool := (List.range n).map (fun i => S.testBit i)
theorem usedK_length (n S : Nat) : (usedK n S).length = n := by simp [usedK]
theorem usedK_get {n S i : Nat} (h : i < n) : (usedK n S).getD i false = S.testBit i := by
  unfold usedK
  rw [List.getD_eq_getElem?_getD, List.getElem?_map, List.getElem?_range h]
  rfl
theorem usedK_zero (n : Nat) : usedK n 0 = List.replicate n false := by
  refine List.ext_getElem? (fun i => ?_)
  by_cases h : i < n
  · unfold usedK
    rw [List.getElem?_map, List.getElem?_range h, List.getElem?_replicate, if_pos h]
    simp
  · rw [List.getElem?_eq_none (by rw [usedK_length]; omega), List.getElem?_eq_none (by simp; omega)]
theorem usedK_or {n S k : Nat} (hk : k < n) : usedK n (S ||| 2 ^ k) = (usedK n S).set k true := by
  refine List.ext_getElem? (fun i => ?_)
  by_cases h : i < n
  · rw [List.getElem?_set, usedK_length]
    unfold usedK
    rw [List.getElem?_map, List.getElem?_range h, List.getElem?_map, List.getElem?_range h]
    by_cases e : k = i
    · subst e
      rw [if_pos rfl, if_pos hk]
      simp [Nat.testBit_or, Nat.testBit_two_pow]
    · rw [if_neg e]
      simp [Nat.testBit_or, Nat.testBit_two_pow, e]
  · rw [List.getElem?_eq_none (by rw [usedK_length]; omega), List.getElem?_eq_none (by rw [List.length_set, usedK_length]; omega)]

theorem free_bits {cs : List Cmd} (hv : ∀ c ∈ cs, validC c = true) {S k : Nat} (hk : k < cs.length) : freeK cs (usedK cs.length S) k = true ↔ S.testBit k = false ∧ ∀ i, (needTo cs k cs.length).testBit i = true → S.testBit i = true := by
  unfold freeK
  rw [Bool.and_eq_true, usedK_get hk, List.all_eq_true]
  constructor
  · rintro ⟨h1, h2⟩
    refine ⟨by simpa using h2, fun i hi => ?_⟩
    rw [needTo_bit, Bool.and_eq_true, decide_eq_true_eq] at hi
    have := h1 i (List.mem_range.2 hi.1)
    rw [usedK_get hi.1, ← must_valid hv hi.1 hk, hi.2] at this
    simpa using this
  · rintro ⟨h1, h2⟩
    refine ⟨fun i hi => ?_, by rw [h1]; rfl⟩
    have hi := List.mem_range.1 hi
    rw [usedK_get hi, ← must_valid hv hi hk]
    cases hm : mustP (atK cs i) (atK cs k) with
    | false => simp
    | true => rw [h2 i (by rw [needTo_bit, hm, decide_eq_true hi]; rfl)]; rfl

def stepT (cs : List Cmd) (S k : Nat) (t : List Nat) : List Nat :=
  if freeK cs (usedK cs.length S) k = true then t.set (S ||| 2 ^ k) (t.getD (S ||| 2 ^ k) 0 + t.getD S 0) else t
def rowT (cs : List Cmd) (S : Nat) (t : List Nat) : Nat → List Nat
  | 0 => t
  | j + 1 => stepT cs S j (rowT cs S t j)
def tab0 (cs : List Cmd) : List Nat := (List.replicate (2 ^ cs.length) 0).set 0 1
def tabT (cs : List Cmd) : Nat → List Nat
  | 0 => tab0 cs
  | m + 1 => rowT cs m (tabT cs m) cs.length

theorem sum_point {f g : Nat → Nat} {x d : Nat} (h : ∀ k, k ≠ x → f k = g k) (hx : f x = g x + d) : ∀ m, ((List.range m).map f).sum = ((List.range m).map g).sum + (if x < m then d else 0)
  | 0 => by simp
  | m + 1 => by
    rw [List.range_succ, List.map_append, List.map_append, List.sum_append, List.sum_append, sum_point h hx m]
    simp only [List.map_cons, List.map_nil, List.sum_cons, List.sum_nil]
    by_cases e : m = x
    · subst e
      rw [hx, if_neg (Nat.lt_irrefl _), if_pos (Nat.lt_succ_self _)]
      omega
    · rw [h m e]
      by_cases e2 : x < m
      · rw [if_pos e2, if_pos (by omega)]; omega
      · rw [if_neg e2, if_neg (by omega)]; omega

/-- What the sets from a number on weigh. -/
def wsum (N lo : Nat) (t : List Nat) (w : Nat → Nat) : Nat := ((List.range N).map (fun S => if lo ≤ S then t.getD S 0 * w S else 0)).sum

theorem getD_setN {t : List Nat} {x j v : Nat} (hx : x < t.length) : (t.set x v).getD j 0 = if j = x then v else t.getD j 0 := by
  rw [List.getD_eq_getElem?_getD, List.getElem?_set, List.getD_eq_getElem?_getD]
  by_cases h : x = j
  · subst h
    simp [hx]
  · rw [if_neg h, if_neg (fun e => h e.symm)]

theorem wsum_set {N lo x d : Nat} {t : List Nat} {w : Nat → Nat} (hx : x < N) (hl : t.length = N) (hlo : lo ≤ x) : wsum N lo (t.set x (t.getD x 0 + d)) w = wsum N lo t w + d * w x := by
  unfold wsum
  rw [sum_point (x := x) (d := d * w x) (g := fun S => if lo ≤ S then t.getD S 0 * w S else 0) (fun k hk => by
    rw [getD_setN (by omega), if_neg hk]) (by
    rw [getD_setN (by omega), if_pos rfl, if_pos hlo, if_pos hlo, Nat.add_mul]) N, if_pos hx]

theorem wsum_split {N lo : Nat} {t : List Nat} {w : Nat → Nat} (h : lo < N) : wsum N lo t w = wsum N (lo + 1) t w + t.getD lo 0 * w lo := by
  unfold wsum
  rw [sum_point (x := lo) (d := t.getD lo 0 * w lo) (g := fun S => if lo + 1 ≤ S then t.getD S 0 * w S else 0) (fun k hk => by
    by_cases e : lo ≤ k
    · rw [if_pos e, if_pos (by omega)]
    · rw [if_neg e, if_neg (by omega)]) (by
    rw [if_pos (Nat.le_refl _), if_neg (by omega)]; omega) N, if_pos h]

theorem wsum_none {N lo : Nat} {t : List Nat} {w : Nat → Nat} (h : N ≤ lo) : wsum N lo t w = 0 := by
  unfold wsum
  rw [sum_eq (g := fun _ => 0 * 1) _ (fun k hk => by
    have := List.mem_range.1 hk
    rw [if_neg (by omega)])]
  rw [show (fun _ : Nat => 0 * 1) = (fun k => (fun _ => 0) k * 1) from rfl, sum_mul]
  induction N with
  | zero => rfl
  | succ n ih =>
    have ih := ih (by omega)
    rw [List.range_succ, List.map_append, List.sum_append, Nat.add_mul, ih]
    rfl

theorem wsum_ge {N lo x : Nat} {t : List Nat} {w : Nat → Nat} (hx : x < N) (hlo : lo ≤ x) (hw : 1 ≤ w x) : t.getD x 0 ≤ wsum N lo t w := by
  have := sum_one (f := fun S => if lo ≤ S then t.getD S 0 * w S else 0) (List.range N) x (List.mem_range.2 hx)
  simp only [if_pos hlo] at this
  refine Nat.le_trans ?_ this
  exact Nat.le_mul_of_pos_right _ hw

theorem set_grows {n S k : Nat} (hS : S < 2 ^ n) (hk : k < n) (hb : S.testBit k = false) : S < S ||| 2 ^ k ∧ S ||| 2 ^ k < 2 ^ n := by
  refine ⟨Nat.lt_of_le_of_ne Nat.left_le_or (fun e => ?_), Nat.or_lt_two_pow hS (Nat.pow_lt_pow_right (by omega) hk)⟩
  have := congrArg (fun x => Nat.testBit x k) e
  simp only [Nat.testBit_or, Nat.testBit_two_pow, hb] at this
  simp at this

theorem free_bit {cs : List Cmd} {S k : Nat} (hk : k < cs.length) (h : freeK cs (usedK cs.length S) k = true) : S.testBit k = false := by
  unfold freeK at h
  rw [Bool.and_eq_true, usedK_get hk] at h
  simpa using h.2

theorem row_spec {cs : List Cmd} {S : Nat} {t : List Nat} (hS : S < 2 ^ cs.length) (hl : t.length = 2 ^ cs.length) (w : Nat → Nat) : ∀ j, j ≤ cs.length → (rowT cs S t j).length = 2 ^ cs.length ∧ (∀ i, i ≤ S → (rowT cs S t j).getD i 0 = t.getD i 0) ∧
    wsum (2 ^ cs.length) (S + 1) (rowT cs S t j) w = wsum (2 ^ cs.length) (S + 1) t w + t.getD S 0 * ((List.range j).map (fun k => if freeK cs (usedK cs.length S) k = true then w (S ||| 2 ^ k) else 0)).sum
  | 0, _ => ⟨hl, fun _ _ => rfl, by simp [rowT]⟩
  | j + 1, hj => by
    obtain ⟨h1, h2, h3⟩ := row_spec hS hl w j (by omega)
    have hr : ((List.range (j + 1)).map (fun k => if freeK cs (usedK cs.length S) k = true then w (S ||| 2 ^ k) else 0)).sum = ((List.range j).map (fun k => if freeK cs (usedK cs.length S) k = true then w (S ||| 2 ^ k) else 0)).sum + (if freeK cs (usedK cs.length S) j = true then w (S ||| 2 ^ j) else 0) := by
      rw [List.range_succ, List.map_append, List.sum_append]
      simp
    rw [hr, show rowT cs S t (j + 1) = stepT cs S j (rowT cs S t j) from rfl]
    unfold stepT
    by_cases hf : freeK cs (usedK cs.length S) j = true
    · rw [if_pos hf, if_pos hf]
      obtain ⟨g1, g2⟩ := set_grows hS (by omega) (free_bit (by omega) hf)
      refine ⟨by rw [List.length_set]; exact h1, fun i hi => ?_, ?_⟩
      · rw [getD_setN (by rw [h1]; exact g2), if_neg (by omega), h2 i hi]
      · rw [wsum_set g2 h1 (by omega), h3, h2 S (Nat.le_refl _), Nat.mul_add]
        omega
    · rw [if_neg hf, if_neg hf]
      refine ⟨h1, h2, ?_⟩
      rw [h3]
      simp

/-- The orders of what a set leaves. -/
def cntS (cs : List Cmd) (S : Nat) : Nat := countK cs (usedK cs.length S) (leftK (usedK cs.length S) cs.length)
def facS (cs : List Cmd) (S : Nat) : Nat := facK (leftK (usedK cs.length S) cs.length)

theorem left_or {cs : List Cmd} {S k : Nat} (hk : k < cs.length) (hb : S.testBit k = false) : leftK (usedK cs.length (S ||| 2 ^ k)) cs.length + 1 = leftK (usedK cs.length S) cs.length := by
  rw [usedK_or hk]
  exact left_set (usedK_length _ _) hk (by rw [usedK_get hk]; exact hb)

theorem left_pos {n S : Nat} (hS : S + 1 < 2 ^ n) : 0 < leftK (usedK n S) n := by
  apply Classical.byContradiction
  intro h
  have hall : ∀ i, i < n → S.testBit i = true := by
    intro i hi
    cases hu : S.testBit i with
    | true => rfl
    | false =>
      have := sum_one (f := fun k => if (usedK n S).getD k false = true then 0 else 1) (List.range n) i (List.mem_range.2 hi)
      simp only [usedK_get hi, hu] at this
      rw [if_neg (by decide)] at this
      unfold leftK at h
      omega
  have : S = 2 ^ n - 1 := by
    apply Nat.eq_of_testBit_eq
    intro i
    rw [Nat.testBit_two_pow_sub_one]
    by_cases hi : i < n
    · rw [hall i hi, decide_eq_true hi]
    · rw [decide_eq_false hi]
      exact Nat.testBit_lt_two_pow (Nat.lt_of_lt_of_le (by omega : S < 2 ^ n) (Nat.pow_le_pow_right (n := 2) (by omega) (by omega)))
  omega

theorem sum_zero {f : Nat → Nat} : ∀ n, (∀ k, k < n → f k = 0) → ((List.range n).map f).sum = 0
  | 0, _ => rfl
  | n + 1, h => by
    rw [List.range_succ, List.map_append, List.sum_append, sum_zero n (fun k hk => h k (by omega))]
    simp [h n (by omega)]

theorem left_full (n : Nat) : leftK (usedK n (2 ^ n - 1)) n = 0 := by
  unfold leftK
  exact sum_zero n (fun k hk => by rw [usedK_get hk, Nat.testBit_two_pow_sub_one, decide_eq_true hk, if_pos rfl])

theorem cnt_step {cs : List Cmd} {S : Nat} (hS : S + 1 < 2 ^ cs.length) : cntS cs S = ((List.range cs.length).map (fun k => if freeK cs (usedK cs.length S) k = true then cntS cs (S ||| 2 ^ k) else 0)).sum := by
  unfold cntS
  obtain ⟨l, hl⟩ : ∃ l, leftK (usedK cs.length S) cs.length = l + 1 := ⟨leftK (usedK cs.length S) cs.length - 1, by have := left_pos hS; omega⟩
  rw [hl]
  conv => lhs; unfold countK
  refine sum_eq _ (fun k hk => ?_)
  have hk := List.mem_range.1 hk
  by_cases hf : freeK cs (usedK cs.length S) k = true
  · rw [if_pos hf, if_pos hf]
    have h := left_or hk (free_bit hk hf)
    rw [show leftK (usedK cs.length (S ||| 2 ^ k)) cs.length = l by omega, usedK_or hk]
  · rw [if_neg hf, if_neg hf]

theorem fac_pos : ∀ n, 1 ≤ facK n
  | 0 => Nat.le_refl _
  | n + 1 => by
    unfold facK
    have := fac_pos n
    exact Nat.mul_le_mul (show 1 ≤ n + 1 by omega) this

theorem fac_step {cs : List Cmd} {S : Nat} {j : Nat} (hj : j ≤ cs.length) : ((List.range j).map (fun k => if freeK cs (usedK cs.length S) k = true then facS cs (S ||| 2 ^ k) else 0)).sum ≤ facS cs S := by
  have hmono : ∀ j, j ≤ cs.length → ((List.range j).map (fun k => if freeK cs (usedK cs.length S) k = true then facS cs (S ||| 2 ^ k) else 0)).sum ≤ ((List.range cs.length).map (fun k => if freeK cs (usedK cs.length S) k = true then facS cs (S ||| 2 ^ k) else 0)).sum := by
    intro j hj
    obtain ⟨d, hd⟩ : ∃ d, cs.length = j + d := ⟨cs.length - j, by omega⟩
    rw [hd]
    have : ∀ (d : Nat) (f : Nat → Nat), ((List.range j).map f).sum ≤ ((List.range (j + d)).map f).sum := by
      intro d f
      induction d with
      | zero => exact Nat.le_refl _
      | succ d ih => rw [← Nat.add_assoc, List.range_succ, List.map_append, List.sum_append]; omega
    exact this d _
  refine Nat.le_trans (hmono j hj) ?_
  by_cases h0 : leftK (usedK cs.length S) cs.length = 0
  · rw [sum_eq (g := fun _ => (fun _ => 0) 0) _ (fun k hk => by
      have hk := List.mem_range.1 hk
      rw [if_neg (fun hf => by have := left_or hk (free_bit hk hf); omega)])]
    have hz : ∀ m, ((List.range m).map (fun _ => (0 : Nat))).sum = 0 := by
      intro m
      induction m with
      | zero => rfl
      | succ m ih => rw [List.range_succ, List.map_append, List.sum_append, ih]; rfl
    rw [hz]
    exact Nat.zero_le _
  · obtain ⟨l, hl⟩ : ∃ l, leftK (usedK cs.length S) cs.length = l + 1 := ⟨leftK (usedK cs.length S) cs.length - 1, by omega⟩
    have h1 := sum_le (f := fun k => if freeK cs (usedK cs.length S) k = true then facS cs (S ||| 2 ^ k) else 0) (g := fun k => (if (usedK cs.length S).getD k false = true then 0 else 1) * facK l) (List.range cs.length) (fun k hk => by
      have hk := List.mem_range.1 hk
      by_cases hf : freeK cs (usedK cs.length S) k = true
      · have hb := free_bit hk hf
        have h := left_or hk hb
        simp only [if_pos hf, usedK_get hk, hb]
        rw [if_neg (by decide), Nat.one_mul]
        unfold facS
        rw [show leftK (usedK cs.length (S ||| 2 ^ k)) cs.length = l by omega]
        exact Nat.le_refl _
      · simp only [if_neg hf]
        exact Nat.zero_le _)
    rw [sum_mul] at h1
    have h2 : ((List.range cs.length).map (fun k => if (usedK cs.length S).getD k false = true then 0 else 1)).sum = l + 1 := hl
    rw [h2] at h1
    unfold facS
    rw [hl]
    exact h1

theorem tab0_length (cs : List Cmd) : (tab0 cs).length = 2 ^ cs.length := by simp [tab0]
theorem tab0_get (cs : List Cmd) (i : Nat) : (tab0 cs).getD i 0 = if i = 0 then 1 else 0 := by
  unfold tab0
  have : 0 < 2 ^ cs.length := Nat.pow_pos (by omega)
  rw [getD_setN (by simpa using this)]
  by_cases h : i = 0
  · rw [if_pos h, if_pos h]
  · rw [if_neg h, if_neg h, List.getD_eq_getElem?_getD, List.getElem?_replicate]
    split <;> rfl

theorem tab_length (cs : List Cmd) : ∀ m, m ≤ 2 ^ cs.length → (tabT cs m).length = 2 ^ cs.length
  | 0, _ => tab0_length cs
  | m + 1, h => (row_spec (by omega) (tab_length cs m (by omega)) (fun _ => 0) cs.length (Nat.le_refl _)).1

theorem tab0_sum (cs : List Cmd) (w : Nat → Nat) : wsum (2 ^ cs.length) 0 (tab0 cs) w = w 0 := by
  unfold wsum
  have hp : 0 < 2 ^ cs.length := Nat.pow_pos (by omega)
  rw [sum_point (x := 0) (d := w 0) (g := fun _ => 0) (fun k hk => by
    rw [tab0_get, if_neg hk, if_pos (Nat.zero_le _)]; omega) (by rw [tab0_get, if_pos rfl, if_pos (Nat.zero_le _)]; omega) _, if_pos hp]
  have hz : ∀ m, ((List.range m).map (fun _ => (0 : Nat))).sum = 0 := by
    intro m
    induction m with
    | zero => rfl
    | succ m ih => rw [List.range_succ, List.map_append, List.sum_append, ih]; rfl
  rw [hz, Nat.zero_add]

theorem tab_cnt (cs : List Cmd) : ∀ m, m < 2 ^ cs.length → wsum (2 ^ cs.length) m (tabT cs m) (cntS cs) = cntS cs 0
  | 0, _ => tab0_sum cs _
  | m + 1, h => by
    have ih := tab_cnt cs m (by omega)
    rw [wsum_split (by omega)] at ih
    have := (row_spec (S := m) (t := tabT cs m) (by omega) (tab_length cs m (by omega)) (cntS cs) cs.length (Nat.le_refl _)).2.2
    show wsum _ _ (rowT cs m (tabT cs m) cs.length) _ = _
    rw [this, ← cnt_step h, ih]

/-- What the table says in the end. -/
theorem tab_end (cs : List Cmd) : (tabT cs (2 ^ cs.length)).getD (2 ^ cs.length - 1) 0 = countK cs (List.replicate cs.length false) cs.length := by
  have hp : 0 < 2 ^ cs.length := Nat.pow_pos (by omega)
  obtain ⟨m, hm⟩ : ∃ m, 2 ^ cs.length = m + 1 := ⟨2 ^ cs.length - 1, by omega⟩
  have h1 := tab_cnt cs m (by omega)
  rw [wsum_split (by omega), wsum_none (by omega), Nat.zero_add] at h1
  have h2 := (row_spec (S := m) (t := tabT cs m) (by omega) (tab_length cs m (by omega)) (fun _ => 0) cs.length (Nat.le_refl _)).2.1 m (Nat.le_refl _)
  have h3 : cntS cs m = 1 := by
    unfold cntS
    have := left_full cs.length
    rw [show 2 ^ cs.length - 1 = m by omega] at this
    rw [this]
    rfl
  have h4 : cntS cs 0 = countK cs (List.replicate cs.length false) cs.length := by
    unfold cntS
    rw [usedK_zero, left_all]
  rw [hm, Nat.add_sub_cancel]
  show (rowT cs m (tabT cs m) cs.length).getD m 0 = _
  rw [h2, ← h4, ← h1, h3, Nat.mul_one]

theorem tab_fac (cs : List Cmd) : ∀ m, m ≤ 2 ^ cs.length → wsum (2 ^ cs.length) m (tabT cs m) (facS cs) ≤ facK cs.length
  | 0, _ => by
    show wsum _ _ (tab0 cs) _ ≤ _
    rw [tab0_sum]
    unfold facS
    rw [usedK_zero, left_all]
    exact Nat.le_refl _
  | m + 1, h => by
    have ih := tab_fac cs m (by omega)
    rw [wsum_split (by omega)] at ih
    have := (row_spec (S := m) (t := tabT cs m) (by omega) (tab_length cs m (by omega)) (facS cs) cs.length (Nat.le_refl _)).2.2
    show wsum _ _ (rowT cs m (tabT cs m) cs.length) _ ≤ _
    rw [this]
    have := Nat.mul_le_mul_left ((tabT cs m).getD m 0) (fac_step (cs := cs) (S := m) (Nat.le_refl _))
    omega

/-- No number of the table is great. -/
theorem row_small (cs : List Cmd) {m j : Nat} (hm : m < 2 ^ cs.length) (hj : j ≤ cs.length) (hI : ∀ i, (tabT cs m).getD i 0 ≤ facK cs.length) (i : Nat) : (rowT cs m (tabT cs m) j).getD i 0 ≤ facK cs.length := by
  have hr := row_spec (S := m) (t := tabT cs m) (by omega) (tab_length cs m (by omega)) (facS cs) j hj
  by_cases h1 : i ≤ m
  · rw [hr.2.1 i h1]
    exact hI i
  · by_cases h2 : i < 2 ^ cs.length
    · have h3 := wsum_ge (N := 2 ^ cs.length) (lo := m + 1) (x := i) (t := rowT cs m (tabT cs m) j) (w := facS cs) h2 (by omega) (fac_pos _)
      have h4 := tab_fac cs m (by omega)
      rw [wsum_split (by omega)] at h4
      have h5 := Nat.mul_le_mul_left ((tabT cs m).getD m 0) (fac_step (cs := cs) (S := m) hj)
      have h6 := hr.2.2
      omega
    · rw [List.getD_eq_getElem?_getD, List.getElem?_eq_none (by rw [hr.1]; omega)]
      exact Nat.zero_le _

theorem tab_small (cs : List Cmd) : ∀ m, m ≤ 2 ^ cs.length → ∀ i, (tabT cs m).getD i 0 ≤ facK cs.length
  | 0, _, i => by
    show (tab0 cs).getD i 0 ≤ _
    rw [tab0_get]
    have := fac_pos cs.length
    split <;> omega
  | m + 1, h, i => row_small cs (by omega) (Nat.le_refl _) (tab_small cs m (by omega)) i

theorem fac_le {n : Nat} (h : n ≤ 6) : facK n ≤ 720 := by
  have : n = 0 ∨ n = 1 ∨ n = 2 ∨ n = 3 ∨ n = 4 ∨ n = 5 ∨ n = 6 := by omega
  rcases this with rfl | rfl | rfl | rfl | rfl | rfl | rfl <;> decide

/-! ### each path once, by a set of paths -/
theorem addKey_le : ∀ (xs L : List Lit), (xs.foldl Maps.addKey L).length ≤ L.length + xs.length
  | [], L => by simp
  | x :: r, L => by
    rw [List.foldl_cons]
    have := addKey_le r (Maps.addKey L x)
    have h2 : (Maps.addKey L x).length ≤ L.length + 1 := by unfold Maps.addKey; split <;> simp
    simp only [List.length_cons]
    omega

theorem addKey_nodup : ∀ (xs L : List Lit), (∀ x ∈ xs, WideAt.IsKeyLit x) → L.Nodup → ((xs.foldl Maps.addKey L).length = L.length + xs.length ↔ (L ++ xs).Nodup)
  | [], L, _, h => by simp [h]
  | x :: r, L, hk, hL => by
    rw [List.foldl_cons]
    have hx := hk x (by simp)
    unfold Maps.addKey
    split
    · rename_i h
      obtain ⟨y, hy, hs⟩ := List.any_eq_true.1 h
      obtain rfl := (WideAt.sameKey_iff hx).1 hs
      constructor
      · intro h2
        have := addKey_le r L
        simp only [List.length_cons] at h2
        unfold Maps.addKey at this
        omega
      · intro h2
        rw [List.nodup_append] at h2
        exact absurd rfl (h2.2.2 y hy y (by simp))
    · rename_i h
      have hnot : x ∉ L := fun hm => h (List.any_eq_true.2 ⟨x, hm, WideAt.sameKey_self hx⟩)
      have hL2 : (L ++ [x]).Nodup := by
        rw [List.nodup_append]
        exact ⟨hL, by simp, fun a ha b hb e => hnot (by rw [List.mem_singleton.1 hb] at e; rw [← e]; exact ha)⟩
      have ih := addKey_nodup r (L ++ [x]) (fun y hy => hk y (by simp [hy])) hL2
      unfold Maps.addKey at ih
      rw [List.append_assoc, List.singleton_append] at ih
      rw [← ih, List.length_append, List.length_cons]
      simp only [List.length_cons, List.length_nil]
      constructor <;> intro h2 <;> omega

theorem nodup_map_inj {α β : Type} {f : α → β} (hf : ∀ a b, f a = f b → a = b) : ∀ l : List α, (l.map f).Nodup ↔ l.Nodup
  | [] => by simp
  | a :: l => by
    rw [List.map_cons, List.nodup_cons, List.nodup_cons, nodup_map_inj hf l]
    constructor
    · rintro ⟨h1, h2⟩; exact ⟨fun h => h1 (List.mem_map_of_mem h), h2⟩
    · rintro ⟨h1, h2⟩
      refine ⟨fun h => ?_, h2⟩
      obtain ⟨b, hb, e⟩ := List.mem_map.1 h
      exact h1 (by rw [← hf b a e]; exact hb)

/-- The paths of the first commands, as the keys of a set. -/
def pathKeys (cs : List Cmd) (n : Nat) : List Lit := (cs.take n).map (fun c => keyL c.p)
theorem pathKeys_next {cs : List Cmd} {n : Nat} {c : Cmd} (h : cs[n]? = some c) : pathKeys cs (n + 1) = pathKeys cs n ++ [keyL c.p] := by
  unfold pathKeys
  rw [List.take_add_one, h, List.map_append]
  rfl
theorem pathKeys_key (cs : List Cmd) (n : Nat) : ∀ x ∈ pathKeys cs n, WideAt.IsKeyLit x := by
  intro x hx
  obtain ⟨c, _, rfl⟩ := List.mem_map.1 hx
  exact keyL_key _

theorem paths_size {H : Type} (u : DataW H) (cs : List Cmd) : Maps.size (Maps.setOf u (pathKeys cs cs.length)) = cs.length ↔ (cs.map Cmd.p).Nodup := by
  rw [Maps.size_setOf u _ (pathKeys_key cs _)]
  have h := addKey_nodup (pathKeys cs cs.length) [] (pathKeys_key cs _) List.nodup_nil
  have hl : (pathKeys cs cs.length).length = cs.length := by simp [pathKeys]
  rw [hl, List.length_nil, Nat.zero_add, List.nil_append] at h
  rw [h]
  unfold pathKeys
  rw [List.take_length, show (fun c : Cmd => keyL c.p) = keyL ∘ Cmd.p from rfl, ← List.map_map]
  exact nodup_map_inj (fun a b => keyL_inj) _

theorem paths_size_le {H : Type} (u : DataW H) (cs : List Cmd) (n : Nat) : Maps.size (Maps.setOf u (pathKeys cs n)) ≤ cs.length := by
  rw [Maps.size_setOf u _ (pathKeys_key cs _)]
  refine Nat.le_trans (addKey_le _ _) ?_
  simp [pathKeys]
  omega

end Go.Proofs.YtpjoahddbdmbpaaGreatDoor

/-
  WALKS: orders of the program: sets of commands as bits; MustPrecede; what must precede each command; each path once; OrderFits, OrderSwap.
-/
namespace Go.Proofs.YtpjoahddbdmbpaaGreatDoor
open Go.RowKit
open Go.Maps (IsMap has)
set_option linter.unusedVariables false

theorem ot_first : (0 : Nat) ≤ 0 := Nat.le_refl 0

/-! ### sets of commands -/
theorem u32_pow {k : Nat} (h : k ≤ 20) : (2 : Int) ^ k % 4294967296 = ((2 ^ k : Nat) : Int) := by
  have := pow_lt32 h
  rw [show ((2 : Int) ^ k) = ((2 ^ k : Nat) : Int) by simp]
  generalize 2 ^ k = x at this ⊢
  omega

set_option maxHeartbeats 1000000 in
theorem with_c (s k : Nat) (hs : s < 4294967296) (hk : k ≤ 20) (W : World) :
    Calls Tryz.prog 24 #[.int .u32 s, .int .i64 k] W fun e W' => e = .returned (.int .u32 ((s ||| 2 ^ k : Nat) : Int)) ∧ W' = W := by
  have hk0 : (0 : Int) ≤ k := by omega
  have hk1 : (k : Int) ≤ 32 := by omega
  have hp := pow_lt32 hk
  obtain ⟨r, hr⟩ : ∃ r, s ||| 2 ^ k = r := ⟨_, rfl⟩
  have h2 : bits .or .u32 (s : Int) ((2 : Int) ^ k % 4294967296) = (r : Int) := by
    rw [u32_pow hk, ← hr]
    exact u32_or_nat s (2 ^ k) hs (by omega)
  rw [hr]
  clear hr hp hk hs
  go_enter Tryz.func24, Tryz.ntmps24
  go_wp2
  go_ret
  exact ⟨rfl, rfl⟩

theorem u32_has (s k : Nat) (hs : s < 4294967296) : bits .and .u32 ((s : Int) / 2 ^ k) 1 = if s.testBit k = true then 1 else 0 := by
  rw [show ((s : Int) / 2 ^ k) = ((s / 2 ^ k : Nat) : Int) by simp, show (1 : Int) = ((1 : Nat) : Int) from rfl, u32_and_nat _ 1 (Nat.lt_of_le_of_lt (Nat.div_le_self _ _) hs) (by omega), has_iff]
  split <;> rfl

set_option maxHeartbeats 1000000 in
theorem hasAll_c (s x : Nat) (hs : s < 4294967296) (hx : x < 4294967296) (b : Bool) (hb : b = true ↔ ∀ i, x.testBit i = true → s.testBit i = true) (W : World) :
    Calls Tryz.prog 23 #[.int .u32 s, .int .u32 x] W fun e W' => e = .returned (.bool b) ∧ W' = W := by
  have h2 : bits .andNot .u32 (x : Int) (s : Int) = ((x &&& (4294967295 - s) : Nat) : Int) := u32_andNot_nat x s hx hs
  have h3 := hasAll_iff hs hx
  rw [← hb] at h3
  obtain ⟨y, hy⟩ : ∃ y, x &&& (4294967295 - s) = y := ⟨_, rfl⟩
  rw [hy] at h2 h3
  cases b with
  | true =>
    obtain rfl : y = 0 := h3.2 rfl
    clear hb h3 hy hs hx
    have h4 : bits .andNot .u32 (x : Int) (s : Int) = 0 := h2
    clear h2
    go_enter Tryz.func23, Tryz.ntmps23
    go_wp2
    go_ret
    exact ⟨rfl, rfl⟩
  | false =>
    have h5 : ((y : Int) == 0) = false := beq_eq_false_iff_ne.2 (fun e => by have := h3.1 (by omega); cases this)
    clear hb h3 hy hs hx
    go_enter Tryz.func23, Tryz.ntmps23
    go_wp2
    go_ret
    exact ⟨rfl, rfl⟩

/-! ### MustPrecede -/
theorem must_prog {c d : Cmd} (hc : validC c = true) (hd : validC d = true) : mustP c d = ((underB d.p c.p && d.fk == 1) || (underB c.p d.p && c.tk == 1)) := by
  unfold mustP mustC
  rw [hc, hd, underB_eq d.p c.p, underB_eq c.p d.p, show Pm.valid c.p.data.toList = true from validC_vp hc, show Pm.valid d.p.data.toList = true from validC_vp hd]
  rfl

set_option maxHeartbeats 4000000 in
set_option maxRecDepth 100000 in
theorem implMustPrecede_c (c d : Cmd) (hc : c.p.size ≤ 2097152) (hd : d.p.size ≤ 2097152) (W : World) : Calls Tryz.prog 47 #[cmdV c, cmdV d] W (BoolPost (mustP c d) W) := by
  obtain ⟨u, hu⟩ : ∃ u, validC c = u := ⟨_, rfl⟩
  obtain ⟨v, hv⟩ : ∃ v, validC d = v := ⟨_, rfl⟩
  have HC := Lib.hid (fun w => show Calls Tryz.prog 59 #[cmdV c] w (BoolPost u w) by rw [← hu]; exact implCmdValid_c c hc w)
  have HD := Lib.hid (fun w => show Calls Tryz.prog 59 #[cmdV d] w (BoolPost v w) by rw [← hv]; exact implCmdValid_c d hd w)
  obtain ⟨r, hr⟩ : ∃ r, underB d.p c.p = r := ⟨_, rfl⟩
  obtain ⟨s, hs⟩ : ∃ s, underB c.p d.p = s := ⟨_, rfl⟩
  obtain ⟨x, hx⟩ : ∃ x, (d.fk == 1) = x := ⟨_, rfl⟩
  obtain ⟨y, hy⟩ : ∃ y, (c.tk == 1) = y := ⟨_, rfl⟩
  have HU := Lib.hid (fun w => show Calls Tryz.prog 72 #[.string d.p, .string c.p] w (fun e w' => e = .returned (.bool r) ∧ Below w.heap.size w w') by rw [← hr]; exact pathUnder_c d.p c.p hd hc w)
  have HV := Lib.hid (fun w => show Calls Tryz.prog 72 #[.string c.p, .string d.p] w (fun e w' => e = .returned (.bool s) ∧ Below w.heap.size w w') by rw [← hs]; exact pathUnder_c c.p d.p hc hd w)
  have HR := Lib.hid (show u = true → v = true → mustP c d = ((r && x) || (s && y)) by
    intro h1 h2
    rw [must_prog (hu.trans h1) (hv.trans h2), hr, hs, hx, hy])
  have HRN := Lib.hid (show u = false ∨ v = false → mustP c d = false by
    intro h
    unfold mustP
    rw [hu, hv]
    rcases h with h | h <;> rw [h] <;> simp)
  have HT := Lib.hid (twoC_new W c d)
  have HB := Lib.hid (below_next (below_box W (.cells #[.string c.p, .int .i64 c.fk, .int .i64 c.fv, .int .i64 c.tk, .int .i64 c.tv] 36)) (below_box _ (.cells #[.string d.p, .int .i64 d.fk, .int .i64 d.fv, .int .i64 d.tk, .int .i64 d.tv] 36)))
  clear hu hv hc hd hr hs
  obtain ⟨p, fk, fv, tk, tv⟩ := c
  obtain ⟨p', fk', fv', tk', tv'⟩ := d
  unfold cmdV at HC HD ⊢
  simp only at HC HD HU HV HT HB HR HRN hx hy ⊢
  obtain ⟨a0, a1, a2, a3, a4, b0, b1, b2, b3, b4⟩ := HT.out
  simp only at a0 a1 a2 a3 a4 b0 b1 b2 b3 b4
  have T0 := HT
  have B0 := HB
  go_enter Tryz.func47, Tryz.ntmps47
  go_wp2_with fail
  refine (HC.out _).mono ?_
  rintro e W1 ⟨rfl, hb1⟩
  have T1 := Lib.hid (T0.out.keep hb1)
  have B1 := Lib.hid (below_next B0.out hb1)
  clear a0 a1 a2 a3 a4 b0 b1 b2 b3 b4 hb1
  obtain ⟨a0, a1, a2, a3, a4, b0, b1, b2, b3, b4⟩ := T1.out
  cases u with
  | false =>
    have HX := Lib.hid (HRN.out (.inl rfl))
    clear HRN HR
    go_wp2
    go_ret
    exact ⟨ret_bool HX.out.symm, B1.out⟩
  | true =>
    have HRY := Lib.hid (HR.out rfl)
    replace HRN := Lib.hid (fun h => HRN.out (.inr h))
    clear HR
    go_wp2_with fail
    refine (HD.out _).mono ?_
    rintro e W2 ⟨rfl, hb2⟩
    have T2 := Lib.hid (T1.out.keep hb2)
    have B2 := Lib.hid (below_next B1.out hb2)
    clear a0 a1 a2 a3 a4 b0 b1 b2 b3 b4 hb2
    obtain ⟨a0, a1, a2, a3, a4, b0, b1, b2, b3, b4⟩ := T2.out
    cases v with
    | false =>
      have HX := Lib.hid (HRN.out rfl)
      clear HRY HRN
      go_wp2
      go_ret
      exact ⟨ret_bool HX.out.symm, B2.out⟩
    | true =>
      replace HRY := Lib.hid (HRY.out rfl)
      clear HRN
      go_wp2_with fail
      refine (HU.out _).mono ?_
      rintro e W3 ⟨rfl, hb3⟩
      have T3 := Lib.hid (T2.out.keep hb3)
      have B3 := Lib.hid (below_next B2.out hb3)
      clear a0 a1 a2 a3 a4 b0 b1 b2 b3 b4 hb3
      obtain ⟨a0, a1, a2, a3, a4, b0, b1, b2, b3, b4⟩ := T3.out
      cases r with
      | true =>
        cases x with
        | true =>
          go_wp2
          go_ret
          exact ⟨ret_bool (by rw [HRY.out]; rfl), B3.out⟩
        | false =>
          go_wp2_with fail
          refine (HV.out _).mono ?_
          rintro e W4 ⟨rfl, hb4⟩
          have T4 := Lib.hid (T3.out.keep hb4)
          have B4 := Lib.hid (below_next B3.out hb4)
          clear a0 a1 a2 a3 a4 b0 b1 b2 b3 b4 hb4
          obtain ⟨a0, a1, a2, a3, a4, b0, b1, b2, b3, b4⟩ := T4.out
          cases s with
          | true =>
            go_wp2
            go_ret
            exact ⟨ret_bool (by rw [HRY.out, ← hy]; rfl), B4.out⟩
          | false =>
            go_wp2
            go_ret
            exact ⟨ret_bool (by rw [HRY.out]; rfl), B4.out⟩
      | false =>
        go_wp2_with fail
        refine (HV.out _).mono ?_
        rintro e W4 ⟨rfl, hb4⟩
        have T4 := Lib.hid (T3.out.keep hb4)
        have B4 := Lib.hid (below_next B3.out hb4)
        clear a0 a1 a2 a3 a4 b0 b1 b2 b3 b4 hb4
        obtain ⟨a0, a1, a2, a3, a4, b0, b1, b2, b3, b4⟩ := T4.out
        cases s with
        | true =>
          go_wp2
          go_ret
          exact ⟨ret_bool (by rw [HRY.out, ← hy]; rfl), B4.out⟩
        | false =>
          go_wp2
          go_ret
          exact ⟨ret_bool (by rw [HRY.out]; rfl), B4.out⟩

/-! ### each path once -/
theorem keyLawO : Maps.Keyed Tryz.prog 9 := Maps.string_keyed Tryz.underlying9
theorem keyOf_pathO {p : ByteArray} (h : p.size ≤ maxLen) : keyOf Tryz.prog 9 (.string p) = some (keyL p) := WideMaps.keyOf_string_mk Tryz.underlying9 h
def setP (cs : List Cmd) (n : Nat) : DataW Unit := Maps.setOf (.lit (.bool true)) (pathKeys cs n)
theorem setP_next {cs : List Cmd} {n : Nat} {c : Cmd} (h : cs[n]? = some c) : setP cs (n + 1) = (setP cs n).put (keyL c.p) (.lit (.bool true)) := by
  unfold setP
  rw [pathKeys_next h, Maps.setOf_snoc]

/-- 'paths[path] = true'. -/
theorem wpList_store_path (w : World) {ops : Array Oper} {rest : List Oper} {o : Oper} {a : Act} {Q : Exit → Act → World → Prop} (hg : o.guard = none) (m x v : Operand) (hop : o.op = Op.mapUpdate 88 m x v) (b n : Nat) (D : DataW Unit)
    (hm : a.eval m = .map (some b)) (hown : w.ownsMap Tryz.prog 9 (plainElem (H := Unit) Tryz.prog 4) b n D) (hn : n < maxLen) (p : ByteArray) (hx : a.eval x = .string p) (hp : p.size ≤ maxLen) (hv : a.eval v = .bool true)
    (hK : ∀ w', w'.ownsMap Tryz.prog 9 (plainElem (H := Unit) Tryz.prog 4) b (n + 1) (D.put (keyL p) (.lit (.bool true))) → w.grownBy w' (some b) → wpList Tryz.prog ops Q rest (a.put o.dst undef) w') :
    wpList Tryz.prog ops Q (o :: rest) a w :=
  wpList_mapUpdate_own w hg m x v _ hop _ _ keyLawO Tryz.underlying88 (plainElem (H := Unit) Tryz.prog 4) b n D hm hown hn _ _ _ hx hv (keyOf_pathO hp) _ _ (plainElem_bool Tryz.underlying4 true) hK

def OnceRel (cs : List Cmd) (W : World) (B : Nat) (i : Value) (wr : World) : Prop :=
  ∃ n : Nat, i = .int .i64 n ∧ n ≤ cs.length ∧ Hid (wr.ownsMap Tryz.prog 9 (plainElem (H := Unit) Tryz.prog 4) B n (setP cs n)) ∧ Hid (Below W.heap.size W wr)

theorem once_below {W wr w1 : World} {B : Nat} {o : Obj} (hB : Below W.heap.size W wr) (hlt : W.heap.size ≤ B) (hg : (wr.alloc o).grownBy w1 (some B)) : Below W.heap.size W w1 :=
  (hB.alloc hB.size o).grown hg (by have := hB.size; rw [World.size_alloc]; omega) (fun k e => by cases e; exact hlt)

theorem once_prog (cs : List Cmd) : onceV cs = (validL cs && (decide ((Maps.size (setP cs cs.length) : Int) = cs.length))) := by
  unfold onceV setP
  rw [Bool.and_comm]
  congr 1
  have := paths_size (H := Unit) (.lit (.bool true)) cs
  exact decide_eq_decide.2 (by rw [← this]; omega)

set_option maxHeartbeats 2000000 in
set_option maxRecDepth 100000 in
theorem pathsOnce_c (a : Option Addr) (len cap : Nat) (cs : List Cmd) (hl : len ≤ 2097152) (hs : ShortC 2097152 cs) (W : World) (hN : CmdsAt W a len cs) :
    Calls Tryz.prog 21 #[.slice a len cap] W (BoolPost (onceV cs) W) := by
  obtain ⟨u, hu⟩ : ∃ u, validL cs = u := ⟨_, rfl⟩
  have HV := Lib.hid (show Calls Tryz.prog 17 #[.slice a len cap] W (BoolPost u W) by rw [← hu]; exact implLogValid_c a len cap cs hl hs W hN)
  have HN := Lib.hid hN
  have HE := Lib.hid hN.1
  have HS := Lib.hid hs
  have hl' : (len : Int) ≤ 2097152 := by omega
  have HR := Lib.hid (once_prog cs)
  rw [hu] at HR
  have HSZ := Lib.hid (paths_size_le (H := Unit) (.lit (.bool true)) cs cs.length)
  have hmm := @run_makeMap Tryz.prog
  clear hN hs hu
  go_enter Tryz.func21, Tryz.ntmps21
  go_wp2_with fail
  refine HV.out.mono ?_
  rintro e W1 ⟨rfl, hb1⟩
  have B1 := Lib.hid hb1
  clear hb1
  cases u with
  | false =>
    go_wp2
    go_ret
    exact ⟨ret_bool (by rw [HR.out]; rfl), B1.out⟩
  | true =>
    go_wp2
    clear hmm
    go_loopw [12] (fun i wr => OnceRel cs W W1.heap.size i wr) (fun i _ => len - (intOf i).toNat)
    case atStart => exact ⟨0, rfl, Nat.zero_le _, World.ownsMap_made _ _ _ _, below_next B1.out (below_box _ _)⟩
    case round =>
      obtain ⟨n, rfl, hn, HM, HB⟩ := hrel
      by_cases hlt : n < len
      · have hlt' : (n : Int) < len := by omega
        have hw1 : IntKind.i64.wrap ((n : Int) + 1) = (n : Int) + 1 := IntWalk.i64_in _ (by omega)
        obtain ⟨b, off, c, rfl, hc, d0, d1, d2, d3, d4⟩ := (HN.out.keep HB.out).node hlt
        have HX := Lib.hid (setP_next hc)
        have HLT := Lib.hid (show n < len ∧ n + 1 ≤ cs.length by have := HE.out; omega)
        have HPS := Lib.hid (show c.p.size ≤ maxLen from Nat.le_trans (HS.out.at hc) (by unfold maxLen; omega))
        obtain ⟨p, fk, fv, tk, tv⟩ := c
        simp only at d0 d1 d2 d3 d4
        have hn7 : n < maxLen := by unfold maxLen; omega
        clear hc hlt hn
        go_wp2_with (at_mapUpdate; refine wpList_store_path _ rfl _ _ _ rfl _ n _ rfl (HM.out.alloc _) hn7 p rfl HPS.out rfl ?_; intro w1 hown1 hgrow1)
        go_roundw
        case rel => exact ⟨n + 1, by go_num, HLT.out.2, by have := HX.out; simp only at this; rw [this]; exact hown1, once_below HB.out B1.out.size hgrow1⟩
        case measure => have := HLT.out; simp [intOf]; omega
      · have hge : (len : Int) ≤ n := by omega
        have hnl : n = cs.length := by have := HE.out; omega
        subst hnl
        clear hn hlt
        have hlen := fun ty => HM.out.len Tryz.underlying88 ty
        obtain ⟨sz, hsz⟩ : ∃ sz, Maps.size (setP cs cs.length) = sz := ⟨_, rfl⟩
        rw [hsz] at HR hlen
        have HX := Lib.hid (show onceV cs = ((sz : Int) == len) by rw [HR.out, HE.out, Bool.true_and]; rfl)
        clear HR hsz
        go_wp2
        go_ret
        exact ⟨ret_bool HX.out.symm, HB.out⟩

/-! ### what must precede each command -/
def rowN (n : Nat) (f : Nat → Nat) : List Value := (List.range n).map (fun j => Value.int .u32 (f j))
theorem rowN_length (n : Nat) (f : Nat → Nat) : (rowN n f).length = n := by simp [rowN]
theorem rowN_get {n j : Nat} (f : Nat → Nat) (h : j < n) : (rowN n f)[j]? = some (.int .u32 (f j)) := by
  unfold rowN
  rw [List.getElem?_map, List.getElem?_range h]
  rfl
theorem rowN_set (n : Nat) (f : Nat → Nat) {k v : Nat} (hk : k < n) : (rowN n f).set k (.int .u32 v) = rowN n (fun j => if j = k then v else f j) := by
  refine List.ext_getElem? (fun j => ?_)
  by_cases h : j < n
  · rw [List.getElem?_set, rowN_length, rowN_get _ h]
    by_cases e : k = j
    · subst e; rw [if_pos rfl, if_pos hk, rowN_get _ hk, if_pos rfl]
    · rw [if_neg e, rowN_get _ h, if_neg (fun x => e x.symm)]
  · rw [List.getElem?_eq_none (by rw [List.length_set, rowN_length]; omega), List.getElem?_eq_none (by rw [rowN_length]; omega)]
theorem rowN_zero (n : Nat) : List.replicate n (Value.int .u32 0) = rowN n (fun _ => 0) := by
  refine List.ext_getElem? (fun j => ?_)
  by_cases h : j < n
  · rw [List.getElem?_replicate, if_pos h, rowN_get _ h]; rfl
  · rw [List.getElem?_eq_none (by simp; omega), List.getElem?_eq_none (by rw [rowN_length]; omega)]
theorem rowN_congr {n : Nat} {f g : Nat → Nat} (h : ∀ j, j < n → f j = g j) : rowN n f = rowN n g := by
  unfold rowN
  refine List.map_congr_left (fun j hj => ?_)
  rw [h j (List.mem_range.1 hj)]

theorem infoSet : (Tryz.prog.info? 50).map (fun i => (i.zero, i.size, i.bytes)) = some (some (.int .u32 0), 1, 4) := by kernel_rfl

/-- The numbers while k commands are done and i others have been held against the next one. -/
def needAt (cs : List Cmd) (k i : Nat) (j : Nat) : Nat := if j < k then needTo cs j cs.length else if j = k then needTo cs k i else 0
theorem need_start (cs : List Cmd) : rowN cs.length (needAt cs 0 0) = List.replicate cs.length (Value.int .u32 0) := by
  rw [rowN_zero]
  refine rowN_congr (fun j _ => ?_)
  unfold needAt
  rw [if_neg (by omega)]
  split <;> rfl
theorem need_end (cs : List Cmd) (k : Nat) (hk : k < cs.length) : rowN cs.length (needAt cs k cs.length) = rowN cs.length (needAt cs (k + 1) 0) := by
  refine rowN_congr (fun j _ => ?_)
  unfold needAt
  by_cases h1 : j < k
  · rw [if_pos h1, if_pos (by omega)]
  · rw [if_neg h1]
    by_cases h2 : j = k
    · subst h2; rw [if_pos rfl, if_pos (by omega)]
    · rw [if_neg h2, if_neg (by omega)]
      split <;> rfl
theorem need_all (cs : List Cmd) : rowN cs.length (needAt cs cs.length 0) = rowN cs.length (fun j => needTo cs j cs.length) := by
  refine rowN_congr (fun j hj => ?_)
  unfold needAt
  rw [if_pos hj]
theorem need_yes (cs : List Cmd) (k i : Nat) (hk : k < cs.length) (h : mustP (atK cs i) (atK cs k) = true) : (rowN cs.length (needAt cs k i)).set k (.int .u32 ((needTo cs k i ||| 2 ^ i : Nat) : Int)) = rowN cs.length (needAt cs k (i + 1)) := by
  rw [rowN_set _ _ hk]
  refine rowN_congr (fun j _ => ?_)
  unfold needAt
  by_cases e : j = k
  · subst e
    rw [if_pos rfl, if_neg (by omega), if_pos rfl, needTo, if_pos h]
  · rw [if_neg e, if_neg e, if_neg e]
theorem need_no (cs : List Cmd) (k i : Nat) (h : mustP (atK cs i) (atK cs k) = false) : rowN cs.length (needAt cs k i) = rowN cs.length (needAt cs k (i + 1)) := by
  refine rowN_congr (fun j _ => ?_)
  unfold needAt
  by_cases e : j = k
  · subst e
    simp [needTo, h]
  · rw [if_neg e, if_neg e]

/-- The numbers of neededBy: a row of the call's own. -/
def NeedPost (cs : List Cmd) (W : World) (e : Ending) (w' : World) : Prop :=
  ∃ g cap, e = .returned (.slice (some ⟨g, 0, none⟩) cs.length cap) ∧ w'.ownsRow W.heap.size 50 1 (.slice (some ⟨g, 0, none⟩) cs.length cap) cs.length (rowN cs.length (fun j => needTo cs j cs.length)) ∧ Below W.heap.size W w'

def NeedRel (cs : List Cmd) (W : World) (len : Nat) (i : Value) (wr : World) : Prop :=
  ∃ k : Nat, i = .int .i64 k ∧ k ≤ cs.length ∧ Hid (wr.ownsRow W.heap.size 50 1 (.slice (some ⟨W.heap.size, 0, none⟩) len len) len (rowN len (needAt cs k 0))) ∧ Hid (Below W.heap.size W wr)
def NeedIn (cs : List Cmd) (W : World) (len k m : Nat) (d : Cmd) (i : Value) (wr : World) : Prop :=
  ∃ j : Nat, i = .int .i64 j ∧ j ≤ cs.length ∧ Hid (wr.ownsRow W.heap.size 50 1 (.slice (some ⟨W.heap.size, 0, none⟩) len len) len (rowN len (needAt cs k j))) ∧ Hid (Below W.heap.size W wr) ∧ Hid (Five wr m (.string d.p) (.int .i64 d.fk) (.int .i64 d.fv) (.int .i64 d.tk) (.int .i64 d.tv))

theorem made_set (z : Value) (n : Nat) : (madeCells #[z] n).toList = List.replicate n z := by
  refine List.ext_getElem? (fun i => ?_)
  by_cases h : i < n
  · rw [List.getElem?_replicate, if_pos h]
    simp [madeCells, h, Nat.mod_one]
  · rw [List.getElem?_eq_none (by simp [madeCells]; omega), List.getElem?_eq_none (by simp; omega)]

theorem below_noneT {W w : World} (h : W.grownBy w none) : Below W.heap.size W w := ⟨h.os, h.tape, h.output, h.size, fun k hk => h.block k hk (by simp)⟩
theorem get_atT {cs : List Cmd} {k : Nat} {c : Cmd} (h : cs[k]? = some c) : atK cs k = c := by
  have hk := (List.getElem?_eq_some_iff.1 h).1
  rw [atK_get hk] at h
  exact Option.some.inj h
theorem need_lt32 (cs : List Cmd) (k : Nat) {i : Nat} (h : i ≤ 20) : needTo cs k i < 4294967296 := by
  have h1 := needTo_lt cs k i
  have h2 := pow_lt32 h
  omega

set_option maxHeartbeats 4000000 in
set_option maxRecDepth 100000 in
theorem neededBy_c (a : Option Addr) (len cap : Nat) (cs : List Cmd) (hl : len ≤ 20) (hs : ShortC 2097152 cs) (W : World) (hN : CmdsAt W a len cs) :
    Calls Tryz.prog 22 #[.slice a len cap] W (NeedPost cs W) := by
  obtain ⟨i0, hi, hz0, hz1, hz2⟩ := info_parts infoSet
  have HMU := Lib.hid (fun c d (h1 : c.p.size ≤ 2097152) (h2 : d.p.size ≤ 2097152) w => implMustPrecede_c c d h1 h2 w)
  have HN := Lib.hid hN
  have HE := Lib.hid hN.1
  have HS := Lib.hid hs
  have HL := Lib.hid hl
  have hl' : (len : Int) ≤ 20 := by omega
  clear hN hs
  go_enter Tryz.func22, Tryz.ntmps22
  go_wp2_with (refine wpList_make_full _ rfl _ _ 51 rfl W.heap.size 50 i0 (.int .u32 0) 1 Tryz.underlying51 hi hz0 hz1 .i64 .i64 _ _ len rfl rfl rfl rfl (by rw [hz2]; omega) (by unfold maxLen; omega) (Nat.le_refl _) ?_; intro w1 hown1 hg1)
  have HB1 := Lib.hid (below_noneT hg1)
  have HO1 : Hid (w1.ownsRow W.heap.size 50 1 (.slice (some ⟨W.heap.size, 0, none⟩) len len) len (rowN len (needAt cs 0 0))) := by
    rw [Nat.mul_one, show (madeCells (Value.int .u32 0).cells len).toList = rowN len (needAt cs 0 0) from (made_set _ _).trans (by rw [← HE.out]; exact (need_start cs).symm)] at hown1
    exact hown1
  clear hown1 hg1
  go_loopw [13] (fun i wr => NeedRel cs W len i wr) (fun i _ => len - (intOf i).toNat)
  case atStart => exact ⟨0, rfl, Nat.zero_le _, HO1, HB1⟩
  case round =>
    obtain ⟨k, rfl, hk, HO, HB⟩ := hrel
    obtain ⟨wr0, rfl⟩ : ∃ X, X = wr := ⟨_, rfl⟩
    by_cases hlt : k < len
    · have hlt' : (k : Int) < len := by omega
      have hw1 : IntKind.i64.wrap ((k : Int) + 1) = (k : Int) + 1 := IntWalk.i64_in _ (by omega)
      have HLT := Lib.hid (show k < len ∧ k < cs.length by have := HE.out; omega)
      obtain ⟨b, off, d, rfl, hd, d0, d1, d2, d3, d4⟩ := (HN.out.keep HB.out).node (i := k) HLT.out.1
      have HD := Lib.hid (get_atT hd)
      have HDS := Lib.hid (HS.out.at hd)
      obtain ⟨q, gk, gv, uk, uv⟩ := d
      simp only at d0 d1 d2 d3 d4 HDS
      have F5 := Lib.hid (five_new wr0 (.string q) (.int .i64 gk) (.int .i64 gv) (.int .i64 uk) (.int .i64 uv) 36)
      have O5 := Lib.hid (HO.out.alloc (.cells #[.string q, .int .i64 gk, .int .i64 gv, .int .i64 uk, .int .i64 uv] 36))
      have B5 := Lib.hid (below_next HB.out (below_box wr0 (.cells #[.string q, .int .i64 gk, .int .i64 gv, .int .i64 uk, .int .i64 uv] 36)))
      have HNE := Lib.hid (show wr0.heap.size ≠ W.heap.size by have : W.heap.size < wr0.heap.size := (HO.out.lt _ rfl).2; omega)
      clear hk hlt hd
      go_wp2_with fail
      obtain ⟨WB, hWB⟩ : ∃ X, X = wr0.alloc (.cells #[.string q, .int .i64 gk, .int .i64 gv, .int .i64 uk, .int .i64 uv] 36) := ⟨_, rfl⟩
      rw [← hWB] at F5 O5 B5 ⊢
      clear hWB d0 d1 d2 d3 d4
      go_loopw [20] (fun i w2 => NeedIn cs W len k wr0.heap.size ⟨q, gk, gv, uk, uv⟩ i w2) (fun i _ => len - (intOf i).toNat)
      case atStart => exact ⟨0, rfl, Nat.zero_le _, O5, B5, F5⟩
      case round =>
        obtain ⟨j, rfl, hj, HOI, HBI, HFI⟩ := hrel
        by_cases hjt : j < len
        · have hjt' : (j : Int) < len := by omega
          have hj1 : IntKind.i64.wrap ((j : Int) + 1) = (j : Int) + 1 := IntWalk.i64_in _ (by omega)
          have HJT := Lib.hid (show j < len ∧ j < cs.length by have := HE.out; omega)
          obtain ⟨bb, off2, c, hbb, hc, c0, c1, c2, c3, c4⟩ := (HN.out.keep HBI.out).node (i := j) HJT.out.1
          cases hbb
          have HC := Lib.hid (get_atT hc)
          have HCS := HS.out.at hc
          obtain ⟨mm, hmm⟩ : ∃ mm, mustP c ⟨q, gk, gv, uk, uv⟩ = mm := ⟨_, rfl⟩
          have HM := Lib.hid (fun w => show Calls Tryz.prog 47 #[cmdV c, cmdV ⟨q, gk, gv, uk, uv⟩] w (BoolPost mm w) by rw [← hmm]; exact HMU.out c ⟨q, gk, gv, uk, uv⟩ HCS HDS.out w)
          have HMM := Lib.hid (show mustP (atK cs j) (atK cs k) = mm by rw [HC.out, HD.out]; exact hmm)
          obtain ⟨p, fk, fv, tk, tv⟩ := c
          unfold cmdV at HM
          simp only at HM c0 c1 c2 c3 c4
          obtain ⟨f0, f1, f2, f3, f4, -⟩ := HFI.out
          have e0 := fun o => cell_kept (below_box wr o) f0
          have e1 := fun o => cell_kept (below_box wr o) f1
          have e2 := fun o => cell_kept (below_box wr o) f2
          have e3 := fun o => cell_kept (below_box wr o) f3
          have e4 := fun o => cell_kept (below_box wr o) f4
          clear hj hjt hc hmm HCS
          go_wp2_with fail
          refine (HM.out _).mono ?_
          rintro e W7 ⟨rfl, hb7⟩
          have O7 := Lib.hid (own_below (HOI.out.alloc (.cells #[.string p, .int .i64 fk, .int .i64 fv, .int .i64 tk, .int .i64 tv] 36)) hb7)
          have B7 := Lib.hid (below_next (below_next HBI.out (below_box wr (.cells #[.string p, .int .i64 fk, .int .i64 fv, .int .i64 tk, .int .i64 tv] 36))) hb7)
          have F7 := Lib.hid ((HFI.out.alloc (.cells #[.string p, .int .i64 fk, .int .i64 fv, .int .i64 tk, .int .i64 tv] 36)).below hb7)
          clear hb7 c0 c1 c2 c3 c4 e0 e1 e2 e3 e4 f0 f1 f2 f3 f4
          cases mm with
          | false =>
            have HNX := Lib.hid (need_no cs k j HMM.out)
            rw [HE.out] at HNX
            go_wp2
            go_roundw
            case rel => exact ⟨j + 1, by go_num, HJT.out.2, by have := O7.out; rwa [HNX.out] at this, B7, F7⟩
            case measure => have := HJT.out; simp [intOf]; omega
          | true =>
            have HNX := Lib.hid (need_yes cs k j HLT.out.2 HMM.out)
            rw [HE.out] at HNX
            have HWI := Lib.hid (with_c (needTo cs k j) j (need_lt32 cs k (by have := HL.out; have := HJT.out.1; omega)) (by have := HL.out; have := HJT.out.1; omega) W7)
            have x0 : W7.cell? ⟨W.heap.size, k, none⟩ = some (.int .u32 (needTo cs k j : Nat)) := by
              rw [O7.out.cellAt _ (by have := HLT.out.1; omega), rowN_get _ HLT.out.1]
              simp [needAt]
            have y0 := O7.out.frozenAt k
            have HST := O7.out.stored k (.int .u32 ((needTo cs k j ||| 2 ^ j : Nat) : Int))
            rw [HNX.out] at HST
            have HS8 := Lib.hid HST.1
            clear HST
            go_wp2_with fail
            refine HWI.out.mono ?_
            rintro e W8 ⟨rfl, rfl⟩
            go_wp2
            go_roundw
            case rel => exact ⟨j + 1, by go_num, HJT.out.2, HS8, below_setCell B7.out _ _ (Nat.le_refl _), F7.out.keep (grownBy_setCell_at _ _ _ _) HNE.out⟩
            case measure => have := HJT.out; simp [intOf]; omega
        · have hge : (len : Int) ≤ j := by omega
          have hjl : j = len := by have := HE.out; omega
          subst hjl
          have HNX := Lib.hid (need_end cs k HLT.out.2)
          rw [HE.out] at HNX
          have HO9 := HOI.out
          rw [HNX.out] at HO9
          have HOX := Lib.hid HO9
          clear hj hjt HO9
          go_wp2
          go_roundw
          case rel => exact ⟨k + 1, by go_num, HLT.out.2, HOX, HBI⟩
          case measure => have := HLT.out; simp [intOf]; omega
    · have hge : (len : Int) ≤ k := by omega
      have hkl : k = cs.length := by have := HE.out; omega
      subst hkl
      clear hk hlt
      have HO9 := HO.out
      have h9 := need_all cs
      rw [HE.out] at h9
      rw [HE.out, h9] at HO9
      have HOX := Lib.hid HO9
      clear HO9 h9
      go_wp2
      go_ret
      exact ⟨W.heap.size, len, by rw [HE.out]; rfl, by rw [HE.out]; exact HOX.out, HB.out⟩

/-! ### OrderFits -/
theorem onceV_len {cs : List Cmd} (h : onceV cs = true) : cs.length ≤ 20 := ((validL_iff cs).1 (onceV_iff.1 h).2).2
theorem onceV_valid {cs : List Cmd} (h : onceV cs = true) : ∀ c ∈ cs, validC c = true := ((validL_iff cs).1 (onceV_iff.1 h).2).1

/-- What must precede a command has been done. -/
def doneB (cs : List Cmd) (k : Nat) : Bool := decide (∀ i, i < cs.length → (needTo cs k cs.length).testBit i = true → (2 ^ k - 1).testBit i = true)
theorem doneB_iff (cs : List Cmd) (k : Nat) : doneB cs k = true ↔ ∀ i, (needTo cs k cs.length).testBit i = true → (2 ^ k - 1).testBit i = true := by
  unfold doneB
  rw [decide_eq_true_eq]
  constructor
  · intro h i hi
    refine h i ?_ hi
    rw [needTo_bit, Bool.and_eq_true, decide_eq_true_eq] at hi
    exact hi.1
  · exact fun h i _ => h i
theorem order_not {cs : List Cmd} (h : onceV cs = true) {k : Nat} (hk : k < cs.length) (hd : doneB cs k = false) : orderV cs = false := by
  unfold orderV
  rw [h, Bool.true_and, Bool.eq_false_iff]
  intro hf
  rw [(doneB_iff cs k).2 ((fits_bits (onceV_valid h)).1 hf k hk)] at hd
  cases hd
theorem order_yes {cs : List Cmd} (h : onceV cs = true) (hd : ∀ k, k < cs.length → doneB cs k = true) : orderV cs = true := by
  unfold orderV
  rw [h, Bool.true_and]
  exact (fits_bits (onceV_valid h)).2 (fun k hk => (doneB_iff cs k).1 (hd k hk))

def OrdRel (cs : List Cmd) (W : World) (d i : Value) (wr : World) : Prop :=
  ∃ k : Nat, i = .int .i64 k ∧ d = .int .u32 ((2 ^ k - 1 : Nat) : Int) ∧ k ≤ cs.length ∧ Hid (∀ j, j < k → doneB cs j = true) ∧ wr = W

set_option maxHeartbeats 4000000 in
set_option maxRecDepth 100000 in
theorem implOrderFits_c (a : Option Addr) (len cap : Nat) (cs : List Cmd) (hl : len ≤ 2097152) (hs : ShortC 2097152 cs) (W : World) (hN : CmdsAt W a len cs) :
    Calls Tryz.prog 9 #[.slice a len cap] W (BoolPost (orderV cs) W) := by
  obtain ⟨u, hu⟩ : ∃ u, onceV cs = u := ⟨_, rfl⟩
  have HO := Lib.hid (show Calls Tryz.prog 21 #[.slice a len cap] W (BoolPost u W) by rw [← hu]; exact pathsOnce_c a len cap cs hl hs W hN)
  cases u with
  | false =>
    have HR := Lib.hid (show orderV cs = false by unfold orderV; rw [hu]; rfl)
    clear hu hN hs
    go_enter Tryz.func9, Tryz.ntmps9
    go_wp2_with fail
    refine HO.out.mono ?_
    rintro e W1 ⟨rfl, hb1⟩
    have B1 := Lib.hid hb1
    clear hb1
    go_wp2
    go_ret
    exact ⟨ret_bool HR.out.symm, B1.out⟩
  | true =>
    have HU := Lib.hid hu
    have HL := Lib.hid (onceV_len hu)
    have HE := Lib.hid hN.1
    have hl20 : (cs.length : Int) ≤ 20 := by have := HL.out; omega
    have HNB := Lib.hid (fun W' (hb : Below W.heap.size W W') => neededBy_c a len cap cs (by have := HL.out; have := HE.out; omega) hs W' (hN.keep hb))
    clear hu hN hs
    go_enter Tryz.func9, Tryz.ntmps9
    go_wp2_with fail
    refine HO.out.mono ?_
    rintro e W1 ⟨rfl, hb1⟩
    have B1 := Lib.hid hb1
    clear hb1
    go_wp2_with fail
    refine (HNB.out _ B1.out).mono ?_
    rintro e W2 ⟨g, c2, rfl, ho2, hb2⟩
    have B2 := Lib.hid (below_next B1.out hb2)
    have HO2 := Lib.hid ho2
    clear hb2 ho2
    go_wp2_with fail
    go_loopw [3, 12] (fun d i wr => OrdRel cs W2 d i wr) (fun _ i _ => cs.length - (intOf i).toNat)
    case atStart => exact ⟨0, rfl, rfl, Nat.zero_le _, Lib.hid (fun j h => absurd h (by omega)), rfl⟩
    case round =>
      obtain ⟨k, rfl, rfl, hk, HP, rfl⟩ := hrel
      by_cases hlt : k < cs.length
      · have hlt' : (k : Int) < cs.length := by omega
        have hw1 : IntKind.i64.wrap ((k : Int) + 1) = (k : Int) + 1 := IntWalk.i64_in _ (by omega)
        have HLT := Lib.hid hlt
        obtain ⟨v, hv⟩ : ∃ v, doneB cs k = v := ⟨_, rfl⟩
        have hp20 := pow_lt32 (show k ≤ 20 by have := HL.out; omega)
        have HA := Lib.hid (fun w => hasAll_c (2 ^ k - 1) (needTo cs k cs.length) (by omega) (need_lt32 cs k HL.out) v (by rw [← hv]; exact doneB_iff cs k) w)
        have HW := Lib.hid (fun w => show Calls Tryz.prog 24 #[.int .u32 ((2 ^ k - 1 : Nat) : Int), .int .i64 k] w (fun e W' => e = .returned (.int .u32 ((2 ^ (k + 1) - 1 : Nat) : Int)) ∧ W' = w) by rw [← or_pow k]; exact with_c (2 ^ k - 1) k (by omega) (by have := HL.out; omega) w)
        have HV := Lib.hid hv
        obtain ⟨nn, hnn⟩ : ∃ nn, needTo cs k cs.length = nn := ⟨_, rfl⟩
        obtain ⟨dd, hdd⟩ : ∃ dd, 2 ^ k - 1 = dd := ⟨_, rfl⟩
        have x0 : wr.cell? ⟨g, k, none⟩ = some (.int .u32 (needTo cs k cs.length : Nat)) := by
          rw [HO2.out.cellAt _ (by omega), rowN_get _ hlt]
        rw [hnn] at HA x0
        rw [hdd] at HA HW ⊢
        clear hk hlt hv hp20 hnn hdd
        go_wp2_with fail
        refine (HA.out _).mono ?_
        rintro e W4 ⟨rfl, rfl⟩
        cases v with
        | false =>
          have HR := Lib.hid (order_not HU.out HLT.out HV.out)
          go_wp2
          go_ret
          exact ⟨ret_bool HR.out.symm, B2.out⟩
        | true =>
          go_wp2_with fail
          refine (HW.out _).mono ?_
          rintro e W5 ⟨rfl, rfl⟩
          go_wp2
          go_roundw
          case rel =>
            refine ⟨k + 1, by go_num, rfl, HLT.out, Lib.hid (fun j hj => ?_), rfl⟩
            by_cases h : j < k
            · exact HP.out j h
            · obtain rfl : j = k := by omega
              exact HV.out
          case measure => have := HLT.out; simp [intOf]; omega
      · have hge : (cs.length : Int) ≤ k := by omega
        have HR := Lib.hid (order_yes HU.out (fun j hj => HP.out j (by omega)))
        clear hk hlt
        go_wp2
        go_ret
        exact ⟨ret_bool HR.out.symm, B2.out⟩

/-! ### OrderSwap -/
theorem order_swap_not {cs : List Cmd} {k : Int} (h : orderV cs = false ∨ ¬ (0 ≤ k ∧ k + 2 ≤ cs.length)) : orderSwap cs k = ([], false) := by
  unfold orderSwap
  rw [if_neg]
  rintro ⟨h1, h2⟩
  rcases h with h | h
  · rw [h] at h1; cases h1
  · exact h h2
theorem order_swap_is {cs : List Cmd} {n : Nat} {v : Bool} (h : orderV cs = true) (hn : n + 1 < cs.length) (hv : orderV (swapK cs n (n + 1)) = v) : orderSwap cs n = if v = true then (swapK cs n (n + 1), true) else ([], false) := by
  unfold orderSwap
  rw [if_pos ⟨h, by omega, by omega⟩, Int.toNat_natCast]
  have hp : cs.Perm (swapK cs n (n + 1)) := (swapK_perm (by omega) hn).symm
  have e : fitsB (swapK cs n (n + 1)) = v := by
    rw [← hv]
    unfold orderV
    obtain ⟨h1, h2, _⟩ := orderV_iff.1 h
    rw [onceV_iff.2 ⟨(hp.map Cmd.p).nodup_iff.1 h1, validL_perm hp h2⟩]
    rfl
  rw [e]
theorem below_fiveT {W w : World} {g o : Nat} (c : Cmd) (h : Below W.heap.size W w) (hg : W.heap.size ≤ g) : Below W.heap.size W (set5 w g o c) := h.grown (grown_set5 w g o c) h.size (fun k e => by cases e; exact hg)
theorem own_someT {W : World} {base : Nat} {e : TypeId} {v : Value} {cs : List Cmd} (h : W.ownsRow base e 5 v cs.length (flatC cs)) (h0 : 0 < cs.length) : ∃ g cap, v = .slice (some ⟨g, 0, none⟩) cs.length cap ∧ base ≤ g ∧ cs.length ≤ cap := by
  rcases h.2 with ⟨_, h1⟩ | ⟨g, cap, cur, rfl, h1, h2, h3, h4, _⟩
  · omega
  · exact ⟨g, cap, rfl, h1, h3⟩
theorem move_nil {r : List Cmd × Bool} {W w : World} (h : r = ([], false)) (hB : Below W.heap.size W w) : MovePost r W (.returned (.tuple #[.slice none 0 0, .bool false])) w := move_end h (World.ownsRow_nil _ _ _ _) hB

end Go.Proofs.YtpjoahddbdmbpaaGreatDoor
