/-
  PLAIN MATHEMATICS OF FILTERS (P104 to P109).
-/
import Derived.Test.YtmlnakkfjecibaaOa
namespace Go.Proofs.Ytmlnakkfjecibaa

/-- spec.l23In. -/
def inB (igs : List ByteArray) (p : ByteArray) : Bool := igs.any (fun q => decide (q = p) || l1uB q p)
/-- One round of spec.l23Touches. -/
def overI (c : Cmd) (q : ByteArray) : Bool := l1uB c.p q && !(c.tk == 1)
/-- spec.l23Touches. -/
def touchL (igs : List ByteArray) (c : Cmd) : Bool := igs.any (overI c) || inB igs c.p
/-- spec.IgnoresValid. -/
def igV (igs : List ByteArray) : Bool := igs.all (fun q => decide (1 ≤ depB q)) && decide (igs.length ≤ 4)
/-- spec.FilterKeep. -/
def keepL (cs : List Cmd) (igs : List ByteArray) : List Cmd := if (validL cs && igV igs) = true then cs.filter (fun c => !touchL igs c) else []
/-- spec.FilterHold. -/
def holdL (cs : List Cmd) (igs : List ByteArray) : List Cmd := if (validL cs && igV igs) = true then cs.filter (fun c => touchL igs c) else []
/-- spec.FilterTree. -/
def filtT (ns : List Nd) (igs : List ByteArray) : List Nd := if (validT ns && igV igs) = true then ns.filter (fun n => !inB igs n.p) else []

theorem igV_iff {igs : List ByteArray} : igV igs = true ↔ (∀ q ∈ igs, 1 ≤ depB q) ∧ igs.length ≤ 4 := by
  unfold igV
  rw [Bool.and_eq_true, List.all_eq_true, decide_eq_true_eq]
  constructor
  · rintro ⟨h1, h2⟩; exact ⟨fun q hq => of_decide_eq_true (h1 q hq), h2⟩
  · rintro ⟨h1, h2⟩; exact ⟨fun q hq => decide_eq_true (h1 q hq), h2⟩
theorem igV_at {igs : List ByteArray} (h : igV igs = true) {q : ByteArray} (hq : q ∈ igs) : vpB q = true := vp_of_depth ((igV_iff.1 h).1 q hq)

theorem inB_iff {igs : List ByteArray} (hi : igV igs = true) {p : ByteArray} (hp : vpB p = true) : inB igs p = true ↔ ∃ q ∈ igs, q = p ∨ undB q p = true := by
  unfold inB
  rw [List.any_eq_true]
  constructor
  · rintro ⟨q, hq, h⟩
    rw [Bool.or_eq_true, decide_eq_true_eq, l1u_und (igV_at hi hq) hp] at h
    exact ⟨q, hq, h⟩
  · rintro ⟨q, hq, h⟩
    refine ⟨q, hq, ?_⟩
    rw [Bool.or_eq_true, decide_eq_true_eq, l1u_und (igV_at hi hq) hp]
    exact h

theorem touch_iff {igs : List ByteArray} (hi : igV igs = true) {c : Cmd} (hc : validC c = true) : touchL igs c = true ↔ ∃ q ∈ igs, q = c.p ∨ undB q c.p = true ∨ (undB c.p q = true ∧ c.tk ≠ 1) := by
  unfold touchL
  rw [Bool.or_eq_true, inB_iff hi (validC_vp hc), List.any_eq_true]
  constructor
  · rintro (⟨q, hq, h⟩ | ⟨q, hq, h⟩)
    · unfold overI at h
      rw [Bool.and_eq_true, l1u_und (validC_vp hc) (igV_at hi hq), Bool.not_eq_true', beq_eq_false_iff_ne] at h
      exact ⟨q, hq, .inr (.inr h)⟩
    · rcases h with h | h
      · exact ⟨q, hq, .inl h⟩
      · exact ⟨q, hq, .inr (.inl h)⟩
  · rintro ⟨q, hq, h | h | h⟩
    · exact .inr ⟨q, hq, .inl h⟩
    · exact .inr ⟨q, hq, .inr h⟩
    · refine .inl ⟨q, hq, ?_⟩
      unfold overI
      rw [Bool.and_eq_true, l1u_und (validC_vp hc) (igV_at hi hq), Bool.not_eq_true', beq_eq_false_iff_ne]
      exact h

theorem keep_ok {cs : List Cmd} {igs : List ByteArray} (h : validL cs = true) (hi : igV igs = true) : keepL cs igs = cs.filter (fun c => !touchL igs c) := if_pos (by rw [h, hi]; rfl)
theorem hold_ok {cs : List Cmd} {igs : List ByteArray} (h : validL cs = true) (hi : igV igs = true) : holdL cs igs = cs.filter (fun c => touchL igs c) := if_pos (by rw [h, hi]; rfl)
theorem keep_sub (cs : List Cmd) (igs : List ByteArray) : (keepL cs igs).Sublist cs := by
  unfold keepL
  split
  · exact List.filter_sublist
  · exact List.nil_sublist _
theorem keep_len (cs : List Cmd) (igs : List ByteArray) : (keepL cs igs).length ≤ cs.length := (keep_sub cs igs).length_le
theorem keep_mem {cs : List Cmd} {igs : List ByteArray} {c : Cmd} (hc : c ∈ keepL cs igs) : validL cs = true ∧ igV igs = true ∧ c ∈ cs ∧ touchL igs c = false := by
  unfold keepL at hc
  split at hc
  · rename_i h
    rw [Bool.and_eq_true] at h
    obtain ⟨h1, h2⟩ := List.mem_filter.1 hc
    exact ⟨h.1, h.2, h1, by simpa using h2⟩
  · cases hc

/-- P104. -/
theorem keep_apart {cs : List Cmd} {igs : List ByteArray} {c : Cmd} {q : ByteArray} (hc : c ∈ keepL cs igs) (hq : q ∈ igs) : c.p ≠ q ∧ underB q c.p = false ∧ (underB c.p q = true → c.tk = 1) := by
  obtain ⟨h1, h2, h3, h4⟩ := keep_mem hc
  have hvc := ((validL_iff cs).1 h1).1 c h3
  have hn : ¬ _ := fun k => Bool.false_ne_true (h4.symm.trans ((touch_iff h2 hvc).2 k))
  refine ⟨fun e => hn ⟨q, hq, .inl e.symm⟩, ?_, fun k => ?_⟩
  · cases hu : underB q c.p with
    | false => rfl
    | true => exact absurd ⟨q, hq, .inr (.inl hu)⟩ hn
  · by_cases e : c.tk = 1
    · exact e
    · exact absurd ⟨q, hq, .inr (.inr ⟨k, e⟩)⟩ hn

/-- P105. -/
theorem keep_or_hold {cs : List Cmd} {igs : List ByteArray} (h : validL cs = true) (hi : igV igs = true) {c : Cmd} (hc : c ∈ cs) : (c ∈ keepL cs igs ↔ ¬ c ∈ holdL cs igs) := by
  rw [keep_ok h hi, hold_ok h hi, List.mem_filter, List.mem_filter]
  cases touchL igs c <;> simp [hc]
theorem keep_hold_len {cs : List Cmd} {igs : List ByteArray} (h : validL cs = true) (hi : igV igs = true) : (keepL cs igs).length + (holdL cs igs).length = cs.length := by
  rw [keep_ok h hi, hold_ok h hi]
  clear h hi
  induction cs with
  | nil => rfl
  | cons c r ih =>
    rw [List.filter_cons, List.filter_cons, List.length_cons]
    cases touchL igs c
    · simp only [Bool.not_false, if_true, Bool.false_eq_true, if_false, List.length_cons]; omega
    · simp only [Bool.not_true, Bool.false_eq_true, if_false, if_true, List.length_cons]; omega

/-- P107. -/
theorem igV_take {igs : List ByteArray} (h : igV igs = true) (k : Nat) : igV (igs.take k) = true := by
  rw [igV_iff] at h ⊢
  exact ⟨fun q hq => h.1 q (List.mem_of_mem_take hq), by rw [List.length_take]; omega⟩
theorem keep_more {cs : List Cmd} {igs : List ByteArray} (k : Nat) {c : Cmd} (hc : c ∈ keepL cs igs) : c ∈ keepL cs (igs.take k) := by
  obtain ⟨h1, h2, h3, h4⟩ := keep_mem hc
  have hvc := ((validL_iff cs).1 h1).1 c h3
  rw [keep_ok h1 (igV_take h2 k), List.mem_filter]
  refine ⟨h3, ?_⟩
  cases ht : touchL (igs.take k) c with
  | false => rfl
  | true =>
    obtain ⟨q, hq, hx⟩ := (touch_iff (igV_take h2 k) hvc).1 ht
    rw [(touch_iff h2 hvc).2 ⟨q, List.mem_of_mem_take hq, hx⟩] at h4
    cases h4
theorem keep_none {cs : List Cmd} (h : validL cs = true) : keepL cs [] = cs := by
  rw [keep_ok h (by decide), List.filter_eq_self]
  intro c _
  rfl

/-- P108. -/
theorem filt_ok {ns : List Nd} {igs : List ByteArray} (h : validT ns = true) (hi : igV igs = true) : filtT ns igs = ns.filter (fun n => !inB igs n.p) := if_pos (by rw [h, hi]; rfl)
theorem filt_sub (ns : List Nd) (igs : List ByteArray) : (filtT ns igs).Sublist ns := by
  unfold filtT
  split
  · exact List.filter_sublist
  · exact List.nil_sublist _
theorem filt_len (ns : List Nd) (igs : List ByteArray) : (filtT ns igs).length ≤ ns.length := (filt_sub ns igs).length_le
theorem filt_get {ns : List Nd} {igs : List ByteArray} (h : validT ns = true) (hi : igV igs = true) {q : ByteArray} (hq : vpB q = true) : getT (filtT ns igs) q = if inB igs q = true then (0, 0) else getT ns q := by
  have ha := ((validT_iff ns).1 h).1
  by_cases hd : 1 ≤ depB q
  · rw [getT_other hd, getT_other hd, filt_ok h hi]
    unfold getL
    by_cases hb : inB igs q = true
    · rw [if_pos hb, look_none.2 (fun n hn e => by
        have := (List.mem_filter.1 hn).2
        rw [e, hb] at this
        cases this)]
    · rw [if_neg hb]
      have hb' : inB igs q = false := by simpa using hb
      cases hl : look ns q with
      | none => rw [look_none.2 (fun n hn => look_none.1 hl n (List.mem_filter.1 hn).1)]
      | some n =>
        obtain ⟨h1, h2⟩ := look_some hl
        have : look (ns.filter (fun n => !inB igs n.p)) q = some n := by
          rw [← h2]
          exact look_mem (asc_filter ha _) (List.mem_filter.2 ⟨h1, by rw [h2, hb']; rfl⟩)
        rw [this]
  · rw [root_of_depth hq hd, getT_root, getT_root]
    have : inB igs rootB = false := by
      rw [Bool.eq_false_iff]
      intro hb
      obtain ⟨x, hx, hxx⟩ := (inB_iff hi (by decide)).1 hb
      have hdx := (igV_iff.1 hi).1 x hx
      rcases hxx with e | e
      · rw [e, depth_root_B] at hdx; exact absurd hdx (by decide)
      · have := (und_depth e).2.1; rw [depth_root_B] at this; exact absurd this (by decide)
    rw [this]; rfl
theorem filt_valid {ns : List Nd} {igs : List ByteArray} (h : validT ns = true) (hi : igV igs = true) : validT (filtT ns igs) = true := by
  obtain ⟨h1, h2, h3⟩ := (validT_iff ns).1 h
  refine (validT_iff _).2 ⟨by rw [filt_ok h hi]; exact asc_filter h1 _, fun n hn => ?_, Nat.le_trans (filt_len ns igs) h3⟩
  have hn' := hn
  rw [filt_ok h hi, List.mem_filter] at hn'
  obtain ⟨g1, g2, g3, g4⟩ := h2 n hn'.1
  refine ⟨g1, g2, g3, ?_⟩
  have hpv := parB_valid g1
  rw [filt_get h hi hpv.1, if_neg, g4]
  intro hb
  obtain ⟨x, hx, hxx⟩ := (inB_iff hi hpv.1).1 hb
  have : inB igs n.p = true := (inB_iff hi (vp_of_depth g1)).2 ⟨x, hx, .inr (by
    rcases hxx with e | e
    · rw [e]; exact hpv.2.2.1
    · exact und_trans e hpv.2.2.1)⟩
  have k := hn'.2
  rw [this] at k
  cases k
/-- At a node: there just if its path is neither ignored nor under an ignored one. -/
theorem filt_at {ns : List Nd} {igs : List ByteArray} (h : validT ns = true) (hi : igV igs = true) {n : Nd} (hn : n ∈ ns) : treeGet (filtT ns igs) n.p = if igs.any (fun q => decide (n.p = q) || underB q n.p) = true then (0, 0) else (n.k, n.v) := by
  have hp := (good_path h hn).2
  rw [treeGet_eq (filt_valid h hi) hp, filt_get h hi hp, getT_mem h hn]
  have : inB igs n.p = igs.any (fun q => decide (n.p = q) || underB q n.p) := by
    rw [Bool.eq_iff_iff, inB_iff hi hp, List.any_eq_true]
    constructor
    · rintro ⟨q, hq, e | e⟩
      · exact ⟨q, hq, by rw [Bool.or_eq_true, decide_eq_true_eq]; exact .inl e.symm⟩
      · exact ⟨q, hq, by rw [Bool.or_eq_true]; exact .inr e⟩
    · rintro ⟨q, hq, hx⟩
      rw [Bool.or_eq_true, decide_eq_true_eq] at hx
      rcases hx with e | e
      · exact ⟨q, hq, .inl e.symm⟩
      · exact ⟨q, hq, .inr e⟩
  rw [this]
theorem filt_kind {ns : List Nd} (h : validT ns = true) {n : Nd} (hn : n ∈ ns) : n.k ≠ 0 := (((validT_iff ns).1 h).2.1 n hn).2.2.1

/-- P109. -/
theorem igV_part {igs : List ByteArray} (h : igV igs = true) (k : Nat) : igV (igs.take k ++ igs.drop (k + 1)) = true := by
  rw [igV_iff] at h ⊢
  refine ⟨fun q hq => ?_, by rw [List.length_append, List.length_take, List.length_drop]; omega⟩
  rcases List.mem_append.1 hq with e | e
  · exact h.1 q (List.mem_of_mem_take e)
  · exact h.1 q (List.mem_of_mem_drop e)
theorem igV_root {igs : List ByteArray} : igV (igs ++ [rootB]) = false := by
  rw [Bool.eq_false_iff]
  intro h
  have := (igV_iff.1 h).1 rootB (by simp)
  rw [depth_root_B] at this
  exact absurd this (by decide)

/-- P106. -/
theorem und_comp {a b x : ByteArray} (h : undB a x = true) (k : undB b x = true) : a = b ∨ undB a b = true ∨ undB b a = true := by
  obtain ⟨w, t, hw, hwt, _, ha, hx⟩ := und_words h
  obtain ⟨v, s, hv, hvs, _, hb, hy⟩ := und_words k
  have e : w ++ t = v ++ s := pB_inj' (hx.symm.trans hy)
  rcases List.append_eq_append_iff.1 e with ⟨z, h1, _⟩ | ⟨z, h1, _⟩
  · by_cases hz : z = []
    · left; rw [ha, hb, h1, hz, List.append_nil]
    · right; left
      rw [ha, hb, h1, undB_pB hw (by rw [← h1]; exact hv)]
      exact decide_eq_true ⟨List.prefix_append _ _, by rw [List.length_append]; have := List.length_pos_iff.2 hz; omega⟩
  · by_cases hz : z = []
    · left; rw [ha, hb, h1, hz, List.append_nil]
    · right; right
      rw [ha, hb, h1, undB_pB hv (by rw [← h1]; exact hw)]
      exact decide_eq_true ⟨List.prefix_append _ _, by rw [List.length_append]; have := List.length_pos_iff.2 hz; omega⟩

theorem run_keeps : ∀ (cs : List Cmd) (t : List Nd), (runL t cs).2 = cs.length → ∀ q, (∀ e ∈ cs, e.p ≠ q) → getT (runL t cs).1 q = getT t q
  | [], t, _, q, _ => rfl
  | c :: r, t, hr, q, hq => by
    cases ha : applyC t c with
    | mk out b =>
      cases b with
      | false => rw [runL_cons_no (by rw [ha])] at hr; simp at hr
      | true =>
        rw [runL_cons_yes ha] at hr ⊢
        have ih := run_keeps r out (by simpa using hr) q (fun e he => hq e (List.mem_cons_of_mem _ he))
        exact ih.trans ((apply_get ha).2 q (fun e => hq c (by simp) e.symm))

/-- The next command that is kept does not break, if there is room. -/
theorem keep_step {t s : List Nd} {b pre suf : List Cmd} {c : Cmd} {p : ByteArray} (ht : validT t = true) (vb : validL b = true) (nb : (b.map Cmd.p).Nodup) (rb : (runL t b).2 = b.length)
    (hi : igV [p] = true) (hS : ∀ d, d ∈ pre ++ c :: suf ↔ d ∈ b ∧ touchL [p] d = false) (hD : ∀ d ∈ suf, mustC d c = false) (hnp : ∀ d ∈ pre, d.p ≠ c.p) (hs : validT s = true)
    (h1 : ∀ d ∈ pre, getT s d.p = (d.tk, d.tv)) (h2 : ∀ q, (∀ d ∈ pre, d.p ≠ q) → getT s q = getT t q) (hroom : c.fk ≠ 0 ∨ s.length + 1 ≤ 10) : ∃ out, applyC s c = (out, true) := by
  have hV : ∀ d ∈ b, validC d = true := fun d hd => ((validL_iff b).1 vb).1 d hd
  obtain ⟨hcb, hcs⟩ := (hS c).1 (by simp)
  have hvc := hV c hcb
  have hct : ¬ (p = c.p ∨ undB p c.p = true ∨ (undB c.p p = true ∧ c.tk ≠ 1)) := fun k => by
    rw [(touch_iff hi hvc).2 ⟨p, by simp, k⟩] at hcs
    cases hcs
  have hdep : 1 ≤ depB c.p := ((validC_iff c).1 hvc).1
  have hy := runL_valid b t ht
  have hyc := runL_in b t rb nb c hcb
  have htc := run_was b t rb nb c hcb
  have hsc : getT s c.p = (c.fk, c.fv) := by rw [h2 c.p hnp, htc]
  have hcase : ∀ d, d ∈ b → d.p ≠ c.p → (∀ e ∈ pre, e.p ≠ d.p) → d ∈ suf ∨ (p = d.p ∨ undB p d.p = true ∨ (undB d.p p = true ∧ d.tk ≠ 1)) := by
    intro d hd hdc hdp
    cases hh : touchL [p] d with
    | true =>
      obtain ⟨q, hq, k⟩ := (touch_iff hi (hV d hd)).1 hh
      rw [List.mem_singleton.1 hq] at k
      exact .inr k
    | false =>
      rcases List.mem_append.1 ((hS d).2 ⟨hd, hh⟩) with k | k
      · exact absurd rfl (hdp d k)
      · rcases List.mem_cons.1 k with k | k
        · exact absurd (congrArg Cmd.p k) hdc
        · exact .inl k
  have hpar : (treeGet s (parB c.p)).1 = 1 ∨ c.tk = 0 := by
    by_cases hk : c.tk = 0
    · exact .inr hk
    · refine .inl ?_
      have hpv := parB_valid hdep
      rw [treeGet_eq hs hpv.1]
      have hyq : (getT (runL t b).1 (parB c.p)).1 = 1 := par_dir hy hdep (by rw [hyc]; exact hk)
      by_cases hpre : ∃ d ∈ pre, d.p = parB c.p
      · obtain ⟨d, hd, hdp⟩ := hpre
        have hdb := ((hS d).1 (List.mem_append_left _ hd)).1
        rw [← hdp, h1 d hd]
        have := runL_in b t rb nb d hdb
        rw [hdp] at this
        rw [this] at hyq
        exact hyq
      · have hpre2 : ∀ d ∈ pre, d.p ≠ parB c.p := fun d hd e => hpre ⟨d, hd, e⟩
        rw [h2 _ hpre2]
        by_cases hb : ∃ d ∈ b, d.p = parB c.p
        · obtain ⟨d, hd, hdp⟩ := hb
          exfalso
          have hdk : d.tk = 1 := by
            have := runL_in b t rb nb d hd
            rw [hdp] at this
            rw [this] at hyq
            exact hyq
          have hne : d.p ≠ c.p := by rw [hdp]; exact ltB_ne (und_lt hpv.2.2.1)
          rcases hcase d hd hne (by rw [hdp]; exact hpre2) with k | k | k | k
          · have := hD d k
            rw [must_und (hV d hd) hvc, hdp, hpv.2.2.1, hdk] at this
            simp at this
          · exact hct (.inr (.inl (by rw [k, hdp]; exact hpv.2.2.1)))
          · rw [hdp] at k
            exact hct (.inr (.inl (und_trans k hpv.2.2.1)))
          · exact k.2 hdk
        · rw [← run_keeps b t rb _ (fun d hd e => hb ⟨d, hd, e⟩)]
          exact hyq
  have hund : treeUnder s c.p = [] ∨ c.tk = 1 := by
    by_cases hk : c.tk = 1
    · exact .inr hk
    · refine .inl ?_
      unfold treeUnder
      rw [hs, vp_of_depth hdep, if_pos (show (true && true) = true from rfl), List.map_eq_nil_iff, List.filter_eq_nil_iff]
      intro n hn hu
      have hu' : undB c.p n.p = true := hu
      have hnk : (getT s n.p).1 ≠ 0 := by rw [getT_mem hs hn]; exact (((validT_iff s).1 hs).2.1 n hn).2.2.1
      have hyz : (getT (runL t b).1 n.p).1 = 0 := by
        by_cases k : (getT (runL t b).1 n.p).1 = 0
        · exact k
        · have := up_dir hy k hu'
          rw [hyc] at this
          exact absurd this hk
      have hne : n.p ≠ c.p := fun e => ltB_ne (und_lt hu') e.symm
      by_cases hpre : ∃ d ∈ pre, d.p = n.p
      · obtain ⟨d, hd, hdp⟩ := hpre
        have hdb := ((hS d).1 (List.mem_append_left _ hd)).1
        have := runL_in b t rb nb d hdb
        rw [← h1 d hd, hdp] at this
        rw [this] at hyz
        exact hnk hyz
      · have hpre2 : ∀ d ∈ pre, d.p ≠ n.p := fun d hd e => hpre ⟨d, hd, e⟩
        rw [h2 _ hpre2] at hnk
        by_cases hb : ∃ d ∈ b, d.p = n.p
        · obtain ⟨d, hd, hdp⟩ := hb
          rcases hcase d hd (by rw [hdp]; exact hne) (by rw [hdp]; exact hpre2) with k | k | k | k
          · have hcf : c.fk = 1 := by
              have := up_dir ht hnk hu'
              rw [htc] at this
              exact this
            have := hD d k
            rw [must_und (hV d hd) hvc, hdp, hu', hcf] at this
            simp at this
          · exact hct (.inr (.inr ⟨by rw [k, hdp]; exact hu', hk⟩))
          · rw [hdp] at k
            rcases und_comp hu' k with e | e | e
            · exact hct (.inl e.symm)
            · exact hct (.inr (.inr ⟨e, hk⟩))
            · exact hct (.inr (.inl e))
          · rw [hdp] at k
            exact hct (.inr (.inr ⟨und_trans hu' k.1, hk⟩))
        · rw [← run_keeps b t rb _ (fun d hd e => hb ⟨d, hd, e⟩)] at hnk
          exact hnk hyz
  have hlen := ((validT_iff s).1 hs).2.2
  have hput := (put_when (v := c.tv) hs hdep ((validC_iff c).1 hvc).2.2.1).2 ⟨hpar, hund, by
    rw [treeGet_eq hs (vp_of_depth hdep), hsc]
    split
    · rename_i k
      rcases hroom with r | r
      · exact absurd k.1 r
      · exact r
    · omega⟩
  obtain ⟨out, ho⟩ := Option.isSome_iff_exists.1 hput
  refine ⟨out, ?_⟩
  rw [applyC_ok hs hvc, if_pos hsc, ho]

/-- What is kept is done, or stops at a full tree. -/
theorem keep_go {t : List Nd} {b : List Cmd} {p : ByteArray} (ht : validT t = true) (vb : validL b = true) (nb : (b.map Cmd.p).Nodup) (rb : (runL t b).2 = b.length) (hi : igV [p] = true) :
    ∀ (suf pre : List Cmd) (s : List Nd), (∀ d, d ∈ pre ++ suf ↔ d ∈ b ∧ touchL [p] d = false) → FitsO (pre ++ suf) → ((pre ++ suf).map Cmd.p).Nodup → validT s = true →
    (∀ d ∈ pre, getT s d.p = (d.tk, d.tv)) → (∀ q, (∀ d ∈ pre, d.p ≠ q) → getT s q = getT t q) → (runL s suf).2 = suf.length ∨ (runL s suf).1.length = 10
  | [], pre, s, _, _, _, _, _, _ => .inl rfl
  | c :: suf, pre, s, hS, hO, hn, hs, h1, h2 => by
    have hnp : ∀ d ∈ pre, d.p ≠ c.p := by
      rw [List.map_append, List.map_cons, List.nodup_append] at hn
      intro d hd e
      exact hn.2.2 d.p (List.mem_map_of_mem hd) c.p (by simp) e
    have hD : ∀ d ∈ suf, mustC d c = false := (List.pairwise_cons.1 (List.pairwise_append.1 hO).2.1).1
    by_cases hroom : c.fk ≠ 0 ∨ s.length + 1 ≤ 10
    · obtain ⟨out, ho⟩ := keep_step ht vb nb rb hi hS hD hnp hs h1 h2 hroom
      obtain ⟨g1, g2⟩ := apply_get ho
      have ea : pre ++ [c] ++ suf = pre ++ c :: suf := by simp
      have ih := keep_go ht vb nb rb hi suf (pre ++ [c]) out (fun d => by rw [ea]; exact hS d) (by rw [ea]; exact hO) (by rw [ea]; exact hn) (applyC_valid ho) (fun d hd => by
        rcases List.mem_append.1 hd with hd | hd
        · rw [g2 _ (hnp d hd)]; exact h1 d hd
        · rw [List.mem_singleton.1 hd]; exact g1) (fun q hq => by
        rw [g2 q (fun e => hq c (by simp) e.symm)]
        exact h2 q (fun d hd => hq d (List.mem_append_left _ hd)))
      rw [runL_cons_yes ho]
      simp only [List.length_cons]
      rcases ih with k | k
      · left; rw [k]
      · exact .inr k
    · have hlen := ((validT_iff s).1 hs).2.2
      have h10 : s.length = 10 := by omega
      have hf : c.fk = 0 := by omega
      cases ha : applyC s c with
      | mk out ok =>
        cases ok with
        | false => right; rw [runL_cons_no (by rw [ha])]; exact h10
        | true =>
          exfalso
          have hsz := step_size ha
          have hvo := ((validT_iff out).1 (applyC_valid ha)).2.2
          have hk : c.tk ≠ 0 := by
            intro k
            obtain ⟨_, v1, v2, hne⟩ := (validC_iff c).1 (applyC_some ha).2.1
            unfold validB at v1 v2
            rw [decide_eq_true_eq] at v1 v2
            exact hne (by rw [hf, k]; congr 1; omega)
          rw [if_pos hf, if_neg hk] at hsz
          omega

/-- P106: what is kept of a canonical log that fits, for one ignored path. -/
theorem keep_fits {ns x : List Nd} {cs : List Cmd} {p : ByteArray} (h : fitsL ns cs = true) (hi : igV [p] = true) {out : List Cmd} (hr : logCanon cs = (out, true)) {n : Int} (hx : logApply ns (keepL out [p]) = (x, n)) :
    (n < ((keepL out [p]).length : Int) → x.length = 10) ∧ (¬ n < ((keepL out [p]).length : Int) → treeGet x p = treeGet ns p ∧ ∀ u ∈ treeUnder ns p ++ treeUnder x p, treeGet x u = treeGet ns u) := by
  obtain ⟨y, hy, hvn, hvy, hvl⟩ := fits_run h
  obtain ⟨out2, hr2, hrun, hl20⟩ := canon_same h hy
  have e2 : out2 = out := by rw [hr] at hr2; injection hr2 with e _; exact e.symm
  subst e2
  obtain ⟨ho1, ho2, ho3⟩ := orderV_iff.1 (order_canon h hr)
  have hrun2 : (runL ns out2).2 = out2.length := by
    rw [logApply_ok hvn ho2] at hrun
    injection hrun with _ e
    exact Int.ofNat_inj.1 e
  have hk := keep_ok ho2 hi
  have hvk : validL (keepL out2 [p]) = true := validL_part ho2 (keep_sub _ _)
  rw [logApply_ok hvn hvk] at hx
  injection hx with hx1 hx2
  subst hx1; subst hx2
  have hS : ∀ d, d ∈ keepL out2 [p] ↔ d ∈ out2 ∧ touchL [p] d = false := by
    intro d
    rw [hk, List.mem_filter, Bool.not_eq_true']
  have hgo := keep_go hvn ho2 ho1 hrun2 hi (keepL out2 [p]) [] ns (by simpa using hS) (by rw [List.nil_append]; exact List.Pairwise.sublist (keep_sub _ _) ho3) (by
    rw [List.nil_append]
    exact List.Nodup.sublist (List.Sublist.map _ (keep_sub _ _)) ho1) hvn (fun d hd => by cases hd) (fun q _ => rfl)
  have hle := runL_le (keepL out2 [p]) ns
  refine ⟨fun hlt => ?_, fun hge => ?_⟩
  · rcases hgo with k | k
    · rw [k] at hlt; omega
    · exact k
  · have hfull : (runL ns (keepL out2 [p])).2 = (keepL out2 [p]).length := by omega
    have hvx := runL_valid (keepL out2 [p]) ns hvn
    have hpd : 1 ≤ depB p := (igV_iff.1 hi).1 p (by simp)
    have hvp := vp_of_depth hpd
    have hno : ∀ u, (u = p ∨ undB p u = true) → vpB u = true → treeGet (runL ns (keepL out2 [p])).1 u = treeGet ns u := by
      intro u hu hvu
      rw [treeGet_eq hvx hvu, treeGet_eq hvn hvu]
      refine run_keeps _ ns hfull u (fun e he ep => ?_)
      obtain ⟨k1, k2⟩ := (hS e).1 he
      rw [(touch_iff hi (((validL_iff _).1 ho2).1 e k1)).2 ⟨p, by simp, by
        rcases hu with hu | hu
        · exact .inl (by rw [ep]; exact hu.symm)
        · exact .inr (.inl (by rw [ep]; exact hu))⟩] at k2
      cases k2
    refine ⟨hno p (.inl rfl) hvp, fun u hu => ?_⟩
    have hmem : ∀ m : List Nd, u ∈ treeUnder m p → undB p u = true ∧ vpB u = true := by
      intro m hm
      unfold treeUnder at hm
      split at hm
      · rename_i hvm
        rw [Bool.and_eq_true] at hvm
        obtain ⟨z, hz, rfl⟩ := List.mem_map.1 hm
        obtain ⟨hz1, hz2⟩ := List.mem_filter.1 hz
        exact ⟨hz2, (good_path hvm.1 hz1).2⟩
      · cases hm
    rcases List.mem_append.1 hu with k | k
    · exact hno u (.inr (hmem _ k).1) (hmem _ k).2
    · exact hno u (.inr (hmem _ k).1) (hmem _ k).2

end Go.Proofs.Ytmlnakkfjecibaa
