/-
  PLAIN MATHEMATICS OF MOVES: what a log whose commands all are done has done, path by path, and how many nodes it leaves.
-/
import Derived.Test.YtdkpabnpobpdhaaGreatLg
namespace Go.Proofs.YtdkpabnpobpdhaaGreat

/-- A path that no command names keeps its content. -/
theorem run_other {ns : List Nd} {cs : List Cmd} {p : ByteArray} (h : validT ns = true) (hp : ∀ c ∈ cs, c.p ≠ p) : getT (runL ns cs).1 p = getT ns p := by
  by_cases e : getT ns p = getT (runL ns cs).1 p
  · exact e.symm
  · obtain ⟨k, c, _, hc, hcp⟩ := run_paths cs ns h p e
    exact absurd hcp (hp c (List.mem_of_getElem? hc))

/-- A path that one command names has what it wants. -/
theorem runL_in : ∀ (cs : List Cmd) (ns : List Nd), (runL ns cs).2 = cs.length → (cs.map Cmd.p).Nodup → ∀ c ∈ cs, getT (runL ns cs).1 c.p = (c.tk, c.tv)
  | [], _, _, _, _, hc => by cases hc
  | d :: cs, ns, hr, hn, c, hc => by
    cases ha : applyC ns d with
    | mk out b =>
      cases b with
      | false => rw [runL_cons_no (by rw [ha])] at hr; simp at hr
      | true =>
        rw [runL_cons_yes ha] at hr ⊢
        simp only [List.length_cons, Nat.add_right_cancel_iff] at hr
        have hv := applyC_valid ha
        rw [List.map_cons, List.nodup_cons] at hn
        rcases List.mem_cons.1 hc with rfl | hc
        · show getT (runL out cs).1 c.p = _
          rw [run_other hv (fun x hx e => hn.1 (by rw [← e]; exact List.mem_map_of_mem hx))]
          have := (apply_one ha).2.1
          rw [treeGet_eq hv (vp_of_depth ((validC_iff c).1 (applyC_some ha).2.1).1)] at this
          exact this
        · exact runL_in cs out hr hn.2 c hc

theorem look_zero {ns : List Nd} {p : ByteArray} {k v : Int} (h : validT ns = true) (hp : 1 ≤ depB p) (hg : getT ns p = (k, v)) : look ns p = none ↔ k = 0 := by
  cases hl : look ns p with
  | none =>
    have hr : p ≠ rootB := fun e => by rw [e] at hp; exact absurd hp (by decide)
    have := getT_none hr (look_none.1 hl)
    rw [hg] at this
    exact ⟨fun _ => congrArg Prod.fst this, fun _ => rfl⟩
  | some n =>
    obtain ⟨hm, rfl⟩ := look_some hl
    have := getT_mem h hm
    rw [hg] at this
    have hk := (((validT_iff ns).1 h).2.1 n hm).2.2.1
    refine ⟨fun e => (by cases e), fun e => ?_⟩
    have h1 := congrArg Prod.fst this
    exact absurd (h1.symm.trans e) hk

theorem step_size {ns out : List Nd} {c : Cmd} (h : applyC ns c = (out, true)) : out.length + (if c.fk = 0 then 0 else 1) = ns.length + (if c.tk = 0 then 0 else 1) := by
  obtain ⟨h1, h2, h3, h4⟩ := applyC_some h
  obtain ⟨_, hd, _, rfl, _⟩ := treePut_some h4
  have := putL_length ((validT_iff ns).1 h1).1 c.p c.tk c.tv
  simp only [look_zero h1 hd h3] at this
  exact this

/-- A log that only makes new nodes: each adds one. -/
theorem run_grow : ∀ (cs : List Cmd) (ns : List Nd), (runL ns cs).2 = cs.length → (∀ c ∈ cs, c.fk = 0 ∧ c.tk ≠ 0) → (runL ns cs).1.length = ns.length + cs.length
  | [], _, _, _ => rfl
  | d :: cs, ns, hr, hc => by
    cases ha : applyC ns d with
    | mk out b =>
      cases b with
      | false => rw [runL_cons_no (by rw [ha])] at hr; simp at hr
      | true =>
        rw [runL_cons_yes ha] at hr ⊢
        simp only [List.length_cons, Nat.add_right_cancel_iff] at hr
        have h0 := step_size ha
        rw [if_pos (hc d (by simp)).1, if_neg (hc d (by simp)).2] at h0
        have := run_grow cs out hr (fun c h => hc c (List.mem_cons_of_mem _ h))
        rw [List.length_cons]
        show (runL out cs).1.length = _
        omega

/-- A log that only removes nodes: each takes one. -/
theorem run_shrink : ∀ (cs : List Cmd) (ns : List Nd), (runL ns cs).2 = cs.length → (∀ c ∈ cs, c.fk ≠ 0 ∧ c.tk = 0) → (runL ns cs).1.length + cs.length = ns.length
  | [], _, _, _ => rfl
  | d :: cs, ns, hr, hc => by
    cases ha : applyC ns d with
    | mk out b =>
      cases b with
      | false => rw [runL_cons_no (by rw [ha])] at hr; simp at hr
      | true =>
        rw [runL_cons_yes ha] at hr ⊢
        simp only [List.length_cons, Nat.add_right_cancel_iff] at hr
        have h0 := step_size ha
        rw [if_neg (hc d (by simp)).1, if_pos (hc d (by simp)).2] at h0
        have := run_shrink cs out hr (fun c h => hc c (List.mem_cons_of_mem _ h))
        rw [List.length_cons]
        show (runL out cs).1.length + (cs.length + 1) = _
        omega

/-- spec.l13Remove, and the paths it speaks of. -/
def subB (p q : ByteArray) : Bool := decide (q = p) || undB p q
def remL (ns : List Nd) (p : ByteArray) : List Cmd := (ns.filter (fun n => subB p n.p)).reverse.map (fun n => ⟨n.p, n.k, n.v, 0, 0⟩)

theorem asc_paths {ns : List Nd} (h : Asc ns) : (ns.map Nd.p).Nodup := by
  refine List.pairwise_map.2 (h.imp (fun {x y} hxy e => ?_))
  rw [e, ltB_irrefl] at hxy
  cases hxy

theorem remL_paths {ns : List Nd} (h : Asc ns) (p : ByteArray) : ((remL ns p).map Cmd.p).Nodup := by
  unfold remL
  rw [List.map_map, List.map_reverse]
  refine List.pairwise_reverse.2 ?_
  exact (asc_paths (List.Pairwise.filter (fun n => subB p n.p) h)).imp (fun {x y} e => e.symm)

theorem und_words {a b : ByteArray} (h : undB a b = true) : ∃ w t, Wrd w ∧ Wrd (w ++ t) ∧ t ≠ [] ∧ a = pB w ∧ b = pB (w ++ t) := by
  obtain ⟨h1, h2, _⟩ := und_depth h
  obtain ⟨wa, ha, rfl⟩ := vpB_word h1
  obtain ⟨wb, hb, rfl⟩ := vpB_word (vp_of_depth h2)
  rw [undB_pB ha hb, decide_eq_true_eq] at h
  obtain ⟨⟨t, rfl⟩, hl⟩ := h
  refine ⟨wa, t, ha, hb, fun e => ?_, rfl, rfl⟩
  subst e
  simp at hl

theorem und_lt {a b : ByteArray} (h : undB a b = true) : ltB a b = true := by
  obtain ⟨w, t, _, _, ht, rfl, rfl⟩ := und_words h
  cases t with
  | nil => exact absurd rfl ht
  | cons c u => exact ltB_ext w c u

theorem und_trans {a b c : ByteArray} (h : undB a b = true) (k : undB b c = true) : undB a c = true := by
  obtain ⟨w, t, hw, hwt, ht, rfl, rfl⟩ := und_words h
  obtain ⟨w2, t2, hw2, hwt2, ht2, e, rfl⟩ := und_words k
  have := pB_inj' e
  subst this
  rw [undB_pB hw hwt2, decide_eq_true_eq]
  refine ⟨⟨t ++ t2, by rw [List.append_assoc]⟩, ?_⟩
  cases t with
  | nil => exact absurd rfl ht
  | cons x y => simp

theorem sub_und {p q r : ByteArray} (h : subB p q = true) (k : undB q r = true) : subB p r = true := by
  unfold subB at h ⊢
  rw [Bool.or_eq_true, decide_eq_true_eq] at h ⊢
  rcases h with rfl | h
  · exact .inr k
  · exact .inr (und_trans h k)

/-- P52: what RemoveAll tells fits. -/
theorem rem_run : ∀ (m : Nat) (ns : List Nd) (p : ByteArray), validT ns = true → (ns.filter (fun n => subB p n.p)).length = m → runL ns (remL ns p) = (ns.filter (fun n => !subB p n.p), (remL ns p).length)
  | 0, ns, p, _, hm => by
    have : ns.filter (fun n => subB p n.p) = [] := List.eq_nil_of_length_eq_zero hm
    have h2 : ns.filter (fun n => !subB p n.p) = ns := List.filter_eq_self.2 (fun x hx => by
      have := List.filter_eq_nil_iff.1 this x hx
      simpa using this)
    unfold remL
    rw [this, h2]; rfl
  | m + 1, ns, p, hv, hm => by
    obtain ⟨hasc, hgood, hlen⟩ := (validT_iff ns).1 hv
    have hL : Asc (ns.filter (fun n => subB p n.p)) := List.Pairwise.filter _ hasc
    obtain ⟨A, n, hA⟩ : ∃ A n, ns.filter (fun n => subB p n.p) = A ++ [n] := by
      rcases List.eq_nil_or_concat (ns.filter (fun n => subB p n.p)) with h | ⟨A, n, h⟩
      · rw [h] at hm; cases hm
      · exact ⟨A, n, by rw [h, List.concat_eq_append]⟩
    have hn : n ∈ ns.filter (fun n => subB p n.p) := by rw [hA]; simp
    obtain ⟨hnm, hsub⟩ := List.mem_filter.1 hn
    have hbef : ∀ x ∈ A, ltB x.p n.p = true := by
      have h2 := hL
      rw [hA] at h2
      exact fun x hx => (List.pairwise_append.1 h2).2.2 x hx n (by simp)
    have hg := hgood n hnm
    have hund : treeUnder ns n.p = [] := by
      unfold treeUnder
      split
      · rw [List.map_eq_nil_iff, List.filter_eq_nil_iff]
        intro q hq hu
        have hq2 : q ∈ ns.filter (fun n => subB p n.p) := List.mem_filter.2 ⟨hq, sub_und hsub hu⟩
        rw [hA, List.mem_append] at hq2
        have hlt := und_lt hu
        rcases hq2 with h | h
        · rw [ltB_asymm (hbef q h)] at hlt; cases hlt
        · obtain rfl := List.mem_singleton.1 h
          rw [ltB_irrefl] at hlt; cases hlt
      · rfl
    obtain ⟨out, ho⟩ := Option.isSome_iff_exists.1 ((put_when (p := n.p) (k := 0) (v := 0) hv hg.1 (by decide)).2 ⟨.inr rfl, .inl hund, by simp; exact hlen⟩)
    have hget := getT_mem hv hnm
    have happ : applyC ns ⟨n.p, n.k, n.v, 0, 0⟩ = (out, true) := applyC_done hv ((validC_iff _).2 ⟨hg.1, hg.2.1, show validB 0 0 = true by decide, fun e => hg.2.2.1 (congrArg Prod.fst e)⟩) hget ho
    obtain ⟨_, _, _, hout, hv2⟩ := treePut_some ho
    have hof : out.filter (fun n => subB p n.p) = A := by
      rw [hout]
      unfold putL
      rw [show ((0 : Int) == 0) = true from rfl, putGo_true, List.filter_filter]
      rw [show (fun (a : Nd) => subB p a.p && decide (a.p ≠ n.p)) = (fun a => decide (a.p ≠ n.p) && subB p a.p) from funext (fun a => Bool.and_comm _ _), ← List.filter_filter, hA, List.filter_append]
      rw [List.filter_eq_self.2 (fun x hx => by simpa using ltB_ne (hbef x hx))]
      simp
    have hrem : remL ns p = ⟨n.p, n.k, n.v, 0, 0⟩ :: remL out p := by
      unfold remL
      rw [hof, hA]
      simp
    have ih := rem_run m out p hv2 (by rw [hof]; rw [hA] at hm; simpa using hm)
    have hno : out.filter (fun n => !subB p n.p) = ns.filter (fun n => !subB p n.p) := by
      rw [hout]
      unfold putL
      rw [show ((0 : Int) == 0) = true from rfl, putGo_true, List.filter_filter]
      refine List.filter_congr (fun x _ => ?_)
      by_cases e : x.p = n.p
      · rw [e, hsub]; rfl
      · simp [e]
    rw [hrem, runL_cons_yes happ, ih, hno]
    rfl

theorem remL_len (ns : List Nd) (p : ByteArray) : (remL ns p).length = (ns.filter (fun n => subB p n.p)).length := by unfold remL; simp

theorem rem_fits {ns : List Nd} (hv : validT ns = true) (p : ByteArray) : fitsL ns (remL ns p) = true ∧ logApply ns (remL ns p) = (ns.filter (fun n => !subB p n.p), ((remL ns p).length : Int)) := by
  obtain ⟨hasc, hgood, hlen⟩ := (validT_iff ns).1 hv
  have hr := rem_run _ ns p hv rfl
  have hl : (ns.filter (fun n => subB p n.p)).length ≤ ns.length := List.length_filter_le _ _
  have hval : validL (remL ns p) = true := by
    refine (validL_iff _).2 ⟨fun c hc => ?_, by rw [remL_len]; omega⟩
    obtain ⟨n, hn, rfl⟩ := List.mem_map.1 hc
    have hg := hgood n (List.mem_filter.1 (List.mem_reverse.1 hn)).1
    exact (validC_iff _).2 ⟨hg.1, hg.2.1, show validB 0 0 = true by decide, fun e => hg.2.2.1 (congrArg Prod.fst e)⟩
  refine ⟨fitsL_iff.2 ⟨hv, hval, by rw [hr]⟩, ?_⟩
  rw [logApply_ok hv hval, hr]

/-- What RemoveAll leaves: nothing at the path or under it, all else as it was. -/
theorem rem_get {ns : List Nd} (hv : validT ns = true) (p q : ByteArray) (hq : q ≠ rootB) : getT (ns.filter (fun n => !subB p n.p)) q = if subB p q = true then (0, 0) else getT ns q := by
  obtain ⟨hasc, -, -⟩ := (validT_iff ns).1 hv
  have hr := rem_run _ ns p hv rfl
  have hv2 : validT (ns.filter (fun n => !subB p n.p)) = true := by have := runL_valid (remL ns p) ns hv; rw [hr] at this; exact this
  by_cases hs : subB p q = true
  · rw [if_pos hs]
    refine getT_none hq (fun n hn e => ?_)
    have := (List.mem_filter.1 hn).2
    rw [e, hs] at this
    cases this
  · rw [if_neg hs]
    have := run_other (cs := remL ns p) hv (p := q) (fun c hc e => by
      obtain ⟨n, hn, rfl⟩ := List.mem_map.1 hc
      have h := (List.mem_filter.1 (List.mem_reverse.1 hn)).2
      simp only at e
      rw [e] at h
      exact hs h)
    rw [hr] at this
    exact this

theorem filter_parts (f : Nd → Bool) : ∀ ns : List Nd, (ns.filter f).length + (ns.filter (fun n => !f n)).length = ns.length
  | [] => rfl
  | n :: ns => by
    have := filter_parts f ns
    cases h : f n <;> simp [h] <;> omega

/-- A path that one command names had what it tells. -/
theorem run_was : ∀ (cs : List Cmd) (ns : List Nd), (runL ns cs).2 = cs.length → (cs.map Cmd.p).Nodup → ∀ c ∈ cs, getT ns c.p = (c.fk, c.fv)
  | [], _, _, _, _, hc => by cases hc
  | d :: cs, ns, hr, hn, c, hc => by
    cases ha : applyC ns d with
    | mk out b =>
      cases b with
      | false => rw [runL_cons_no (by rw [ha])] at hr; simp at hr
      | true =>
        have h1 : runL ns [d] = (out, 1) := by rw [runL_cons_yes ha]; rfl
        have hv := (applyC_some ha).1
        rw [runL_cons_yes ha] at hr
        simp only [List.length_cons, Nat.add_right_cancel_iff] at hr
        rw [List.map_cons, List.nodup_cons] at hn
        rcases List.mem_cons.1 hc with rfl | hc2
        · exact (applyC_some ha).2.2.1
        · have h2 := run_other (cs := [d]) hv (p := c.p) (fun x hx e => hn.1 (by
            obtain rfl := List.mem_singleton.1 hx
            rw [e]; exact List.mem_map_of_mem hc2))
          rw [h1] at h2
          rw [← h2]
          exact run_was cs out hr hn.2 c hc2

/-- spec.l13Copy. -/
def cpB (a b p : ByteArray) : ByteArray := b ++ p.extract a.size p.size
def copyL (ns : List Nd) (a b : ByteArray) : List Cmd := (ns.filter (fun n => subB a n.p)).map (fun n => ⟨cpB a b n.p, 0, 0, n.k, n.v⟩)

theorem cpB_word {w v : List UInt8} (hw : w ≠ []) (hv : v ≠ []) (t : List UInt8) : cpB (pB w) (pB v) (pB (w ++ t)) = pB (v ++ t) := by
  have h1 : w ++ t ≠ [] := by simp [hw]
  have h2 : v ++ t ≠ [] := by simp [hv]
  have e : (cpB (pB w) (pB v) (pB (w ++ t))).data.toList = (pB (v ++ t)).data.toList := by
    unfold cpB pB Pm.pathOf
    rw [if_neg h1, if_neg h2, if_neg hw, if_neg hv, Pm.flat_append, Pm.flat_append]
    simp [ByteArray.data_append, ByteArray.data_extract, ByteArray.size]
  exact ByteArray.ext (Array.ext' e)

theorem sub_words {a p : ByteArray} (ha : vpB a = true) (h : subB a p = true) : ∃ w t, Wrd w ∧ Wrd (w ++ t) ∧ a = pB w ∧ p = pB (w ++ t) := by
  unfold subB at h
  rw [Bool.or_eq_true, decide_eq_true_eq] at h
  rcases h with rfl | h
  · obtain ⟨w, hw, rfl⟩ := vpB_word ha
    exact ⟨w, [], hw, by rw [List.append_nil]; exact hw, rfl, by rw [List.append_nil]⟩
  · obtain ⟨w, t, h1, h2, _, h3, h4⟩ := und_words h
    exact ⟨w, t, h1, h2, h3, h4⟩

theorem copyL_mem {ns : List Nd} {wa wb : List UInt8} (hwa : Wrd wa) (ha : wa ≠ []) (hb : wb ≠ []) {c : Cmd} (hc : c ∈ copyL ns (pB wa) (pB wb)) :
    ∃ n t, n ∈ ns ∧ n.p = pB (wa ++ t) ∧ Wrd (wa ++ t) ∧ c = ⟨pB (wb ++ t), 0, 0, n.k, n.v⟩ := by
  obtain ⟨n, hn, rfl⟩ := List.mem_map.1 hc
  obtain ⟨hm, hs⟩ := List.mem_filter.1 hn
  obtain ⟨w, t, _, h2, h3, h4⟩ := sub_words (vpB_pB hwa) hs
  have := pB_inj' h3
  subst this
  exact ⟨n, t, hm, h4, h2, by rw [h4, cpB_word ha hb]⟩

theorem copyL_paths {ns : List Nd} (h : Asc ns) {wa wb : List UInt8} (hwa : Wrd wa) (ha : wa ≠ []) (hb : wb ≠ []) : ((copyL ns (pB wa) (pB wb)).map Cmd.p).Nodup := by
  unfold copyL
  rw [List.map_map]
  refine List.pairwise_map.2 ?_
  refine List.Pairwise.imp_of_mem ?_ (List.Pairwise.filter (fun n => subB (pB wa) n.p) h)
  intro x y hx hy hxy e
  obtain ⟨w, t, _, _, h3, h4⟩ := sub_words (vpB_pB hwa) (List.mem_filter.1 hx).2
  obtain ⟨w', t', _, _, h3', h4'⟩ := sub_words (vpB_pB hwa) (List.mem_filter.1 hy).2
  have e1 := pB_inj' h3
  have e2 := pB_inj' h3'
  subst e1
  subst e2
  simp only [Function.comp] at e
  rw [h4, h4', cpB_word ha hb, cpB_word ha hb] at e
  have e3 := List.append_cancel_left (pB_inj' e)
  rw [h4, h4', e3, ltB_irrefl] at hxy
  cases hxy

theorem pB_not_root {w : List UInt8} (h : w ≠ []) : pB w ≠ rootB := fun e => h (pB_inj' (e.trans pB_root.symm))

theorem node_at {ns : List Nd} {p : ByteArray} (hp : p ≠ rootB) (h : (getT ns p).1 ≠ 0) : ∃ n ∈ ns, n.p = p := by
  by_cases e : ∃ n ∈ ns, n.p = p
  · exact e
  · rw [getT_none hp (fun n hn he => e ⟨n, hn, he⟩)] at h
    exact absurd rfl h

theorem word_of_node {ns : List Nd} (hv : validT ns = true) {n : Nd} (hn : n ∈ ns) {w : List UInt8} (e : n.p = pB w) : Wrd w := by
  obtain ⟨w', hw', e'⟩ := vpB_word (good_path hv hn).2
  rw [e] at e'
  rw [pB_inj' e']; exact hw'

/-- P54: what CopyAll has done. -/
theorem copy_done {ns : List Nd} {wa wb : List UInt8} (hv : validT ns = true) (hwa : Wrd wa) (ha : wa ≠ []) (hwb : Wrd wb) (hb : wb ≠ []) (hne : pB wb ≠ pB wa) (hnu : undB (pB wa) (pB wb) = false)
    (hg : (getT ns (pB wa)).1 ≠ 0) (hr : (runL ns (copyL ns (pB wa) (pB wb))).2 = (copyL ns (pB wa) (pB wb)).length) :
    (∀ t, getT (runL ns (copyL ns (pB wa) (pB wb))).1 (pB (wb ++ t)) = getT ns (pB (wa ++ t))) ∧
    (∀ n ∈ ns, getT (runL ns (copyL ns (pB wa) (pB wb))).1 n.p = (n.k, n.v)) ∧
    (∀ t, getT (runL ns (copyL ns (pB wa) (pB wb))).1 (pB (wa ++ t)) = getT ns (pB (wa ++ t))) ∧
    (runL ns (copyL ns (pB wa) (pB wb))).1.length = ns.length + (copyL ns (pB wa) (pB wb)).length ∧
    (∀ n ∈ ns, undB (pB wb) n.p = false) ∧ getT ns (pB wb) = (0, 0) := by
  obtain ⟨hasc, hgood, -⟩ := (validT_iff ns).1 hv
  have hnd := copyL_paths hasc hwa ha hb (wb := wb)
  have hmemc : ∀ n ∈ ns, ∀ t, n.p = pB (wa ++ t) → (⟨pB (wb ++ t), 0, 0, n.k, n.v⟩ : Cmd) ∈ copyL ns (pB wa) (pB wb) := by
    intro n hn t e
    have hw := word_of_node hv hn e
    refine List.mem_map.2 ⟨n, List.mem_filter.2 ⟨hn, ?_⟩, by rw [e, cpB_word ha hb]⟩
    rw [e]
    unfold subB
    by_cases ht : t = []
    · subst ht; simp
    · rw [undB_pB hwa hw, Bool.or_eq_true, decide_eq_true_eq, decide_eq_true_eq]
      refine .inr ⟨⟨t, rfl⟩, ?_⟩
      have := List.length_pos_iff.2 ht
      rw [List.length_append]; omega
  obtain ⟨na, hna, hnap⟩ := node_at (pB_not_root ha) hg
  have hb0 : getT ns (pB wb) = (0, 0) := by
    have := run_was _ ns hr hnd _ (hmemc na hna [] (by rw [List.append_nil]; exact hnap))
    rw [List.append_nil] at this; exact this
  have hub : ∀ n ∈ ns, undB (pB wb) n.p = false := by
    intro n hn
    cases h : undB (pB wb) n.p with
    | false => rfl
    | true =>
      have h1 : treeUnder ns (pB wb) ≠ [] := by
        unfold treeUnder
        rw [hv, vpB_pB hwb]
        intro e
        rw [if_pos (by rfl), List.map_eq_nil_iff, List.filter_eq_nil_iff] at e
        exact e n hn h
      have h2 := under_dir h1
      rw [treeGet_eq hv (vpB_pB hwb), hb0] at h2
      cases h2
  have hkeep : ∀ n ∈ ns, getT (runL ns (copyL ns (pB wa) (pB wb))).1 n.p = (n.k, n.v) := by
    intro n hn
    rw [run_other hv (fun c hc e => ?_)]
    · exact getT_mem hv hn
    · have h1 := run_was _ ns hr hnd c hc
      obtain ⟨m, t, _, _, _, rfl⟩ := copyL_mem hwa ha hb hc
      simp only at e h1
      rw [e, getT_mem hv hn] at h1
      exact (hgood n hn).2.2.1 (congrArg Prod.fst h1)
  refine ⟨fun t => ?_, hkeep, fun t => ?_, run_grow _ ns hr (fun c hc => ?_), hub, hb0⟩
  · by_cases he : ∃ n ∈ ns, n.p = pB (wa ++ t)
    · obtain ⟨n, hn, e⟩ := he
      have h1 := runL_in _ ns hr hnd _ (hmemc n hn t e)
      rw [h1, ← e, getT_mem hv hn]
    · have hz : getT ns (pB (wa ++ t)) = (0, 0) := getT_none (pB_not_root (by simp [ha])) (fun n hn e => he ⟨n, hn, e⟩)
      have ht : t ≠ [] := fun e => he ⟨na, hna, by rw [e, List.append_nil]; exact hnap⟩
      rw [hz, run_other hv (fun c hc e => ?_)]
      · refine getT_none (pB_not_root (by simp [hb])) (fun n hn e => ?_)
        have hw := word_of_node hv hn e
        have := hub n hn
        rw [e, undB_pB hwb hw, decide_eq_false_iff_not] at this
        have hl := List.length_pos_iff.2 ht
        exact this ⟨⟨t, rfl⟩, by rw [List.length_append]; omega⟩
      · obtain ⟨m, t', hm, hmp, _, rfl⟩ := copyL_mem hwa ha hb hc
        have := List.append_cancel_left (pB_inj' e)
        subst this
        exact he ⟨m, hm, hmp⟩
  · by_cases he : ∃ n ∈ ns, n.p = pB (wa ++ t)
    · obtain ⟨n, hn, e⟩ := he
      rw [← e, hkeep n hn, getT_mem hv hn]
    · rw [run_other hv (fun c hc e => ?_)]
      obtain ⟨m, t', hm, hmp, hmw, rfl⟩ := copyL_mem hwa ha hb hc
      have e2 : wb ++ t' = wa ++ t := pB_inj' e
      rcases List.append_eq_append_iff.1 e2 with ⟨s, h1, h2⟩ | ⟨s, h1, h2⟩
      · have h3 := hub na hna
        rw [hnap, undB_pB hwb hwa, decide_eq_false_iff_not] at h3
        have hs : s ≠ [] := fun e => hne (by rw [h1, e, List.append_nil])
        have hl := List.length_pos_iff.2 hs
        exact h3 ⟨⟨s, h1.symm⟩, by rw [h1, List.length_append]; omega⟩
      · rw [undB_pB hwa hwb, decide_eq_false_iff_not] at hnu
        have hs : s ≠ [] := fun e => hne (by rw [h1, e, List.append_nil])
        have hl := List.length_pos_iff.2 hs
        exact hnu ⟨⟨s, h1.symm⟩, by rw [h1, List.length_append]; omega⟩
  · obtain ⟨m, t', hm, hmp, hmw, rfl⟩ := copyL_mem hwa ha hb hc
    exact ⟨rfl, (hgood m hm).2.2.1⟩

/-- A sum tells of what is behind a word only, wherever the word stands. -/
theorem sumW_shift {G H : List UInt8 → Int × Int} : ∀ (d e : Nat) (w v : List UInt8), (∀ u, G (w ++ u) = H (v ++ u)) → (∀ u, d < u.length → G (w ++ u) = (0, 0)) → (∀ u, e < u.length → H (v ++ u) = (0, 0)) → sumW G d w = sumW H e v
  | 0, 0, w, v, h, _, _ => by
    have h0 := h []
    rw [List.append_nil, List.append_nil] at h0
    show baseW _ = baseW _
    rw [h0]
  | 0, e + 1, w, v, h, h1, _ => by
    have h0 := h []
    rw [List.append_nil, List.append_nil] at h0
    show baseW _ = _
    by_cases hk : (H v).1 = 1
    · rw [sumW_part _ _ _ hk, partW_none H e v (fun k _ => by rw [← h, h1 _ (by simp)]) 4 (by omega), h0]
    · rw [sumW_file _ _ _ hk, h0]
  | d + 1, 0, w, v, h, _, h2 => by
    have h0 := h []
    rw [List.append_nil, List.append_nil] at h0
    show _ = baseW _
    by_cases hk : (G w).1 = 1
    · rw [sumW_part _ _ _ hk, partW_none G d w (fun k _ => by rw [h, h2 _ (by simp)]) 4 (by omega), h0]
    · rw [sumW_file _ _ _ hk, h0]
  | d + 1, e + 1, w, v, h, h1, h2 => by
    have h0 := h []
    rw [List.append_nil, List.append_nil] at h0
    by_cases hk : (G w).1 = 1
    · rw [sumW_part _ _ _ hk, sumW_part _ _ _ (by rw [← h0]; exact hk)]
      have hp : ∀ m, partW G d w m = partW H e v m := by
        intro m
        induction m with
        | zero => rw [partW_zero, partW_zero, h0]
        | succ m ih =>
          have hs : sumW G d (w ++ [UInt8.ofNat (97 + m)]) = sumW H e (v ++ [UInt8.ofNat (97 + m)]) :=
            sumW_shift d e _ _ (fun u => by rw [List.append_assoc, List.append_assoc]; exact h _) (fun u hu => by rw [List.append_assoc]; exact h1 _ (by simp; omega)) (fun u hu => by rw [List.append_assoc]; exact h2 _ (by simp; omega))
          rw [partW_next, partW_next, ih, h [UInt8.ofNat (97 + m)], hs]
      exact hp 4
    · rw [sumW_file _ _ _ hk, sumW_file _ _ _ (by rw [← h0]; exact hk), h0]

theorem treeSum_shift {ns ms : List Nd} {w v : List UInt8} (h1 : validT ns = true) (h2 : validT ms = true) (hw : Wrd w) (hv : Wrd v) (h : ∀ t, getT ns (pB (w ++ t)) = getT ms (pB (v ++ t))) : treeSum ns (pB w) = treeSum ms (pB v) := by
  rw [treeSum_word h1 hw, treeSum_word h2 hv]
  have l1 := hw.1
  have l2 := hv.1
  exact sumW_shift _ _ w v h (fun u hu => deep_none h1 (by rw [List.length_append]; omega)) (fun u hu => deep_none h2 (by rw [List.length_append]; omega))

theorem filter_of_get {ns : List Nd} (hv : validT ns = true) (f : Nd → Bool) : ns.filter f = ((ns.filter f).map Nd.p).map (fun q => ⟨q, (getT ns q).1, (getT ns q).2⟩) := by
  rw [List.map_map]
  refine ((List.map_id _).symm.trans (List.map_congr_left (fun n hn => ?_)))
  simp only [Function.comp, getT_mem hv (List.mem_filter.1 hn).1, id]

theorem sub_same {ns ms : List Nd} {w : List UInt8} (h1 : validT ns = true) (h2 : validT ms = true) (hw : Wrd w) (ha : w ≠ []) (h : ∀ t, getT ms (pB (w ++ t)) = getT ns (pB (w ++ t))) :
    ms.filter (fun n => subB (pB w) n.p) = ns.filter (fun n => subB (pB w) n.p) := by
  have key : ∀ {xs ys : List Nd}, validT xs = true → (∀ t, getT xs (pB (w ++ t)) = getT ys (pB (w ++ t))) → ∀ q, q ∈ (xs.filter (fun n => subB (pB w) n.p)).map Nd.p → q ∈ (ys.filter (fun n => subB (pB w) n.p)).map Nd.p := by
    intro xs ys hx hg q hq
    obtain ⟨n, hn, rfl⟩ := List.mem_map.1 hq
    obtain ⟨hm, hs⟩ := List.mem_filter.1 hn
    obtain ⟨w', t, _, _, e1, e2⟩ := sub_words (vpB_pB hw) hs
    have := pB_inj' e1
    subst this
    have hk := (((validT_iff xs).1 hx).2.1 n hm).2.2.1
    have h3 := getT_mem hx hm
    rw [e2, hg t] at h3
    obtain ⟨m, hmy, hmp⟩ := node_at (ns := ys) (pB_not_root (w := w ++ t) (by simp [ha])) (by rw [h3]; exact hk)
    refine List.mem_map.2 ⟨m, List.mem_filter.2 ⟨hmy, ?_⟩, by rw [hmp, e2]⟩
    rw [hmp, ← e2]; exact hs
  have hp : (ms.filter (fun n => subB (pB w) n.p)).map Nd.p = (ns.filter (fun n => subB (pB w) n.p)).map Nd.p :=
    ascP_ext (ascP_map (List.Pairwise.filter _ ((validT_iff ms).1 h2).1)) (ascP_map (List.Pairwise.filter _ ((validT_iff ns).1 h1).1)) (fun q => ⟨key h2 h q, key h1 (fun t => (h t).symm) q⟩)
  rw [filter_of_get h2, filter_of_get h1, hp]
  refine List.map_congr_left (fun q hq => ?_)
  obtain ⟨n, hn, rfl⟩ := List.mem_map.1 hq
  obtain ⟨w', t, _, _, e1, e2⟩ := sub_words (vpB_pB hw) (List.mem_filter.1 hn).2
  have := pB_inj' e1
  subst this
  rw [e2, h t]

/-- A command that was done is valid. -/
theorem run_validC : ∀ (cs : List Cmd) (ns : List Nd), (runL ns cs).2 = cs.length → ∀ c ∈ cs, validC c = true
  | [], _, _, _, hc => by cases hc
  | d :: cs, ns, hr, c, hc => by
    cases ha : applyC ns d with
    | mk out b =>
      cases b with
      | false => rw [runL_cons_no (by rw [ha])] at hr; simp at hr
      | true =>
        rw [runL_cons_yes ha] at hr
        simp only [List.length_cons, Nat.add_right_cancel_iff] at hr
        rcases List.mem_cons.1 hc with rfl | hc2
        · exact (applyC_some ha).2.1
        · exact run_validC cs out hr c hc2

theorem tree_ext {a b : List Nd} (ha : validT a = true) (hb : validT b = true) (h : ∀ q, getT a q = getT b q) : a = b :=
  (chg_nil ha hb).1 (List.eq_nil_iff_forall_not_mem.2 (fun p hp => (chg_mem ha hb p).1 hp (h p)))

/-- P56: what MoveAll has done. -/
theorem move_done {ns : List Nd} {wa wb : List UInt8} (hv : validT ns = true) (hwa : Wrd wa) (ha : wa ≠ []) (hwb : Wrd wb) (hb : wb ≠ []) (hne : pB wb ≠ pB wa) (hnu : undB (pB wa) (pB wb) = false)
    (hg : (getT ns (pB wa)).1 ≠ 0) (hr : (runL ns (copyL ns (pB wa) (pB wb))).2 = (copyL ns (pB wa) (pB wb)).length) :
    ∃ out, runL ns (copyL ns (pB wa) (pB wb) ++ remL ns (pB wa)) = (out, (copyL ns (pB wa) (pB wb) ++ remL ns (pB wa)).length) ∧ validT out = true ∧ out.length = ns.length ∧
      getT out (pB wa) = (0, 0) ∧ (∀ t, getT out (pB (wb ++ t)) = getT ns (pB (wa ++ t))) ∧ (∀ t, getT out (pB (wa ++ t)) = (0, 0)) ∧ treeSum out (pB wb) = treeSum ns (pB wa) ∧
      (∀ q, q ≠ rootB → subB (pB wa) q = false → subB (pB wb) q = false → getT out q = getT ns q) := by
  obtain ⟨c1, c2, c3, c4, c5, c6⟩ := copy_done hv hwa ha hwb hb hne hnu hg hr
  have hx := runL_valid (copyL ns (pB wa) (pB wb)) ns hv
  obtain ⟨na, hna, hnap⟩ := node_at (pB_not_root ha) hg
  have c7 : ∀ q, subB (pB wb) q = false → getT (runL ns (copyL ns (pB wa) (pB wb))).1 q = getT ns q := by
    intro q hq
    refine run_other hv (fun c hc e => ?_)
    obtain ⟨m, t, hm, _, hmw, rfl⟩ := copyL_mem hwa ha hb hc
    simp only at e
    have hvp := (validC_iff _).1 (run_validC _ ns hr _ hc)
    obtain ⟨w2, hw2, e2⟩ := vpB_word (vp_of_depth hvp.1)
    have hw3 : Wrd (wb ++ t) := by rw [pB_inj' e2]; exact hw2
    rw [← e] at hq
    unfold subB at hq
    rw [Bool.or_eq_false_iff, decide_eq_false_iff_not, undB_pB hwb hw3, decide_eq_false_iff_not] at hq
    by_cases ht : t = []
    · exact hq.1 (by rw [ht, List.append_nil])
    · have hl := List.length_pos_iff.2 ht
      exact hq.2 ⟨⟨t, rfl⟩, by rw [List.length_append]; omega⟩
  have e1 := runL_append (copyL ns (pB wa) (pB wb)) (remL ns (pB wa)) ns
  rw [if_pos hr] at e1
  generalize (runL ns (copyL ns (pB wa) (pB wb))).1 = x at c1 c2 c3 c4 c7 hx e1
  have hs := sub_same hv hx hwa ha c3
  have hrem : remL ns (pB wa) = remL x (pB wa) := by unfold remL; rw [hs]
  have hrun := rem_run _ x (pB wa) hx rfl
  have hvo := runL_valid (remL x (pB wa)) x hx
  rw [hrun] at hvo
  have hsubb : ∀ t, subB (pB wa) (pB (wb ++ t)) = false := by
    intro t
    cases h : subB (pB wa) (pB (wb ++ t)) with
    | false => rfl
    | true =>
      obtain ⟨w', t', _, _, f1, f2⟩ := sub_words (vpB_pB hwa) h
      have := pB_inj' f1
      subst this
      have f3 := pB_inj' f2
      rcases List.append_eq_append_iff.1 f3 with ⟨s, g1, g2⟩ | ⟨s, g1, g2⟩
      · have h3 := c5 na hna
        rw [hnap, undB_pB hwb hwa, decide_eq_false_iff_not] at h3
        have hs : s ≠ [] := fun e => hne (by rw [g1, e, List.append_nil])
        have hl := List.length_pos_iff.2 hs
        exact absurd ⟨⟨s, g1.symm⟩, by rw [g1, List.length_append]; omega⟩ h3
      · rw [undB_pB hwa hwb, decide_eq_false_iff_not] at hnu
        have hs : s ≠ [] := fun e => hne (by rw [g1, e, List.append_nil])
        have hl := List.length_pos_iff.2 hs
        exact absurd ⟨⟨s, g1.symm⟩, by rw [g1, List.length_append]; omega⟩ hnu
  have hgb : ∀ t, getT (x.filter (fun n => !subB (pB wa) n.p)) (pB (wb ++ t)) = getT ns (pB (wa ++ t)) := by
    intro t
    rw [rem_get hx (pB wa) _ (pB_not_root (by simp [hb])), hsubb t, if_neg (by decide), c1 t]
  have hga : ∀ t, getT (x.filter (fun n => !subB (pB wa) n.p)) (pB (wa ++ t)) = (0, 0) := by
    intro t
    by_cases he : ∃ n ∈ x.filter (fun n => !subB (pB wa) n.p), n.p = pB (wa ++ t)
    · obtain ⟨n, hn, e⟩ := he
      have hw := word_of_node hx (List.mem_filter.1 hn).1 e
      have h0 := (List.mem_filter.1 hn).2
      rw [e] at h0
      have : subB (pB wa) (pB (wa ++ t)) = true := by
        unfold subB
        by_cases ht : t = []
        · subst ht; simp
        · rw [undB_pB hwa hw, Bool.or_eq_true, decide_eq_true_eq, decide_eq_true_eq]
          refine .inr ⟨⟨t, rfl⟩, ?_⟩
          have := List.length_pos_iff.2 ht
          rw [List.length_append]; omega
      rw [this] at h0
      cases h0
    · exact getT_none (pB_not_root (by simp [ha])) (fun n hn e => he ⟨n, hn, e⟩)
  have hlen := filter_parts (fun n => subB (pB wa) n.p) x
  have hcl : (copyL ns (pB wa) (pB wb)).length = (ns.filter (fun n => subB (pB wa) n.p)).length := by unfold copyL; simp
  rw [hs] at hlen
  refine ⟨x.filter (fun n => !subB (pB wa) n.p), ?_, hvo, by omega, by have := hga []; rw [List.append_nil] at this; exact this, hgb, hga, treeSum_shift hvo hv hwb hwa hgb, fun q hq h1 h2 => by rw [rem_get hx (pB wa) q hq, h1, if_neg (by decide), c7 q h2]⟩
  rw [e1, hrem, hrun, List.length_append]

end Go.Proofs.YtdkpabnpobpdhaaGreat
