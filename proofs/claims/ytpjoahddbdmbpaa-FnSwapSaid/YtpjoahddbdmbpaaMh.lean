/-
  PLAIN MATHEMATICS OF MOVES, second part: when a copy fits.
-/
import Derived.Test.YtpjoahddbdmbpaaMg
namespace Go.Proofs.Ytpjoahddbdmbpaa

/-- When CopyAll's commands fit: the parent is a directory, nothing is at the target or under it, no path gets too deep, and there is room. -/
theorem copy_runs {ns : List Nd} {wa wb : List UInt8} (hv : validT ns = true) (hwa : Wrd wa) (ha : wa ≠ []) (hwb : Wrd wb) (hb : wb ≠ [])
    (hpar : (getT ns (parB (pB wb))).1 = 1) (hb0 : getT ns (pB wb) = (0, 0)) (hub : ∀ n ∈ ns, undB (pB wb) n.p = false) (hwd : ∀ n ∈ ns, ∀ t, n.p = pB (wa ++ t) → Wrd (wb ++ t))
    (hag : (getT ns (pB wa)).1 ≠ 0) (hroom : ns.length + (copyL ns (pB wa) (pB wb)).length ≤ 10) : ∀ k, k ≤ (copyL ns (pB wa) (pB wb)).length → (runL ns ((copyL ns (pB wa) (pB wb)).take k)).2 = k
  | 0, _ => rfl
  | k + 1, hk => by
    have ih := copy_runs hv hwa ha hwb hb hpar hb0 hub hwd hag hroom k (by omega)
    obtain ⟨hasc, hgood, -⟩ := (validT_iff ns).1 hv
    have hLa : Asc (ns.filter (fun n => subB (pB wa) n.p)) := List.Pairwise.filter _ hasc
    obtain ⟨L, hL⟩ : ∃ L, L = ns.filter (fun n => subB (pB wa) n.p) := ⟨_, rfl⟩
    have hC : copyL ns (pB wa) (pB wb) = L.map (fun n => ⟨cpB (pB wa) (pB wb) n.p, 0, 0, n.k, n.v⟩) := by rw [hL]; rfl
    have hnd := copyL_paths hasc hwa ha hb (wb := wb)
    have hLl : (copyL ns (pB wa) (pB wb)).length = L.length := by rw [hC]; simp
    obtain ⟨n, hn⟩ : ∃ n, L[k]? = some n := ⟨_, List.getElem?_eq_getElem (by omega)⟩
    have hnL : n ∈ L := List.mem_of_getElem? hn
    obtain ⟨hnm, hns⟩ := List.mem_filter.1 (hL ▸ hnL)
    obtain ⟨w', t, _, hwt, e1, hnp⟩ := sub_words (vpB_pB hwa) hns
    have := pB_inj' e1
    subst this
    have hsplit : L = L.take k ++ n :: L.drop (k + 1) := by
      obtain ⟨hlt, he⟩ := List.getElem?_eq_some_iff.1 hn
      rw [← he, List.getElem_cons_drop, List.take_append_drop]
    rw [← hL] at hLa
    have hbefore : ∀ m ∈ L.take k, ltB m.p n.p = true := by
      have h2 := hLa
      rw [hsplit] at h2
      exact fun m hm => (List.pairwise_append.1 h2).2.2 m hm n (by simp)
    have hfirst : ∀ m ∈ L, ltB m.p n.p = true → m ∈ L.take k := by
      intro m hm hlt
      have h2 := hLa
      rw [hsplit] at h2 hm
      rcases List.mem_append.1 hm with h | h
      · exact h
      · rcases List.mem_cons.1 h with rfl | h
        · rw [ltB_irrefl] at hlt; cases hlt
        · have := (List.pairwise_cons.1 (List.pairwise_append.1 h2).2.1).1 m h
          rw [ltB_asymm this] at hlt; cases hlt
    have hlen : ((copyL ns (pB wa) (pB wb)).take k).length = k := by rw [List.length_take]; omega
    have hfit : (runL ns ((copyL ns (pB wa) (pB wb)).take k)).2 = ((copyL ns (pB wa) (pB wb)).take k).length := by rw [ih, hlen]
    have hsubl : ((copyL ns (pB wa) (pB wb)).take k).Sublist (copyL ns (pB wa) (pB wb)) := List.take_sublist _ _
    have hnd2 : (((copyL ns (pB wa) (pB wb)).take k).map Cmd.p).Nodup := hnd.sublist (hsubl.map _)
    have htake : (copyL ns (pB wa) (pB wb)).take k = (L.take k).map (fun n => ⟨cpB (pB wa) (pB wb) n.p, 0, 0, n.k, n.v⟩) := by rw [hC, List.map_take]
    have hin := runL_in _ ns hfit hnd2
    have hgrow := run_grow _ ns hfit (fun c hc => by
      obtain ⟨m, t', hm, _, _, rfl⟩ := copyL_mem hwa ha hb (hsubl.subset hc)
      exact ⟨rfl, (hgood m hm).2.2.1⟩)
    have hoth := fun (p : ByteArray) (hp : ∀ c ∈ (copyL ns (pB wa) (pB wb)).take k, c.p ≠ p) => run_other hv hp
    have hvx := runL_valid ((copyL ns (pB wa) (pB wb)).take k) ns hv
    have hcm : ∀ c ∈ (copyL ns (pB wa) (pB wb)).take k, ∃ m t', m ∈ L.take k ∧ m ∈ ns ∧ m.p = pB (wa ++ t') ∧ c = ⟨pB (wb ++ t'), 0, 0, m.k, m.v⟩ := by
      intro c hc
      rw [htake] at hc
      obtain ⟨m, hm, rfl⟩ := List.mem_map.1 hc
      have hmL := List.mem_filter.1 (hL ▸ (List.take_sublist k L).subset hm)
      obtain ⟨w', t', _, _, f1, f2⟩ := sub_words (vpB_pB hwa) hmL.2
      have := pB_inj' f1
      subst this
      exact ⟨m, t', hm, hmL.1, f2, by rw [f2, cpB_word ha hb]⟩
    have hrun : runL ns ((copyL ns (pB wa) (pB wb)).take k) = ((runL ns ((copyL ns (pB wa) (pB wb)).take k)).1, k) := Prod.ext rfl ih
    rw [hlen] at hgrow
    generalize (runL ns ((copyL ns (pB wa) (pB wb)).take k)).1 = x at hin hgrow hoth hvx hrun
    have hwbt : Wrd (wb ++ t) := hwd n hnm t hnp
    have hbt : wb ++ t ≠ [] := by simp [hb]
    have hc : (copyL ns (pB wa) (pB wb))[k]? = some ⟨pB (wb ++ t), 0, 0, n.k, n.v⟩ := by
      rw [hC, List.getElem?_map, hn]
      show some (⟨cpB (pB wa) (pB wb) n.p, 0, 0, n.k, n.v⟩ : Cmd) = _
      rw [hnp, cpB_word ha hb]
    have hdep : 1 ≤ depB (pB (wb ++ t)) := by
      rw [depB_pB hwbt]
      have := List.length_pos_iff.2 hbt
      omega
    have hg0 : getT x (pB (wb ++ t)) = (0, 0) := by
      rw [hoth _ (fun c hc e => ?_)]
      · by_cases ht : t = []
        · subst ht; rw [List.append_nil]; exact hb0
        · refine getT_none (pB_not_root hbt) (fun m hm e => ?_)
          have := hub m hm
          rw [e, undB_pB hwb hwbt, decide_eq_false_iff_not] at this
          have hl := List.length_pos_iff.2 ht
          exact this ⟨⟨t, rfl⟩, by rw [List.length_append]; omega⟩
      · obtain ⟨m, t', hm, _, hmp, rfl⟩ := hcm c hc
        have := List.append_cancel_left (pB_inj' e)
        subst this
        have h2 := hbefore m hm
        rw [hmp, ← hnp, ltB_irrefl] at h2
        cases h2
    have hparent : (treeGet x (parB (pB (wb ++ t)))).1 = 1 := by
      by_cases ht : t = []
      · subst ht
        rw [List.append_nil]
        rw [List.append_nil] at hdep
        have hvp : vpB (parB (pB wb)) = true := by
          rw [parB_pB hwb hb]
          exact vpB_pB ⟨by rw [List.length_dropLast]; have := hwb.1; omega, fun y hy => hwb.2 y (List.dropLast_subset _ hy)⟩
        rw [treeGet_eq hvx hvp, hoth _ (fun c hc e => ?_), hpar]
        obtain ⟨m, t', hm, _, hmp, rfl⟩ := hcm c hc
        rw [parB_pB hwb hb] at e
        have := congrArg List.length (pB_inj' e)
        rw [List.length_append, List.length_dropLast] at this
        have := List.length_pos_iff.2 hb
        omega
      · have hd1 : (wa ++ t).dropLast = wa ++ t.dropLast := List.dropLast_append_of_ne_nil ht
        have hd2 : (wb ++ t).dropLast = wb ++ t.dropLast := List.dropLast_append_of_ne_nil ht
        have hgp := (hgood n hnm).2.2.2
        rw [hnp, parB_pB hwt (by simp [ha]), hd1] at hgp
        obtain ⟨m, hm, hmp⟩ := node_at (ns := ns) (pB_not_root (w := wa ++ t.dropLast) (by simp [ha])) (by rw [hgp]; decide)
        have hmlt : ltB m.p n.p = true := by
          rw [hmp, hnp]
          obtain ⟨z, hz⟩ : ∃ z, t = t.dropLast ++ [z] := ⟨t.getLast ht, (List.dropLast_concat_getLast ht).symm⟩
          rw [hz, List.dropLast_concat, ← List.append_assoc]
          exact ltB_ext _ z []
        have hmL : m ∈ L := by
          rw [hL]
          refine List.mem_filter.2 ⟨hm, ?_⟩
          have hmw := word_of_node hv hm hmp
          rw [hmp]
          unfold subB
          by_cases hz : t.dropLast = []
          · rw [hz]; simp
          · rw [undB_pB hwa hmw, Bool.or_eq_true, decide_eq_true_eq, decide_eq_true_eq]
            refine .inr ⟨⟨_, rfl⟩, ?_⟩
            have := List.length_pos_iff.2 hz
            rw [List.length_append]; omega
        have hmc := hin ⟨pB (wb ++ t.dropLast), 0, 0, m.k, m.v⟩ (by
          rw [htake]
          exact List.mem_map.2 ⟨m, hfirst m hmL hmlt, by rw [hmp, cpB_word ha hb]⟩)
        rw [parB_pB hwbt hbt, hd2, treeGet_eq hvx (vpB_pB (hwd m hm _ hmp)), hmc]
        have := getT_mem hv hm
        rw [hmp] at this
        rw [this] at hgp
        exact hgp
    have hunder : treeUnder x (pB (wb ++ t)) = [] := by
      unfold treeUnder
      split
      · rw [List.map_eq_nil_iff, List.filter_eq_nil_iff]
        intro q hq hu
        obtain ⟨w2, s, hw2, hws, hs, g1, g2⟩ := und_words hu
        have := pB_inj' g1
        subst this
        have hqk := (((validT_iff x).1 hvx).2.1 q hq).2.2.1
        have hqg := getT_mem hvx hq
        by_cases hin2 : ∃ c ∈ (copyL ns (pB wa) (pB wb)).take k, c.p = q.p
        · obtain ⟨c, hc2, he⟩ := hin2
          obtain ⟨m, t', hm, _, hmp, rfl⟩ := hcm c hc2
          simp only at he
          rw [g2, List.append_assoc] at he
          have := List.append_cancel_left (pB_inj' he)
          subst this
          have h2 := hbefore m hm
          cases s with
          | nil => exact hs rfl
          | cons z s =>
            rw [hmp, hnp, ← List.append_assoc, ltB_asymm (ltB_ext (wa ++ t) z s)] at h2
            cases h2
        · have h3 := hoth q.p (fun c hc e => hin2 ⟨c, hc, e⟩)
          rw [hqg] at h3
          obtain ⟨m, hm, hmp⟩ := node_at (ns := ns) (p := q.p) (by rw [g2]; exact pB_not_root (by simp [hb])) (by rw [← h3]; exact hqk)
          have := hub m hm
          rw [hmp, g2, List.append_assoc, undB_pB hwb (by rw [← List.append_assoc]; exact hws), decide_eq_false_iff_not] at this
          have hl := List.length_pos_iff.2 hs
          exact this ⟨⟨_, rfl⟩, by rw [List.length_append, List.length_append]; omega⟩
      · rfl
    have hg := hgood n hnm
    obtain ⟨out, ho⟩ := Option.isSome_iff_exists.1 ((put_when (p := pB (wb ++ t)) (k := n.k) (v := n.v) hvx hdep hg.2.1).2 ⟨.inl hparent, .inl hunder, by split <;> omega⟩)
    have happ : applyC x ⟨pB (wb ++ t), 0, 0, n.k, n.v⟩ = (out, true) := applyC_done hvx ((validC_iff _).2 ⟨hdep, show validB 0 0 = true by decide, hg.2.1, fun e => hg.2.2.1 (congrArg Prod.fst e).symm⟩) hg0 ho
    rw [run_step hrun hc happ]

theorem sub_word {w : List UInt8} (hw : Wrd w) {t : List UInt8} (ht : Wrd (w ++ t)) : subB (pB w) (pB (w ++ t)) = true := by
  unfold subB
  by_cases e : t = []
  · subst e; simp
  · rw [undB_pB hw ht, Bool.or_eq_true, decide_eq_true_eq, decide_eq_true_eq]
    have := List.length_pos_iff.2 e
    exact .inr ⟨⟨t, rfl⟩, by rw [List.length_append]; omega⟩

theorem root_sub {w : List UInt8} (hw : Wrd w) (ha : w ≠ []) : subB (pB w) rootB = false := by
  cases h : subB (pB w) rootB with
  | false => rfl
  | true =>
    obtain ⟨w', t, _, _, e1, e2⟩ := sub_words (vpB_pB hw) h
    have := pB_inj' e1
    subst this
    exact absurd e2.symm (pB_not_root (by simp [ha]))

/-- P57: what MoveAll has done can be moved back. -/
theorem move_back {ns : List Nd} {wa wb : List UInt8} (hv : validT ns = true) (hwa : Wrd wa) (ha : wa ≠ []) (hwb : Wrd wb) (hb : wb ≠ []) (hne : pB wb ≠ pB wa) (hnu : undB (pB wa) (pB wb) = false)
    (hg : (getT ns (pB wa)).1 ≠ 0) (hr : (runL ns (copyL ns (pB wa) (pB wb))).2 = (copyL ns (pB wa) (pB wb)).length) :
    ∃ out, runL ns (copyL ns (pB wa) (pB wb) ++ remL ns (pB wa)) = (out, (copyL ns (pB wa) (pB wb) ++ remL ns (pB wa)).length) ∧ validT out = true ∧ undB (pB wb) (pB wa) = false ∧ (getT out (pB wb)).1 ≠ 0 ∧
      (runL out (copyL out (pB wb) (pB wa))).2 = (copyL out (pB wb) (pB wa)).length ∧
      runL out (copyL out (pB wb) (pB wa) ++ remL out (pB wb)) = (ns, (copyL out (pB wb) (pB wa) ++ remL out (pB wb)).length) := by
  obtain ⟨c1, c2, c3, c4, c5, c6⟩ := copy_done hv hwa ha hwb hb hne hnu hg hr
  obtain ⟨out, r1, hvo, hlen, hga0, hgb, hga, hsum, hoth⟩ := move_done hv hwa ha hwb hb hne hnu hg hr
  obtain ⟨na, hna, hnap⟩ := node_at (pB_not_root ha) hg
  have hba : undB (pB wb) (pB wa) = false := by rw [← hnap]; exact c5 na hna
  have hgob : (getT out (pB wb)).1 ≠ 0 := by
    have h0 := hgb []
    rw [List.append_nil, List.append_nil] at h0
    rw [h0]; exact hg
  have hgood := ((validT_iff ns).1 hv).2.1
  have hnoB : ∀ t, getT ns (pB (wb ++ t)) = (0, 0) := by
    intro t
    by_cases ht : t = []
    · subst ht; rw [List.append_nil]; exact c6
    · refine getT_none (pB_not_root (by simp [hb])) (fun n hn e => ?_)
      have hw := word_of_node hv hn e
      have h := c5 n hn
      rw [e, undB_pB hwb hw, decide_eq_false_iff_not] at h
      have hl := List.length_pos_iff.2 ht
      exact h ⟨⟨t, rfl⟩, by rw [List.length_append]; omega⟩
  have hpar : (getT out (parB (pB wa))).1 = 1 := by
    have hp := (hgood na hna).2.2.2
    rw [hnap] at hp
    have hpw : parB (pB wa) = pB wa.dropLast := parB_pB hwa ha
    by_cases hz : wa.dropLast = []
    · rw [hpw, hz]; rfl
    · rw [hoth _ (by rw [hpw]; exact pB_not_root hz) ?_ ?_]
      · exact hp
      · cases h : subB (pB wa) (parB (pB wa)) with
        | false => rfl
        | true =>
          obtain ⟨w', t, _, _, e1, e2⟩ := sub_words (vpB_pB hwa) h
          have := pB_inj' e1
          subst this
          rw [hpw] at e2
          have := congrArg List.length (pB_inj' e2)
          rw [List.length_append, List.length_dropLast] at this
          have := List.length_pos_iff.2 ha
          omega
      · cases h : subB (pB wb) (parB (pB wa)) with
        | false => rfl
        | true =>
          obtain ⟨w', t, _, _, e1, e2⟩ := sub_words (vpB_pB hwb) h
          have := pB_inj' e1
          subst this
          rw [e2, hnoB t] at hp
          cases hp
  have hub : ∀ n ∈ out, undB (pB wa) n.p = false := by
    intro n hn
    cases h : undB (pB wa) n.p with
    | false => rfl
    | true =>
      obtain ⟨w', t, _, _, _, e1, e2⟩ := und_words h
      have := pB_inj' e1
      subst this
      have h1 := getT_mem hvo hn
      rw [e2, hga t] at h1
      exact absurd (congrArg Prod.fst h1).symm (((validT_iff out).1 hvo).2.1 n hn).2.2.1
  have hwd : ∀ n ∈ out, ∀ t, n.p = pB (wb ++ t) → Wrd (wa ++ t) := by
    intro n hn t e
    have h1 := getT_mem hvo hn
    rw [e, hgb t] at h1
    obtain ⟨m, hm, hmp⟩ := node_at (ns := ns) (pB_not_root (w := wa ++ t) (by simp [ha])) (by rw [h1]; exact (((validT_iff out).1 hvo).2.1 n hn).2.2.1)
    exact word_of_node hv hm hmp
  have hcount : (copyL out (pB wb) (pB wa)).length = (copyL ns (pB wa) (pB wb)).length := by
    have k1 : (copyL out (pB wb) (pB wa)).length = (out.filter (fun n => subB (pB wb) n.p)).length := by unfold copyL; simp
    have k2 := filter_parts (fun n => subB (pB wb) n.p) out
    have k3 : (copyL ns (pB wa) (pB wb)).length = (ns.filter (fun n => subB (pB wa) n.p)).length := by unfold copyL; simp
    have k4 := filter_parts (fun n => subB (pB wa) n.p) ns
    have k5 : out.filter (fun n => !subB (pB wb) n.p) = ns.filter (fun n => !subB (pB wa) n.p) := by
      have v1 := runL_valid (remL out (pB wb)) out hvo
      rw [rem_run _ out (pB wb) hvo rfl] at v1
      have v2 := runL_valid (remL ns (pB wa)) ns hv
      rw [rem_run _ ns (pB wa) hv rfl] at v2
      refine tree_ext v1 v2 (fun q => ?_)
      by_cases hq : q = rootB
      · subst hq; rfl
      · rw [rem_get hvo (pB wb) q hq, rem_get hv (pB wa) q hq]
        cases h1 : subB (pB wb) q with
        | true =>
          rw [if_pos rfl]
          split
          · rfl
          · obtain ⟨w', t, _, _, e1, e2⟩ := sub_words (vpB_pB hwb) h1
            have := pB_inj' e1
            subst this
            rw [e2, hnoB t]
        | false =>
          rw [if_neg (by decide)]
          cases h2 : subB (pB wa) q with
          | true =>
            rw [if_pos rfl]
            obtain ⟨w', t, _, _, e1, e2⟩ := sub_words (vpB_pB hwa) h2
            have := pB_inj' e1
            subst this
            rw [e2, hga t]
          | false => rw [if_neg (by decide), hoth q hq h2 h1]
    rw [k5] at k2
    omega
  have hroom : out.length + (copyL out (pB wb) (pB wa)).length ≤ 10 := by
    have h1 := runL_valid (copyL ns (pB wa) (pB wb)) ns hv
    have h2 := ((validT_iff _).1 h1).2.2
    rw [c4] at h2
    omega
  have hfit := copy_runs hvo hwb hb hwa ha hpar hga0 hub hwd hgob hroom _ (Nat.le_refl _)
  rw [List.take_length] at hfit
  obtain ⟨y, r2, hvy, _, _, hyb, hya, _, hyo⟩ := move_done hvo hwb hb hwa ha (fun e => hne e.symm) hba hgob hfit
  have hyn : y = ns := tree_ext hvy hv (fun q => by
    by_cases hq : q = rootB
    · subst hq; rfl
    · cases h1 : subB (pB wa) q with
      | true =>
        obtain ⟨w', t, _, _, e1, e2⟩ := sub_words (vpB_pB hwa) h1
        have := pB_inj' e1
        subst this
        rw [e2, hyb t, hgb t]
      | false =>
        cases h2 : subB (pB wb) q with
        | true =>
          obtain ⟨w', t, _, _, e1, e2⟩ := sub_words (vpB_pB hwb) h2
          have := pB_inj' e1
          subst this
          rw [e2, hya t, hnoB t]
        | false => rw [hyo q hq h2 h1, hoth q hq h1 h2])
  rw [hyn] at r2
  exact ⟨out, r1, hvo, hba, hgob, hfit, r2⟩

end Go.Proofs.Ytpjoahddbdmbpaa
