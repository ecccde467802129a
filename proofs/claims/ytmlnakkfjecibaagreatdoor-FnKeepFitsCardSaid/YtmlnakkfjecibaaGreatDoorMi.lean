/-
  PLAIN MATHEMATICS OF MOVES, third part: the model's three functions, and what the promises P52 to P57 say of them.
-/
import Derived.Test.YtmlnakkfjecibaaGreatDoorMh
namespace Go.Proofs.YtmlnakkfjecibaaGreatDoor

/-- spec.RemoveAll. -/
def removeAll (ns : List Nd) (p : ByteArray) : List Cmd × Bool := if (validT ns && decide (1 ≤ depB p) && decide ((getT ns p).1 ≠ 0)) = true then (remL ns p, true) else ([], false)
def copyOk (ns : List Nd) (a b : ByteArray) : Bool := validT ns && decide (1 ≤ depB a) && decide (1 ≤ depB b) && decide ((getT ns a).1 ≠ 0) && !decide (a = b) && !undB a b && fitsL ns (copyL ns a b)
/-- spec.CopyAll. -/
def copyAll (ns : List Nd) (a b : ByteArray) : List Cmd × Bool := if copyOk ns a b = true then (copyL ns a b, true) else ([], false)
/-- spec.MoveAll. -/
def moveAll (ns : List Nd) (a b : ByteArray) : List Cmd × Bool := if copyOk ns a b = true then (copyL ns a b ++ remL ns a, true) else ([], false)

theorem removeAll_ok {ns : List Nd} {p : ByteArray} (h1 : validT ns = true) (h2 : 1 ≤ depB p) (h3 : (getT ns p).1 ≠ 0) : removeAll ns p = (remL ns p, true) := by
  unfold removeAll
  rw [if_pos]
  simp [h1, h2, h3]
theorem removeAll_inv {ns : List Nd} {p : ByteArray} {out : List Cmd} (h : removeAll ns p = (out, true)) : validT ns = true ∧ 1 ≤ depB p ∧ (getT ns p).1 ≠ 0 ∧ out = remL ns p := by
  unfold removeAll at h
  split at h
  · rename_i hc
    simp only [Bool.and_eq_true, decide_eq_true_eq] at hc
    exact ⟨hc.1.1, hc.1.2, hc.2, (congrArg Prod.fst h).symm⟩
  · cases h
theorem copyOk_iff {ns : List Nd} {a b : ByteArray} : copyOk ns a b = true ↔ validT ns = true ∧ 1 ≤ depB a ∧ 1 ≤ depB b ∧ (getT ns a).1 ≠ 0 ∧ a ≠ b ∧ undB a b = false ∧ fitsL ns (copyL ns a b) = true := by
  unfold copyOk
  simp only [Bool.and_eq_true, decide_eq_true_eq, Bool.not_eq_true', decide_eq_false_iff_not]
  constructor
  · rintro ⟨⟨⟨⟨⟨⟨h1, h2⟩, h3⟩, h4⟩, h5⟩, h6⟩, h7⟩
    exact ⟨h1, h2, h3, h4, h5, h6, h7⟩
  · rintro ⟨h1, h2, h3, h4, h5, h6, h7⟩
    exact ⟨⟨⟨⟨⟨⟨h1, h2⟩, h3⟩, h4⟩, h5⟩, h6⟩, h7⟩
theorem copyAll_inv {ns : List Nd} {a b : ByteArray} {out : List Cmd} (h : copyAll ns a b = (out, true)) : copyOk ns a b = true ∧ out = copyL ns a b := by
  unfold copyAll at h
  split at h
  · rename_i hc
    exact ⟨hc, (congrArg Prod.fst h).symm⟩
  · cases h
theorem moveAll_inv {ns : List Nd} {a b : ByteArray} {out : List Cmd} (h : moveAll ns a b = (out, true)) : copyOk ns a b = true ∧ out = copyL ns a b ++ remL ns a := by
  unfold moveAll at h
  split at h
  · rename_i hc
    exact ⟨hc, (congrArg Prod.fst h).symm⟩
  · cases h

theorem und_self (p : ByteArray) : undB p p = false := by
  cases h : undB p p with
  | false => rfl
  | true => exact absurd rfl (ltB_ne (und_lt h))

theorem depB_rootB : depB rootB = 0 := by decide
theorem dep_root {p : ByteArray} (h : 1 ≤ depB p) : p ≠ rootB := fun e => by rw [e, depB_rootB] at h; omega

theorem sub_off {p : ByteArray} {n : Nd} (h : n.p ≠ p) : subB p n.p = undB p n.p := by unfold subB; simp [h]

theorem sub_none (p : ByteArray) : ∀ ns : List Nd, (∀ n ∈ ns, n.p ≠ p) → (ns.filter (fun n => subB p n.p)).length = (ns.filter (fun n => undB p n.p)).length
  | [], _ => rfl
  | n :: ns, h => by
    have ih := sub_none p ns (fun m hm => h m (List.mem_cons_of_mem _ hm))
    have h1 := sub_off (h n (by simp))
    cases hu : undB p n.p with
    | true => simp [h1, hu, ih]
    | false => simp [h1, hu, ih]

/-- The node itself, and those under it. -/
theorem sub_one (p : ByteArray) : ∀ ns : List Nd, (ns.map Nd.p).Nodup → (∃ n ∈ ns, n.p = p) → (ns.filter (fun n => subB p n.p)).length = (ns.filter (fun n => undB p n.p)).length + 1
  | [], _, ⟨_, h, _⟩ => by cases h
  | n :: ns, h, ⟨m, hm, hmp⟩ => by
    rw [List.map_cons, List.nodup_cons] at h
    by_cases e : n.p = p
    · have h1 : subB p n.p = true := by unfold subB; simp [e]
      have h2 : undB p n.p = false := by rw [e]; exact und_self p
      have ih := sub_none p ns (fun x hx hxp => h.1 (by rw [e, ← hxp]; exact List.mem_map_of_mem hx))
      simp [h1, h2, ih]
    · have ih := sub_one p ns h.2 (by
        rcases List.mem_cons.1 hm with rfl | hm
        · exact absurd hmp e
        · exact ⟨m, hm, hmp⟩)
      have h1 := sub_off e
      cases hu : undB p n.p with
      | true => simp [h1, hu, ih]
      | false => simp [h1, hu, ih]

theorem sub_count1 {ns : List Nd} {p : ByteArray} (hv : validT ns = true) (hp : 1 ≤ depB p) (hg : (getT ns p).1 ≠ 0) : (ns.filter (fun n => subB p n.p)).length = (treeUnder ns p).length + 1 := by
  obtain ⟨hasc, -, -⟩ := (validT_iff ns).1 hv
  obtain ⟨n, hn, hnp⟩ := node_at (dep_root hp) hg
  have := sub_one p ns (asc_paths hasc) ⟨n, hn, hnp⟩
  unfold treeUnder
  rw [hv, vp_of_depth hp, if_pos (show (true && true) = true from rfl), List.length_map]
  exact this

theorem filter_len10 {ns : List Nd} (hv : validT ns = true) (f : Nd → Bool) : (ns.filter f).length ≤ 10 := Nat.le_trans (List.length_filter_le _ _) ((validT_iff ns).1 hv).2.2

/-- P52: what is removed is gone. -/
theorem remove_done {ns : List Nd} {p : ByteArray} {out : List Cmd} (h : removeAll ns p = (out, true)) : ∃ x, logApply ns out = (x, (out.length : Int)) ∧ validT x = true ∧ treeGet x p = (0, 0) ∧ treeUnder x p = [] ∧ x.length + out.length = ns.length ∧ out.length ≤ 10 ∧
    ∀ n ∈ ns, n.p ≠ p → undB p n.p = false → treeGet x n.p = (n.k, n.v) := by
  obtain ⟨hv, hd, hg, rfl⟩ := removeAll_inv h
  obtain ⟨hf, ha⟩ := rem_fits hv p
  obtain ⟨_, _, h5⟩ := fitsL_iff.1 hf
  have hx : validT (ns.filter (fun n => !subB p n.p)) = true := by
    have := runL_valid (remL ns p) ns hv
    rwa [rem_run _ ns p hv rfl] at this
  have hl := filter_parts (fun n => subB p n.p) ns
  refine ⟨_, ha, hx, ?_, ?_, by rw [remL_len]; omega, by rw [remL_len]; exact filter_len10 hv _, fun n hn h1 h2 => ?_⟩
  · rw [treeGet_eq hx (vp_of_depth hd), rem_get hv p p (dep_root hd), if_pos (by unfold subB; simp)]
  · unfold treeUnder
    rw [hx, vp_of_depth hd, if_pos (show (true && true) = true from rfl), List.filter_filter, List.map_eq_nil_iff, List.filter_eq_nil_iff]
    intro n hn hc
    rw [Bool.and_eq_true] at hc
    have : subB p n.p = true := by unfold subB; rw [hc.1]; simp
    rw [this] at hc
    cases hc.2
  · obtain ⟨g1, g2⟩ := good_path hv hn
    rw [treeGet_eq hx g2, rem_get hv p n.p (dep_root g1), if_neg, getT_mem hv hn]
    unfold subB
    rw [h2, Bool.or_false, decide_eq_true_eq]
    exact h1

/-- P53: each node is removed once. -/
theorem remove_count {ns : List Nd} {p : ByteArray} {out : List Cmd} (h : removeAll ns p = (out, true)) : out.length = (treeUnder ns p).length + 1 ∧ ∀ c ∈ out, c.tk = 0 ∧ (c.p = p ∨ undB p c.p = true) := by
  obtain ⟨hv, hd, hg, rfl⟩ := removeAll_inv h
  refine ⟨by rw [remL_len, sub_count1 hv hd hg], fun c hc => ?_⟩
  obtain ⟨n, hn, rfl⟩ := List.mem_map.1 hc
  have := (List.mem_filter.1 (List.mem_reverse.1 hn)).2
  unfold subB at this
  rw [Bool.or_eq_true, decide_eq_true_eq] at this
  exact ⟨rfl, this⟩

/-- A copy's two paths as words, and what copy_done asks. -/
theorem copy_words {ns : List Nd} {a b : ByteArray} (h : copyOk ns a b = true) : ∃ wa wb, a = pB wa ∧ b = pB wb ∧ Wrd wa ∧ wa ≠ [] ∧ Wrd wb ∧ wb ≠ [] ∧ validT ns = true ∧ pB wb ≠ pB wa ∧ undB (pB wa) (pB wb) = false ∧ (getT ns (pB wa)).1 ≠ 0 ∧
    fitsL ns (copyL ns (pB wa) (pB wb)) = true ∧ (runL ns (copyL ns (pB wa) (pB wb))).2 = (copyL ns (pB wa) (pB wb)).length := by
  obtain ⟨h1, h2, h3, h4, h5, h6, h7⟩ := copyOk_iff.1 h
  obtain ⟨wa, ha, rfl⟩ := vpB_word (vp_of_depth h2)
  obtain ⟨wb, hb, rfl⟩ := vpB_word (vp_of_depth h3)
  rw [depB_pB ha] at h2
  rw [depB_pB hb] at h3
  exact ⟨wa, wb, rfl, rfl, ha, fun e => by rw [e] at h2; simp at h2, hb, fun e => by rw [e] at h3; simp at h3, h1, fun e => h5 e.symm, h6, h4, h7, (fitsL_iff.1 h7).2.2⟩

theorem copyL_len (ns : List Nd) (a b : ByteArray) : (copyL ns a b).length = (ns.filter (fun n => subB a n.p)).length := by unfold copyL; simp

theorem pB_size_le (w t : List UInt8) : (pB w).size ≤ (pB (w ++ t)).size := by
  show (Pm.pathOf w).length ≤ (Pm.pathOf (w ++ t)).length
  unfold Pm.pathOf
  by_cases h : w = []
  · rw [if_pos h]
    split
    · simp
    · rename_i h2
      rw [Pm.flat_length]
      have := List.length_pos_iff.2 h2
      simp at this ⊢
      omega
  · rw [if_neg h, if_neg (by simp [h]), Pm.flat_length, Pm.flat_length, List.length_append]
    omega

/-- P54: a copy has the same contents. -/
theorem copy_told {ns : List Nd} {a b : ByteArray} {out : List Cmd} (h : copyAll ns a b = (out, true)) : ∃ x, logApply ns out = (x, (out.length : Int)) ∧ validT x = true ∧ validT ns = true ∧ treeGet x b = treeGet ns a ∧ x.length = ns.length + (treeUnder ns a).length + 1 ∧ out.length ≤ 10 ∧
    (∀ q ∈ treeUnder ns a, a.size ≤ q.size ∧ treeGet x (cpB a b q) = treeGet ns q) ∧ ∀ n ∈ ns, treeGet x n.p = (n.k, n.v) := by
  obtain ⟨hok, rfl⟩ := copyAll_inv h
  obtain ⟨wa, wb, rfl, rfl, hwa, ha, hwb, hb, hv, hne, hnu, hg, hf, hr⟩ := copy_words hok
  obtain ⟨c1, c2, c3, c4, c5, c6⟩ := copy_done hv hwa ha hwb hb hne hnu hg hr
  obtain ⟨x, hx1, hx2⟩ := fits_apply hf
  have hrx : (runL ns (copyL ns (pB wa) (pB wb))).1 = x := by
    rw [logApply_ok hv (fitsL_iff.1 hf).2.1] at hx1
    exact congrArg Prod.fst hx1
  rw [hrx] at c1 c2 c3 c4
  have hda : 1 ≤ depB (pB wa) := by rw [depB_pB hwa]; have := List.length_pos_iff.2 ha; omega
  refine ⟨x, hx1, hx2, hv, ?_, ?_, ?_, fun q hq => ?_, fun n hn => ?_⟩
  · rw [treeGet_eq hx2 (vpB_pB hwb), treeGet_eq hv (vpB_pB hwa)]
    simpa using c1 []
  · rw [c4, copyL_len, sub_count1 hv hda hg]; omega
  · rw [copyL_len]; exact filter_len10 hv _
  · unfold treeUnder at hq
    rw [hv, vpB_pB hwa, if_pos (show (true && true) = true from rfl)] at hq
    obtain ⟨n, hn, rfl⟩ := List.mem_map.1 hq
    obtain ⟨hn, hu⟩ := List.mem_filter.1 hn
    obtain ⟨w, t, hw, ht, hts, e1, e2⟩ := und_words hu
    have e3 := pB_inj' e1
    subst e3
    rw [e2, cpB_word ha hb]
    have hcm : (⟨pB (wb ++ t), 0, 0, n.k, n.v⟩ : Cmd) ∈ copyL ns (pB wa) (pB wb) := List.mem_map.2 ⟨n, List.mem_filter.2 ⟨hn, by unfold subB; rw [hu]; simp⟩, by rw [e2, cpB_word ha hb]⟩
    have hvb : vpB (pB (wb ++ t)) = true := vp_of_depth ((validC_iff _).1 (run_validC _ ns hr _ hcm)).1
    refine ⟨pB_size_le _ _, ?_⟩
    rw [treeGet_eq hx2 hvb, c1 t, treeGet_eq hv (vpB_pB ht)]
  · rw [treeGet_eq hx2 (good_path hv hn).2]; exact c2 n hn

/-- P55: a copy has the same sum. -/
theorem copy_sum {ns x : List Nd} {a b : ByteArray} {out : List Cmd} (h : copyAll ns a b = (out, true)) (hx : logApply ns out = (x, (out.length : Int))) : treeSum x a = treeSum x b ∧ treeSum x a = treeSum ns a := by
  obtain ⟨hok, rfl⟩ := copyAll_inv h
  obtain ⟨wa, wb, rfl, rfl, hwa, ha, hwb, hb, hv, hne, hnu, hg, hf, hr⟩ := copy_words hok
  obtain ⟨c1, c2, c3, c4, c5, c6⟩ := copy_done hv hwa ha hwb hb hne hnu hg hr
  have hrx : (runL ns (copyL ns (pB wa) (pB wb))).1 = x := by
    rw [logApply_ok hv (fitsL_iff.1 hf).2.1] at hx
    exact congrArg Prod.fst hx
  have hxv := runL_valid (copyL ns (pB wa) (pB wb)) ns hv
  rw [hrx] at c1 c3 hxv
  have e := treeSum_shift hxv hv hwa hwa c3
  exact ⟨e.trans (treeSum_shift hxv hv hwb hwa c1).symm, e⟩

theorem move_valid {ns : List Nd} {a b : ByteArray} (h : copyOk ns a b = true) : validL (copyL ns a b ++ remL ns a) = true := by
  obtain ⟨wa, wb, rfl, rfl, hwa, ha, hwb, hb, hv, hne, hnu, hg, hf, hr⟩ := copy_words h
  obtain ⟨h1, h2⟩ := (validL_iff _).1 (fitsL_iff.1 hf).2.1
  obtain ⟨h3, h4⟩ := (validL_iff _).1 (fitsL_iff.1 (rem_fits hv (pB wa)).1).2.1
  refine (validL_iff _).2 ⟨fun c hc => ?_, ?_⟩
  · rcases List.mem_append.1 hc with hc | hc
    · exact h1 c hc
    · exact h3 c hc
  · rw [List.length_append, copyL_len, remL_len]
    have := filter_len10 hv (fun n => subB (pB wa) n.p)
    omega

/-- P56: a move is a copy and a removal. -/
theorem move_told {ns : List Nd} {a b : ByteArray} {out : List Cmd} (h : moveAll ns a b = (out, true)) : ∃ x, logApply ns out = (x, (out.length : Int)) ∧ validT x = true ∧ treeGet x a = (0, 0) ∧ treeSum x b = treeSum ns a ∧ x.length = ns.length ∧ out.length ≤ 20 := by
  obtain ⟨hok, rfl⟩ := moveAll_inv h
  have hl := move_valid hok
  obtain ⟨wa, wb, rfl, rfl, hwa, ha, hwb, hb, hv, hne, hnu, hg, hf, hr⟩ := copy_words hok
  obtain ⟨x, h1, h2, h3, h4, -, -, h7, -⟩ := move_done hv hwa ha hwb hb hne hnu hg hr
  refine ⟨x, logApply_pair hv hl h1, h2, ?_, h7, h3, ((validL_iff _).1 hl).2⟩
  rw [treeGet_eq h2 (vpB_pB hwa), h4]

/-- P57: a move can be made back. -/
theorem move_back_told {ns x : List Nd} {a b : ByteArray} {out : List Cmd} (h : moveAll ns a b = (out, true)) (hx : logApply ns out = (x, (out.length : Int))) : ∃ list, moveAll x b a = (list, true) ∧ logApply x list = (ns, (list.length : Int)) ∧ list.length ≤ 20 := by
  obtain ⟨hok, rfl⟩ := moveAll_inv h
  have hl := move_valid hok
  obtain ⟨wa, wb, rfl, rfl, hwa, ha, hwb, hb, hv, hne, hnu, hg, hf, hr⟩ := copy_words hok
  obtain ⟨y, h1, h2, h3, h4, h5, h6⟩ := move_back hv hwa ha hwb hb hne hnu hg hr
  rw [logApply_pair hv hl h1] at hx
  obtain rfl : y = x := congrArg Prod.fst hx
  have hda : 1 ≤ depB (pB wa) := by rw [depB_pB hwa]; have := List.length_pos_iff.2 ha; omega
  have hdb : 1 ≤ depB (pB wb) := by rw [depB_pB hwb]; have := List.length_pos_iff.2 hb; omega
  have hcv : validL (copyL y (pB wb) (pB wa)) = true := by
    refine (validL_iff _).2 ⟨run_validC _ y h5, ?_⟩
    rw [copyL_len]
    have := filter_len10 h2 (fun n => subB (pB wb) n.p)
    omega
  have hok2 : copyOk y (pB wb) (pB wa) = true := copyOk_iff.2 ⟨h2, hdb, hda, h4, hne, h3, fitsL_iff.2 ⟨h2, hcv, h5⟩⟩
  have hl2 := move_valid hok2
  refine ⟨_, by unfold moveAll; rw [if_pos hok2], logApply_pair h2 hl2 h6, ((validL_iff _).1 hl2).2⟩

end Go.Proofs.YtmlnakkfjecibaaGreatDoor
