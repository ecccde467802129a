/-
  PLAIN MATHEMATICS OF SUMS AND CHANGES: the sum of what is at a word and behind it; the paths at which two trees differ.
-/
import Derived.Test.YtoipbocbgadjbaaWd
namespace Go.Proofs.Ytoipbocbgadjbaa

/-! ## Sums -/

/-- One child's share. -/
def stepW (s : Int) (k : Nat) (n : Int) : Int := (31 * n + 7 * k + 100 * s + 3) % 9973

def baseW (c : Int × Int) : Int := 1 + 200 * c.1 + c.2

/-- The sum of a word, d letters deep. -/
def sumW (G : List UInt8 → Int × Int) : Nat → List UInt8 → Int
  | 0, w => baseW (G w)
  | d + 1, w =>
    if (G w).1 = 1 then
      (List.range 4).foldl (fun n k => if (G (w ++ [UInt8.ofNat (97 + k)])).1 = 0 then n else stepW (sumW G d (w ++ [UInt8.ofNat (97 + k)])) k n) (baseW (G w))
    else baseW (G w)

/-- The sum at a word behind the first m letters. -/
def partW (G : List UInt8 → Int × Int) (d : Nat) (w : List UInt8) (m : Nat) : Int :=
  (List.range m).foldl (fun n k => if (G (w ++ [UInt8.ofNat (97 + k)])).1 = 0 then n else stepW (sumW G d (w ++ [UInt8.ofNat (97 + k)])) k n) (baseW (G w))

theorem partW_zero (G : List UInt8 → Int × Int) (d : Nat) (w : List UInt8) : partW G d w 0 = baseW (G w) := rfl
theorem partW_next (G : List UInt8 → Int × Int) (d : Nat) (w : List UInt8) (m : Nat) :
    partW G d w (m + 1) = if (G (w ++ [UInt8.ofNat (97 + m)])).1 = 0 then partW G d w m else stepW (sumW G d (w ++ [UInt8.ofNat (97 + m)])) m (partW G d w m) := by
  unfold partW
  rw [List.range_succ, List.foldl_append]
  rfl
theorem sumW_part (G : List UInt8 → Int × Int) (d : Nat) (w : List UInt8) (h : (G w).1 = 1) : sumW G (d + 1) w = partW G d w 4 := by
  unfold partW
  rw [sumW, if_pos h]
theorem sumW_file (G : List UInt8 → Int × Int) (d : Nat) (w : List UInt8) (h : (G w).1 ≠ 1) : sumW G d w = baseW (G w) := by
  cases d with
  | zero => rfl
  | succ d => rw [sumW, if_neg h]

/-- Where nothing is one letter deeper, the base alone counts. -/
theorem partW_none (G : List UInt8 → Int × Int) (d : Nat) (w : List UInt8) (h : ∀ k, k < 4 → (G (w ++ [UInt8.ofNat (97 + k)])).1 = 0) : ∀ m, m ≤ 4 → partW G d w m = baseW (G w)
  | 0, _ => rfl
  | m + 1, hm => by rw [partW_next, if_pos (h m (by omega)), partW_none G d w h m (by omega)]

theorem stepW_range (s : Int) (k : Nat) (n : Int) : 0 ≤ stepW s k n ∧ stepW s k n ≤ 9972 := by unfold stepW; omega

theorem base_range {c : Int × Int} (h : validB c.1 c.2 = true) : 1 ≤ baseW c ∧ baseW c ≤ 500 := by
  unfold validB at h
  unfold baseW
  simp only [decide_eq_true_eq] at h
  omega

theorem partW_range {G : List UInt8 → Int × Int} (hG : ∀ w, validB (G w).1 (G w).2 = true) (d : Nat) (w : List UInt8) : ∀ m, 0 ≤ partW G d w m ∧ partW G d w m ≤ 9972
  | 0 => by have := base_range (hG w); rw [partW_zero]; exact ⟨by omega, by omega⟩
  | m + 1 => by
    rw [partW_next]
    split
    · exact partW_range hG d w m
    · exact stepW_range _ _ _

theorem sumW_range {G : List UInt8 → Int × Int} (hG : ∀ w, validB (G w).1 (G w).2 = true) (d : Nat) (w : List UInt8) : 0 ≤ sumW G d w ∧ sumW G d w ≤ 9972 := by
  by_cases h : (G w).1 = 1
  · cases d with
    | zero => have := base_range (hG w); show 0 ≤ baseW _ ∧ baseW _ ≤ 9972; exact ⟨by omega, by omega⟩
    | succ d => rw [sumW_part _ _ _ h]; exact partW_range hG d w 4
  · rw [sumW_file _ _ _ h]; have := base_range (hG w); exact ⟨by omega, by omega⟩

/-- A sum tells of what is at a word and behind it only. -/
theorem sumW_congr {G H : List UInt8 → Int × Int} : ∀ (d : Nat) (w : List UInt8), (∀ u, G (w ++ u) = H (w ++ u)) → sumW G d w = sumW H d w
  | 0, w, h => by show baseW _ = baseW _; have := h []; rw [List.append_nil] at this; rw [this]
  | d + 1, w, h => by
    have h0 := h []
    rw [List.append_nil] at h0
    by_cases h1 : (G w).1 = 1
    · rw [sumW_part _ _ _ h1, sumW_part _ _ _ (by rw [← h0]; exact h1)]
      have hp : ∀ m, partW G d w m = partW H d w m := by
        intro m
        induction m with
        | zero => rw [partW_zero, partW_zero, h0]
        | succ m ih =>
          have hs : sumW G d (w ++ [UInt8.ofNat (97 + m)]) = sumW H d (w ++ [UInt8.ofNat (97 + m)]) := sumW_congr d _ (fun u => by rw [List.append_assoc]; exact h _)
          rw [partW_next, partW_next, ih, h [UInt8.ofNat (97 + m)], hs]
      exact hp 4
    · rw [sumW_file _ _ _ h1, sumW_file _ _ _ (by rw [← h0]; exact h1), h0]

/-- The letters of a path. -/
def wordOf (p : ByteArray) : List UInt8 := p.data.toList.filter Pm.letter

theorem letter47 : Pm.letter 47 = false := by decide

theorem filter_flat : ∀ (w : List UInt8), (∀ x ∈ w, Pm.letter x = true) → (Pm.flat w).filter Pm.letter = w
  | [], _ => rfl
  | c :: r, h => by
    show (47 :: c :: Pm.flat r).filter Pm.letter = c :: r
    rw [List.filter_cons_of_neg (by simp [letter47]), List.filter_cons_of_pos (h c (by simp)), filter_flat r (fun x hx => h x (List.mem_cons_of_mem _ hx))]

theorem wordOf_pB {w : List UInt8} (h : ∀ x ∈ w, Pm.letter x = true) : wordOf (pB w) = w := by
  unfold wordOf
  rw [pB_list]
  unfold Pm.pathOf
  split
  · rename_i e; subst e; decide
  · exact filter_flat w h

/-- spec.TreeSum. -/
def treeSum (ns : List Nd) (p : ByteArray) : Int := if (validT ns && vpB p) = true then sumW (Fof ns) (4 - (wordOf p).length) (wordOf p) else -1

theorem treeSum_word {ns : List Nd} {w : List UInt8} (h : validT ns = true) (hw : Wrd w) : treeSum ns (pB w) = sumW (Fof ns) (4 - w.length) w := by
  unfold treeSum
  rw [h, vpB_pB hw, wordOf_pB hw.2]; rfl

theorem Fof_valid {ns : List Nd} (h : validT ns = true) (w : List UInt8) : validB (Fof ns w).1 (Fof ns w).2 = true := getT_valid h (pB w)

theorem treeSum_range {ns : List Nd} {p : ByteArray} (h : validT ns = true) (hv : vpB p = true) : 0 ≤ treeSum ns p ∧ treeSum ns p ≤ 9972 := by
  unfold treeSum
  rw [h, hv]
  exact sumW_range (fun w => Fof_valid h w) _ _

theorem treeSum_neg {ns : List Nd} {p : ByteArray} (h : treeSum ns p < 0) : (validT ns && vpB p) = false := by
  cases hc : (validT ns && vpB p) with
  | false => rfl
  | true =>
    rw [Bool.and_eq_true] at hc
    have := treeSum_range hc.1 hc.2
    omega

theorem flat_inj : ∀ {a b : List UInt8}, Pm.flat a = Pm.flat b → a = b
  | [], [], _ => rfl
  | [], _ :: _, h => by simp [Pm.flat] at h
  | _ :: _, [], h => by simp [Pm.flat] at h
  | c :: a, d :: b, h => by
    simp only [Pm.flat, List.cons.injEq, true_and] at h
    rw [h.1, flat_inj h.2]

theorem pB_inj' {a b : List UInt8} (h : pB a = pB b) : a = b := by
  have h : Pm.pathOf a = Pm.pathOf b := congrArg (fun x : ByteArray => x.data.toList) h
  unfold Pm.pathOf at h
  split at h <;> split at h
  · rename_i h1 h2; rw [h1, h2]
  · rename_i h1 h2
    exfalso
    have := congrArg List.length h
    rw [Pm.flat_length] at this
    simp at this; omega
  · rename_i h1 h2
    exfalso
    have := congrArg List.length h
    rw [Pm.flat_length] at this
    simp at this; omega
  · exact flat_inj h

/-- Nothing is deeper than four letters. -/
theorem deep_none {ns : List Nd} (h : validT ns = true) {w : List UInt8} (h5 : 4 < w.length) : Fof ns w = (0, 0) := by
  unfold Fof getT
  have hne : pB w ≠ (⟨#[47]⟩ : ByteArray) := fun e => by
    have h1 : w = [] := pB_inj' (e.trans pB_root.symm)
    rw [h1] at h5; simp at h5
  rw [if_neg hne]
  unfold getL
  have hl : look ns (pB w) = none := look_none.2 fun n hn e => by
    have g := good_path h hn
    obtain ⟨u, hu, he⟩ := vpB_word g.2
    rw [he] at e
    have := hu.1
    rw [pB_inj' e] at this
    omega
  rw [hl]

/-- P31: what is put elsewhere does not turn the sum. -/
theorem sum_elsewhere {ns out : List Nd} {p o : ByteArray} {k v : Int} (h : treePut ns o k v = some out) (hv : vpB p = true) (hne : o ≠ p) (hu : undB p o = false) : treeSum out p = treeSum ns p := by
  obtain ⟨h1, h2, h3, rfl, h5⟩ := treePut_some h
  have ha := ((validT_iff ns).1 h1).1
  obtain ⟨w, hw, rfl⟩ := vpB_word hv
  obtain ⟨x, hx, rfl⟩ := vpB_word (vp_of_depth h2)
  rw [treeSum_word h5 hw, treeSum_word h1 hw]
  refine sumW_congr _ _ fun u => ?_
  unfold Fof
  rw [getT_put ha h2 h3]
  by_cases e : pB (w ++ u) = pB x
  · exfalso
    have e := pB_inj' e
    subst e
    rw [undB_pB hw hx] at hu
    simp only [decide_eq_false_iff_not, not_and, List.length_append] at hu
    have := hu (List.prefix_append w u)
    have h0 : u = [] := List.length_eq_zero_iff.1 (by omega)
    subst h0
    rw [List.append_nil] at hne
    exact hne rfl
  · rw [if_neg e]

/-- P32: a file's sum tells its value. -/
theorem sum_file {ns : List Nd} {p : ByteArray} (h : validT ns = true) (hv : vpB p = true) (hk : (getT ns p).1 = 2) : treeSum ns p = 401 + (getT ns p).2 := by
  obtain ⟨w, hw, rfl⟩ := vpB_word hv
  rw [treeSum_word h hw, sumW_file _ _ _ (by show (getT ns (pB w)).1 ≠ 1; rw [hk]; decide)]
  show 1 + 200 * (getT ns (pB w)).1 + (getT ns (pB w)).2 = _
  rw [hk]; omega

/-- spec.TreeSums. -/
def treeSums (ns : List Nd) : List Int := if validT ns = true then ns.map (fun n => treeSum ns n.p) else []

/-! ## Changes -/

/-- The paths of two trees, each once, in order. -/
def mergeP : List Nd → List Nd → List ByteArray
  | [], b => b.map Nd.p
  | x :: a, [] => (x :: a).map Nd.p
  | x :: a, y :: b =>
    if ltB x.p y.p = true then x.p :: mergeP a (y :: b)
    else if ltB y.p x.p = true then y.p :: mergeP (x :: a) b
    else x.p :: mergeP a b
termination_by a b => a.length + b.length

theorem mergeP_nil (b : List Nd) : mergeP [] b = b.map Nd.p := by rw [mergeP]
theorem mergeP_nil' (a : List Nd) : mergeP a [] = a.map Nd.p := by
  cases a with
  | nil => rw [mergeP]
  | cons x a => rw [mergeP]
theorem mergeP_cons (x y : Nd) (a b : List Nd) : mergeP (x :: a) (y :: b) = if ltB x.p y.p = true then x.p :: mergeP a (y :: b) else if ltB y.p x.p = true then y.p :: mergeP (x :: a) b else x.p :: mergeP a b := by rw [mergeP]

theorem mergeP_mem : ∀ (m : Nat) (a b : List Nd), a.length + b.length ≤ m → ∀ p, p ∈ mergeP a b ↔ (∃ n ∈ a, n.p = p) ∨ ∃ n ∈ b, n.p = p
  | _, [], b, _, p => by rw [mergeP_nil]; simp
  | _, x :: a, [], _, p => by rw [mergeP_nil', List.mem_map]; simp
  | 0, x :: a, y :: b, h, _ => by simp at h
  | m + 1, x :: a, y :: b, h, p => by
    rw [mergeP_cons]
    simp only [List.length_cons] at h
    split
    · rw [List.mem_cons, mergeP_mem m a (y :: b) (by simp; omega)]
      simp only [List.mem_cons, exists_eq_or_imp]
      constructor
      · rintro (h1 | h1 | h1)
        · exact .inl (.inl h1.symm)
        · exact .inl (.inr h1)
        · exact .inr h1
      · rintro ((h1 | h1) | h1)
        · exact .inl h1.symm
        · exact .inr (.inl h1)
        · exact .inr (.inr h1)
    · split
      · rw [List.mem_cons, mergeP_mem m (x :: a) b (by simp; omega)]
        simp only [List.mem_cons, exists_eq_or_imp]
        constructor
        · rintro (h1 | h1 | h1)
          · exact .inr (.inl h1.symm)
          · exact .inl h1
          · exact .inr (.inr h1)
        · rintro (h1 | h1 | h1)
          · exact .inr (.inl h1)
          · exact .inl h1.symm
          · exact .inr (.inr h1)
      · rename_i h2 h3
        have e : x.p = y.p := ltB_tri (by simpa using h2) (by simpa using h3)
        rw [List.mem_cons, mergeP_mem m a b (by omega)]
        simp only [List.mem_cons, exists_eq_or_imp, ← e]
        constructor
        · rintro (h1 | h1 | h1)
          · exact .inl (.inl h1.symm)
          · exact .inl (.inr h1)
          · exact .inr (.inr h1)
        · rintro ((h1 | h1) | (h1 | h1))
          · exact .inl h1.symm
          · exact .inr (.inl h1)
          · exact .inl h1.symm
          · exact .inr (.inr h1)

/-- Paths ascend. -/
def AscP (l : List ByteArray) : Prop := l.Pairwise (fun x y => ltB x y = true)

theorem ascP_map {ns : List Nd} (h : Asc ns) : AscP (ns.map Nd.p) := List.pairwise_map.2 h

theorem mergeP_asc : ∀ (m : Nat) (a b : List Nd), a.length + b.length ≤ m → Asc a → Asc b → AscP (mergeP a b)
  | _, [], b, _, _, hb => by rw [mergeP_nil]; exact ascP_map hb
  | _, x :: a, [], _, ha, _ => by rw [mergeP_nil']; exact ascP_map ha
  | 0, x :: a, y :: b, h, _, _ => by simp at h
  | m + 1, x :: a, y :: b, h, ha, hb => by
    rw [mergeP_cons]
    simp only [List.length_cons] at h
    obtain ⟨ha1, ha2⟩ := asc_cons.1 ha
    obtain ⟨hb1, hb2⟩ := asc_cons.1 hb
    split
    · rename_i h1
      refine List.pairwise_cons.2 ⟨fun p hp => ?_, mergeP_asc m a (y :: b) (by simp; omega) ha2 hb⟩
      rcases (mergeP_mem m a (y :: b) (by simp; omega) p).1 hp with ⟨n, hn, rfl⟩ | ⟨n, hn, rfl⟩
      · exact ha1 n hn
      · rcases List.mem_cons.1 hn with rfl | hn
        · exact h1
        · exact ltB_trans h1 (hb1 n hn)
    · split
      · rename_i h1
        refine List.pairwise_cons.2 ⟨fun p hp => ?_, mergeP_asc m (x :: a) b (by simp; omega) ha hb2⟩
        rcases (mergeP_mem m (x :: a) b (by simp; omega) p).1 hp with ⟨n, hn, rfl⟩ | ⟨n, hn, rfl⟩
        · rcases List.mem_cons.1 hn with rfl | hn
          · exact h1
          · exact ltB_trans h1 (ha1 n hn)
        · exact hb1 n hn
      · rename_i h2 h3
        have e : x.p = y.p := ltB_tri (by simpa using h2) (by simpa using h3)
        refine List.pairwise_cons.2 ⟨fun p hp => ?_, mergeP_asc m a b (by omega) ha2 hb2⟩
        rcases (mergeP_mem m a b (by omega) p).1 hp with ⟨n, hn, rfl⟩ | ⟨n, hn, rfl⟩
        · exact ha1 n hn
        · rw [e]; exact hb1 n hn

theorem mergeP_len : ∀ (m : Nat) (a b : List Nd), a.length + b.length ≤ m → (mergeP a b).length ≤ a.length + b.length
  | _, [], b, _ => by rw [mergeP_nil]; simp
  | _, x :: a, [], _ => by rw [mergeP_nil']; simp
  | 0, x :: a, y :: b, h => by simp at h
  | m + 1, x :: a, y :: b, h => by
    rw [mergeP_cons]
    simp only [List.length_cons] at h ⊢
    split
    · have := mergeP_len m a (y :: b) (by simp; omega); simp only [List.length_cons] at this ⊢; omega
    · split
      · have := mergeP_len m (x :: a) b (by simp; omega); simp only [List.length_cons] at this ⊢; omega
      · have := mergeP_len m a b (by omega); simp only [List.length_cons] at this ⊢; omega

def diffB (a b : List Nd) (p : ByteArray) : Bool := decide (getT a p ≠ getT b p)

/-- spec.TreeChanged. -/
def chgL (a b : List Nd) : List ByteArray := if (validT a && validT b) = true then (mergeP a b).filter (diffB a b) else []

theorem chg_asc {a b : List Nd} : AscP (chgL a b) := by
  unfold chgL
  split
  · rename_i h
    rw [Bool.and_eq_true] at h
    exact List.Pairwise.filter _ (mergeP_asc _ a b (Nat.le_refl _) ((validT_iff a).1 h.1).1 ((validT_iff b).1 h.2).1)
  · exact List.Pairwise.nil

theorem chg_len (a b : List Nd) : (chgL a b).length ≤ 20 := by
  unfold chgL
  split
  · rename_i h
    rw [Bool.and_eq_true] at h
    have h1 := ((validT_iff a).1 h.1).2.2
    have h2 := ((validT_iff b).1 h.2).2.2
    have := mergeP_len _ a b (Nat.le_refl _)
    have := List.length_filter_le (diffB a b) (mergeP a b)
    omega
  · simp

theorem getT_none {ns : List Nd} {p : ByteArray} (hp : p ≠ rootB) (h : ∀ n ∈ ns, n.p ≠ p) : getT ns p = (0, 0) := by
  unfold getT getL
  rw [if_neg (show ¬ p = (⟨#[47]⟩ : ByteArray) from hp), look_none.2 h]

/-- P34: exactly the paths whose contents differ. -/
theorem chg_mem {a b : List Nd} (ha : validT a = true) (hb : validT b = true) (p : ByteArray) : p ∈ chgL a b ↔ getT a p ≠ getT b p := by
  unfold chgL
  rw [ha, hb]
  simp only [Bool.and_self, if_true, List.mem_filter]
  unfold diffB
  rw [decide_eq_true_eq, mergeP_mem _ a b (Nat.le_refl _)]
  constructor
  · exact fun h => h.2
  · intro h
    refine ⟨?_, h⟩
    by_cases h1 : ∃ n ∈ a, n.p = p
    · exact .inl h1
    · by_cases h2 : ∃ n ∈ b, n.p = p
      · exact .inr h2
      · exfalso
        by_cases hr : p = rootB
        · subst hr; exact h (by rw [getT_root, getT_root])
        · exact h (by rw [getT_none hr (fun n hn e => h1 ⟨n, hn, e⟩), getT_none hr (fun n hn e => h2 ⟨n, hn, e⟩)])

/-- Ascending lists are told by their members. -/
theorem ascP_ext : ∀ {a b : List ByteArray}, AscP a → AscP b → (∀ p, p ∈ a ↔ p ∈ b) → a = b
  | [], [], _, _, _ => rfl
  | [], y :: b, _, _, h => by have := (h y).2 (by simp); cases this
  | x :: a, [], _, _, h => by have := (h x).1 (by simp); cases this
  | x :: a, y :: b, ha, hb, h => by
    obtain ⟨hx, ha'⟩ := List.pairwise_cons.1 ha
    obtain ⟨hy, hb'⟩ := List.pairwise_cons.1 hb
    have e : x = y := by
      rcases List.mem_cons.1 ((h x).1 (by simp)) with e | e
      · exact e
      · rcases List.mem_cons.1 ((h y).2 (by simp)) with e' | e'
        · exact e'.symm
        · have h1 := hy x e
          have h2 := hx y e'
          rw [ltB_asymm h1] at h2; cases h2
    subst e
    rw [ascP_ext ha' hb' (fun p => by
      constructor
      · intro hp
        rcases List.mem_cons.1 ((h p).1 (List.mem_cons_of_mem _ hp)) with e | e
        · subst e; have := hx p hp; rw [ltB_irrefl] at this; cases this
        · exact e
      · intro hp
        rcases List.mem_cons.1 ((h p).2 (List.mem_cons_of_mem _ hp)) with e | e
        · subst e; have := hy p hp; rw [ltB_irrefl] at this; cases this
        · exact e)]

/-- P35: changes have no direction. -/
theorem chg_symm {a b : List Nd} (ha : validT a = true) (hb : validT b = true) : chgL b a = chgL a b :=
  ascP_ext chg_asc chg_asc fun p => by rw [chg_mem hb ha, chg_mem ha hb]; exact ⟨fun h e => h e.symm, fun h e => h e.symm⟩

/-- P35: equal trees have no changes, and others have some. -/
theorem chg_nil {a b : List Nd} (ha : validT a = true) (hb : validT b = true) : chgL a b = [] ↔ a = b := by
  constructor
  · intro h
    have hg : ∀ p, getT a p = getT b p := fun p => by
      by_cases e : getT a p = getT b p
      · exact e
      · have := (chg_mem ha hb p).2 e
        rw [h] at this; cases this
    have hs : ∀ {c d : List Nd}, validT c = true → validT d = true → (∀ p, getT c p = getT d p) → ∀ p n, look c p = some n → look d p = some n := by
      intro c d hc hd hcd p n hn
      obtain ⟨h1, h2⟩ := look_some hn
      subst h2
      have h3 := getT_mem hc h1
      rw [hcd] at h3
      have g := ((validT_iff c).1 hc).2.1 n h1
      rcases getT_some (ns := d) (p := n.p) (by rw [h3]; exact g.2.2.1) with e | ⟨m, hm, hmp, hml⟩
      · have := g.1; rw [e] at this; exact absurd this (by decide)
      · have h4 := getT_mem hd hm
        rw [hmp, h3] at h4
        rw [hml]
        congr 1
        cases m; cases n
        simp only [Prod.mk.injEq] at h4 hmp
        simp [hmp, h4.1, h4.2]
    refine asc_ext ((validT_iff a).1 ha).1 ((validT_iff b).1 hb).1 fun p => ?_
    cases h1 : look a p with
    | some n => rw [hs ha hb hg p n h1]
    | none =>
      cases h2 : look b p with
      | none => rfl
      | some n => rw [hs hb ha (fun q => (hg q).symm) p n h2] at h1; cases h1
  · rintro rfl
    rw [List.eq_nil_iff_forall_not_mem]
    intro p hp
    exact (chg_mem ha hb p).1 hp rfl

/-- P36: one change is one path. -/
theorem chg_put {ns out : List Nd} {p : ByteArray} {k v : Int} (h : treePut ns p k v = some out) : chgL ns out = if getT ns p = (k, v) then [] else [p] := by
  obtain ⟨h1, h2, h3, rfl, h5⟩ := treePut_some h
  have ha := ((validT_iff ns).1 h1).1
  have hm : ∀ q, q ∈ chgL ns (putL ns p k v) ↔ q = p ∧ getT ns p ≠ (k, v) := fun q => by
    rw [chg_mem h1 h5, getT_put ha h2 h3]
    by_cases e : q = p
    · subst e; simp
    · simp [e]
  split
  · rename_i e
    rw [List.eq_nil_iff_forall_not_mem]
    intro q hq
    exact ((hm q).1 hq).2 e
  · rename_i e
    exact ascP_ext chg_asc (List.pairwise_singleton _ _) fun q => by rw [hm, List.mem_singleton]; exact ⟨fun h => h.1, fun h => ⟨h, e⟩⟩

end Go.Proofs.Ytoipbocbgadjbaa
