/-
  PLAIN MATHEMATICS OF ORDERS, second part: neighbours exchanged (P73, P74); orders counted (P75, P76).
-/
import Derived.Test.YtdkpabnpobpdhaaGreatOa
namespace Go.Proofs.YtdkpabnpobpdhaaGreat

theorem atK_append_left {a b : List Cmd} {k : Nat} (h : k < a.length) : atK (a ++ b) k = atK a k := by
  unfold atK
  rw [List.getD_eq_getElem?_getD, List.getD_eq_getElem?_getD, List.getElem?_append_left h]
theorem atK_append_right {a b : List Cmd} {k : Nat} (h : a.length ≤ k) : atK (a ++ b) k = atK b (k - a.length) := by
  unfold atK
  rw [List.getD_eq_getElem?_getD, List.getD_eq_getElem?_getD, List.getElem?_append_right h]

theorem atK_ext {a b : List Cmd} (hl : a.length = b.length) (h : ∀ k, k < a.length → atK a k = atK b k) : a = b := by
  refine List.ext_getElem? (fun k => ?_)
  by_cases hk : k < a.length
  · rw [atK_get hk, atK_get (by omega), h k hk]
  · rw [List.getElem?_eq_none (by omega), List.getElem?_eq_none (by omega)]

/-- Two neighbours exchanged. -/
theorem swap_adj (pre suf : List Cmd) (c d : Cmd) : swapK (pre ++ c :: d :: suf) pre.length (pre.length + 1) = pre ++ d :: c :: suf := by
  refine atK_ext (by rw [swapK_length]; simp) (fun k hk => ?_)
  rw [swapK_length] at hk
  have h0 : atK (pre ++ c :: d :: suf) pre.length = c := by rw [atK_append_right (Nat.le_refl _), Nat.sub_self]; rfl
  have h1 : atK (pre ++ c :: d :: suf) (pre.length + 1) = d := by rw [atK_append_right (by omega), show pre.length + 1 - pre.length = 1 by omega]; rfl
  rw [atK_swap (by simp) (by simp), h0, h1]
  by_cases e1 : k = pre.length + 1
  · subst e1
    rw [if_pos rfl, atK_append_right (by omega), show pre.length + 1 - pre.length = 1 by omega]
    rfl
  · rw [if_neg e1]
    by_cases e2 : k = pre.length
    · subst e2
      rw [if_pos rfl, atK_append_right (Nat.le_refl _), Nat.sub_self]
      rfl
    · rw [if_neg e2]
      by_cases e3 : k < pre.length
      · rw [atK_append_left e3, atK_append_left e3]
      · rw [atK_append_right (by omega), atK_append_right (by omega)]
        obtain ⟨j, hj⟩ : ∃ j, k - pre.length = j + 2 := ⟨k - pre.length - 2, by omega⟩
        rw [hj]
        rfl

theorem split_adj {cs : List Cmd} {k : Nat} (hk : k + 1 < cs.length) : ∃ pre suf, cs = pre ++ atK cs k :: atK cs (k + 1) :: suf ∧ pre.length = k := by
  refine ⟨cs.take k, cs.drop (k + 2), ?_, by rw [List.length_take]; omega⟩
  conv => lhs; rw [← List.take_append_drop k cs]
  congr 1
  rw [List.drop_eq_getElem_cons (by omega), List.drop_eq_getElem_cons (by omega)]
  have e1 := atK_get (zs := cs) (k := k) (by omega)
  have e2 := atK_get (zs := cs) (k := k + 1) hk
  rw [List.getElem?_eq_getElem (by omega)] at e1
  rw [List.getElem?_eq_getElem hk] at e2
  rw [Option.some.inj e1, Option.some.inj e2]

/-- spec.OrderSwap. -/
def orderSwap (cs : List Cmd) (k : Int) : List Cmd × Bool :=
  if orderV cs = true ∧ 0 ≤ k ∧ k + 2 ≤ cs.length then (if fitsB (swapK cs k.toNat (k.toNat + 1)) = true then (swapK cs k.toNat (k.toNat + 1), true) else ([], false)) else ([], false)

theorem fits_swap {pre suf : List Cmd} {c d : Cmd} (h : FitsO (pre ++ c :: d :: suf)) : FitsO (pre ++ d :: c :: suf) ↔ mustC c d = false := by
  unfold FitsO at h ⊢
  rw [List.pairwise_append] at h ⊢
  obtain ⟨h1, h2, h3⟩ := h
  rw [List.pairwise_cons, List.pairwise_cons] at h2
  rw [List.pairwise_cons, List.pairwise_cons]
  obtain ⟨h4, h5, h6⟩ := h2
  constructor
  · rintro ⟨_, ⟨g, _⟩, _⟩
    exact g c (by simp)
  · intro hm
    refine ⟨h1, ⟨fun x hx => ?_, fun x hx => h4 x (List.mem_cons_of_mem _ hx), h6⟩, fun x hx y hy => h3 x hx y ?_⟩
    · rcases List.mem_cons.1 hx with rfl | hx
      · exact hm
      · exact h5 x hx
    · rcases List.mem_cons.1 hy with rfl | hy
      · simp
      · rcases List.mem_cons.1 hy with rfl | hy
        · simp
        · simp [hy]

theorem validL_perm {cs ds : List Cmd} (h : cs.Perm ds) (hv : validL cs = true) : validL ds = true := by
  obtain ⟨h1, h2⟩ := (validL_iff cs).1 hv
  exact (validL_iff ds).2 ⟨fun c hc => h1 c (h.mem_iff.2 hc), by rw [← h.length_eq]; exact h2⟩

theorem order_perm {cs ds : List Cmd} (h : cs.Perm ds) (hv : orderV cs = true) (hf : FitsO ds) : orderV ds = true := by
  obtain ⟨h1, h2, _⟩ := orderV_iff.1 hv
  exact orderV_iff.2 ⟨(h.map Cmd.p).nodup_iff.1 h1, validL_perm h h2, hf⟩

/-- P73. -/
theorem swap_told {cs out : List Cmd} {k : Int} (h : orderSwap cs k = (out, true)) : ∃ n : Nat, k = n ∧ n + 1 < cs.length ∧ out.length = cs.length ∧ out = swapK cs n (n + 1) ∧ orderSwap out k = (cs, true) ∧ orderV out = true ∧ mustP (atK cs n) (atK cs (n + 1)) = false ∧ orderV cs = true := by
  unfold orderSwap at h
  split at h
  · rename_i hc
    obtain ⟨hv, hk0, hk1⟩ := hc
    obtain ⟨n, rfl⟩ := Int.eq_ofNat_of_zero_le hk0
    have hkn : n + 1 < cs.length := by omega
    simp only [Int.toNat_natCast] at h
    split at h
    · rename_i hf
      injection h with h _
      subst h
      obtain ⟨pre, suf, hcs, hp⟩ := split_adj hkn
      obtain ⟨c, hcc⟩ : ∃ c, atK cs n = c := ⟨_, rfl⟩
      obtain ⟨d, hdd⟩ : ∃ d, atK cs (n + 1) = d := ⟨_, rfl⟩
      rw [hcc, hdd] at hcs
      have hsw : swapK cs n (n + 1) = pre ++ d :: c :: suf := by rw [hcs, ← hp]; exact swap_adj pre suf c d
      have hback : swapK (swapK cs n (n + 1)) n (n + 1) = cs := by rw [hsw, hcs, ← hp]; exact swap_adj pre suf d c
      have hO := (orderV_iff.1 hv).2.2
      have hfO := (fitsB_iff _).1 hf
      have hvo : orderV (swapK cs n (n + 1)) = true := order_perm (swapK_perm (by omega) hkn).symm hv hfO
      refine ⟨n, rfl, hkn, swapK_length _ _ _, rfl, ?_, hvo, ?_, hv⟩
      · unfold orderSwap
        rw [if_pos ⟨hvo, hk0, by rw [swapK_length]; exact hk1⟩, Int.toNat_natCast, hback, if_pos ((fitsB_iff _).2 hO)]
      · rw [hcs] at hO
        rw [hsw] at hfO
        have := (fits_swap hO).1 hfO
        rw [hcc, hdd]
        unfold mustP
        rw [this]
        simp
    · injection h with _ h; cases h
  · injection h with _ h; cases h

/-- P74. -/
theorem swap_when {cs : List Cmd} {n : Nat} (hv : orderV cs = true) (hn : n + 1 < cs.length) : (orderSwap cs n).2 = !mustP (atK cs n) (atK cs (n + 1)) := by
  unfold orderSwap
  rw [if_pos ⟨hv, by omega, by omega⟩, Int.toNat_natCast]
  obtain ⟨h1, h2, hO⟩ := orderV_iff.1 hv
  obtain ⟨pre, suf, hcs, hp⟩ := split_adj hn
  obtain ⟨c, hcc⟩ : ∃ c, atK cs n = c := ⟨_, rfl⟩
  obtain ⟨d, hdd⟩ : ∃ d, atK cs (n + 1) = d := ⟨_, rfl⟩
  have hvc := ((validL_iff cs).1 h2).1 c (by rw [← hcc]; exact atK_mem (by omega))
  have hvd := ((validL_iff cs).1 h2).1 d (by rw [← hdd]; exact atK_mem hn)
  rw [hcc, hdd] at hcs ⊢
  have hsw : swapK cs n (n + 1) = pre ++ d :: c :: suf := by rw [hcs, ← hp]; exact swap_adj pre suf c d
  rw [hcs] at hO
  rw [hsw]
  have hiff := fits_swap hO
  rw [← fitsB_iff] at hiff
  unfold mustP
  rw [hvc, hvd]
  cases hf : fitsB (pre ++ d :: c :: suf) with
  | true =>
    rw [if_pos rfl, hiff.1 hf]
    rfl
  | false =>
    rw [if_neg (by decide)]
    cases hm : mustC c d with
    | true => rfl
    | false => rw [hiff.2 hm] at hf; cases hf

/-! ### counting -/
/-- spec.l15Free. -/
def freeK (cs : List Cmd) (used : List Bool) (k : Nat) : Bool := (List.range cs.length).all (fun i => used.getD i false || !mustC (atK cs i) (atK cs k)) && !used.getD k false
/-- spec.l15Count. -/
def countK (cs : List Cmd) : List Bool → Nat → Nat
  | _, 0 => 1
  | used, left + 1 => ((List.range cs.length).map (fun k => if freeK cs used k = true then countK cs (used.set k true) left else 0)).sum
/-- spec.OrdersCount. -/
def ordersCount (cs : List Cmd) : Int := if onceV cs = true ∧ cs.length ≤ 6 then (countK cs (List.replicate cs.length false) cs.length : Nat) else -1

/-- How many are left. -/
def leftK (used : List Bool) (n : Nat) : Nat := ((List.range n).map (fun k => if used.getD k false = true then 0 else 1)).sum

theorem sum_le {f g : Nat → Nat} : ∀ (l : List Nat), (∀ k ∈ l, f k ≤ g k) → (l.map f).sum ≤ (l.map g).sum
  | [], _ => Nat.le_refl _
  | a :: l, h => by
    rw [List.map_cons, List.sum_cons, List.map_cons, List.sum_cons]
    have := sum_le l (fun k hk => h k (List.mem_cons_of_mem _ hk))
    have := h a (by simp)
    omega
theorem sum_eq {f g : Nat → Nat} (l : List Nat) (h : ∀ k ∈ l, f k = g k) : (l.map f).sum = (l.map g).sum := by
  rw [List.map_congr_left h]
theorem sum_mul {f : Nat → Nat} (c : Nat) : ∀ (l : List Nat), (l.map (fun k => f k * c)).sum = (l.map f).sum * c
  | [] => by simp
  | a :: l => by rw [List.map_cons, List.sum_cons, List.map_cons, List.sum_cons, sum_mul c l, Nat.add_mul]
theorem sum_one {f : Nat → Nat} : ∀ (l : List Nat) (k : Nat), k ∈ l → f k ≤ (l.map f).sum
  | a :: l, k, h => by
    rw [List.map_cons, List.sum_cons]
    rcases List.mem_cons.1 h with rfl | h
    · omega
    · have := sum_one (f := f) l k h; omega

theorem getD_set {used : List Bool} {k j : Nat} (hk : k < used.length) : (used.set k true).getD j false = if j = k then true else used.getD j false := by
  rw [List.getD_eq_getElem?_getD, List.getElem?_set, List.getD_eq_getElem?_getD]
  by_cases h : k = j
  · subst h
    simp [hk]
  · rw [if_neg h, if_neg (fun e => h e.symm)]

theorem left_set {used : List Bool} {n k : Nat} (hl : used.length = n) (hk : k < n) (hu : used.getD k false = false) : leftK (used.set k true) n + 1 = leftK used n := by
  have go : ∀ m, m ≤ n → ((List.range m).map (fun j => if (used.set k true).getD j false = true then 0 else 1)).sum + (if k < m then 1 else 0) = ((List.range m).map (fun j => if used.getD j false = true then 0 else 1)).sum := by
    intro m
    induction m with
    | zero => intro _; simp
    | succ m ih =>
      intro hm
      have ih := ih (by omega)
      rw [List.range_succ, List.map_append, List.map_append, List.sum_append, List.sum_append]
      simp only [List.map_cons, List.map_nil, List.sum_cons, List.sum_nil]
      rw [getD_set (by omega)]
      generalize ((List.range m).map (fun j => if (used.set k true).getD j false = true then 0 else 1)).sum = s1 at ih ⊢
      generalize ((List.range m).map (fun j => if used.getD j false = true then 0 else 1)).sum = s2 at ih ⊢
      by_cases h : m = k
      · subst h
        simp only [Nat.lt_irrefl, if_false] at ih
        simp only [hu, if_true, Nat.lt_succ_self, Bool.false_eq_true, if_false]
        omega
      · simp only [if_neg h]
        by_cases h2 : k < m
        · simp only [if_pos h2] at ih
          simp only [if_pos (show k < m + 1 by omega)]
          omega
        · simp only [if_neg h2] at ih
          simp only [if_neg (show ¬ k < m + 1 by omega)]
          omega
  have := go n (Nat.le_refl _)
  rw [if_pos hk] at this
  exact this

/-- The factorial. -/
def facK : Nat → Nat
  | 0 => 1
  | n + 1 => (n + 1) * facK n

/-- P75, above. -/
theorem count_le (cs : List Cmd) : ∀ (left : Nat) (used : List Bool), used.length = cs.length → leftK used cs.length = left → countK cs used left ≤ facK left
  | 0, _, _, _ => Nat.le_refl _
  | left + 1, used, hl, h => by
    unfold countK
    have h1 := sum_le (f := fun k => if freeK cs used k = true then countK cs (used.set k true) left else 0) (g := fun k => (if used.getD k false = true then 0 else 1) * facK left) (List.range cs.length) (fun k hk => by
      have hk := List.mem_range.1 hk
      by_cases hf : freeK cs used k = true
      · have hu : used.getD k false = false := by
          unfold freeK at hf
          rw [Bool.and_eq_true] at hf
          simpa using hf.2
        have := left_set hl hk hu
        have hc := count_le cs left (used.set k true) (by simpa using hl) (by omega)
        simp only [if_pos hf, hu]
        rw [if_neg (by decide), Nat.one_mul]
        exact hc
      · simp only [if_neg hf]
        exact Nat.zero_le _)
    rw [sum_mul] at h1
    have h2 : ((List.range cs.length).map (fun k => if used.getD k false = true then 0 else 1)).sum = left + 1 := h
    rw [h2] at h1
    exact h1

theorem leftK_pos : ∀ (n : Nat) (used : List Bool), 0 < leftK used n → ∃ k, k < n ∧ used.getD k false = false ∧ ∀ j, j < k → used.getD j false = true := by
  intro n used
  induction n with
  | zero => intro h; simp [leftK] at h
  | succ n ih =>
    intro h
    by_cases h0 : 0 < leftK used n
    · obtain ⟨k, h1, h2, h3⟩ := ih h0
      exact ⟨k, by omega, h2, h3⟩
    · have hz : leftK used n = 0 := by omega
      have hall : ∀ j, j < n → used.getD j false = true := by
        intro j hj
        cases hu : used.getD j false with
        | true => rfl
        | false =>
          have := sum_one (f := fun k => if used.getD k false = true then 0 else 1) (List.range n) j (List.mem_range.2 hj)
          simp only [hu] at this
          rw [if_neg (by decide)] at this
          unfold leftK at hz
          omega
      refine ⟨n, by omega, ?_, hall⟩
      unfold leftK at h hz
      rw [List.range_succ, List.map_append, List.sum_append, hz] at h
      simp only [List.map_cons, List.map_nil, List.sum_cons, List.sum_nil] at h
      cases hu : used.getD n false with
      | false => rfl
      | true => rw [hu, if_pos rfl] at h; omega

theorem must_self (c : Cmd) : mustC c c = false := by
  unfold mustC l1uB
  cases h1 : (c.p.toList == [47]) <;> simp

/-- P75, below. -/
theorem count_ge {cs : List Cmd} (h : FitsO cs) : ∀ (left : Nat) (used : List Bool), used.length = cs.length → leftK used cs.length = left → 1 ≤ countK cs used left
  | 0, _, _, _ => Nat.le_refl _
  | left + 1, used, hl, hh => by
    obtain ⟨k, hk, hu, hj⟩ := leftK_pos cs.length used (by omega)
    have hf : freeK cs used k = true := by
      unfold freeK
      rw [Bool.and_eq_true, List.all_eq_true, hu]
      refine ⟨fun i hi => ?_, rfl⟩
      have hi := List.mem_range.1 hi
      by_cases h1 : i < k
      · rw [hj i h1]; rfl
      · by_cases h2 : i = k
        · subst h2
          rw [must_self]
          simp
        · have := List.pairwise_iff_getElem.1 h k i hk hi (by omega)
          have e1 := atK_get (zs := cs) hk
          have e2 := atK_get (zs := cs) hi
          rw [List.getElem?_eq_getElem hk] at e1
          rw [List.getElem?_eq_getElem hi] at e2
          rw [Option.some.inj e1, Option.some.inj e2] at this
          rw [this]
          simp
    have := left_set hl hk hu
    have hc := count_ge h left (used.set k true) (by simpa using hl) (by omega)
    unfold countK
    have h1 := sum_one (f := fun k => if freeK cs used k = true then countK cs (used.set k true) left else 0) (List.range cs.length) k (List.mem_range.2 hk)
    simp only [if_pos hf] at h1
    omega

theorem left_all (n : Nat) : leftK (List.replicate n false) n = n := by
  unfold leftK
  rw [sum_eq (g := fun _ => 1) _ (fun k hk => by
    have hk := List.mem_range.1 hk
    rw [List.getD_eq_getElem?_getD, List.getElem?_replicate, if_pos hk]
    rfl)]
  induction n with
  | zero => rfl
  | succ n ih => rw [List.range_succ, List.map_append, List.sum_append, ih]; rfl

theorem atK_reverse {cs : List Cmd} {k : Nat} (hk : k < cs.length) : atK cs.reverse k = atK cs (cs.length - 1 - k) := by
  unfold atK
  rw [List.getD_eq_getElem?_getD, List.getD_eq_getElem?_getD, List.getElem?_reverse hk]
theorem getD_reverse {us : List Bool} {k : Nat} (hk : k < us.length) : us.reverse.getD k false = us.getD (us.length - 1 - k) false := by
  rw [List.getD_eq_getElem?_getD, List.getD_eq_getElem?_getD, List.getElem?_reverse hk]

theorem range_rev (n : Nat) (f : Nat → Nat) : ((List.range n).map (fun k => f (n - 1 - k))).sum = ((List.range n).map f).sum := by
  have h : (List.range n).map (fun k => f (n - 1 - k)) = ((List.range n).map f).reverse := by
    refine List.ext_getElem? (fun k => ?_)
    by_cases hk : k < n
    · rw [List.getElem?_reverse (by simpa using hk), List.getElem?_map, List.getElem?_map, List.getElem?_range hk, List.length_map, List.length_range, List.getElem?_range (by omega)]
      rfl
    · rw [List.getElem?_eq_none (by simpa using hk), List.getElem?_eq_none (by simpa using hk)]
  rw [h, List.sum_reverse]

theorem free_rev {cs : List Cmd} {us : List Bool} (hl : us.length = cs.length) {k : Nat} (hk : k < cs.length) : freeK cs.reverse us.reverse k = freeK cs us (cs.length - 1 - k) := by
  unfold freeK
  rw [getD_reverse (by omega), hl, atK_reverse hk, List.length_reverse]
  congr 1
  rw [Bool.eq_iff_iff, List.all_eq_true, List.all_eq_true]
  constructor
  · intro h i hi
    have hi := List.mem_range.1 hi
    have := h (cs.length - 1 - i) (List.mem_range.2 (by omega))
    rw [getD_reverse (by omega), hl, atK_reverse (by omega), show cs.length - 1 - (cs.length - 1 - i) = i by omega] at this
    exact this
  · intro h i hi
    have hi := List.mem_range.1 hi
    rw [getD_reverse (by omega), hl, atK_reverse hi]
    exact h _ (List.mem_range.2 (by omega))

theorem set_rev {us : List Bool} {k : Nat} (hk : k < us.length) : us.reverse.set k true = (us.set (us.length - 1 - k) true).reverse := by
  refine List.ext_getElem? (fun j => ?_)
  by_cases hj : j < us.length
  · rw [List.getElem?_reverse (by simpa using hj), List.getElem?_set, List.getElem?_set, List.length_set, List.length_reverse, List.getElem?_reverse hj]
    by_cases h : k = j
    · subst h
      rw [if_pos rfl, if_pos rfl, if_pos hk, if_pos (show us.length - 1 - k < us.length by omega)]
    · rw [if_neg h, if_neg (by omega)]
  · rw [List.getElem?_eq_none (by simpa using hj), List.getElem?_eq_none (by simpa using hj)]

/-- P76. -/
theorem count_rev (cs : List Cmd) : ∀ (left : Nat) (us : List Bool), us.length = cs.length → countK cs.reverse us.reverse left = countK cs us left
  | 0, _, _ => rfl
  | left + 1, us, hl => by
    unfold countK
    rw [List.length_reverse, ← range_rev cs.length (fun k => if freeK cs us k = true then countK cs (us.set k true) left else 0)]
    refine sum_eq _ (fun k hk => ?_)
    have hk := List.mem_range.1 hk
    rw [free_rev hl hk, set_rev (by omega), count_rev cs left _ (by simpa using hl), hl]

theorem once_rev {cs : List Cmd} (h : onceV cs = true) : onceV cs.reverse = true := by
  obtain ⟨h1, h2⟩ := onceV_iff.1 h
  exact onceV_iff.2 ⟨by rw [List.map_reverse]; exact (List.reverse_perm _).nodup_iff.2 h1, validL_perm (List.reverse_perm cs).symm h2⟩

theorem orders_rev {cs : List Cmd} (h : ordersCount cs ≠ -1) : ordersCount cs.reverse = ordersCount cs := by
  unfold ordersCount at h ⊢
  by_cases hc : onceV cs = true ∧ cs.length ≤ 6
  · rw [if_pos hc, if_pos ⟨once_rev hc.1, by rw [List.length_reverse]; exact hc.2⟩, List.length_reverse]
    have := count_rev cs cs.length (List.replicate cs.length false) (by simp)
    rw [List.reverse_replicate] at this
    rw [this]
  · rw [if_neg hc] at h
    exact absurd rfl h

/-- P75. -/
theorem orders_bound {cs : List Cmd} (h : ordersCount cs ≠ -1) : 0 ≤ ordersCount cs ∧ ordersCount cs ≤ (facK cs.length : Nat) ∧ cs.length ≤ 6 ∧ (orderV cs = true → 1 ≤ ordersCount cs) := by
  unfold ordersCount at h ⊢
  by_cases hc : onceV cs = true ∧ cs.length ≤ 6
  · rw [if_pos hc]
    have h1 := count_le cs cs.length (List.replicate cs.length false) (by simp) (left_all _)
    refine ⟨by omega, by omega, hc.2, fun hv => ?_⟩
    have := count_ge (orderV_iff.1 hv).2.2 cs.length (List.replicate cs.length false) (by simp) (left_all _)
    omega
  · rw [if_neg hc] at h
    exact absurd rfl h

end Go.Proofs.YtdkpabnpobpdhaaGreat
