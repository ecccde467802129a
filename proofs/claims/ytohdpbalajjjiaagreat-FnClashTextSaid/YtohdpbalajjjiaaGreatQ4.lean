/-
  Texts of this proof, one behind the other: Ob, Or.
-/
import Derived.Test.YtohdpbalajjjiaaGreatOa
/-
  PLAIN MATHEMATICS OF ORDERS, second part: neighbours exchanged (P73, P74); orders counted (P75, P76).
-/
namespace Go.Proofs.YtohdpbalajjjiaaGreat

theorem atK_append_left {a b : List Cmd} {k : Nat} (h : k < a.length) : atK (a ++ b) k = atK a k := by
  unfold atK
  rw [List.getD_eq_getElem?_getD, List.getD_eq_getElem?_getD, List.getElem?_append_left h]
theorem atK_append_right {a b : List Cmd} {k : Nat} (h : a.length ≤ k) : atK (a ++ b) k = atK b (k - a.length) := by
  unfold atK
  rw [List.getD_eq_getElem?_getD, List.getD_eq_getElem?_getD, List.getElem?_append_right h]

theorem atK_ext {a b : List Cmd} (hl : a.length = b.length) (h : ∀ k, k < a.length → atK a k = atK b k) : a = b := by
  refine List.ext_getElem? (fun k => ?_)
  by_cases hk : k < a.length
  · rw [atK_get hk, atK_get (by omega), h k hk]
  · rw [List.getElem?_eq_none (by omega), List.getElem?_eq_none (by omega)]

/-- Two neighbours exchanged. -/
theorem swap_adj (pre suf : List Cmd) (c d : Cmd) : swapK (pre ++ c :: d :: suf) pre.length (pre.length + 1) = pre ++ d :: c :: suf := by
  refine atK_ext (by rw [swapK_length]; simp) (fun k hk => ?_)
  rw [swapK_length] at hk
  have h0 : atK (pre ++ c :: d :: suf) pre.length = c := by rw [atK_append_right (Nat.le_refl _), Nat.sub_self]; rfl
  have h1 : atK (pre ++ c :: d :: suf) (pre.length + 1) = d := by rw [atK_append_right (by omega), show pre.length + 1 - pre.length = 1 by omega]; rfl
  rw [atK_swap (by simp) (by simp), h0, h1]
  by_cases e1 : k = pre.length + 1
  · subst e1
    rw [if_pos rfl, atK_append_right (by omega), show pre.length + 1 - pre.length = 1 by omega]
    rfl
  · rw [if_neg e1]
    by_cases e2 : k = pre.length
    · subst e2
      rw [if_pos rfl, atK_append_right (Nat.le_refl _), Nat.sub_self]
      rfl
    · rw [if_neg e2]
      by_cases e3 : k < pre.length
      · rw [atK_append_left e3, atK_append_left e3]
      · rw [atK_append_right (by omega), atK_append_right (by omega)]
        obtain ⟨j, hj⟩ : ∃ j, k - pre.length = j + 2 := ⟨k - pre.length - 2, by omega⟩
        rw [hj]
        rfl

theorem split_adj {cs : List Cmd} {k : Nat} (hk : k + 1 < cs.length) : ∃ pre suf, cs = pre ++ atK cs k :: atK cs (k + 1) :: suf ∧ pre.length = k := by
  refine ⟨cs.take k, cs.drop (k + 2), ?_, by rw [List.length_take]; omega⟩
  conv => lhs; rw [← List.take_append_drop k cs]
  congr 1
  rw [List.drop_eq_getElem_cons (by omega), List.drop_eq_getElem_cons (by omega)]
  have e1 := atK_get (zs := cs) (k := k) (by omega)
  have e2 := atK_get (zs := cs) (k := k + 1) hk
  rw [List.getElem?_eq_getElem (by omega)] at e1
  rw [List.getElem?_eq_getElem hk] at e2
  rw [Option.some.inj e1, Option.some.inj e2]

/-- spec.OrderSwap. -/
def orderSwap (cs : List Cmd) (k : Int) : List Cmd × Bool :=
  if orderV cs = true ∧ 0 ≤ k ∧ k + 2 ≤ cs.length then (if fitsB (swapK cs k.toNat (k.toNat + 1)) = true then (swapK cs k.toNat (k.toNat + 1), true) else ([], false)) else ([], false)

theorem fits_swap {pre suf : List Cmd} {c d : Cmd} (h : FitsO (pre ++ c :: d :: suf)) : FitsO (pre ++ d :: c :: suf) ↔ mustC c d = false := by
  unfold FitsO at h ⊢
  rw [List.pairwise_append] at h ⊢
  obtain ⟨h1, h2, h3⟩ := h
  rw [List.pairwise_cons, List.pairwise_cons] at h2
  rw [List.pairwise_cons, List.pairwise_cons]
  obtain ⟨h4, h5, h6⟩ := h2
  constructor
  · rintro ⟨_, ⟨g, _⟩, _⟩
    exact g c (by simp)
  · intro hm
    refine ⟨h1, ⟨fun x hx => ?_, fun x hx => h4 x (List.mem_cons_of_mem _ hx), h6⟩, fun x hx y hy => h3 x hx y ?_⟩
    · rcases List.mem_cons.1 hx with rfl | hx
      · exact hm
      · exact h5 x hx
    · rcases List.mem_cons.1 hy with rfl | hy
      · simp
      · rcases List.mem_cons.1 hy with rfl | hy
        · simp
        · simp [hy]

theorem validL_perm {cs ds : List Cmd} (h : cs.Perm ds) (hv : validL cs = true) : validL ds = true := by
  obtain ⟨h1, h2⟩ := (validL_iff cs).1 hv
  exact (validL_iff ds).2 ⟨fun c hc => h1 c (h.mem_iff.2 hc), by rw [← h.length_eq]; exact h2⟩

theorem order_perm {cs ds : List Cmd} (h : cs.Perm ds) (hv : orderV cs = true) (hf : FitsO ds) : orderV ds = true := by
  obtain ⟨h1, h2, _⟩ := orderV_iff.1 hv
  exact orderV_iff.2 ⟨(h.map Cmd.p).nodup_iff.1 h1, validL_perm h h2, hf⟩

/-- P73. -/
theorem swap_told {cs out : List Cmd} {k : Int} (h : orderSwap cs k = (out, true)) : ∃ n : Nat, k = n ∧ n + 1 < cs.length ∧ out.length = cs.length ∧ out = swapK cs n (n + 1) ∧ orderSwap out k = (cs, true) ∧ orderV out = true ∧ mustP (atK cs n) (atK cs (n + 1)) = false ∧ orderV cs = true := by
  unfold orderSwap at h
  split at h
  · rename_i hc
    obtain ⟨hv, hk0, hk1⟩ := hc
    obtain ⟨n, rfl⟩ := Int.eq_ofNat_of_zero_le hk0
    have hkn : n + 1 < cs.length := by omega
    simp only [Int.toNat_natCast] at h
    split at h
    · rename_i hf
      injection h with h _
      subst h
      obtain ⟨pre, suf, hcs, hp⟩ := split_adj hkn
      obtain ⟨c, hcc⟩ : ∃ c, atK cs n = c := ⟨_, rfl⟩
      obtain ⟨d, hdd⟩ : ∃ d, atK cs (n + 1) = d := ⟨_, rfl⟩
      rw [hcc, hdd] at hcs
      have hsw : swapK cs n (n + 1) = pre ++ d :: c :: suf := by rw [hcs, ← hp]; exact swap_adj pre suf c d
      have hback : swapK (swapK cs n (n + 1)) n (n + 1) = cs := by rw [hsw, hcs, ← hp]; exact swap_adj pre suf d c
      have hO := (orderV_iff.1 hv).2.2
      have hfO := (fitsB_iff _).1 hf
      have hvo : orderV (swapK cs n (n + 1)) = true := order_perm (swapK_perm (by omega) hkn).symm hv hfO
      refine ⟨n, rfl, hkn, swapK_length _ _ _, rfl, ?_, hvo, ?_, hv⟩
      · unfold orderSwap
        rw [if_pos ⟨hvo, hk0, by rw [swapK_length]; exact hk1⟩, Int.toNat_natCast, hback, if_pos ((fitsB_iff _).2 hO)]
      · rw [hcs] at hO
        rw [hsw] at hfO
        have := (fits_swap hO).1 hfO
        rw [hcc, hdd]
        unfold mustP
        rw [this]
        simp
    · injection h with _ h; cases h
  · injection h with _ h; cases h

/-- P74. -/
theorem swap_when {cs : List Cmd} {n : Nat} (hv : orderV cs = true) (hn : n + 1 < cs.length) : (orderSwap cs n).2 = !mustP (atK cs n) (atK cs (n + 1)) := by
  unfold orderSwap
  rw [if_pos ⟨hv, by omega, by omega⟩, Int.toNat_natCast]
  obtain ⟨h1, h2, hO⟩ := orderV_iff.1 hv
  obtain ⟨pre, suf, hcs, hp⟩ := split_adj hn
  obtain ⟨c, hcc⟩ : ∃ c, atK cs n = c := ⟨_, rfl⟩
  obtain ⟨d, hdd⟩ : ∃ d, atK cs (n + 1) = d := ⟨_, rfl⟩
  have hvc := ((validL_iff cs).1 h2).1 c (by rw [← hcc]; exact atK_mem (by omega))
  have hvd := ((validL_iff cs).1 h2).1 d (by rw [← hdd]; exact atK_mem hn)
  rw [hcc, hdd] at hcs ⊢
  have hsw : swapK cs n (n + 1) = pre ++ d :: c :: suf := by rw [hcs, ← hp]; exact swap_adj pre suf c d
  rw [hcs] at hO
  rw [hsw]
  have hiff := fits_swap hO
  rw [← fitsB_iff] at hiff
  unfold mustP
  rw [hvc, hvd]
  cases hf : fitsB (pre ++ d :: c :: suf) with
  | true =>
    rw [if_pos rfl, hiff.1 hf]
    rfl
  | false =>
    rw [if_neg (by decide)]
    cases hm : mustC c d with
    | true => rfl
    | false => rw [hiff.2 hm] at hf; cases hf

/-! ### counting -/
/-- spec.l15Free. -/
def freeK (cs : List Cmd) (used : List Bool) (k : Nat) : Bool := (List.range cs.length).all (fun i => used.getD i false || !mustC (atK cs i) (atK cs k)) && !used.getD k false
/-- spec.l15Count. -/
def countK (cs : List Cmd) : List Bool → Nat → Nat
  | _, 0 => 1
  | used, left + 1 => ((List.range cs.length).map (fun k => if freeK cs used k = true then countK cs (used.set k true) left else 0)).sum
/-- spec.OrdersCount. -/
def ordersCount (cs : List Cmd) : Int := if onceV cs = true ∧ cs.length ≤ 6 then (countK cs (List.replicate cs.length false) cs.length : Nat) else -1

/-- How many are left. -/
def leftK (used : List Bool) (n : Nat) : Nat := ((List.range n).map (fun k => if used.getD k false = true then 0 else 1)).sum

theorem sum_le {f g : Nat → Nat} : ∀ (l : List Nat), (∀ k ∈ l, f k ≤ g k) → (l.map f).sum ≤ (l.map g).sum
  | [], _ => Nat.le_refl _
  | a :: l, h => by
    rw [List.map_cons, List.sum_cons, List.map_cons, List.sum_cons]
    have := sum_le l (fun k hk => h k (List.mem_cons_of_mem _ hk))
    have := h a (by simp)
    omega
theorem sum_eq {f g : Nat → Nat} (l : List Nat) (h : ∀ k ∈ l, f k = g k) : (l.map f).sum = (l.map g).sum := by
  rw [List.map_congr_left h]
theorem sum_mul {f : Nat → Nat} (c : Nat) : ∀ (l : List Nat), (l.map (fun k => f k * c)).sum = (l.map f).sum * c
  | [] => by simp
  | a :: l => by rw [List.map_cons, List.sum_cons, List.map_cons, List.sum_cons, sum_mul c l, Nat.add_mul]
theorem sum_one {f : Nat → Nat} : ∀ (l : List Nat) (k : Nat), k ∈ l → f k ≤ (l.map f).sum
  | a :: l, k, h => by
    rw [List.map_cons, List.sum_cons]
    rcases List.mem_cons.1 h with rfl | h
    · omega
    · have := sum_one (f := f) l k h; omega

theorem getD_set {used : List Bool} {k j : Nat} (hk : k < used.length) : (used.set k true).getD j false = if j = k then true else used.getD j false := by
  rw [List.getD_eq_getElem?_getD, List.getElem?_set, List.getD_eq_getElem?_getD]
  by_cases h : k = j
  · subst h
    simp [hk]
  · rw [if_neg h, if_neg (fun e => h e.symm)]

theorem left_set {used : List Bool} {n k : Nat} (hl : used.length = n) (hk : k < n) (hu : used.getD k false = false) : leftK (used.set k true) n + 1 = leftK used n := by
  have go : ∀ m, m ≤ n → ((List.range m).map (fun j => if (used.set k true).getD j false = true then 0 else 1)).sum + (if k < m then 1 else 0) = ((List.range m).map (fun j => if used.getD j false = true then 0 else 1)).sum := by
    intro m
    induction m with
    | zero => intro _; simp
    | succ m ih =>
      intro hm
      have ih := ih (by omega)
      rw [List.range_succ, List.map_append, List.map_append, List.sum_append, List.sum_append]
      simp only [List.map_cons, List.map_nil, List.sum_cons, List.sum_nil]
      rw [getD_set (by omega)]
      generalize ((List.range m).map (fun j => if (used.set k true).getD j false = true then 0 else 1)).sum = s1 at ih ⊢
      generalize ((List.range m).map (fun j => if used.getD j false = true then 0 else 1)).sum = s2 at ih ⊢
      by_cases h : m = k
      · subst h
        simp only [Nat.lt_irrefl, if_false] at ih
        simp only [hu, if_true, Nat.lt_succ_self, Bool.false_eq_true, if_false]
        omega
      · simp only [if_neg h]
        by_cases h2 : k < m
        · simp only [if_pos h2] at ih
          simp only [if_pos (show k < m + 1 by omega)]
          omega
        · simp only [if_neg h2] at ih
          simp only [if_neg (show ¬ k < m + 1 by omega)]
          omega
  have := go n (Nat.le_refl _)
  rw [if_pos hk] at this
  exact this

/-- The factorial. -/
def facK : Nat → Nat
  | 0 => 1
  | n + 1 => (n + 1) * facK n

/-- P75, above. -/
theorem count_le (cs : List Cmd) : ∀ (left : Nat) (used : List Bool), used.length = cs.length → leftK used cs.length = left → countK cs used left ≤ facK left
  | 0, _, _, _ => Nat.le_refl _
  | left + 1, used, hl, h => by
    unfold countK
    have h1 := sum_le (f := fun k => if freeK cs used k = true then countK cs (used.set k true) left else 0) (g := fun k => (if used.getD k false = true then 0 else 1) * facK left) (List.range cs.length) (fun k hk => by
      have hk := List.mem_range.1 hk
      by_cases hf : freeK cs used k = true
      · have hu : used.getD k false = false := by
          unfold freeK at hf
          rw [Bool.and_eq_true] at hf
          simpa using hf.2
        have := left_set hl hk hu
        have hc := count_le cs left (used.set k true) (by simpa using hl) (by omega)
        simp only [if_pos hf, hu]
        rw [if_neg (by decide), Nat.one_mul]
        exact hc
      · simp only [if_neg hf]
        exact Nat.zero_le _)
    rw [sum_mul] at h1
    have h2 : ((List.range cs.length).map (fun k => if used.getD k false = true then 0 else 1)).sum = left + 1 := h
    rw [h2] at h1
    exact h1

theorem leftK_pos : ∀ (n : Nat) (used : List Bool), 0 < leftK used n → ∃ k, k < n ∧ used.getD k false = false ∧ ∀ j, j < k → used.getD j false = true := by
  intro n used
  induction n with
  | zero => intro h; simp [leftK] at h
  | succ n ih =>
    intro h
    by_cases h0 : 0 < leftK used n
    · obtain ⟨k, h1, h2, h3⟩ := ih h0
      exact ⟨k, by omega, h2, h3⟩
    · have hz : leftK used n = 0 := by omega
      have hall : ∀ j, j < n → used.getD j false = true := by
        intro j hj
        cases hu : used.getD j false with
        | true => rfl
        | false =>
          have := sum_one (f := fun k => if used.getD k false = true then 0 else 1) (List.range n) j (List.mem_range.2 hj)
          simp only [hu] at this
          rw [if_neg (by decide)] at this
          unfold leftK at hz
          omega
      refine ⟨n, by omega, ?_, hall⟩
      unfold leftK at h hz
      rw [List.range_succ, List.map_append, List.sum_append, hz] at h
      simp only [List.map_cons, List.map_nil, List.sum_cons, List.sum_nil] at h
      cases hu : used.getD n false with
      | false => rfl
      | true => rw [hu, if_pos rfl] at h; omega

theorem must_self (c : Cmd) : mustC c c = false := by
  unfold mustC l1uB
  cases h1 : (c.p.toList == [47]) <;> simp

/-- P75, below. -/
theorem count_ge {cs : List Cmd} (h : FitsO cs) : ∀ (left : Nat) (used : List Bool), used.length = cs.length → leftK used cs.length = left → 1 ≤ countK cs used left
  | 0, _, _, _ => Nat.le_refl _
  | left + 1, used, hl, hh => by
    obtain ⟨k, hk, hu, hj⟩ := leftK_pos cs.length used (by omega)
    have hf : freeK cs used k = true := by
      unfold freeK
      rw [Bool.and_eq_true, List.all_eq_true, hu]
      refine ⟨fun i hi => ?_, rfl⟩
      have hi := List.mem_range.1 hi
      by_cases h1 : i < k
      · rw [hj i h1]; rfl
      · by_cases h2 : i = k
        · subst h2
          rw [must_self]
          simp
        · have := List.pairwise_iff_getElem.1 h k i hk hi (by omega)
          have e1 := atK_get (zs := cs) hk
          have e2 := atK_get (zs := cs) hi
          rw [List.getElem?_eq_getElem hk] at e1
          rw [List.getElem?_eq_getElem hi] at e2
          rw [Option.some.inj e1, Option.some.inj e2] at this
          rw [this]
          simp
    have := left_set hl hk hu
    have hc := count_ge h left (used.set k true) (by simpa using hl) (by omega)
    unfold countK
    have h1 := sum_one (f := fun k => if freeK cs used k = true then countK cs (used.set k true) left else 0) (List.range cs.length) k (List.mem_range.2 hk)
    simp only [if_pos hf] at h1
    omega

theorem left_all (n : Nat) : leftK (List.replicate n false) n = n := by
  unfold leftK
  rw [sum_eq (g := fun _ => 1) _ (fun k hk => by
    have hk := List.mem_range.1 hk
    rw [List.getD_eq_getElem?_getD, List.getElem?_replicate, if_pos hk]
    rfl)]
  induction n with
  | zero => rfl
  | succ n ih => rw [List.range_succ, List.map_append, List.sum_append, ih]; rfl

theorem atK_reverse {cs : List Cmd} {k : Nat} (hk : k < cs.length) : atK cs.reverse k = atK cs (cs.length - 1 - k) := by
  unfold atK
  rw [List.getD_eq_getElem?_getD, List.getD_eq_getElem?_getD, List.getElem?_reverse hk]
theorem getD_reverse {us : List Bool} {k : Nat} (hk : k < us.length) : us.reverse.getD k false = us.getD (us.length - 1 - k) false := by
  rw [List.getD_eq_getElem?_getD, List.getD_eq_getElem?_getD, List.getElem?_reverse hk]

theorem range_rev (n : Nat) (f : Nat → Nat) : ((List.range n).map (fun k => f (n - 1 - k))).sum = ((List.range n).map f).sum := by
  have h : (List.range n).map (fun k => f (n - 1 - k)) = ((List.range n).map f).reverse := by
    refine List.ext_getElem? (fun k => ?_)
    by_cases hk : k < n
    · rw [List.getElem?_reverse (by simpa using hk), List.getElem?_map, List.getElem?_map, List.getElem?_range hk, List.length_map, List.length_range, List.getElem?_range (by omega)]
      rfl
    · rw [List.getElem?_eq_none (by simpa using hk), List.getElem?_eq_none (by simpa using hk)]
  rw [h, List.sum_reverse]

theorem free_rev {cs : List Cmd} {us : List Bool} (hl : us.length = cs.length) {k : Nat} (hk : k < cs.length) : freeK cs.reverse us.reverse k = freeK cs us (cs.length - 1 - k) := by
  unfold freeK
  rw [getD_reverse (by omega), hl, atK_reverse hk, List.length_reverse]
  congr 1
  rw [Bool.eq_iff_iff, List.all_eq_true, List.all_eq_true]
  constructor
  · intro h i hi
    have hi := List.mem_range.1 hi
    have := h (cs.length - 1 - i) (List.mem_range.2 (by omega))
    rw [getD_reverse (by omega), hl, atK_reverse (by omega), show cs.length - 1 - (cs.length - 1 - i) = i by omega] at this
    exact this
  · intro h i hi
    have hi := List.mem_range.1 hi
    rw [getD_reverse (by omega), hl, atK_reverse hi]
    exact h _ (List.mem_range.2 (by omega))

theorem set_rev {us : List Bool} {k : Nat} (hk : k < us.length) : us.reverse.set k true = (us.set (us.length - 1 - k) true).reverse := by
  refine List.ext_getElem? (fun j => ?_)
  by_cases hj : j < us.length
  · rw [List.getElem?_reverse (by simpa using hj), List.getElem?_set, List.getElem?_set, List.length_set, List.length_reverse, List.getElem?_reverse hj]
    by_cases h : k = j
    · subst h
      rw [if_pos rfl, if_pos rfl, if_pos hk, if_pos (show us.length - 1 - k < us.length by omega)]
    · rw [if_neg h, if_neg (by omega)]
  · rw [List.getElem?_eq_none (by simpa using hj), List.getElem?_eq_none (by simpa using hj)]

/-- P76. -/
theorem count_rev (cs : List Cmd) : ∀ (left : Nat) (us : List Bool), us.length = cs.length → countK cs.reverse us.reverse left = countK cs us left
  | 0, _, _ => rfl
  | left + 1, us, hl => by
    unfold countK
    rw [List.length_reverse, ← range_rev cs.length (fun k => if freeK cs us k = true then countK cs (us.set k true) left else 0)]
    refine sum_eq _ (fun k hk => ?_)
    have hk := List.mem_range.1 hk
    rw [free_rev hl hk, set_rev (by omega), count_rev cs left _ (by simpa using hl), hl]

theorem once_rev {cs : List Cmd} (h : onceV cs = true) : onceV cs.reverse = true := by
  obtain ⟨h1, h2⟩ := onceV_iff.1 h
  exact onceV_iff.2 ⟨by rw [List.map_reverse]; exact (List.reverse_perm _).nodup_iff.2 h1, validL_perm (List.reverse_perm cs).symm h2⟩

theorem orders_rev {cs : List Cmd} (h : ordersCount cs ≠ -1) : ordersCount cs.reverse = ordersCount cs := by
  unfold ordersCount at h ⊢
  by_cases hc : onceV cs = true ∧ cs.length ≤ 6
  · rw [if_pos hc, if_pos ⟨once_rev hc.1, by rw [List.length_reverse]; exact hc.2⟩, List.length_reverse]
    have := count_rev cs cs.length (List.replicate cs.length false) (by simp)
    rw [List.reverse_replicate] at this
    rw [this]
  · rw [if_neg hc] at h
    exact absurd rfl h

/-- P75. -/
theorem orders_bound {cs : List Cmd} (h : ordersCount cs ≠ -1) : 0 ≤ ordersCount cs ∧ ordersCount cs ≤ (facK cs.length : Nat) ∧ cs.length ≤ 6 ∧ (orderV cs = true → 1 ≤ ordersCount cs) := by
  unfold ordersCount at h ⊢
  by_cases hc : onceV cs = true ∧ cs.length ≤ 6
  · rw [if_pos hc]
    have h1 := count_le cs cs.length (List.replicate cs.length false) (by simp) (left_all _)
    refine ⟨by omega, by omega, hc.2, fun hv => ?_⟩
    have := count_ge (orderV_iff.1 hv).2.2 cs.length (List.replicate cs.length false) (by simp) (left_all _)
    omega
  · rw [if_neg hc] at h
    exact absurd rfl h

end Go.Proofs.YtohdpbalajjjiaaGreat

/-
  PLAIN MATHEMATICS OF ORDERS, third part: sets of commands as the bits of a number; orders counted set by set.
-/
namespace Go.Proofs.YtohdpbalajjjiaaGreat

/-! ### sets as bits -/
/-- Of the first j commands, those that must precede a command. -/
def needTo (cs : List Cmd) (k : Nat) : Nat → Nat
  | 0 => 0
  | j + 1 => if mustP (atK cs j) (atK cs k) = true then needTo cs k j ||| 2 ^ j else needTo cs k j

theorem needTo_bit (cs : List Cmd) (k : Nat) : ∀ j i, (needTo cs k j).testBit i = (decide (i < j) && mustP (atK cs i) (atK cs k))
  | 0, i => by simp [needTo]
  | j + 1, i => by
    unfold needTo
    by_cases e : i = j
    · subst e
      cases hm : mustP (atK cs i) (atK cs k) with
      | true => rw [if_pos rfl, Nat.testBit_or, Nat.testBit_two_pow]; simp
      | false => rw [if_neg (by decide), needTo_bit cs k i i]; simp
    · have hd : decide (i < j + 1) = decide (i < j) := decide_eq_decide.2 (by omega)
      rw [hd]
      split
      · rw [Nat.testBit_or, Nat.testBit_two_pow, needTo_bit cs k j i, decide_eq_false (show ¬ j = i from fun h => e h.symm), Bool.or_false]
      · exact needTo_bit cs k j i

theorem needTo_lt (cs : List Cmd) (k : Nat) : ∀ j, needTo cs k j < 2 ^ j
  | 0 => by simp [needTo]
  | j + 1 => by
    unfold needTo
    have h := needTo_lt cs k j
    have h2 : 2 ^ j < 2 ^ (j + 1) := Nat.pow_lt_pow_right (by omega) (by omega)
    split
    · exact Nat.or_lt_two_pow (by omega) h2
    · omega

theorem pow_lt32 {j : Nat} (h : j ≤ 20) : 2 ^ j ≤ 1048576 := Nat.pow_le_pow_right (n := 2) (by omega) h

theorem hasAll_iff {a s : Nat} (hs : s < 4294967296) (ha : a < 4294967296) : a &&& (4294967295 - s) = 0 ↔ ∀ i, a.testBit i = true → s.testBit i = true := by
  have hbit : ∀ i, (a &&& (4294967295 - s)).testBit i = (a.testBit i && (decide (i < 32) && !s.testBit i)) := by
    intro i
    rw [Nat.testBit_and]
    congr 1
    have := Nat.testBit_two_pow_sub_succ (n := 32) (x := s) (by simpa using hs) i
    rw [← this]
    congr 1
    omega
  constructor
  · intro h i hi
    have h2 := hbit i
    rw [h, Nat.zero_testBit, hi, Bool.true_and] at h2
    have hi32 : i < 32 := by
      apply Classical.byContradiction
      intro h3
      have := Nat.testBit_lt_two_pow (x := a) (i := i) (Nat.lt_of_lt_of_le ha (Nat.pow_le_pow_right (show 0 < 2 by omega) (show 32 ≤ i by omega)))
      rw [this] at hi
      cases hi
    rw [decide_eq_true hi32, Bool.true_and] at h2
    simpa using h2.symm
  · intro h
    apply Nat.eq_of_testBit_eq
    intro i
    rw [hbit i, Nat.zero_testBit]
    cases hi : a.testBit i with
    | false => rfl
    | true => rw [h i hi]; simp

theorem has_iff (s k : Nat) : (s / 2 ^ k) &&& 1 = if s.testBit k = true then 1 else 0 := by
  rw [Nat.and_one_is_mod, Nat.testBit_eq_decide_div_mod_eq]
  by_cases h : s / 2 ^ k % 2 = 1
  · rw [h, if_pos (by simp)]
  · rw [if_neg (by simpa using h)]
    omega

/-! ### possible orders, by bits -/
theorem or_pow (k : Nat) : (2 ^ k - 1) ||| 2 ^ k = 2 ^ (k + 1) - 1 := by
  apply Nat.eq_of_testBit_eq
  intro i
  rw [Nat.testBit_or, Nat.testBit_two_pow_sub_one, Nat.testBit_two_pow_sub_one, Nat.testBit_two_pow, Bool.eq_iff_iff]
  simp
  omega

theorem must_valid {cs : List Cmd} (hv : ∀ c ∈ cs, validC c = true) {i k : Nat} (hi : i < cs.length) (hk : k < cs.length) : mustP (atK cs i) (atK cs k) = mustC (atK cs i) (atK cs k) := by
  unfold mustP
  rw [hv _ (atK_mem hi), hv _ (atK_mem hk)]
  rfl

theorem fits_bits {cs : List Cmd} (hv : ∀ c ∈ cs, validC c = true) : fitsB cs = true ↔ ∀ k, k < cs.length → ∀ i, (needTo cs k cs.length).testBit i = true → (2 ^ k - 1).testBit i = true := by
  rw [fitsB_iff, FitsO, List.pairwise_iff_getElem]
  have hget : ∀ i (hi : i < cs.length), cs[i] = atK cs i := fun i hi => by
    have := atK_get (zs := cs) hi
    rw [List.getElem?_eq_getElem hi] at this
    exact Option.some.inj this
  constructor
  · intro h k hk i hi
    rw [needTo_bit, Bool.and_eq_true, decide_eq_true_eq] at hi
    obtain ⟨h1, h2⟩ := hi
    rw [Nat.testBit_two_pow_sub_one, decide_eq_true_eq]
    rw [must_valid hv h1 hk] at h2
    apply Classical.byContradiction
    intro h3
    by_cases e : i = k
    · subst e; rw [must_self] at h2; cases h2
    · have := h k i hk h1 (by omega)
      rw [hget k hk, hget i h1, h2] at this
      cases this
  · intro h k i hk hi hlt
    rw [hget k hk, hget i hi]
    cases hm : mustC (atK cs i) (atK cs k) with
    | false => rfl
    | true =>
      have := h k hk i (by rw [needTo_bit, must_valid hv hi hk, hm, decide_eq_true hi]; rfl)
      rw [Nat.testBit_two_pow_sub_one, decide_eq_true_eq] at this
      omega

/-! ### counting, set by set -/
/-- A set as the model's list of marks. -/
def usedK (n S : Nat) : List Bool := (List.range n).map (fun i => S.testBit i)
theorem usedK_length (n S : Nat) : (usedK n S).length = n := by simp [usedK]
theorem usedK_get {n S i : Nat} (h : i < n) : (usedK n S).getD i false = S.testBit i := by
  unfold usedK
  rw [List.getD_eq_getElem?_getD, List.getElem?_map, List.getElem?_range h]
  rfl
theorem usedK_zero (n : Nat) : usedK n 0 = List.replicate n false := by
  refine List.ext_getElem? (fun i => ?_)
  by_cases h : i < n
  · unfold usedK
    rw [List.getElem?_map, List.getElem?_range h, List.getElem?_replicate, if_pos h]
    simp
  · rw [List.getElem?_eq_none (by rw [usedK_length]; omega), List.getElem?_eq_none (by simp; omega)]
theorem usedK_or {n S k : Nat} (hk : k < n) : usedK n (S ||| 2 ^ k) = (usedK n S).set k true := by
  refine List.ext_getElem? (fun i => ?_)
  by_cases h : i < n
  · rw [List.getElem?_set, usedK_length]
    unfold usedK
    rw [List.getElem?_map, List.getElem?_range h, List.getElem?_map, List.getElem?_range h]
    by_cases e : k = i
    · subst e
      rw [if_pos rfl, if_pos hk]
      simp [Nat.testBit_or, Nat.testBit_two_pow]
    · rw [if_neg e]
      simp [Nat.testBit_or, Nat.testBit_two_pow, e]
  · rw [List.getElem?_eq_none (by rw [usedK_length]; omega), List.getElem?_eq_none (by rw [List.length_set, usedK_length]; omega)]

theorem free_bits {cs : List Cmd} (hv : ∀ c ∈ cs, validC c = true) {S k : Nat} (hk : k < cs.length) : freeK cs (usedK cs.length S) k = true ↔ S.testBit k = false ∧ ∀ i, (needTo cs k cs.length).testBit i = true → S.testBit i = true := by
  unfold freeK
  rw [Bool.and_eq_true, usedK_get hk, List.all_eq_true]
  constructor
  · rintro ⟨h1, h2⟩
    refine ⟨by simpa using h2, fun i hi => ?_⟩
    rw [needTo_bit, Bool.and_eq_true, decide_eq_true_eq] at hi
    have := h1 i (List.mem_range.2 hi.1)
    rw [usedK_get hi.1, ← must_valid hv hi.1 hk, hi.2] at this
    simpa using this
  · rintro ⟨h1, h2⟩
    refine ⟨fun i hi => ?_, by rw [h1]; rfl⟩
    have hi := List.mem_range.1 hi
    rw [usedK_get hi, ← must_valid hv hi hk]
    cases hm : mustP (atK cs i) (atK cs k) with
    | false => simp
    | true => rw [h2 i (by rw [needTo_bit, hm, decide_eq_true hi]; rfl)]; rfl

def stepT (cs : List Cmd) (S k : Nat) (t : List Nat) : List Nat :=
  if freeK cs (usedK cs.length S) k = true then t.set (S ||| 2 ^ k) (t.getD (S ||| 2 ^ k) 0 + t.getD S 0) else t
def rowT (cs : List Cmd) (S : Nat) (t : List Nat) : Nat → List Nat
  | 0 => t
  | j + 1 => stepT cs S j (rowT cs S t j)
def tab0 (cs : List Cmd) : List Nat := (List.replicate (2 ^ cs.length) 0).set 0 1
def tabT (cs : List Cmd) : Nat → List Nat
  | 0 => tab0 cs
  | m + 1 => rowT cs m (tabT cs m) cs.length

theorem sum_point {f g : Nat → Nat} {x d : Nat} (h : ∀ k, k ≠ x → f k = g k) (hx : f x = g x + d) : ∀ m, ((List.range m).map f).sum = ((List.range m).map g).sum + (if x < m then d else 0)
  | 0 => by simp
  | m + 1 => by
    rw [List.range_succ, List.map_append, List.map_append, List.sum_append, List.sum_append, sum_point h hx m]
    simp only [List.map_cons, List.map_nil, List.sum_cons, List.sum_nil]
    by_cases e : m = x
    · subst e
      rw [hx, if_neg (Nat.lt_irrefl _), if_pos (Nat.lt_succ_self _)]
      omega
    · rw [h m e]
      by_cases e2 : x < m
      · rw [if_pos e2, if_pos (by omega)]; omega
      · rw [if_neg e2, if_neg (by omega)]; omega

/-- What the sets from a number on weigh. -/
def wsum (N lo : Nat) (t : List Nat) (w : Nat → Nat) : Nat := ((List.range N).map (fun S => if lo ≤ S then t.getD S 0 * w S else 0)).sum

theorem getD_setN {t : List Nat} {x j v : Nat} (hx : x < t.length) : (t.set x v).getD j 0 = if j = x then v else t.getD j 0 := by
  rw [List.getD_eq_getElem?_getD, List.getElem?_set, List.getD_eq_getElem?_getD]
  by_cases h : x = j
  · subst h
    simp [hx]
  · rw [if_neg h, if_neg (fun e => h e.symm)]

theorem wsum_set {N lo x d : Nat} {t : List Nat} {w : Nat → Nat} (hx : x < N) (hl : t.length = N) (hlo : lo ≤ x) : wsum N lo (t.set x (t.getD x 0 + d)) w = wsum N lo t w + d * w x := by
  unfold wsum
  rw [sum_point (x := x) (d := d * w x) (g := fun S => if lo ≤ S then t.getD S 0 * w S else 0) (fun k hk => by
    rw [getD_setN (by omega), if_neg hk]) (by
    rw [getD_setN (by omega), if_pos rfl, if_pos hlo, if_pos hlo, Nat.add_mul]) N, if_pos hx]

theorem wsum_split {N lo : Nat} {t : List Nat} {w : Nat → Nat} (h : lo < N) : wsum N lo t w = wsum N (lo + 1) t w + t.getD lo 0 * w lo := by
  unfold wsum
  rw [sum_point (x := lo) (d := t.getD lo 0 * w lo) (g := fun S => if lo + 1 ≤ S then t.getD S 0 * w S else 0) (fun k hk => by
    by_cases e : lo ≤ k
    · rw [if_pos e, if_pos (by omega)]
    · rw [if_neg e, if_neg (by omega)]) (by
    rw [if_pos (Nat.le_refl _), if_neg (by omega)]; omega) N, if_pos h]

theorem wsum_none {N lo : Nat} {t : List Nat} {w : Nat → Nat} (h : N ≤ lo) : wsum N lo t w = 0 := by
  unfold wsum
  rw [sum_eq (g := fun _ => 0 * 1) _ (fun k hk => by
    have := List.mem_range.1 hk
    rw [if_neg (by omega)])]
  rw [show (fun _ : Nat => 0 * 1) = (fun k => (fun _ => 0) k * 1) from rfl, sum_mul]
  induction N with
  | zero => rfl
  | succ n ih =>
    have ih := ih (by omega)
    rw [List.range_succ, List.map_append, List.sum_append, Nat.add_mul, ih]
    rfl

theorem wsum_ge {N lo x : Nat} {t : List Nat} {w : Nat → Nat} (hx : x < N) (hlo : lo ≤ x) (hw : 1 ≤ w x) : t.getD x 0 ≤ wsum N lo t w := by
  have := sum_one (f := fun S => if lo ≤ S then t.getD S 0 * w S else 0) (List.range N) x (List.mem_range.2 hx)
  simp only [if_pos hlo] at this
  refine Nat.le_trans ?_ this
  exact Nat.le_mul_of_pos_right _ hw

theorem set_grows {n S k : Nat} (hS : S < 2 ^ n) (hk : k < n) (hb : S.testBit k = false) : S < S ||| 2 ^ k ∧ S ||| 2 ^ k < 2 ^ n := by
  refine ⟨Nat.lt_of_le_of_ne Nat.left_le_or (fun e => ?_), Nat.or_lt_two_pow hS (Nat.pow_lt_pow_right (by omega) hk)⟩
  have := congrArg (fun x => Nat.testBit x k) e
  simp only [Nat.testBit_or, Nat.testBit_two_pow, hb] at this
  simp at this

theorem free_bit {cs : List Cmd} {S k : Nat} (hk : k < cs.length) (h : freeK cs (usedK cs.length S) k = true) : S.testBit k = false := by
  unfold freeK at h
  rw [Bool.and_eq_true, usedK_get hk] at h
  simpa using h.2

theorem row_spec {cs : List Cmd} {S : Nat} {t : List Nat} (hS : S < 2 ^ cs.length) (hl : t.length = 2 ^ cs.length) (w : Nat → Nat) : ∀ j, j ≤ cs.length → (rowT cs S t j).length = 2 ^ cs.length ∧ (∀ i, i ≤ S → (rowT cs S t j).getD i 0 = t.getD i 0) ∧
    wsum (2 ^ cs.length) (S + 1) (rowT cs S t j) w = wsum (2 ^ cs.length) (S + 1) t w + t.getD S 0 * ((List.range j).map (fun k => if freeK cs (usedK cs.length S) k = true then w (S ||| 2 ^ k) else 0)).sum
  | 0, _ => ⟨hl, fun _ _ => rfl, by simp [rowT]⟩
  | j + 1, hj => by
    obtain ⟨h1, h2, h3⟩ := row_spec hS hl w j (by omega)
    have hr : ((List.range (j + 1)).map (fun k => if freeK cs (usedK cs.length S) k = true then w (S ||| 2 ^ k) else 0)).sum = ((List.range j).map (fun k => if freeK cs (usedK cs.length S) k = true then w (S ||| 2 ^ k) else 0)).sum + (if freeK cs (usedK cs.length S) j = true then w (S ||| 2 ^ j) else 0) := by
      rw [List.range_succ, List.map_append, List.sum_append]
      simp
    rw [hr, show rowT cs S t (j + 1) = stepT cs S j (rowT cs S t j) from rfl]
    unfold stepT
    by_cases hf : freeK cs (usedK cs.length S) j = true
    · rw [if_pos hf, if_pos hf]
      obtain ⟨g1, g2⟩ := set_grows hS (by omega) (free_bit (by omega) hf)
      refine ⟨by rw [List.length_set]; exact h1, fun i hi => ?_, ?_⟩
      · rw [getD_setN (by rw [h1]; exact g2), if_neg (by omega), h2 i hi]
      · rw [wsum_set g2 h1 (by omega), h3, h2 S (Nat.le_refl _), Nat.mul_add]
        omega
    · rw [if_neg hf, if_neg hf]
      refine ⟨h1, h2, ?_⟩
      rw [h3]
      simp

/-- The orders of what a set leaves. -/
def cntS (cs : List Cmd) (S : Nat) : Nat := countK cs (usedK cs.length S) (leftK (usedK cs.length S) cs.length)
def facS (cs : List Cmd) (S : Nat) : Nat := facK (leftK (usedK cs.length S) cs.length)

theorem left_or {cs : List Cmd} {S k : Nat} (hk : k < cs.length) (hb : S.testBit k = false) : leftK (usedK cs.length (S ||| 2 ^ k)) cs.length + 1 = leftK (usedK cs.length S) cs.length := by
  rw [usedK_or hk]
  exact left_set (usedK_length _ _) hk (by rw [usedK_get hk]; exact hb)

theorem left_pos {n S : Nat} (hS : S + 1 < 2 ^ n) : 0 < leftK (usedK n S) n := by
  apply Classical.byContradiction
  intro h
  have hall : ∀ i, i < n → S.testBit i = true := by
    intro i hi
    cases hu : S.testBit i with
    | true => rfl
    | false =>
      have := sum_one (f := fun k => if (usedK n S).getD k false = true then 0 else 1) (List.range n) i (List.mem_range.2 hi)
      simp only [usedK_get hi, hu] at this
      rw [if_neg (by decide)] at this
      unfold leftK at h
      omega
  have : S = 2 ^ n - 1 := by
    apply Nat.eq_of_testBit_eq
    intro i
    rw [Nat.testBit_two_pow_sub_one]
    by_cases hi : i < n
    · rw [hall i hi, decide_eq_true hi]
    · rw [decide_eq_false hi]
      exact Nat.testBit_lt_two_pow (Nat.lt_of_lt_of_le (by omega : S < 2 ^ n) (Nat.pow_le_pow_right (n := 2) (by omega) (by omega)))
  omega

theorem sum_zero {f : Nat → Nat} : ∀ n, (∀ k, k < n → f k = 0) → ((List.range n).map f).sum = 0
  | 0, _ => rfl
  | n + 1, h => by
    rw [List.range_succ, List.map_append, List.sum_append, sum_zero n (fun k hk => h k (by omega))]
    simp [h n (by omega)]

theorem left_full (n : Nat) : leftK (usedK n (2 ^ n - 1)) n = 0 := by
  unfold leftK
  exact sum_zero n (fun k hk => by rw [usedK_get hk, Nat.testBit_two_pow_sub_one, decide_eq_true hk, if_pos rfl])

theorem cnt_step {cs : List Cmd} {S : Nat} (hS : S + 1 < 2 ^ cs.length) : cntS cs S = ((List.range cs.length).map (fun k => if freeK cs (usedK cs.length S) k = true then cntS cs (S ||| 2 ^ k) else 0)).sum := by
  unfold cntS
  obtain ⟨l, hl⟩ : ∃ l, leftK (usedK cs.length S) cs.length = l + 1 := ⟨leftK (usedK cs.length S) cs.length - 1, by have := left_pos hS; omega⟩
  rw [hl]
  conv => lhs; unfold countK
  refine sum_eq _ (fun k hk => ?_)
  have hk := List.mem_range.1 hk
  by_cases hf : freeK cs (usedK cs.length S) k = true
  · rw [if_pos hf, if_pos hf]
    have h := left_or hk (free_bit hk hf)
    rw [show leftK (usedK cs.length (S ||| 2 ^ k)) cs.length = l by omega, usedK_or hk]
  · rw [if_neg hf, if_neg hf]

theorem fac_pos : ∀ n, 1 ≤ facK n
  | 0 => Nat.le_refl _
  | n + 1 => by
    unfold facK
    have := fac_pos n
    exact Nat.mul_le_mul (show 1 ≤ n + 1 by omega) this

theorem fac_step {cs : List Cmd} {S : Nat} {j : Nat} (hj : j ≤ cs.length) : ((List.range j).map (fun k => if freeK cs (usedK cs.length S) k = true then facS cs (S ||| 2 ^ k) else 0)).sum ≤ facS cs S := by
  have hmono : ∀ j, j ≤ cs.length → ((List.range j).map (fun k => if freeK cs (usedK cs.length S) k = true then facS cs (S ||| 2 ^ k) else 0)).sum ≤ ((List.range cs.length).map (fun k => if freeK cs (usedK cs.length S) k = true then facS cs (S ||| 2 ^ k) else 0)).sum := by
    intro j hj
    obtain ⟨d, hd⟩ : ∃ d, cs.length = j + d := ⟨cs.length - j, by omega⟩
    rw [hd]
    have : ∀ (d : Nat) (f : Nat → Nat), ((List.range j).map f).sum ≤ ((List.range (j + d)).map f).sum := by
      intro d f
      induction d with
      | zero => exact Nat.le_refl _
      | succ d ih => rw [← Nat.add_assoc, List.range_succ, List.map_append, List.sum_append]; omega
    exact this d _
  refine Nat.le_trans (hmono j hj) ?_
  by_cases h0 : leftK (usedK cs.length S) cs.length = 0
  · rw [sum_eq (g := fun _ => (fun _ => 0) 0) _ (fun k hk => by
      have hk := List.mem_range.1 hk
      rw [if_neg (fun hf => by have := left_or hk (free_bit hk hf); omega)])]
    have hz : ∀ m, ((List.range m).map (fun _ => (0 : Nat))).sum = 0 := by
      intro m
      induction m with
      | zero => rfl
      | succ m ih => rw [List.range_succ, List.map_append, List.sum_append, ih]; rfl
    rw [hz]
    exact Nat.zero_le _
  · obtain ⟨l, hl⟩ : ∃ l, leftK (usedK cs.length S) cs.length = l + 1 := ⟨leftK (usedK cs.length S) cs.length - 1, by omega⟩
    have h1 := sum_le (f := fun k => if freeK cs (usedK cs.length S) k = true then facS cs (S ||| 2 ^ k) else 0) (g := fun k => (if (usedK cs.length S).getD k false = true then 0 else 1) * facK l) (List.range cs.length) (fun k hk => by
      have hk := List.mem_range.1 hk
      by_cases hf : freeK cs (usedK cs.length S) k = true
      · have hb := free_bit hk hf
        have h := left_or hk hb
        simp only [if_pos hf, usedK_get hk, hb]
        rw [if_neg (by decide), Nat.one_mul]
        unfold facS
        rw [show leftK (usedK cs.length (S ||| 2 ^ k)) cs.length = l by omega]
        exact Nat.le_refl _
      · simp only [if_neg hf]
        exact Nat.zero_le _)
    rw [sum_mul] at h1
    have h2 : ((List.range cs.length).map (fun k => if (usedK cs.length S).getD k false = true then 0 else 1)).sum = l + 1 := hl
    rw [h2] at h1
    unfold facS
    rw [hl]
    exact h1

theorem tab0_length (cs : List Cmd) : (tab0 cs).length = 2 ^ cs.length := by simp [tab0]
theorem tab0_get (cs : List Cmd) (i : Nat) : (tab0 cs).getD i 0 = if i = 0 then 1 else 0 := by
  unfold tab0
  have : 0 < 2 ^ cs.length := Nat.pow_pos (by omega)
  rw [getD_setN (by simpa using this)]
  by_cases h : i = 0
  · rw [if_pos h, if_pos h]
  · rw [if_neg h, if_neg h, List.getD_eq_getElem?_getD, List.getElem?_replicate]
    split <;> rfl

theorem tab_length (cs : List Cmd) : ∀ m, m ≤ 2 ^ cs.length → (tabT cs m).length = 2 ^ cs.length
  | 0, _ => tab0_length cs
  | m + 1, h => (row_spec (by omega) (tab_length cs m (by omega)) (fun _ => 0) cs.length (Nat.le_refl _)).1

theorem tab0_sum (cs : List Cmd) (w : Nat → Nat) : wsum (2 ^ cs.length) 0 (tab0 cs) w = w 0 := by
  unfold wsum
  have hp : 0 < 2 ^ cs.length := Nat.pow_pos (by omega)
  rw [sum_point (x := 0) (d := w 0) (g := fun _ => 0) (fun k hk => by
    rw [tab0_get, if_neg hk, if_pos (Nat.zero_le _)]; omega) (by rw [tab0_get, if_pos rfl, if_pos (Nat.zero_le _)]; omega) _, if_pos hp]
  have hz : ∀ m, ((List.range m).map (fun _ => (0 : Nat))).sum = 0 := by
    intro m
    induction m with
    | zero => rfl
    | succ m ih => rw [List.range_succ, List.map_append, List.sum_append, ih]; rfl
  rw [hz, Nat.zero_add]

theorem tab_cnt (cs : List Cmd) : ∀ m, m < 2 ^ cs.length → wsum (2 ^ cs.length) m (tabT cs m) (cntS cs) = cntS cs 0
  | 0, _ => tab0_sum cs _
  | m + 1, h => by
    have ih := tab_cnt cs m (by omega)
    rw [wsum_split (by omega)] at ih
    have := (row_spec (S := m) (t := tabT cs m) (by omega) (tab_length cs m (by omega)) (cntS cs) cs.length (Nat.le_refl _)).2.2
    show wsum _ _ (rowT cs m (tabT cs m) cs.length) _ = _
    rw [this, ← cnt_step h, ih]

/-- What the table says in the end. -/
theorem tab_end (cs : List Cmd) : (tabT cs (2 ^ cs.length)).getD (2 ^ cs.length - 1) 0 = countK cs (List.replicate cs.length false) cs.length := by
  have hp : 0 < 2 ^ cs.length := Nat.pow_pos (by omega)
  obtain ⟨m, hm⟩ : ∃ m, 2 ^ cs.length = m + 1 := ⟨2 ^ cs.length - 1, by omega⟩
  have h1 := tab_cnt cs m (by omega)
  rw [wsum_split (by omega), wsum_none (by omega), Nat.zero_add] at h1
  have h2 := (row_spec (S := m) (t := tabT cs m) (by omega) (tab_length cs m (by omega)) (fun _ => 0) cs.length (Nat.le_refl _)).2.1 m (Nat.le_refl _)
  have h3 : cntS cs m = 1 := by
    unfold cntS
    have := left_full cs.length
    rw [show 2 ^ cs.length - 1 = m by omega] at this
    rw [this]
    rfl
  have h4 : cntS cs 0 = countK cs (List.replicate cs.length false) cs.length := by
    unfold cntS
    rw [usedK_zero, left_all]
  rw [hm, Nat.add_sub_cancel]
  show (rowT cs m (tabT cs m) cs.length).getD m 0 = _
  rw [h2, ← h4, ← h1, h3, Nat.mul_one]

theorem tab_fac (cs : List Cmd) : ∀ m, m ≤ 2 ^ cs.length → wsum (2 ^ cs.length) m (tabT cs m) (facS cs) ≤ facK cs.length
  | 0, _ => by
    show wsum _ _ (tab0 cs) _ ≤ _
    rw [tab0_sum]
    unfold facS
    rw [usedK_zero, left_all]
    exact Nat.le_refl _
  | m + 1, h => by
    have ih := tab_fac cs m (by omega)
    rw [wsum_split (by omega)] at ih
    have := (row_spec (S := m) (t := tabT cs m) (by omega) (tab_length cs m (by omega)) (facS cs) cs.length (Nat.le_refl _)).2.2
    show wsum _ _ (rowT cs m (tabT cs m) cs.length) _ ≤ _
    rw [this]
    have := Nat.mul_le_mul_left ((tabT cs m).getD m 0) (fac_step (cs := cs) (S := m) (Nat.le_refl _))
    omega

/-- No number of the table is great. -/
theorem row_small (cs : List Cmd) {m j : Nat} (hm : m < 2 ^ cs.length) (hj : j ≤ cs.length) (hI : ∀ i, (tabT cs m).getD i 0 ≤ facK cs.length) (i : Nat) : (rowT cs m (tabT cs m) j).getD i 0 ≤ facK cs.length := by
  have hr := row_spec (S := m) (t := tabT cs m) (by omega) (tab_length cs m (by omega)) (facS cs) j hj
  by_cases h1 : i ≤ m
  · rw [hr.2.1 i h1]
    exact hI i
  · by_cases h2 : i < 2 ^ cs.length
    · have h3 := wsum_ge (N := 2 ^ cs.length) (lo := m + 1) (x := i) (t := rowT cs m (tabT cs m) j) (w := facS cs) h2 (by omega) (fac_pos _)
      have h4 := tab_fac cs m (by omega)
      rw [wsum_split (by omega)] at h4
      have h5 := Nat.mul_le_mul_left ((tabT cs m).getD m 0) (fac_step (cs := cs) (S := m) hj)
      have h6 := hr.2.2
      omega
    · rw [List.getD_eq_getElem?_getD, List.getElem?_eq_none (by rw [hr.1]; omega)]
      exact Nat.zero_le _

theorem tab_small (cs : List Cmd) : ∀ m, m ≤ 2 ^ cs.length → ∀ i, (tabT cs m).getD i 0 ≤ facK cs.length
  | 0, _, i => by
    show (tab0 cs).getD i 0 ≤ _
    rw [tab0_get]
    have := fac_pos cs.length
    split <;> omega
  | m + 1, h, i => row_small cs (by omega) (Nat.le_refl _) (tab_small cs m (by omega)) i

theorem fac_le {n : Nat} (h : n ≤ 6) : facK n ≤ 720 := by
  have : n = 0 ∨ n = 1 ∨ n = 2 ∨ n = 3 ∨ n = 4 ∨ n = 5 ∨ n = 6 := by omega
  rcases this with rfl | rfl | rfl | rfl | rfl | rfl | rfl <;> decide

/-! ### each path once, by a set of paths -/
theorem addKey_le : ∀ (xs L : List Lit), (xs.foldl Maps.addKey L).length ≤ L.length + xs.length
  | [], L => by simp
  | x :: r, L => by
    rw [List.foldl_cons]
    have := addKey_le r (Maps.addKey L x)
    have h2 : (Maps.addKey L x).length ≤ L.length + 1 := by unfold Maps.addKey; split <;> simp
    simp only [List.length_cons]
    omega

theorem addKey_nodup : ∀ (xs L : List Lit), (∀ x ∈ xs, WideAt.IsKeyLit x) → L.Nodup → ((xs.foldl Maps.addKey L).length = L.length + xs.length ↔ (L ++ xs).Nodup)
  | [], L, _, h => by simp [h]
  | x :: r, L, hk, hL => by
    rw [List.foldl_cons]
    have hx := hk x (by simp)
    unfold Maps.addKey
    split
    · rename_i h
      obtain ⟨y, hy, hs⟩ := List.any_eq_true.1 h
      obtain rfl := (WideAt.sameKey_iff hx).1 hs
      constructor
      · intro h2
        have := addKey_le r L
        simp only [List.length_cons] at h2
        unfold Maps.addKey at this
        omega
      · intro h2
        rw [List.nodup_append] at h2
        exact absurd rfl (h2.2.2 y hy y (by simp))
    · rename_i h
      have hnot : x ∉ L := fun hm => h (List.any_eq_true.2 ⟨x, hm, WideAt.sameKey_self hx⟩)
      have hL2 : (L ++ [x]).Nodup := by
        rw [List.nodup_append]
        exact ⟨hL, by simp, fun a ha b hb e => hnot (by rw [List.mem_singleton.1 hb] at e; rw [← e]; exact ha)⟩
      have ih := addKey_nodup r (L ++ [x]) (fun y hy => hk y (by simp [hy])) hL2
      unfold Maps.addKey at ih
      rw [List.append_assoc, List.singleton_append] at ih
      rw [← ih, List.length_append, List.length_cons]
      simp only [List.length_cons, List.length_nil]
      constructor <;> intro h2 <;> omega

theorem nodup_map_inj {α β : Type} {f : α → β} (hf : ∀ a b, f a = f b → a = b) : ∀ l : List α, (l.map f).Nodup ↔ l.Nodup
  | [] => by simp
  | a :: l => by
    rw [List.map_cons, List.nodup_cons, List.nodup_cons, nodup_map_inj hf l]
    constructor
    · rintro ⟨h1, h2⟩; exact ⟨fun h => h1 (List.mem_map_of_mem h), h2⟩
    · rintro ⟨h1, h2⟩
      refine ⟨fun h => ?_, h2⟩
      obtain ⟨b, hb, e⟩ := List.mem_map.1 h
      exact h1 (by rw [← hf b a e]; exact hb)

/-- The paths of the first commands, as the keys of a set. -/
def pathKeys (cs : List Cmd) (n : Nat) : List Lit := (cs.take n).map (fun c => keyL c.p)
theorem pathKeys_next {cs : List Cmd} {n : Nat} {c : Cmd} (h : cs[n]? = some c) : pathKeys cs (n + 1) = pathKeys cs n ++ [keyL c.p] := by
  unfold pathKeys
  rw [List.take_add_one, h, List.map_append]
  rfl
theorem pathKeys_key (cs : List Cmd) (n : Nat) : ∀ x ∈ pathKeys cs n, WideAt.IsKeyLit x := by
  intro x hx
  obtain ⟨c, _, rfl⟩ := List.mem_map.1 hx
  exact keyL_key _

theorem paths_size {H : Type} (u : DataW H) (cs : List Cmd) : Maps.size (Maps.setOf u (pathKeys cs cs.length)) = cs.length ↔ (cs.map Cmd.p).Nodup := by
  rw [Maps.size_setOf u _ (pathKeys_key cs _)]
  have h := addKey_nodup (pathKeys cs cs.length) [] (pathKeys_key cs _) List.nodup_nil
  have hl : (pathKeys cs cs.length).length = cs.length := by simp [pathKeys]
  rw [hl, List.length_nil, Nat.zero_add, List.nil_append] at h
  rw [h]
  unfold pathKeys
  rw [List.take_length, show (fun c : Cmd => keyL c.p) = keyL ∘ Cmd.p from rfl, ← List.map_map]
  exact nodup_map_inj (fun a b => keyL_inj) _

theorem paths_size_le {H : Type} (u : DataW H) (cs : List Cmd) (n : Nat) : Maps.size (Maps.setOf u (pathKeys cs n)) ≤ cs.length := by
  rw [Maps.size_setOf u _ (pathKeys_key cs _)]
  refine Nat.le_trans (addKey_le _ _) ?_
  simp [pathKeys]
  omega

end Go.Proofs.YtohdpbalajjjiaaGreat
