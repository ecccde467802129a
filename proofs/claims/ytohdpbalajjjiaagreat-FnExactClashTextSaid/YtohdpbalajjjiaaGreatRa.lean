/-
  PLAIN MATHEMATICS OF CONFLICTS (P78 to P87).
-/
import Derived.Test.YtohdpbalajjjiaaGreatOa
namespace Go.Proofs.YtohdpbalajjjiaaGreat

/-- spec.l16Over. -/
def overC (c d : Cmd) : Bool := l1uB c.p d.p && !(c.tk == 1) && !(d.tk == 0)
/-- spec.l16Clash. -/
def clashC (c d : Cmd) : Bool := (decide (c.p = d.p) && !(c.tk == d.tk && c.tv == d.tv)) || overC c d || overC d c
/-- spec.CommandsClash. -/
def clashP (c d : Cmd) : Bool := validC c && validC d && clashC c d

theorem clash_turn (c d : Cmd) : clashC c d = clashC d c := by
  unfold clashC
  rw [Bool.or_assoc, Bool.or_assoc, Bool.or_comm (overC c d)]
  congr 1
  have h1 : decide (c.p = d.p) = decide (d.p = c.p) := decide_eq_decide.2 ⟨Eq.symm, Eq.symm⟩
  rw [h1, Bool.beq_comm (a := c.tk), Bool.beq_comm (a := c.tv)]

theorem over_self (c : Cmd) : overC c c = false := by
  unfold overC l1uB
  cases h1 : (c.p.toList == [47]) <;> simp

/-- P78. -/
theorem clash_sym (c d : Cmd) : clashP d c = clashP c d := by
  unfold clashP
  rw [clash_turn d c, Bool.and_comm (validC d)]
theorem clash_self (c : Cmd) : clashP c c = false := by
  unfold clashP clashC
  rw [over_self]
  simp

/-- P79. -/
theorem clash_when {c d : Cmd} (hc : validC c = true) (hd : validC d = true) : clashP c d = ((decide (c.p = d.p) && !(c.tk == d.tk && c.tv == d.tv)) || (undB c.p d.p && !(c.tk == 1) && !(d.tk == 0)) || (undB d.p c.p && !(d.tk == 1) && !(c.tk == 0))) := by
  unfold clashP clashC overC
  rw [hc, hd, l1u_und (validC_vp hc) (validC_vp hd), l1u_und (validC_vp hd) (validC_vp hc)]
  rfl

/-- P80. -/
theorem clash_tree {c d : Cmd} {t : List Nd} (h : clashP c d = true) (ht : validT t = true) : ¬ (getT t c.p = (c.tk, c.tv) ∧ getT t d.p = (d.tk, d.tv)) := by
  rintro ⟨h1, h2⟩
  have hv : validC c = true ∧ validC d = true := by
    unfold clashP at h
    rw [Bool.and_eq_true, Bool.and_eq_true] at h
    exact h.1
  rw [clash_when hv.1 hv.2, Bool.or_eq_true, Bool.or_eq_true] at h
  rcases h with (h | h) | h
  · rw [Bool.and_eq_true, decide_eq_true_eq] at h
    obtain ⟨hp, hn⟩ := h
    rw [hp, h2] at h1
    injection h1 with e1 e2
    rw [e1, e2] at hn
    simp at hn
  · simp only [Bool.and_eq_true, Bool.not_eq_true', beq_eq_false_iff_ne] at h
    obtain ⟨⟨hu, hk⟩, hz⟩ := h
    have := up_dir ht (show (getT t d.p).1 ≠ 0 by rw [h2]; exact hz) hu
    rw [h1] at this
    exact hk this
  · simp only [Bool.and_eq_true, Bool.not_eq_true', beq_eq_false_iff_ne] at h
    obtain ⟨⟨hu, hk⟩, hz⟩ := h
    have := up_dir ht (show (getT t c.p).1 ≠ 0 by rw [h1]; exact hz) hu
    rw [h2] at this
    exact hk this

/-- spec.l16Ok. -/
def okL (a b : List Cmd) : Bool := canonV a && canonV b
/-- spec.l16Some. -/
def someC (cs : List Cmd) (c : Cmd) : Bool := cs.any (fun d => clashC d c)
/-- Two commands compared. -/
def eqC (a b : Cmd) : Bool := decide (a.p = b.p) && (a.fk == b.fk && a.fv == b.fv) && (a.tk == b.tk && a.tv == b.tv)
theorem eqC_iff {a b : Cmd} : eqC a b = true ↔ a = b := by
  obtain ⟨p, fk, fv, tk, tv⟩ := a
  obtain ⟨q, gk, gv, uk, uv⟩ := b
  unfold eqC
  simp only [Bool.and_eq_true, decide_eq_true_eq, beq_iff_eq, Cmd.mk.injEq]
  constructor
  · rintro ⟨⟨h1, h2, h3⟩, h4, h5⟩; exact ⟨h1, h2, h3, h4, h5⟩
  · rintro ⟨h1, h2, h3, h4, h5⟩; exact ⟨⟨h1, h2, h3⟩, h4, h5⟩
/-- spec.l16Has. -/
def hasC (cs : List Cmd) (c : Cmd) : Bool := cs.any (fun d => eqC d c)
theorem hasC_iff {cs : List Cmd} {c : Cmd} : hasC cs c = true ↔ c ∈ cs := by
  unfold hasC
  rw [List.any_eq_true]
  constructor
  · rintro ⟨d, hd, h⟩; rw [← eqC_iff.1 h]; exact hd
  · intro h; exact ⟨c, h, eqC_iff.2 rfl⟩
/-- One row of conflicts. -/
def rowL (c : Cmd) (i : Nat) : List Cmd → Nat → List (Nat × Nat)
  | [], _ => []
  | d :: r, k => if clashC c d = true then (i, k) :: rowL c i r (k + 1) else rowL c i r (k + 1)
def rowsL (b : List Cmd) : List Cmd → Nat → List (Nat × Nat)
  | [], _ => []
  | c :: r, i => rowL c i b 0 ++ rowsL b r (i + 1)
/-- spec.ClashesOf. -/
def clashesL (a b : List Cmd) : List (Nat × Nat) := if okL a b = true then rowsL b a 0 else []
/-- spec.SafeOf. -/
def safeL (a b : List Cmd) : List Cmd := if okL a b = true then b.filter (fun d => !someC a d && !hasC a d) else []
/-- spec.AgreedOf. -/
def agreedL (a b : List Cmd) : List Cmd := if okL a b = true then b.filter (fun d => hasC a d && !someC a d) else []
/-- spec.LeftOf. -/
def leftL (a b : List Cmd) : List Cmd := if okL a b = true then a.filter (fun c => someC b c) else []

theorem mem_row {c : Cmd} {i x y : Nat} : ∀ (b : List Cmd) (k : Nat), (x, y) ∈ rowL c i b k ↔ x = i ∧ k ≤ y ∧ ∃ d, b[y - k]? = some d ∧ clashC c d = true
  | [], k => by simp [rowL]
  | d :: r, k => by
    have ih := mem_row (c := c) (i := i) (x := x) (y := y) r (k + 1)
    have hstep : (∃ e, (d :: r)[y - k]? = some e ∧ clashC c e = true) ∧ k ≤ y ↔ (y = k ∧ clashC c d = true) ∨ (k + 1 ≤ y ∧ ∃ e, r[y - (k + 1)]? = some e ∧ clashC c e = true) := by
      constructor
      · rintro ⟨⟨e, he, hc⟩, hk⟩
        by_cases h : y = k
        · subst h
          rw [Nat.sub_self] at he
          simp at he
          subst he
          exact .inl ⟨rfl, hc⟩
        · right
          obtain ⟨j, hj⟩ : ∃ j, y - k = j + 1 := ⟨y - k - 1, by omega⟩
          rw [hj, List.getElem?_cons_succ] at he
          exact ⟨by omega, e, by rw [show y - (k + 1) = j by omega]; exact he, hc⟩
      · rintro (⟨rfl, hc⟩ | ⟨hk, e, he, hc⟩)
        · exact ⟨⟨d, by rw [Nat.sub_self]; rfl, hc⟩, Nat.le_refl _⟩
        · refine ⟨⟨e, ?_, hc⟩, by omega⟩
          rw [show y - k = y - (k + 1) + 1 by omega, List.getElem?_cons_succ]
          exact he
    unfold rowL
    split
    · rename_i h
      rw [List.mem_cons, ih, Prod.mk.injEq]
      constructor
      · rintro (⟨rfl, rfl⟩ | ⟨h1, h2, h3⟩)
        · exact ⟨rfl, Nat.le_refl _, (hstep.2 (.inl ⟨rfl, h⟩)).1⟩
        · exact ⟨h1, by omega, (hstep.2 (.inr ⟨h2, h3⟩)).1⟩
      · rintro ⟨h1, h2, h3⟩
        rcases hstep.1 ⟨h3, h2⟩ with ⟨h4, _⟩ | ⟨h4, h5⟩
        · exact .inl ⟨h1, h4⟩
        · exact .inr ⟨h1, h4, h5⟩
    · rename_i h
      rw [ih]
      constructor
      · rintro ⟨h1, h2, h3⟩
        exact ⟨h1, by omega, (hstep.2 (.inr ⟨h2, h3⟩)).1⟩
      · rintro ⟨h1, h2, h3⟩
        rcases hstep.1 ⟨h3, h2⟩ with ⟨_, h4⟩ | ⟨h4, h5⟩
        · exact absurd h4 h
        · exact ⟨h1, h4, h5⟩

theorem mem_rows {b : List Cmd} {x y : Nat} : ∀ (a : List Cmd) (i : Nat), (x, y) ∈ rowsL b a i ↔ i ≤ x ∧ ∃ c d, a[x - i]? = some c ∧ b[y]? = some d ∧ clashC c d = true
  | [], i => by simp [rowsL]
  | c :: r, i => by
    unfold rowsL
    rw [List.mem_append, mem_row, mem_rows r (i + 1), Nat.sub_zero]
    constructor
    · rintro (⟨rfl, _, d, hd, hc⟩ | ⟨hi, e, d, he, hd, hc⟩)
      · exact ⟨Nat.le_refl _, c, d, by rw [Nat.sub_self]; rfl, hd, hc⟩
      · exact ⟨by omega, e, d, by rw [show x - i = x - (i + 1) + 1 by omega, List.getElem?_cons_succ]; exact he, hd, hc⟩
    · rintro ⟨hi, e, d, he, hd, hc⟩
      by_cases h : x = i
      · subst h
        rw [Nat.sub_self] at he
        simp at he
        subst he
        exact .inl ⟨rfl, Nat.zero_le _, d, hd, hc⟩
      · right
        refine ⟨by omega, e, d, ?_, hd, hc⟩
        rw [show x - i = x - (i + 1) + 1 by omega, List.getElem?_cons_succ] at he
        exact he

/-- How many are in conflict. -/
def cntC (c : Cmd) (b : List Cmd) : Nat := (b.filter (fun d => clashC c d)).length
theorem row_len (c : Cmd) (i : Nat) : ∀ (b : List Cmd) (k : Nat), (rowL c i b k).length = cntC c b
  | [], _ => rfl
  | d :: r, k => by
    unfold rowL cntC
    rw [List.filter_cons]
    split
    · rw [List.length_cons, List.length_cons, row_len c i r (k + 1)]; rfl
    · rw [row_len c i r (k + 1)]; rfl
theorem rows_len (b : List Cmd) : ∀ (a : List Cmd) (i : Nat), (rowsL b a i).length = (a.map (fun c => cntC c b)).sum
  | [], _ => rfl
  | c :: r, i => by
    unfold rowsL
    rw [List.length_append, row_len, rows_len b r (i + 1), List.map_cons, List.sum_cons]

theorem cnt_cons (c d : Cmd) (b : List Cmd) : cntC c (d :: b) = (if clashC c d = true then 1 else 0) + cntC c b := by
  unfold cntC
  rw [List.filter_cons]
  split
  · rw [List.length_cons]; omega
  · omega
theorem sum_col (d : Cmd) (b : List Cmd) : ∀ a : List Cmd, (a.map (fun c => cntC c (d :: b))).sum = cntC d a + (a.map (fun c => cntC c b)).sum
  | [] => rfl
  | c :: r => by
    rw [List.map_cons, List.sum_cons, sum_col d b r, cnt_cons, cnt_cons, clash_turn c d, List.map_cons, List.sum_cons]
    omega
theorem sum_turn (a : List Cmd) : ∀ b : List Cmd, (a.map (fun c => cntC c b)).sum = (b.map (fun d => cntC d a)).sum
  | [] => by
    have : ∀ a : List Cmd, (a.map (fun c => cntC c [])).sum = 0 := by
      intro a
      induction a with
      | nil => rfl
      | cons c r ih => rw [List.map_cons, List.sum_cons, ih]; rfl
    rw [this]
    rfl
  | d :: b => by rw [sum_col, sum_turn a b, List.map_cons, List.sum_cons]

theorem ok_turn (a b : List Cmd) : okL b a = okL a b := Bool.and_comm _ _

/-- P81: just those. -/
theorem mem_clashes {a b : List Cmd} (h : okL a b = true) {x y : Nat} : (x, y) ∈ clashesL a b ↔ ∃ c d, a[x]? = some c ∧ b[y]? = some d ∧ clashC c d = true := by
  unfold clashesL
  rw [if_pos h, mem_rows, Nat.sub_zero]
  simp

/-- P82. -/
theorem clashes_turn (a b : List Cmd) : (clashesL b a).length = (clashesL a b).length ∧ ∀ x y, (x, y) ∈ clashesL a b → (y, x) ∈ clashesL b a := by
  by_cases h : okL a b = true
  · have h2 := (ok_turn a b).trans h
    refine ⟨?_, fun x y hm => ?_⟩
    · unfold clashesL
      rw [if_pos h, if_pos h2, rows_len, rows_len, sum_turn]
    · obtain ⟨c, d, hc, hd, hcd⟩ := (mem_clashes h).1 hm
      exact (mem_clashes h2).2 ⟨d, c, hd, hc, (clash_turn d c).trans hcd⟩
  · have h2 : ¬ okL b a = true := fun e => h ((ok_turn a b).symm.trans e)
    unfold clashesL
    rw [if_neg h, if_neg h2]
    exact ⟨rfl, fun x y hm => by cases hm⟩

theorem some_iff {cs : List Cmd} {c : Cmd} : someC cs c = true ↔ ∃ d ∈ cs, clashC d c = true := by
  unfold someC
  rw [List.any_eq_true]

/-- P83, P84, P85: parts of canonical logs are canonical. -/
theorem filter_canon {cs : List Cmd} (f : Cmd → Bool) (h : canonV cs = true) : canonV (cs.filter f) = true := by
  obtain ⟨h1, h2, h3⟩ := canonV_iff.1 h
  exact canonV_iff.2 ⟨List.Pairwise.sublist List.filter_sublist h1, List.Nodup.sublist (List.filter_sublist.map _) h2, validL_part h3 List.filter_sublist⟩
theorem canon_nil : canonV [] = true := rfl
theorem safe_canon (a b : List Cmd) : canonV (safeL a b) = true := by
  unfold safeL
  split
  · rename_i h
    unfold okL at h
    rw [Bool.and_eq_true] at h
    exact filter_canon _ h.2
  · rfl
theorem agreed_canon (a b : List Cmd) : canonV (agreedL a b) = true := by
  unfold agreedL
  split
  · rename_i h
    unfold okL at h
    rw [Bool.and_eq_true] at h
    exact filter_canon _ h.2
  · rfl
theorem left_canon (a b : List Cmd) : canonV (leftL a b) = true := by
  unfold leftL
  split
  · rename_i h
    unfold okL at h
    rw [Bool.and_eq_true] at h
    exact filter_canon _ h.1
  · rfl

/-- P85. -/
theorem left_told {a b : List Cmd} (h : okL a b = true) {i : Nat} {c : Cmd} (hc : a[i]? = some c) : (∃ k, (i, k) ∈ clashesL a b) ↔ c ∈ leftL a b := by
  unfold leftL
  rw [if_pos h, List.mem_filter, some_iff]
  constructor
  · rintro ⟨k, hk⟩
    obtain ⟨c', d, h1, h2, h3⟩ := (mem_clashes h).1 hk
    rw [hc] at h1
    obtain rfl := Option.some.inj h1
    exact ⟨List.mem_of_getElem? hc, d, List.mem_of_getElem? h2, (clash_turn d c).trans h3⟩
  · rintro ⟨_, d, hd, h3⟩
    obtain ⟨k, hk⟩ := List.getElem?_of_mem hd
    exact ⟨k, (mem_clashes h).2 ⟨c, d, hc, hk, (clash_turn c d).trans h3⟩⟩

/-- P86: each in one part. -/
theorem parts_len {a b : List Cmd} (h : okL a b = true) : (safeL a b).length + (agreedL a b).length + (leftL b a).length = b.length := by
  unfold safeL agreedL leftL
  rw [if_pos h, if_pos h, if_pos ((ok_turn a b).trans h)]
  clear h
  induction b with
  | nil => rfl
  | cons d r ih =>
    simp only [List.filter_cons, List.length_cons]
    cases someC a d <;> cases hasC a d <;> simp <;> omega
theorem parts_one {a b : List Cmd} (h : okL a b = true) {d : Cmd} (hd : d ∈ b) :
    (someC a d = true ∧ d ∉ safeL a b ∧ d ∉ agreedL a b ∧ d ∈ leftL b a) ∨ (someC a d = false ∧ hasC a d = true ∧ d ∉ safeL a b ∧ d ∈ agreedL a b ∧ d ∉ leftL b a) ∨ (someC a d = false ∧ hasC a d = false ∧ d ∈ safeL a b ∧ d ∉ agreedL a b ∧ d ∉ leftL b a) := by
  unfold safeL agreedL leftL
  rw [if_pos h, if_pos h, if_pos ((ok_turn a b).trans h)]
  simp only [List.mem_filter]
  cases h1 : someC a d <;> cases h2 : hasC a d <;> simp [hd]

/-- P87. -/
theorem none_safe {a b : List Cmd} (h : okL a b = true) (hn : clashesL a b = []) : (safeL a b).length + (agreedL a b).length = b.length ∧ leftL a b = [] := by
  have hs : ∀ d ∈ b, someC a d = false := by
    intro d hd
    rw [Bool.eq_false_iff]
    intro hs
    obtain ⟨c, hc, hcd⟩ := some_iff.1 hs
    obtain ⟨i, hi⟩ := List.getElem?_of_mem hc
    obtain ⟨k, hk⟩ := List.getElem?_of_mem hd
    have := (mem_clashes h).2 ⟨c, d, hi, hk, hcd⟩
    rw [hn] at this
    cases this
  constructor
  · have hp := parts_len h
    have : leftL b a = [] := by
      unfold leftL
      rw [if_pos ((ok_turn a b).trans h), List.filter_eq_nil_iff]
      intro d hd e
      rw [hs d hd] at e
      cases e
    rw [this] at hp
    simpa using hp
  · unfold leftL
    rw [if_pos h, List.filter_eq_nil_iff]
    intro c hc e
    obtain ⟨d, hd, hdc⟩ := some_iff.1 e
    have := hs d hd
    rw [Bool.eq_false_iff] at this
    exact this (some_iff.2 ⟨c, hc, (clash_turn c d).trans hdc⟩)

/-! ### the loops' steps -/
theorem row_snoc (c : Cmd) (i : Nat) (d : Cmd) : ∀ (xs : List Cmd) (k : Nat), rowL c i (xs ++ [d]) k = rowL c i xs k ++ (if clashC c d = true then [(i, k + xs.length)] else [])
  | [], k => by
    show rowL c i [d] k = [] ++ _
    unfold rowL
    rw [List.nil_append]
    rfl
  | x :: xs, k => by
    have ih := row_snoc c i d xs (k + 1)
    show rowL c i (x :: (xs ++ [d])) k = _
    unfold rowL
    rw [ih, List.length_cons, show k + 1 + xs.length = k + (xs.length + 1) by omega]
    split <;> rfl
theorem rows_snoc (b : List Cmd) (c : Cmd) : ∀ (xs : List Cmd) (i : Nat), rowsL b (xs ++ [c]) i = rowsL b xs i ++ rowL c (i + xs.length) b 0
  | [], i => by
    show rowL c i b 0 ++ [] = [] ++ rowL c (i + 0) b 0
    rw [List.append_nil, List.nil_append, Nat.add_zero]
  | x :: xs, i => by
    show rowL x i b 0 ++ rowsL b (xs ++ [c]) (i + 1) = (rowL x i b 0 ++ rowsL b xs (i + 1)) ++ _
    rw [rows_snoc b c xs (i + 1), List.length_cons, List.append_assoc, show i + 1 + xs.length = i + (xs.length + 1) by omega]
theorem row_take {c d : Cmd} {i k : Nat} {b : List Cmd} (h : b[k]? = some d) : rowL c i (b.take (k + 1)) 0 = rowL c i (b.take k) 0 ++ (if clashC c d = true then [(i, k)] else []) := by
  have hk := (List.getElem?_eq_some_iff.1 h).1
  rw [List.take_add_one, h, show (some d).toList = [d] from rfl, row_snoc, List.length_take, Nat.min_eq_left (by omega), Nat.zero_add]
theorem rows_take {c : Cmd} {i : Nat} {a b : List Cmd} (h : a[i]? = some c) : rowsL b (a.take (i + 1)) 0 = rowsL b (a.take i) 0 ++ rowL c i b 0 := by
  have hk := (List.getElem?_eq_some_iff.1 h).1
  rw [List.take_add_one, h, show (some c).toList = [c] from rfl, rows_snoc, List.length_take, Nat.min_eq_left (by omega), Nat.zero_add]
theorem filter_take {f : Cmd → Bool} {cs : List Cmd} {k : Nat} {d : Cmd} (h : cs[k]? = some d) : (cs.take (k + 1)).filter f = (cs.take k).filter f ++ (if f d = true then [d] else []) := by
  rw [List.take_add_one, h, show (some d).toList = [d] from rfl, List.filter_append]
  congr 1
  cases hf : f d <;> simp [hf]
theorem rowL_le (c : Cmd) (i : Nat) (b : List Cmd) (k : Nat) : (rowL c i b k).length ≤ b.length := by
  rw [row_len]
  exact List.length_filter_le _ _
theorem rowsL_le (b : List Cmd) : ∀ (a : List Cmd) (i : Nat), (rowsL b a i).length ≤ a.length * b.length
  | [], i => by simp [rowsL]
  | c :: r, i => by
    unfold rowsL
    rw [List.length_append, List.length_cons, Nat.add_mul, Nat.one_mul]
    have h1 := rowL_le c i b 0
    have h2 := rowsL_le b r (i + 1)
    omega

end Go.Proofs.YtohdpbalajjjiaaGreat
