/-
  PLAIN MATHEMATICS OF THE PROGRAM'S HEAP of commands: places, exchanges, going up, going down, taking all.
-/
import Derived.Test.YtmlnakkfjecibaaGreatDoorNa
namespace Go.Proofs.YtmlnakkfjecibaaGreatDoor

/-- A command at a place. -/
def dC : Cmd := ⟨ByteArray.empty, 0, 0, 0, 0⟩
def atK (zs : List Cmd) (k : Nat) : Cmd := zs.getD k dC

theorem atK_of {zs : List Cmd} {k : Nat} {c : Cmd} (h : zs[k]? = some c) : atK zs k = c := by
  unfold atK; rw [List.getD_eq_getElem?_getD, h]; rfl

theorem atK_get {zs : List Cmd} {k : Nat} (h : k < zs.length) : zs[k]? = some (atK zs k) := by
  unfold atK; rw [List.getD_eq_getElem?_getD, List.getElem?_eq_getElem h]; rfl

theorem atK_mem {zs : List Cmd} {k : Nat} (h : k < zs.length) : atK zs k ∈ zs := List.mem_of_getElem? (atK_get h)

/-- Two places exchanged. -/
def swapK (zs : List Cmd) (i j : Nat) : List Cmd := (zs.set i (atK zs j)).set j (atK zs i)

theorem swapK_length (zs : List Cmd) (i j : Nat) : (swapK zs i j).length = zs.length := by unfold swapK; simp

theorem atK_swap {zs : List Cmd} {i j : Nat} (hi : i < zs.length) (hj : j < zs.length) (k : Nat) : atK (swapK zs i j) k = if k = j then atK zs i else if k = i then atK zs j else atK zs k := by
  unfold swapK
  rw [show atK ((zs.set i (atK zs j)).set j (atK zs i)) k = ((zs.set i (atK zs j)).set j (atK zs i))[k]?.getD dC from by unfold atK; rw [List.getD_eq_getElem?_getD]]
  rw [List.getElem?_set, List.getElem?_set]
  by_cases h1 : k = j
  · subst h1
    simp [hj]
  · rw [if_neg h1, if_neg (fun e => h1 e.symm)]
    by_cases h2 : k = i
    · subst h2
      simp [hi]
    · rw [if_neg h2, if_neg (fun e => h2 e.symm)]
      unfold atK
      rw [List.getD_eq_getElem?_getD]

theorem perm_of_mid {α : Type} (a : α) (l r : List α) : (l ++ a :: r).Perm (a :: (l ++ r)) := List.perm_middle

theorem set_perm {α : Type} : ∀ (l : List α) (i : Nat) (x y : α), l[i]? = some y → (y :: l.set i x).Perm (x :: l)
  | [], i, x, y, h => by simp at h
  | a :: l, 0, x, y, h => by
    simp at h
    subst h
    exact List.Perm.swap _ _ _
  | a :: l, i + 1, x, y, h => by
    have ih := set_perm l i x y (by simpa using h)
    show (y :: a :: l.set i x).Perm (x :: a :: l)
    exact (List.Perm.swap _ _ _).trans ((ih.cons a).trans (List.Perm.swap _ _ _))

theorem swapK_perm {zs : List Cmd} {i j : Nat} (hi : i < zs.length) (hj : j < zs.length) : (swapK zs i j).Perm zs := by
  unfold swapK
  have h1 := set_perm zs i (atK zs j) (atK zs i) (atK_get hi)
  have hg : (zs.set i (atK zs j))[j]? = some (atK zs j) := by
    rw [List.getElem?_set]
    by_cases h : i = j
    · subst h; simp [hi]
    · rw [if_neg h]; exact atK_get hj
  have h2 := set_perm (zs.set i (atK zs j)) j (atK zs i) (atK zs j) hg
  exact (List.perm_cons (atK zs j)).1 (h2.trans h1)

/-- c does not come before its elder: the canonical order as a weak order. -/
theorem bef_cotrans {a b c : Cmd} (h : befC c a = true) : befC c b = true ∨ befC b a = true := by
  have tot : ∀ x y z : ByteArray, ltB x y = true → ltB x z = true ∨ ltB z y = true := fun x y z hxy => by
    cases h1 : ltB x z with
    | true => exact .inl rfl
    | false =>
      right
      cases h2 : ltB z x with
      | true => exact ltB_trans h2 hxy
      | false => rw [← ltB_tri h1 h2]; exact hxy
  unfold befC at h ⊢
  rcases Bool.eq_false_or_eq_true (endsC c) with hc | hc <;> rcases Bool.eq_false_or_eq_true (endsC a) with ha | ha <;> rcases Bool.eq_false_or_eq_true (endsC b) with hb | hb <;> rw [hc, ha] at h <;> rw [hc, hb, ha] <;> simp at h ⊢
  · exact (tot _ _ _ h).symm
  · exact tot _ _ _ h

theorem nbef_trans {a b c : Cmd} (h : befC b a = false) (k : befC c b = false) : befC c a = false := by
  cases hc : befC c a with
  | false => rfl
  | true =>
    rcases bef_cotrans (b := b) hc with e | e
    · rw [e] at k; cases k
    · rw [e] at h; cases h

theorem bef_irrefl (c : Cmd) : befC c c = false := by
  cases h : befC c c with
  | false => rfl
  | true => have := bef_asymm h; rw [h] at this; cases this

theorem nbef_of_bef {c d : Cmd} (h : befC c d = true) : befC d c = false := bef_asymm h

/-- A heap of the first n commands. -/
def HeapK (zs : List Cmd) (n : Nat) : Prop := ∀ k, 0 < k → k < n → befC (atK zs k) (atK zs ((k - 1) / 2)) = false

/-- .. but for the place j, which may have to go up. -/
def UpK (zs : List Cmd) (n j : Nat) : Prop := (∀ k, 0 < k → k < n → k ≠ j → befC (atK zs k) (atK zs ((k - 1) / 2)) = false) ∧
  (∀ k, 0 < k → k < n → (k - 1) / 2 = j → 0 < j → befC (atK zs k) (atK zs ((j - 1) / 2)) = false)

/-- .. but for the place i, which may have to go down. -/
def DownK (zs : List Cmd) (n i : Nat) : Prop := (∀ k, 0 < k → k < n → (k - 1) / 2 ≠ i → befC (atK zs k) (atK zs ((k - 1) / 2)) = false) ∧
  (∀ k, 0 < k → k < n → (k - 1) / 2 = i → 0 < i → befC (atK zs k) (atK zs ((i - 1) / 2)) = false)

theorem HeapK.mono {zs : List Cmd} {n m : Nat} (h : HeapK zs n) (hm : m ≤ n) : HeapK zs m := fun k h1 h2 => h k h1 (by omega)

theorem up_end0 {zs : List Cmd} {n : Nat} (h : UpK zs n 0) : HeapK zs n := fun k h1 h2 => h.1 k h1 h2 (by omega)

theorem up_end {zs : List Cmd} {n j : Nat} (h : UpK zs n j) (hb : befC (atK zs j) (atK zs ((j - 1) / 2)) = false) : HeapK zs n := fun k h1 h2 => by
  by_cases e : k = j
  · subst e; exact hb
  · exact h.1 k h1 h2 e

theorem up_go {zs : List Cmd} {j : Nat} (hj0 : 0 < j) (hj : j < zs.length) (h : UpK zs zs.length j) (hb : befC (atK zs j) (atK zs ((j - 1) / 2)) = true) : UpK (swapK zs ((j - 1) / 2) j) zs.length ((j - 1) / 2) := by
  have hi : (j - 1) / 2 < zs.length := by omega
  obtain ⟨h1, h2⟩ := h
  generalize hI : (j - 1) / 2 = i at *
  have hij : i < j := by omega
  refine ⟨fun k k0 kn ki => ?_, fun k k0 kn ki i0 => ?_⟩
  · rw [atK_swap hi hj, atK_swap hi hj]
    by_cases e1 : k = j
    · subst e1
      rw [if_pos rfl, hI, if_neg (by omega), if_pos rfl]
      exact nbef_of_bef hb
    · rw [if_neg e1, if_neg ki]
      by_cases e2 : (k - 1) / 2 = j
      · rw [if_pos e2]
        exact h2 k k0 kn e2 (by omega)
      · rw [if_neg e2]
        by_cases e3 : (k - 1) / 2 = i
        · rw [if_pos e3]
          have := h1 k k0 kn e1
          rw [e3] at this
          -- k is a child of i other than j: not before the elder, which j comes before
          exact nbef_trans (nbef_of_bef hb) this
        · rw [if_neg e3]
          exact h1 k k0 kn e1
  · -- the children of i, against i's elder
    rw [atK_swap hi hj, atK_swap hi hj]
    rw [if_neg (show ¬ ((i - 1) / 2 = j) by omega), if_neg (show ¬ ((i - 1) / 2 = i) by omega)]
    have hii := h1 i i0 (by omega) (by omega)
    by_cases e1 : k = j
    · rw [if_pos e1]
      exact hii
    · rw [if_neg e1, if_neg (by omega)]
      have := h1 k k0 kn e1
      rw [ki] at this
      exact nbef_trans hii this

/-- A command is put behind. -/
theorem up_start {zs : List Cmd} (c : Cmd) (h : HeapK zs zs.length) : UpK (zs ++ [c]) (zs ++ [c]).length zs.length := by
  have hat : ∀ k, k < zs.length → atK (zs ++ [c]) k = atK zs k := fun k hk => by
    unfold atK
    rw [List.getD_eq_getElem?_getD, List.getD_eq_getElem?_getD, List.getElem?_append_left hk]
  have hlen : (zs ++ [c]).length = zs.length + 1 := by simp
  refine ⟨fun k k0 kn kj => ?_, fun k k0 kn ki i0 => ?_⟩
  · rw [hat k (by omega), hat _ (by omega)]
    exact h k k0 (by omega)
  · omega

theorem down_end {zs : List Cmd} {n i : Nat} (h : DownK zs n i) (hb : ∀ k, 0 < k → k < n → (k - 1) / 2 = i → befC (atK zs k) (atK zs i) = false) : HeapK zs n := fun k h1 h2 => by
  by_cases e : (k - 1) / 2 = i
  · rw [e]; exact hb k h1 h2 e
  · exact h.1 k h1 h2 e

theorem down_go {zs : List Cmd} {n i j : Nat} (hn : n ≤ zs.length) (hj : j < n) (hj0 : 0 < j) (hji : (j - 1) / 2 = i) (h : DownK zs n i) (hb : befC (atK zs j) (atK zs i) = true)
    (hmin : ∀ k, 0 < k → k < n → (k - 1) / 2 = i → befC (atK zs k) (atK zs j) = false) : DownK (swapK zs i j) n j := by
  have hi : i < zs.length := by omega
  have hjl : j < zs.length := by omega
  obtain ⟨h1, h2⟩ := h
  refine ⟨fun k k0 kn ki => ?_, fun k k0 kn ki i0 => ?_⟩
  · rw [atK_swap hi hjl, atK_swap hi hjl]
    by_cases e1 : k = j
    · subst e1
      rw [if_pos rfl, hji, if_neg (by omega), if_pos rfl]
      exact nbef_of_bef hb
    · rw [if_neg e1, if_neg ki]
      by_cases e2 : (k - 1) / 2 = i
      · rw [if_pos e2, if_neg (by omega)]
        exact hmin k k0 kn e2
      · rw [if_neg e2]
        by_cases e3 : k = i
        · rw [if_pos e3]
          have := h2 j hj0 hj hji (by omega)
          rw [e3]
          exact this
        · rw [if_neg e3]
          exact h1 k k0 kn e2
  · rw [atK_swap hi hjl, atK_swap hi hjl]
    rw [hji, if_neg (show ¬ (i = j) by omega), if_pos rfl, if_neg (by omega), if_neg (by omega)]
    have := h1 k k0 kn (by omega)
    rw [ki] at this
    exact this

/-- The first one is changed for another. -/
theorem down_start {zs : List Cmd} {n : Nat} (h : ∀ k, 0 < k → k < n → (k - 1) / 2 ≠ 0 → befC (atK zs k) (atK zs ((k - 1) / 2)) = false) : DownK zs n 0 :=
  ⟨h, fun k _ _ _ h0 => absurd h0 (by omega)⟩

/-- Nothing comes before the first one. -/
theorem heap_min {zs : List Cmd} {n : Nat} (h : HeapK zs n) : ∀ k, k < n → befC (atK zs k) (atK zs 0) = false := by
  intro k
  induction k using Nat.strongRecOn with
  | ind k ih =>
    intro hk
    by_cases h0 : k = 0
    · subst h0; exact bef_irrefl _
    · exact nbef_trans (ih ((k - 1) / 2) (by omega) (by omega)) (h k (by omega) hk)

/-- First and last exchanged, the last one aside: what is left is a heap but for its first one. -/
theorem pop_start {zs : List Cmd} {n : Nat} (hl : zs.length = n + 1) (h : HeapK zs zs.length) : DownK (swapK zs 0 n) n 0 := by
  refine down_start (fun k k0 kn kp => ?_)
  rw [atK_swap (by omega) (by omega), atK_swap (by omega) (by omega)]
  rw [if_neg (by omega), if_neg (by omega), if_neg (by omega), if_neg kp]
  exact h k k0 (by omega)

theorem atK_take {zs : List Cmd} {n k : Nat} (hk : k < n) : atK (zs.take n) k = atK zs k := by
  unfold atK
  rw [List.getD_eq_getElem?_getD, List.getD_eq_getElem?_getD, List.getElem?_take, if_pos hk]

theorem heap_take {zs : List Cmd} {n : Nat} (h : HeapK zs n) : HeapK (zs.take n) n := fun k k0 kn => by
  rw [atK_take kn, atK_take (by omega)]
  exact h k k0 kn

/-- What is taken, and what is left. -/
theorem heap_pop {zs ys : List Cmd} {n : Nat} (hl : zs.length = n + 1) (h : HeapK zs zs.length) (hp : ys.Perm (swapK zs 0 n)) (hlast : atK ys n = atK zs 0) :
    ((ys.take n) ++ [atK zs 0]).Perm zs ∧ (∀ y ∈ zs, befC y (atK zs 0) = false) := by
  have hyl : ys.length = n + 1 := by rw [hp.length_eq, swapK_length, hl]
  refine ⟨?_, fun y hy => ?_⟩
  · have e : ys.take n ++ [atK zs 0] = ys := by
      conv => rhs; rw [← List.take_append_drop n ys]
      congr 1
      rw [List.drop_eq_getElem_cons (by omega), List.drop_eq_nil_of_le (by omega)]
      congr 1
      have := atK_get (zs := ys) (k := n) (by omega)
      rw [hlast, List.getElem?_eq_getElem (by omega)] at this
      exact (Option.some.inj this).symm
    rw [e]
    exact hp.trans (swapK_perm (by omega) (by omega))
  · obtain ⟨i, hi, rfl⟩ := List.getElem_of_mem hy
    have := heap_min h i hi
    have e := atK_get hi
    rw [List.getElem?_eq_getElem hi] at e
    rw [Option.some.inj e]
    exact this

/-- What has been taken so far, and what is left. -/
def TakeK (cs acc zs : List Cmd) : Prop := (acc ++ zs).Perm cs ∧ acc.Pairwise (fun a b => befC b a = false) ∧ (∀ a ∈ acc, ∀ z ∈ zs, befC z a = false)

theorem take_start (cs : List Cmd) : TakeK cs [] cs := ⟨List.Perm.refl _, List.Pairwise.nil, fun a ha => by cases ha⟩

theorem take_step {cs acc zs ys : List Cmd} {x : Cmd} (h : TakeK cs acc zs) (hp : (ys ++ [x]).Perm zs) (hm : ∀ y ∈ zs, befC y x = false) : TakeK cs (acc ++ [x]) ys := by
  obtain ⟨h1, h2, h3⟩ := h
  have hx : x ∈ zs := hp.mem_iff.1 (by simp)
  refine ⟨?_, ?_, fun a ha z hz => ?_⟩
  · refine List.Perm.trans ?_ h1
    rw [List.append_assoc]
    exact List.Perm.append_left acc ((List.perm_append_comm (l₁ := [x]) (l₂ := ys)).trans hp)
  · rw [List.pairwise_append]
    refine ⟨h2, List.pairwise_singleton _ _, fun a ha b hb => ?_⟩
    rw [List.mem_singleton.1 hb]
    exact h3 a ha x hx
  · have hz' : z ∈ zs := hp.mem_iff.1 (List.mem_append_left _ hz)
    rcases List.mem_append.1 ha with ha | ha
    · exact h3 a ha z hz'
    · rw [List.mem_singleton.1 ha]; exact hm z hz'

theorem take_end {cs acc : List Cmd} (h : TakeK cs acc []) (hn : (cs.map Cmd.p).Nodup) : Canon acc ∧ ∀ x, x ∈ acc ↔ x ∈ cs := by
  obtain ⟨h1, h2, _⟩ := h
  rw [List.append_nil] at h1
  refine ⟨?_, fun x => h1.mem_iff⟩
  have hn' : (acc.map Cmd.p).Nodup := (h1.map Cmd.p).nodup_iff.2 hn
  rw [List.nodup_iff_pairwise_ne, List.pairwise_map] at hn'
  refine (h2.and hn').imp (fun {a b} hab => ?_)
  exact bef_tri (fun e => hab.2 e.symm) hab.1

end Go.Proofs.YtmlnakkfjecibaaGreatDoor
