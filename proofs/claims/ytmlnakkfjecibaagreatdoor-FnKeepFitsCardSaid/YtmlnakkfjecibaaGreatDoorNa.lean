/-
  PLAIN MATHEMATICS OF CANONICAL LOGS, first part: the canonical order, and sorting.
-/
import Derived.Test.YtmlnakkfjecibaaGreatDoorMg
namespace Go.Proofs.YtmlnakkfjecibaaGreatDoor

/-- Lists in a strict order are equal if they have the same members. -/
theorem sorted_ext {α : Type} {R : α → α → Prop} (hR : ∀ a b, R a b → ¬ R b a) : ∀ (l m : List α), l.Pairwise R → m.Pairwise R → (∀ x, x ∈ l ↔ x ∈ m) → l = m
  | [], [], _, _, _ => rfl
  | [], b :: m, _, _, h => absurd ((h b).2 (by simp)) (by simp)
  | a :: l, [], _, _, h => absurd ((h a).1 (by simp)) (by simp)
  | a :: l, b :: m, hl, hm, h => by
    rw [List.pairwise_cons] at hl hm
    have hab : a = b := by
      have h1 := (h a).1 (by simp)
      have h2 := (h b).2 (by simp)
      rcases List.mem_cons.1 h1 with e | h1
      · exact e
      · rcases List.mem_cons.1 h2 with e | h2
        · exact e.symm
        · exact absurd (hm.1 a h1) (hR _ _ (hl.1 b h2))
    subst hab
    congr 1
    refine sorted_ext hR l m hl.2 hm.2 (fun x => ?_)
    have hx := h x
    rw [List.mem_cons, List.mem_cons] at hx
    have n1 : ∀ y ∈ l, y ≠ a := fun y hy e => by
      have := hl.1 y hy
      rw [e] at this
      exact hR _ _ this this
    have n2 : ∀ y ∈ m, y ≠ a := fun y hy e => by
      have := hm.1 y hy
      rw [e] at this
      exact hR _ _ this this
    constructor
    · intro hy
      rcases hx.1 (.inr hy) with e | e
      · exact absurd e (n1 x hy)
      · exact e
    · intro hy
      rcases hx.2 (.inr hy) with e | e
      · exact absurd e (n2 x hy)
      · exact e

theorem nodup_len {α : Type} : ∀ (l m : List α), l.Nodup → (∀ x ∈ l, x ∈ m) → l.length ≤ m.length
  | [], _, _, _ => Nat.zero_le _
  | a :: l, m, hn, h => by
    classical
    rw [List.nodup_cons] at hn
    have hm := h a (by simp)
    have := nodup_len l (m.erase a) hn.2 (fun x hx => (List.mem_erase_of_ne (fun e : x = a => hn.1 (by rw [← e]; exact hx))).2 (h x (List.mem_cons_of_mem _ hx)))
    rw [List.length_erase_of_mem hm] at this
    have := List.length_pos_of_mem hm
    rw [List.length_cons]
    omega

/-- A command that ends something. -/
def endsC (c : Cmd) : Bool := c.tk == 0 || c.fk == 1
/-- The canonical order. -/
def befC (c d : Cmd) : Bool := if (endsC c && endsC d) = true then ltB d.p c.p else if (!endsC c && !endsC d) = true then ltB c.p d.p else endsC c

theorem bef_asymm {c d : Cmd} (h : befC c d = true) : befC d c = false := by
  unfold befC at h ⊢
  cases hc : endsC c <;> cases hd : endsC d <;> simp [hc, hd] at h ⊢
  · exact ltB_asymm h
  · exact ltB_asymm h

theorem bef_not {c d : Cmd} (h : befC c d = true) : ¬ befC d c = true := by rw [bef_asymm h]; decide

theorem bef_trans {c d e : Cmd} (h : befC c d = true) (k : befC d e = true) : befC c e = true := by
  unfold befC at h k ⊢
  cases hc : endsC c <;> cases hd : endsC d <;> cases he : endsC e <;> simp [hc, hd, he] at h k ⊢
  · exact ltB_trans h k
  · exact ltB_trans k h

theorem bef_tri {c d : Cmd} (hp : c.p ≠ d.p) (h : befC c d = false) : befC d c = true := by
  unfold befC at h ⊢
  cases hc : endsC c <;> cases hd : endsC d <;> simp [hc, hd] at h ⊢
  · cases hk : ltB d.p c.p with
    | true => rfl
    | false => exact absurd (ltB_tri h hk) hp
  · cases hk : ltB c.p d.p with
    | true => rfl
    | false => exact absurd (ltB_tri hk h) hp

def Canon (cs : List Cmd) : Prop := cs.Pairwise (fun c d => befC c d = true)

theorem canon_ext {l m : List Cmd} (hl : Canon l) (hm : Canon m) (h : ∀ x, x ∈ l ↔ x ∈ m) : l = m := sorted_ext (fun _ _ => bef_not) l m hl hm h

/-- spec.l14Put. -/
def putK (c : Cmd) : List Cmd → List Cmd
  | [] => [c]
  | d :: r => if befC c d = true then c :: d :: r else d :: putK c r
/-- spec.l14Sort. -/
def sortK (cs : List Cmd) : List Cmd := cs.foldl (fun acc c => putK c acc) []

theorem mem_putK {c x : Cmd} : ∀ {l : List Cmd}, x ∈ putK c l ↔ x = c ∨ x ∈ l
  | [] => by unfold putK; simp
  | d :: r => by
    unfold putK
    split
    · simp
    · rw [List.mem_cons, mem_putK, List.mem_cons]
      constructor
      · rintro (h | h | h)
        · exact .inr (.inl h)
        · exact .inl h
        · exact .inr (.inr h)
      · rintro (h | h | h)
        · exact .inr (.inl h)
        · exact .inl h
        · exact .inr (.inr h)

theorem putK_length {c : Cmd} : ∀ {l : List Cmd}, (putK c l).length = l.length + 1
  | [] => rfl
  | d :: r => by
    unfold putK
    split
    · simp
    · rw [List.length_cons, putK_length, List.length_cons]

theorem canon_putK {c : Cmd} : ∀ {l : List Cmd}, Canon l → (∀ d ∈ l, d.p ≠ c.p) → Canon (putK c l)
  | [], _, _ => by unfold putK; exact List.pairwise_singleton _ _
  | d :: r, h, hp => by
    have h' := h
    unfold Canon at h'
    rw [List.pairwise_cons] at h'
    unfold putK
    split
    · rename_i hb
      refine List.pairwise_cons.2 ⟨fun x hx => ?_, h⟩
      rcases List.mem_cons.1 hx with rfl | hx
      · exact hb
      · exact bef_trans hb (h'.1 x hx)
    · rename_i hb
      refine List.pairwise_cons.2 ⟨fun x hx => ?_, canon_putK h'.2 (fun e he => hp e (List.mem_cons_of_mem _ he))⟩
      rcases mem_putK.1 hx with rfl | hx
      · exact bef_tri (fun e => hp d (by simp) e.symm) (by simpa using hb)
      · exact h'.1 x hx

theorem sort_go : ∀ (cs acc : List Cmd), Canon acc → (cs.map Cmd.p).Nodup → (∀ c ∈ cs, ∀ d ∈ acc, d.p ≠ c.p) →
    Canon (cs.foldl (fun acc c => putK c acc) acc) ∧ (∀ x, x ∈ cs.foldl (fun acc c => putK c acc) acc ↔ x ∈ cs ∨ x ∈ acc) ∧ (cs.foldl (fun acc c => putK c acc) acc).length = cs.length + acc.length
  | [], acc, h, _, _ => ⟨h, fun x => by simp, by simp⟩
  | c :: cs, acc, h, hn, hd => by
    rw [List.map_cons, List.nodup_cons] at hn
    have ih := sort_go cs (putK c acc) (canon_putK h (fun d hd' => hd c (by simp) d hd')) hn.2 (fun e he d hd' => by
      rcases mem_putK.1 hd' with rfl | hd'
      · exact fun e' => hn.1 (by rw [e']; exact List.mem_map_of_mem he)
      · exact hd e (List.mem_cons_of_mem _ he) d hd')
    refine ⟨ih.1, fun x => ?_, ?_⟩
    · show x ∈ List.foldl _ (putK c acc) cs ↔ _
      rw [ih.2.1 x, mem_putK, List.mem_cons]
      constructor
      · rintro (h | h | h)
        · exact .inl (.inr h)
        · exact .inl (.inl h)
        · exact .inr h
      · rintro ((h | h) | h)
        · exact .inr (.inl h)
        · exact .inl h
        · exact .inr (.inr h)
    · show (List.foldl _ (putK c acc) cs).length = _
      rw [ih.2.2, putK_length, List.length_cons]
      omega

theorem canon_sort {cs : List Cmd} (h : (cs.map Cmd.p).Nodup) : Canon (sortK cs) := (sort_go cs [] List.Pairwise.nil h (fun _ _ _ hd => by cases hd)).1
theorem mem_sort {cs : List Cmd} (h : (cs.map Cmd.p).Nodup) (x : Cmd) : x ∈ sortK cs ↔ x ∈ cs := by
  have := (sort_go cs [] List.Pairwise.nil h (fun _ _ _ hd => by cases hd)).2.1 x
  show x ∈ List.foldl _ [] cs ↔ _
  rw [this]
  simp
theorem sort_length {cs : List Cmd} (h : (cs.map Cmd.p).Nodup) : (sortK cs).length = cs.length := by
  have := (sort_go cs [] List.Pairwise.nil h (fun _ _ _ hd => by cases hd)).2.2
  show (List.foldl _ [] cs).length = _
  rw [this]
  simp

/-- Only the members count. -/
theorem sort_eq {cs ds : List Cmd} (h : (cs.map Cmd.p).Nodup) (k : (ds.map Cmd.p).Nodup) (hm : ∀ x, x ∈ cs ↔ x ∈ ds) : sortK cs = sortK ds :=
  canon_ext (canon_sort h) (canon_sort k) (fun x => by rw [mem_sort h, mem_sort k, hm])

theorem sort_same {cs : List Cmd} (h : (cs.map Cmd.p).Nodup) (k : Canon cs) : sortK cs = cs :=
  canon_ext (canon_sort h) k (fun x => mem_sort h x)

/-- Sorting keeps each path once. -/
theorem nodup_sort {cs : List Cmd} (h : (cs.map Cmd.p).Nodup) : ((sortK cs).map Cmd.p).Nodup := by
  have hc := canon_sort h
  rw [List.nodup_iff_pairwise_ne, List.pairwise_map]
  refine List.Pairwise.imp_of_mem (fun {a b} ha hb hab => ?_) hc
  intro e
  have ha' := (mem_sort h a).1 ha
  have hb' := (mem_sort h b).1 hb
  obtain ⟨i, hi, rfl⟩ := List.getElem_of_mem ha'
  obtain ⟨j, hj, rfl⟩ := List.getElem_of_mem hb'
  have hij : i = j := by
    rw [List.nodup_iff_pairwise_ne, List.pairwise_map, List.pairwise_iff_getElem] at h
    rcases Nat.lt_trichotomy i j with hlt | he | hlt
    · exact absurd e (h i j hi hj hlt)
    · exact he
    · exact absurd e.symm (h j i hj hi hlt)
  subst hij
  exact bef_not hab hab

/-- spec.CanonValid: neighbours in order, each path once, a log. -/
def nextOk : List Cmd → Bool
  | [] => true
  | [_] => true
  | c :: d :: r => befC c d && nextOk (d :: r)
def canonV (cs : List Cmd) : Bool := nextOk cs && decide ((cs.map Cmd.p).Nodup) && validL cs

theorem nextOk_iff : ∀ cs : List Cmd, nextOk cs = true ↔ Canon cs
  | [] => ⟨fun _ => List.Pairwise.nil, fun _ => rfl⟩
  | [c] => ⟨fun _ => List.pairwise_singleton _ _, fun _ => rfl⟩
  | c :: d :: r => by
    have ih := nextOk_iff (d :: r)
    unfold nextOk
    rw [Bool.and_eq_true, ih]
    unfold Canon
    constructor
    · rintro ⟨h1, h2⟩
      refine List.pairwise_cons.2 ⟨fun x hx => ?_, h2⟩
      rcases List.mem_cons.1 hx with rfl | hx
      · exact h1
      · exact bef_trans h1 ((List.pairwise_cons.1 h2).1 x hx)
    · intro h
      exact ⟨(List.pairwise_cons.1 h).1 d (by simp), (List.pairwise_cons.1 h).2⟩

theorem canonV_iff {cs : List Cmd} : canonV cs = true ↔ Canon cs ∧ (cs.map Cmd.p).Nodup ∧ validL cs = true := by
  unfold canonV
  rw [Bool.and_eq_true, Bool.and_eq_true, nextOk_iff, decide_eq_true_eq]
  constructor
  · rintro ⟨⟨h1, h2⟩, h3⟩; exact ⟨h1, h2, h3⟩
  · rintro ⟨h1, h2, h3⟩; exact ⟨⟨h1, h2⟩, h3⟩

/-- P66: commands may be missing. -/
theorem canon_part {cs : List Cmd} (h : canonV cs = true) (k : Nat) : canonV (cs.take k ++ cs.drop (k + 1)) = true := by
  obtain ⟨h1, h2, h3⟩ := canonV_iff.1 h
  have hs : (cs.take k ++ cs.drop (k + 1)).Sublist cs := by
    have e := List.take_append_drop k cs
    conv => rhs; rw [← e]
    refine List.Sublist.append_left ?_ _
    rw [show cs.drop (k + 1) = (cs.drop k).drop 1 by rw [List.drop_drop]]
    exact List.drop_sublist 1 _
  exact canonV_iff.2 ⟨List.Pairwise.sublist hs h1, List.Nodup.sublist (hs.map _) h2, validL_part h3 hs⟩

end Go.Proofs.YtmlnakkfjecibaaGreatDoor
