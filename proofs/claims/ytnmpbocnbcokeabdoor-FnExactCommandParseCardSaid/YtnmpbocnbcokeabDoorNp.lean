/-
  PLAIN MATHEMATICS: what is behind the second blank is one word, or no content: the words of a text cut twice.
-/
import Derived.Lib.SplitLaws
import Derived.Lib.IndexBytes
import Derived.Lib.IndexLaws
import Derived.Test.YtnmpbocnbcokeabDoorCw
namespace Go.Proofs.YtnmpbocnbcokeabDoor

theorem index_blank (a r : List UInt8) (h : ∀ x ∈ a, x ≠ 32) : Lib.index (a ++ 32 :: r) [32] = a.length := by
  rw [Lib.index_one]
  induction a with
  | nil => simp [Lib.indexByte]
  | cons c a ih =>
    have hc : c ≠ 32 := h c (by simp)
    have ih' := ih (fun x hx => h x (List.mem_cons_of_mem _ hx))
    simp only [List.cons_append, Lib.indexByte, List.length_cons]
    rw [ih']
    simp [hc]

theorem index_noblank (a : List UInt8) (h : ∀ x ∈ a, x ≠ 32) : Lib.index a [32] = -1 := by
  rw [Lib.index_one]
  induction a with
  | nil => simp [Lib.indexByte]
  | cons c a ih =>
    have hc : c ≠ 32 := h c (by simp)
    have ih' := ih (fun x hx => h x (List.mem_cons_of_mem _ hx))
    simp only [Lib.indexByte]
    rw [ih']
    simp [hc]

theorem splitK_blank (k : Nat) (a r : List UInt8) (h : ∀ x ∈ a, x ≠ 32) : Lib.splitK [32] 0 (k + 1) (a ++ 32 :: r) = a :: Lib.splitK [32] 0 k r := by
  have hi := index_blank a r h
  have hb : (Lib.index (a ++ 32 :: r) [32] == -1) = false := by rw [hi]; exact beq_eq_false_iff_ne.2 (by omega)
  have e : Lib.splitK [32] 0 (k + 1) (a ++ 32 :: r) = if Lib.index (a ++ 32 :: r) [32] == -1 then [a ++ 32 :: r] else (a ++ 32 :: r).take ((Lib.index (a ++ 32 :: r) [32]).toNat + 0) :: Lib.splitK [32] 0 k ((a ++ 32 :: r).drop ((Lib.index (a ++ 32 :: r) [32]).toNat + 1)) := rfl
  rw [e, hb, hi]
  simp

theorem splitK_noblank (k : Nat) (a : List UInt8) (h : ∀ x ∈ a, x ≠ 32) : Lib.splitK [32] 0 k a = [a] := by
  cases k with
  | zero => rfl
  | succ k =>
    unfold Lib.splitK
    rw [index_noblank a h]
    rfl

/-- Every text: no blank in it, or a word, a blank and a rest. -/
theorem first_blank : ∀ l : List UInt8, (∀ x ∈ l, x ≠ 32) ∨ ∃ a r, l = a ++ 32 :: r ∧ ∀ x ∈ a, x ≠ 32
  | [] => .inl (fun x hx => by cases hx)
  | c :: l => by
    by_cases hc : c = 32
    · exact .inr ⟨[], l, by rw [hc]; rfl, fun x hx => by cases hx⟩
    · rcases first_blank l with h | ⟨a, r, rfl, h⟩
      · left
        intro x hx
        rcases List.mem_cons.1 hx with rfl | hx
        · exact hc
        · exact h x hx
      · right
        refine ⟨c :: a, r, rfl, fun x hx => ?_⟩
        rcases List.mem_cons.1 hx with rfl | hx
        · exact hc
        · exact h x hx

/-- The text, cut at its first two blanks: fewer than three words, or just those three; a blank in the third means more words. -/
theorem cut_two (l : List UInt8) : (∃ ws, Lib.splitK [32] 0 2 l = ws ∧ ws.length < 3 ∧ wordsL l = ws) ∨
    ∃ a b r, Lib.splitK [32] 0 2 l = [a, b, r] ∧ wordsL l = a :: b :: wordsL r ∧ l = a ++ 32 :: (b ++ 32 :: r) := by
  rcases first_blank l with h | ⟨a, r, rfl, ha⟩
  · exact .inl ⟨[l], splitK_noblank 2 l h, by simp, wordsL_one l h⟩
  · rcases first_blank r with h | ⟨b, r2, rfl, hb⟩
    · refine .inl ⟨[a, r], ?_, by simp, ?_⟩
      · rw [splitK_blank 1 a r ha, splitK_noblank 1 r h]
      · rw [wordsL_app a r ha, wordsL_one r h]
    · refine .inr ⟨a, b, r2, ?_, ?_, rfl⟩
      · rw [splitK_blank 1 a _ ha, splitK_blank 0 b r2 hb]
        rfl
      · rw [wordsL_app a _ ha, wordsL_app b r2 hb]

/-- The pieces of strings.SplitN(s, " ", 3). -/
def piecesB (s : ByteArray) : List ByteArray := Lib.splitB ⟨#[32]⟩ 0 (min 3 (s.size + 1) - 1) s

theorem pieces_data (s : ByteArray) : (piecesB s).map (fun x => x.data.toList) = Lib.splitK [32] 0 2 s.data.toList := by
  unfold piecesB
  rw [Lib.splitB_data]
  show Lib.splitK [32] 0 _ s.data.toList = _
  rw [Lib.size_eq s]
  generalize s.data.toList = l
  match l with
  | [] => rfl
  | [c] =>
    show Lib.splitK [32] 0 1 [c] = Lib.splitK [32] 0 2 [c]
    by_cases hc : c = 32
    · subst hc
      have e1 := splitK_blank 0 [] [] (fun x hx => by cases hx)
      have e2 := splitK_blank 1 [] [] (fun x hx => by cases hx)
      rw [splitK_noblank 1 [] (fun x hx => by cases hx)] at e2
      exact e1.trans e2.symm
    · have h : ∀ x ∈ [c], x ≠ 32 := fun x hx => by rw [List.mem_singleton.1 hx]; exact hc
      rw [splitK_noblank 1 _ h, splitK_noblank 2 _ h]
  | c :: d :: r =>
    have e : min 3 ((c :: d :: r).length + 1) - 1 = 2 := by simp only [List.length_cons]; omega
    rw [e]

theorem bytes_of_data {l : List ByteArray} {m : List (List UInt8)} (h : l.map (fun x => x.data.toList) = m) : l = m.map (fun w => (⟨w.toArray⟩ : ByteArray)) := by
  subst h
  rw [List.map_map]
  have : ((fun w : List UInt8 => (⟨w.toArray⟩ : ByteArray)) ∘ fun x : ByteArray => x.data.toList) = id := rfl
  rw [this, List.map_id]

/-- What SplitN tells of the text: too few words, and then it is no command; or three words, and the third one may be more. -/
theorem pieces_cases (s : ByteArray) : ((piecesB s).length < 3 ∧ parseC s = (zeroC, false)) ∨
    ∃ a b r, piecesB s = [a, b, r] ∧ a.size ≤ s.size ∧ b.size ≤ s.size ∧ r.size ≤ s.size ∧
      parseC s = if ((parseR b).2.2 && (parseR r).2.2 && validC ⟨a, (parseR b).1, (parseR b).2.1, (parseR r).1, (parseR r).2.1⟩) = true then (⟨a, (parseR b).1, (parseR b).2.1, (parseR r).1, (parseR r).2.1⟩, true) else (zeroC, false) := by
  have hp := bytes_of_data (pieces_data s)
  rcases cut_two s.data.toList with ⟨ws, h1, h2, h3⟩ | ⟨a, b, r, h1, h3, he⟩
  · rw [h1] at hp
    left
    refine ⟨by rw [hp, List.length_map]; exact h2, ?_⟩
    unfold parseC wordsB
    rw [h3]
    match ws, h2 with
    | [], _ => rfl
    | [_], _ => rfl
    | [_, _], _ => rfl
  · rw [h1] at hp
    right
    have hz : a.length + (b.length + r.length) ≤ s.size := by rw [Lib.size_eq s, he]; simp; omega
    have sz : ∀ x : List UInt8, (⟨x.toArray⟩ : ByteArray).size = x.length := fun x => by show x.toArray.size = _; simp
    refine ⟨⟨a.toArray⟩, ⟨b.toArray⟩, ⟨r.toArray⟩, hp, by rw [sz]; omega, by rw [sz]; omega, by rw [sz]; omega, ?_⟩
    · by_cases hr : ∀ x ∈ r, x ≠ 32
      · unfold parseC wordsB
        rw [h3, wordsL_one r hr]
        rfl
      · have hf : (parseR ⟨r.toArray⟩).2.2 = false := by
          cases hq : (parseR ⟨r.toArray⟩).2.2 with
          | false => rfl
          | true =>
            exfalso
            have hi := parseR_inv (s := ⟨r.toArray⟩) (k := (parseR ⟨r.toArray⟩).1) (v := (parseR ⟨r.toArray⟩).2.1) (by rw [← hq])
            apply hr
            have := con_noblank hi.2.1
            rw [hi.1] at this
            exact this
        rw [if_neg (by rw [hf]; simp)]
        unfold parseC wordsB
        rw [h3]
        rcases first_blank r with h | ⟨c, q, rfl, hc⟩
        · exact absurd h hr
        · rw [wordsL_app c q hc]
          cases hw : wordsL q with
          | nil => exact absurd hw (wordsL_ne q)
          | cons x y => rfl

end Go.Proofs.YtnmpbocnbcokeabDoor
