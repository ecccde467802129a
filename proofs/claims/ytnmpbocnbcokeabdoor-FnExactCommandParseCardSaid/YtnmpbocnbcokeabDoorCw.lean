/-
  PLAIN MATHEMATICS OF TEXTS OF COMMANDS: words between blanks; a command's text, and what it is read as.
-/
import Derived.Test.YtnmpbocnbcokeabDoorCu
import Derived.Test.YtnmpbocnbcokeabDoorPl
namespace Go.Proofs.YtnmpbocnbcokeabDoor

/-- What is between the blanks of a text. -/
def wordsL : List UInt8 → List (List UInt8)
  | [] => [[]]
  | c :: r => if c = 32 then [] :: wordsL r else match wordsL r with
    | [] => [[c]]
    | w :: ws => (c :: w) :: ws

theorem wordsL_ne : ∀ l, wordsL l ≠ []
  | [] => by simp [wordsL]
  | c :: r => by
    unfold wordsL
    split
    · simp
    · split <;> simp

theorem wordsL_one : ∀ (a : List UInt8), (∀ x ∈ a, x ≠ 32) → wordsL a = [a]
  | [], _ => rfl
  | c :: r, h => by
    unfold wordsL
    rw [if_neg (h c (by simp)), wordsL_one r (fun x hx => h x (List.mem_cons_of_mem _ hx))]

theorem wordsL_app : ∀ (a r : List UInt8), (∀ x ∈ a, x ≠ 32) → wordsL (a ++ 32 :: r) = a :: wordsL r
  | [], r, _ => by
    show wordsL (32 :: r) = _
    conv => lhs; unfold wordsL
    rw [if_pos rfl]
  | c :: a, r, h => by
    show wordsL (c :: (a ++ 32 :: r)) = _
    conv => lhs; unfold wordsL
    rw [if_neg (h c (by simp)), wordsL_app a r (fun x hx => h x (List.mem_cons_of_mem _ hx))]

/-- The words, one behind the other, with blanks between them. -/
theorem wordsL_join : ∀ (l : List UInt8) (w : List UInt8) (ws : List (List UInt8)), wordsL l = w :: ws → l = w ++ ws.flatMap (fun x => 32 :: x) ∧ (∀ x ∈ w, x ≠ 32)
  | [], w, ws, h => by
    simp [wordsL] at h
    obtain ⟨rfl, rfl⟩ := h
    exact ⟨rfl, fun x hx => by cases hx⟩
  | c :: r, w, ws, h => by
    unfold wordsL at h
    split at h
    · rename_i hc
      simp at h
      obtain ⟨rfl, hw⟩ := h
      cases hr : wordsL r with
      | nil => exact absurd hr (wordsL_ne r)
      | cons v vs =>
        rw [hr] at hw
        subst hw
        obtain ⟨e, _⟩ := wordsL_join r v vs hr
        refine ⟨?_, fun x hx => by cases hx⟩
        rw [List.flatMap_cons, hc, List.nil_append, List.cons_append, ← e]
    · rename_i hc
      split at h
      · rename_i hr
        exact absurd hr (wordsL_ne r)
      · rename_i v vs hr
        simp at h
        obtain ⟨rfl, rfl⟩ := h
        obtain ⟨e, hv⟩ := wordsL_join r v vs hr
        refine ⟨by rw [List.cons_append, ← e], fun x hx => ?_⟩
        rcases List.mem_cons.1 hx with rfl | hx
        · exact hc
        · exact hv x hx

def wordsB (s : ByteArray) : List ByteArray := (wordsL s.data.toList).map (fun w => ⟨w.toArray⟩)

/-- spec.CommandParse. -/
def parseC (s : ByteArray) : Cmd × Bool := match wordsB s with
  | [a, b, c] => if ((parseR b).2.2 && (parseR c).2.2 && validC ⟨a, (parseR b).1, (parseR b).2.1, (parseR c).1, (parseR c).2.1⟩) = true then (⟨a, (parseR b).1, (parseR b).2.1, (parseR c).1, (parseR c).2.1⟩, true) else (zeroC, false)
  | _ => (zeroC, false)

theorem bytes_app (x y : ByteArray) : (x ++ y).data.toList = x.data.toList ++ y.data.toList := by simp [ByteArray.data_append]

theorem path_noblank {p : ByteArray} (h : vpB p = true) : ∀ x ∈ p.data.toList, x ≠ 32 := by
  obtain ⟨w, hw, rfl⟩ := vpB_word h
  rw [pB_list]
  intro x hx e
  subst e
  unfold Pm.pathOf at hx
  split at hx
  · simp at hx
  · have hf : ∀ (w : List UInt8), (∀ x ∈ w, Pm.letter x = true) → (32 : UInt8) ∉ Pm.flat w := by
      intro w
      induction w with
      | nil => intro _; simp [Pm.flat]
      | cons c r ih =>
        intro hl hc
        simp only [Pm.flat, List.mem_cons] at hc
        rcases hc with hc | hc | hc
        · exact absurd hc (by decide)
        · have := hl c (by simp)
          rw [← hc] at this
          exact absurd this (by decide)
        · exact ih (fun x hx => hl x (List.mem_cons_of_mem _ hx)) hc
    exact hf w hw.2 hx

theorem con_noblank {k v : Int} (h : validB k v = true) : ∀ x ∈ (conText k v).data.toList, x ≠ 32 := by
  obtain ⟨_, _, hs⟩ := parseR_inv (parseR_conText h)
  rcases hs with ⟨_, _, e⟩ | ⟨_, _, e⟩ | ⟨_, n, hn, _, e⟩
  · rw [e]; intro x hx; simp at hx; subst hx; decide
  · rw [e]; intro x hx; simp at hx; subst hx; decide
  · rw [e]
    intro x hx
    have e2 : (fB n).data.toList = 102 :: Lib.decDigits n := by
      unfold fB
      rw [bytes_app]
      rfl
    rw [e2] at hx
    rcases List.mem_cons.1 hx with rfl | hx
    · decide
    · rcases dec_shape hn with ⟨a, e, ha⟩ | ⟨a, b, e, ha, hb, _⟩
      · rw [e] at hx
        rw [List.mem_singleton.1 hx]
        intro q; rw [q] at ha; simp at ha; omega
      · rw [e] at hx
        simp at hx
        rcases hx with rfl | rfl
        · intro q; rw [q] at ha; simp at ha; omega
        · intro q; rw [q] at hb; simp at hb; omega

theorem text_list {c : Cmd} (h : validC c = true) : (textC c).data.toList = c.p.data.toList ++ 32 :: ((conText c.fk c.fv).data.toList ++ 32 :: (conText c.tk c.tv).data.toList) := by
  unfold textC
  rw [if_pos h]
  simp only [bytes_app, blB, List.append_assoc]
  rfl

theorem text_words {c : Cmd} (h : validC c = true) : wordsB (textC c) = [c.p, conText c.fk c.fv, conText c.tk c.tv] := by
  obtain ⟨h1, h2, h3, _⟩ := (validC_iff c).1 h
  unfold wordsB
  rw [text_list h, wordsL_app _ _ (path_noblank (vp_of_depth h1)), wordsL_app _ _ (con_noblank h2), wordsL_one _ (con_noblank h3)]
  rfl

/-- P42: a text of a command is read. -/
theorem text_read {c : Cmd} (h : validC c = true) : parseC (textC c) = (c, true) := by
  obtain ⟨h1, h2, h3, _⟩ := (validC_iff c).1 h
  unfold parseC
  rw [text_words h]
  simp only [parseR_conText h2, parseR_conText h3]
  rw [if_pos (by simpa using h)]

theorem parseC_some {s : ByteArray} {c : Cmd} (h : parseC s = (c, true)) : validC c = true ∧ wordsB s = [c.p, conText c.fk c.fv, conText c.tk c.tv] := by
  unfold parseC at h
  split at h
  · rename_i a b d hw
    split at h
    · rename_i hc
      simp only [Bool.and_eq_true] at hc
      have e := congrArg Prod.fst h
      simp only at e
      subst e
      refine ⟨hc.2, ?_⟩
      rw [hw]
      have h1 := (parseR_inv (s := b) (k := (parseR b).1) (v := (parseR b).2.1) (by rw [← hc.1.1])).1
      have h2 := (parseR_inv (s := d) (k := (parseR d).1) (v := (parseR d).2.1) (by rw [← hc.1.2])).1
      rw [h1, h2]
    · simp at h
  · simp at h

/-- P43: what is read can be written. -/
theorem read_text {s : ByteArray} {c : Cmd} (h : parseC s = (c, true)) : textC c = s ∧ validC c = true := by
  obtain ⟨hv, hw⟩ := parseC_some h
  refine ⟨?_, hv⟩
  have hl : wordsL s.data.toList = [c.p.data.toList, (conText c.fk c.fv).data.toList, (conText c.tk c.tv).data.toList] := by
    unfold wordsB at hw
    have := congrArg (List.map (fun x : ByteArray => x.data.toList)) hw
    rw [List.map_map] at this
    have hid : ((fun x : ByteArray => x.data.toList) ∘ fun w : List UInt8 => (⟨w.toArray⟩ : ByteArray)) = id := rfl
    rw [hid, List.map_id] at this
    exact this
  have e := (wordsL_join _ _ _ hl).1
  rw [← Lib.mk_data (textC c), ← Lib.mk_data s, text_list hv, e]
  simp

end Go.Proofs.YtnmpbocnbcokeabDoor
