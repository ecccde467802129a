/-
  LAWS OF CHAPTER 31: parts of lists of files.
-/
import Derived.Test.YtaehgdglbplomaaJx
namespace Go.Proofs.Ytaehgdglbplomaa
open Go.RowKit
set_option linter.unusedVariables false

theorem jxp_first : (0 : Nat) ≤ 0 := Nat.le_refl 0

theorem LsAll.split {W : World} {vs : List Value} {A B : List (List Int)} (h : LsAll W vs (A ++ B)) : LsAll W (vs.take A.length) A ∧ LsAll W (vs.drop A.length) B := by
  have hl := h.1
  rw [List.length_append] at hl
  refine ⟨⟨by rw [List.length_take]; omega, fun i z v hz hv => ?_⟩, ⟨by rw [List.length_drop]; omega, fun i z v hz hv => ?_⟩⟩
  · have hi := (List.getElem?_eq_some_iff.1 hz).1
    rw [List.getElem?_take, if_pos hi] at hv
    exact h.2 i z v (by rw [List.getElem?_append_left hi]; exact hz) hv
  · rw [List.getElem?_drop] at hv
    exact h.2 (A.length + i) z v (by rw [List.getElem?_append_right (by omega), Nat.add_sub_cancel_left]; exact hz) hv
theorem LsAll.join {W : World} {us vs : List Value} {A B : List (List Int)} (h : LsAll W us A) (k : LsAll W vs B) : LsAll W (us ++ vs) (A ++ B) := by
  have h1 := h.1
  refine ⟨by rw [List.length_append, List.length_append, h.1, k.1], fun i z v hz hv => ?_⟩
  by_cases hi : i < A.length
  · rw [List.getElem?_append_left hi] at hz
    rw [List.getElem?_append_left (by omega)] at hv
    exact h.2 i z v hz hv
  · rw [List.getElem?_append_right (by omega)] at hz
    rw [List.getElem?_append_right (by omega)] at hv
    exact k.2 _ z v hz (by rw [← h1]; exact hv)
theorem ls_front {W : World} {vs : List Value} {bs : List Bl} (h : LsAll W vs (listsB bs)) {k : Nat} (hk : k ≤ bs.length) : LsAll W (vs.take (2 * k)) (listsB (bs.take k)) := by
  rw [← List.take_append_drop k bs, listsB_append] at h
  have := h.split.1
  rwa [listsB_len, List.length_take, Nat.min_eq_left hk] at this
theorem ls_back {W : World} {vs : List Value} {bs : List Bl} (h : LsAll W vs (listsB bs)) {k : Nat} (hk : k ≤ bs.length) : LsAll W (vs.drop (2 * k)) (listsB (bs.drop k)) := by
  rw [← List.take_append_drop k bs, listsB_append] at h
  have := h.split.2
  rwa [listsB_len, List.length_take, Nat.min_eq_left hk] at this
theorem flat_split {bs : List Bl} {vs : List Value} (hv : vs.length = 2 * bs.length) {k : Nat} (hk : k ≤ bs.length) : flatB bs vs = flatB (bs.take k) (vs.take (2 * k)) ++ flatB (bs.drop k) (vs.drop (2 * k)) := by
  rw [← flatB_append _ _ _ _ (by rw [List.length_take, List.length_take]; omega), List.take_append_drop, List.take_append_drop]
theorem front_len {bs : List Bl} {vs : List Value} (hv : vs.length = 2 * bs.length) {k : Nat} (hk : k ≤ bs.length) : (flatB (bs.take k) (vs.take (2 * k))).length = k * 3 := by
  rw [flatB_len _ _ (by rw [List.length_take, List.length_take]; omega), List.length_take, Nat.min_eq_left hk]
theorem back_len {bs : List Bl} {vs : List Value} (hv : vs.length = 2 * bs.length) {k : Nat} (hk : k ≤ bs.length) : (flatB (bs.drop k) (vs.drop (2 * k))).length = (bs.length - k) * 3 := by
  rw [flatB_len _ _ (by rw [List.length_drop, List.length_drop]; omega), List.length_drop]
theorem part_front {W : World} {base g len cap : Nat} {bs : List Bl} {vs : List Value} (h : W.ownsRow base 45 3 (.slice (some ⟨g, 0, none⟩) len cap) len (flatB bs vs)) (hl : bs.length = len) (hv : vs.length = 2 * bs.length) {k : Nat} (hk : k ≤ bs.length) :
    ∀ j u, (flatB (bs.take k) (vs.take (2 * k)))[j]? = some u → W.cell? ((⟨g, 0, none⟩ : Addr).add j) = some u := by
  intro j u hj
  have hjl := (List.getElem?_eq_some_iff.1 hj).1
  rw [front_len hv hk] at hjl
  have hj2 : (flatB bs vs)[j]? = some u := by rw [flat_split hv hk, List.getElem?_append_left (by rw [front_len hv hk]; exact hjl)]; exact hj
  rw [show (⟨g, 0, none⟩ : Addr).add j = ⟨g, 0 + j, none⟩ by simp [Addr.add] <;> (intro h; omega)]
  have : k * 3 ≤ len * 3 := Nat.mul_le_mul_right 3 (by omega)
  rw [Nat.zero_add, h.cellAt j (by omega)]
  exact hj2
theorem part_back {W : World} {base g len cap : Nat} {bs : List Bl} {vs : List Value} (h : W.ownsRow base 45 3 (.slice (some ⟨g, 0, none⟩) len cap) len (flatB bs vs)) (hl : bs.length = len) (hv : vs.length = 2 * bs.length) {k : Nat} (hk : k ≤ bs.length) :
    ∀ j u, (flatB (bs.drop k) (vs.drop (2 * k)))[j]? = some u → W.cell? ((⟨g, k * 3, none⟩ : Addr).add j) = some u := by
  intro j u hj
  have hjl := (List.getElem?_eq_some_iff.1 hj).1
  rw [back_len hv hk] at hjl
  have hj2 : (flatB bs vs)[k * 3 + j]? = some u := by rw [flat_split hv hk, List.getElem?_append_right (by rw [front_len hv hk]; omega), front_len hv hk, Nat.add_sub_cancel_left]; exact hj
  rw [show (⟨g, k * 3, none⟩ : Addr).add j = ⟨g, k * 3 + j, none⟩ by simp [Addr.add] <;> (intro h; omega)]
  rw [h.cellAt (k * 3 + j) (by omega)]
  exact hj2
theorem flat_one : ∀ (bs : List Bl) (vs : List Value), (∀ v ∈ vs, v.oneCell' = true) → ∀ u ∈ flatB bs vs, u.oneCell' = true
  | [], vs, h, u, hu => by simp [flatB] at hu
  | b :: bs, [], h, u, hu => by simp [flatB] at hu
  | b :: bs, [x], h, u, hu => by simp [flatB] at hu
  | b :: bs, x :: y :: vs, h, u, hu => by
    simp only [flatB, List.mem_cons] at hu
    rcases hu with rfl | rfl | rfl | hu
    · rfl
    · exact h _ (by simp)
    · exact h _ (by simp)
    · exact flat_one bs vs (fun v hv => h v (by simp [hv])) u hu
theorem ls_cell1 {W : World} {vs : List Value} {zss : List (List Int)} (h : LsAll W vs zss) : ∀ v ∈ vs, v.oneCell' = true := by
  intro v hv
  obtain ⟨i, hi⟩ := List.mem_iff_getElem?.1 hv
  have hlt := (List.getElem?_eq_some_iff.1 hi).1
  obtain ⟨z, hz⟩ : ∃ z, zss[i]? = some z := ⟨_, List.getElem?_eq_getElem (by have := h.1; omega)⟩
  obtain ⟨a, c, rfl, -⟩ := (h.2 i z v hz hi).out
  rfl
/-- Two parts, one behind the other, are few small files. -/
theorem dk_parts {W : World} {base n : Nat} {v : Value} {A B : List Bl} {us vs : List Value} (h : W.ownsRow base 45 3 v n (flatB A us ++ flatB B vs)) (hn : n = (A ++ B).length) (ha : LsAll W us (listsB A)) (hb : LsAll W vs (listsB B)) (hf : Fine (A ++ B)) :
    ∃ a c, v = .slice a n c ∧ Dk W a n (A ++ B) := by
  subst hn
  rw [← flatB_append A us B vs (by rw [ha.1, listsB_len])] at h
  obtain ⟨a, c, rfl, h1, -⟩ := blobs_of h (by rw [listsB_append]; exact ha.join hb)
  exact ⟨a, c, rfl, h1, hf.1, hf⟩

end Go.Proofs.Ytaehgdglbplomaa
