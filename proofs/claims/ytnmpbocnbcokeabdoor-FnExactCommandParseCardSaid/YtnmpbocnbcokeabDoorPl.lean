/-
  PLAIN MATHEMATICS: texts of contents and what they name, for the laws.
-/
import Derived.Test.YtnmpbocnbcokeabDoorCp
namespace Go.Proofs.YtnmpbocnbcokeabDoor

theorem parseR_conText {k v : Int} (h : validB k v = true) : parseR (conText k v) = (k, v, true) := by
  have h' := h
  unfold validB at h'
  simp at h'
  rcases h' with ⟨rfl, rfl | rfl⟩ | ⟨rfl, h0, h9⟩
  · rfl
  · rfl
  · obtain ⟨n, rfl⟩ := Int.eq_ofNat_of_zero_le h0
    rw [conText_file (by omega), parseR_file (by omega)]

theorem parseR_inv {s : ByteArray} {k v : Int} (h : parseR s = (k, v, true)) :
    conText k v = s ∧ validB k v = true ∧ ((k = 0 ∧ v = 0 ∧ s = ⟨#[45]⟩) ∨ (k = 1 ∧ v = 0 ∧ s = ⟨#[100]⟩) ∨ (k = 2 ∧ ∃ n : Nat, n < 100 ∧ v = n ∧ s = fB n)) := by
  unfold parseR at h
  split at h
  · rename_i e
    simp at h
    obtain ⟨rfl, rfl⟩ := h
    subst e
    exact ⟨rfl, rfl, .inl ⟨rfl, rfl, rfl⟩⟩
  · split at h
    · rename_i e
      simp at h
      obtain ⟨rfl, rfl⟩ := h
      subst e
      exact ⟨rfl, rfl, .inr (.inl ⟨rfl, rfl, rfl⟩)⟩
    · cases hf : findF s with
      | none => rw [hf] at h; simp at h
      | some n =>
        rw [hf] at h
        simp at h
        obtain ⟨rfl, rfl⟩ := h
        obtain ⟨hn, he⟩ := findF_some hf
        refine ⟨by rw [conText_file hn, he], ?_, .inr (.inr ⟨rfl, n, hn, rfl, he⟩)⟩
        unfold validB; simp; omega

theorem parseR_false {s : ByteArray} (h45 : s ≠ ⟨#[45]⟩) (h100 : s ≠ ⟨#[100]⟩) (h : ∀ n, n < 100 → s ≠ fB n) : (parseR s).2.2 = false := by rw [parseR_none h45 h100 h]

theorem dec_shape {n : Nat} (h : n < 100) : (∃ a : UInt8, Lib.decDigits n = [a] ∧ a.toNat = 48 + n) ∨ (∃ a b : UInt8, Lib.decDigits n = [a, b] ∧ a.toNat = 48 + n / 10 ∧ b.toNat = 48 + n % 10 ∧ 10 ≤ n) := by
  by_cases h1 : n < 10
  · exact .inl ⟨_, Lib.decDigits_one h1, toNat_digit h1⟩
  · exact .inr ⟨_, _, Lib.decDigits_two h1 h, toNat_digit (by omega), toNat_digit (by omega), by omega⟩

/-- A blank behind: no text of a content. -/
theorem parseR_blank (s : ByteArray) (hs : 1 ≤ s.size) : (parseR (s ++ ⟨#[32]⟩)).2.2 = false := by
  have hd : (s ++ ⟨#[32]⟩).data.toList = s.data.toList ++ [32] := by rw [ByteArray.data_append]; simp
  have hne : s.data.toList ≠ [] := fun e => by rw [Lib.size_eq, e] at hs; simp at hs
  have hl : (s ++ ⟨#[32]⟩).data.toList.getLast? = some 32 := by rw [hd]; simp
  refine parseR_false (fun e => ?_) (fun e => ?_) (fun n hn e => ?_)
  · rw [e] at hl; simp at hl
  · rw [e] at hl; simp at hl
  · rw [e, fB_data] at hl
    rcases dec_shape hn with ⟨a, ha, h1⟩ | ⟨a, b, hab, h1, h2, -⟩
    · rw [ha] at hl
      simp at hl
      subst hl
      simp at h1; omega
    · rw [hab] at hl
      simp at hl
      subst hl
      simp at h2; omega

/-- A zero in front: no text of a content. -/
theorem parseR_zero {n : Nat} (hn : n < 100) : (parseR (⟨#[102, 48]⟩ ++ decB n)).2.2 = false := by
  have hd : ((⟨#[102, 48]⟩ : ByteArray) ++ decB n).data.toList = 102 :: 48 :: Lib.decDigits n := by unfold decB; rw [ByteArray.data_append]; simp
  refine parseR_false (fun e => ?_) (fun e => ?_) (fun m hm e => ?_)
  · rw [e] at hd; simp at hd
  · rw [e] at hd; simp at hd
  · rw [e, fB_data] at hd
    simp at hd
    rcases dec_shape hm with ⟨a, ha, h1⟩ | ⟨a, b, hab, h1, h2, h3⟩
    · rw [ha] at hd
      simp at hd
      rcases dec_shape hn with ⟨c, hc, -⟩ | ⟨c, d, hc, -⟩
      · rw [hc] at hd; simp at hd
      · rw [hc] at hd; simp at hd
    · rw [hab] at hd
      simp at hd
      have ha := hd.1
      subst ha
      simp at h1; omega

theorem fB_tail (n : Nat) : (fB n).extract 1 (fB n).size = decB n := by
  have := (fB_facts n).2.2
  rw [← Lib.mk_data ((fB n).extract 1 (fB n).size), this]
  rfl

end Go.Proofs.YtnmpbocnbcokeabDoor
