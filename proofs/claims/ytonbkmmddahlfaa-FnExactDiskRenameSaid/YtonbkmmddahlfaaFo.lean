/-
  ARGUMENTS THAT ARE LISTS OF NUMBERS, or lists of these, opened to their cells.
-/
import Derived.Deep.Slices
import Derived.Deep.Fields
import Derived.ChangeSame
import Derived.ChangeArms
import Derived.Test.YtonbkmmddahlfaaFc
namespace Go.Proofs.Ytonbkmmddahlfaa
open Go.ChangeShapes Go.WideShapes Go.Deep

theorem spot_noneI {w : World} {a : Addr} {v : Value} (h : w.cell? a = some v) : a.spot = none := by
  unfold World.cell? at h
  split at h
  · split at h
    · cases h
    · rename_i hs; simpa using hs
  · cases h

section
variable {H : Type} {enc : TypeId × Value → H} {w : World} {base : Nat} {spare : Nat → Bool} {held : Bool}

theorem open_ints {fuel : Nat} {a : Option Addr} {len cap : Nat} {x : DataW H × List MemPlace} (h : DataW.trod enc Try.prog w base spare held fuel 29 [.slice a len cap] = some x) :
    ∃ ns : List Int, IntsAt w a len ns ∧ len ≤ maxLen ∧ len ≤ cap ∧ cap ≤ maxLen := by
  rcases open_slice Try.underlying29 h with ⟨h0, _⟩ | ⟨ad, len', cap', m, n, D, Pl, hcs, _, hl, hm, hmm, _, hi⟩
  · simp at h0
    obtain ⟨rfl, rfl, rfl⟩ := h0
    exact ⟨[], ⟨rfl, .inl rfl⟩, by unfold maxLen; omega, by omega, by unfold maxLen; omega⟩
  · simp at hcs
    obtain ⟨rfl, rfl, rfl⟩ := hcs
    have hlm : len ≤ m := by rw [hmm]; split <;> omega
    have hel : ∀ i, i < len → ∃ k : Int, w.cell? (ad.add i) = some (.int .i64 k) := by
      intro i hil
      obtain ⟨cs, hc, ht⟩ := hi i (by omega)
      rw [show Try.prog.cellsOf 3 = 1 by kernel_rfl] at hc
      obtain ⟨k, hk, _⟩ := DataW.trod_int Try.underlying3 ht
      subst hk
      obtain ⟨_, hcl, hat⟩ := World.cells?_some hc
      refine ⟨k, ?_⟩
      have := hat 0 (by omega)
      rw [Go.Deep.add_add, Nat.mul_one, Nat.add_zero] at this; exact this
    obtain ⟨f, hf⟩ : ∃ f : Nat → Int, ∀ i, i < len → w.cell? (ad.add i) = some (.int .i64 (f i)) :=
      ⟨fun i => if h : i < len then Classical.choose (hel i h) else 0, fun i hil => by
        simp only [dif_pos hil]
        exact Classical.choose_spec (hel i hil)⟩
    have hget : ∀ i n, ((List.range len).map f)[i]? = some n → i < len ∧ n = f i := by
      intro i n hn
      rw [List.getElem?_map] at hn
      by_cases hil : i < len
      · rw [List.getElem?_range hil] at hn
        exact ⟨hil, by simpa using hn.symm⟩
      · rw [List.getElem?_eq_none (by simpa using hil)] at hn; cases hn
    refine ⟨(List.range len).map f, ⟨by simp, ?_⟩, by omega, by omega, by omega⟩
    by_cases h0 : len = 0
    · exact .inl h0
    · right
      have hsp := spot_noneI (hf 0 (by omega))
      obtain ⟨b, off, sp⟩ := ad
      have hsp' : sp = none := by
        simp [Addr.add] at hsp
        exact hsp
      subst hsp'
      refine ⟨b, off, rfl, fun i n hn => ?_⟩
      obtain ⟨hil, rfl⟩ := hget i n hn
      have c0 := hf i hil
      rw [add_off] at c0
      exact c0

theorem open_tab {fuel : Nat} {a : Option Addr} {len cap : Nat} {x : DataW H × List MemPlace} (h : DataW.trod enc Try.prog w base spare held fuel 87 [.slice a len cap] = some x) :
    ∃ bs : List (List Int), TabAt w a len bs ∧ len ≤ maxLen ∧ ShortT maxLen bs := by
  rcases open_slice Try.underlying87 h with ⟨h0, _⟩ | ⟨ad, len', cap', m, n, D, Pl, hcs, _, hl, hm, hmm, _, hi⟩
  · simp at h0
    obtain ⟨rfl, rfl, rfl⟩ := h0
    exact ⟨[], ⟨rfl, .inl rfl⟩, by unfold maxLen; omega, fun n hn => by cases hn⟩
  · simp at hcs
    obtain ⟨rfl, rfl, rfl⟩ := hcs
    have hlm : len ≤ m := by rw [hmm]; split <;> omega
    have hel : ∀ i, i < len → ∃ z : List Int, z.length ≤ maxLen ∧ ∃ ai ci, w.cell? (ad.add i) = some (.slice ai z.length ci) ∧ IntsAt w ai z.length z := by
      intro i hil
      obtain ⟨cs, hc, ht⟩ := hi i (by omega)
      rw [show Try.prog.cellsOf 29 = 1 by kernel_rfl] at hc
      obtain ⟨_, hcl, hat⟩ := World.cells?_some hc
      have h0 := hat 0 (by omega)
      rw [Go.Deep.add_add, Nat.mul_one, Nat.add_zero] at h0
      obtain ⟨c, rfl⟩ : ∃ c, cs = [c] := by
        match cs, hcl with
        | [c], _ => exact ⟨c, rfl⟩
      have h0 : w.cell? (ad.add i) = some c := h0
      have hsl : ∃ ai li ci, c = .slice ai li ci := by
        rcases open_slice Try.underlying29 ht with ⟨h1, _⟩ | ⟨ad', len', cap', _, _, _, _, h1, _⟩
        · simp at h1; exact ⟨_, _, _, h1⟩
        · simp at h1; exact ⟨_, _, _, h1⟩
      obtain ⟨ai, li, ci, rfl⟩ := hsl
      obtain ⟨z, hz, hzl, _⟩ := open_ints ht
      obtain rfl : z.length = li := hz.1
      exact ⟨z, hzl, ai, ci, h0, hz⟩
    obtain ⟨f, hf⟩ : ∃ f : Nat → List Int, ∀ i, i < len → (f i).length ≤ maxLen ∧ ∃ ai ci, w.cell? (ad.add i) = some (.slice ai (f i).length ci) ∧ IntsAt w ai (f i).length (f i) :=
      ⟨fun i => if h : i < len then Classical.choose (hel i h) else [], fun i hil => by
        simp only [dif_pos hil]
        exact Classical.choose_spec (hel i hil)⟩
    have hget : ∀ i n, ((List.range len).map f)[i]? = some n → i < len ∧ n = f i := by
      intro i n hn
      rw [List.getElem?_map] at hn
      by_cases hil : i < len
      · rw [List.getElem?_range hil] at hn
        exact ⟨hil, by simpa using hn.symm⟩
      · rw [List.getElem?_eq_none (by simpa using hil)] at hn; cases hn
    refine ⟨(List.range len).map f, ⟨by simp, ?_⟩, by omega, fun n hn => ?_⟩
    · by_cases h0 : len = 0
      · exact .inl h0
      · right
        obtain ⟨_, _, _, hc0, _⟩ := hf 0 (by omega)
        have hsp := spot_noneI hc0
        obtain ⟨b, off, sp⟩ := ad
        have hsp' : sp = none := by
          simp [Addr.add] at hsp
          exact hsp
        subst hsp'
        refine ⟨b, off, rfl, fun i n hn => ?_⟩
        obtain ⟨hil, rfl⟩ := hget i n hn
        obtain ⟨_, ai, ci, c0, hz⟩ := hf i hil
        rw [add_off] at c0
        exact ⟨ai, ci, c0, hz⟩
    · obtain ⟨i, hi2⟩ := List.getElem?_of_mem hn
      obtain ⟨hil, rfl⟩ := hget i n hi2
      exact (hf i hil).1
end

end Go.Proofs.Ytonbkmmddahlfaa
