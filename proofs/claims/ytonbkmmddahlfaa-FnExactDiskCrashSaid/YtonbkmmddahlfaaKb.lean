/-
  ARGUMENTS THAT ARE LISTS OF FILES, opened to their cells.
-/
import Derived.Deep.Strs
import Derived.Test.YtonbkmmddahlfaaFo
import Derived.Test.YtonbkmmddahlfaaKa
namespace Go.Proofs.Ytonbkmmddahlfaa
open Go.ChangeShapes Go.WideShapes Go.Deep Go.RowKit
set_option linter.unusedVariables false

theorem kb_first : (0 : Nat) ≤ 0 := Nat.le_refl 0

theorem lenB_three {α : Type} {l : List α} (h : l.length = 3) : ∃ a b c, l = [a, b, c] := by
  match l, h with
  | [a, b, c], _ => exact ⟨a, b, c, rfl⟩

section
variable {H : Type} {enc : TypeId × Value → H} {w : World} {base : Nat} {spare : Nat → Bool} {held : Bool}

theorem open_blob {fuel : Nat} {cs : List Value} {x : DataW H × List MemPlace} (h : DataW.trod enc Try.prog w base spare held fuel 47 cs = some x) :
    ∃ (b : Bl) (a1 a2 : Option Addr) (c1 c2 : Nat), cs = [.int .i64 b.n, .slice a1 b.s.length c1, .slice a2 b.f.length c2] ∧ IntsAt w a1 b.s.length b.s ∧ IntsAt w a2 b.f.length b.f ∧ b.s.length ≤ maxLen ∧ b.f.length ≤ maxLen := by
  obtain ⟨xs, n, _, _, hl, hxl, hf⟩ := DataW.trod_struct Try.underlying47 h
  have hl3 : cs.length = 3 := hl.trans (by kernel_rfl)
  obtain ⟨u0, u1, u2, rfl⟩ : ∃ c0 c1 c2, cs = [c0, c1, c2] := lenB_three hl3
  obtain ⟨x0, x1, x2, rfl⟩ : ∃ x0 x1 x2, xs = [x0, x1, x2] := lenB_three hxl
  have h0 : DataW.trod enc Try.prog w base spare held n 3 (([u0, u1, u2].drop 0).take (Try.prog.cellsOf 3)) = some x0 := hf 0 _ rfl
  have h1 : DataW.trod enc Try.prog w base spare held n 29 (([u0, u1, u2].drop 1).take (Try.prog.cellsOf 29)) = some x1 := hf 1 _ rfl
  have h2 : DataW.trod enc Try.prog w base spare held n 29 (([u0, u1, u2].drop 2).take (Try.prog.cellsOf 29)) = some x2 := hf 2 _ rfl
  rw [(by kernel_rfl : Try.prog.cellsOf 3 = 1)] at h0
  rw [(by kernel_rfl : Try.prog.cellsOf 29 = 1)] at h1 h2
  obtain ⟨k, hk, _⟩ := DataW.trod_int Try.underlying3 (show DataW.trod enc Try.prog w base spare held n 3 [u0] = some x0 from h0)
  have g1 : DataW.trod enc Try.prog w base spare held n 29 [u1] = some x1 := h1
  have g2 : DataW.trod enc Try.prog w base spare held n 29 [u2] = some x2 := h2
  have hsl : ∀ {u : Value} {y : DataW H × List MemPlace}, DataW.trod enc Try.prog w base spare held n 29 [u] = some y → ∃ a l c, u = .slice a l c := by
    intro u y ht
    rcases open_slice Try.underlying29 ht with ⟨h3, _⟩ | ⟨ad', len', cap', _, _, _, _, h3, _⟩
    · simp at h3; exact ⟨_, _, _, h3⟩
    · simp at h3; exact ⟨_, _, _, h3⟩
  obtain ⟨a1, l1, c1, rfl⟩ := hsl g1
  obtain ⟨a2, l2, c2, rfl⟩ := hsl g2
  obtain ⟨z1, hz1, hm1, _⟩ := open_ints g1
  obtain ⟨z2, hz2, hm2, _⟩ := open_ints g2
  obtain rfl : z1.length = l1 := hz1.1
  obtain rfl : z2.length = l2 := hz2.1
  simp at hk
  subst hk
  exact ⟨⟨k, z1, z2⟩, a1, a2, c1, c2, rfl, hz1, hz2, hm1, hm2⟩

theorem open_blobs {fuel : Nat} {a : Option Addr} {len cap : Nat} {x : DataW H × List MemPlace} (h : DataW.trod enc Try.prog w base spare held fuel 22 [.slice a len cap] = some x) :
    ∃ bs : List Bl, RawsAt w a len bs ∧ len ≤ maxLen ∧ UpTo maxLen bs := by
  rcases open_slice Try.underlying22 h with ⟨h0, _⟩ | ⟨ad, len', cap', m, n, D, Pl, hcs, _, hl, hm, hmm, _, hi⟩
  · simp at h0
    obtain ⟨rfl, rfl, rfl⟩ := h0
    exact ⟨[], ⟨rfl, .inl rfl⟩, by unfold maxLen; omega, fun n hn => by cases hn⟩
  · simp at hcs
    obtain ⟨rfl, rfl, rfl⟩ := hcs
    have hlm : len ≤ m := by rw [hmm]; split <;> omega
    have hel : ∀ i, i < len → ∃ b : Bl, (∃ a1 a2 c1 c2, w.cell? (ad.add (i * 3)) = some (.int .i64 b.n) ∧ w.cell? (ad.add (i * 3 + 1)) = some (.slice a1 b.s.length c1) ∧ w.cell? (ad.add (i * 3 + 2)) = some (.slice a2 b.f.length c2) ∧ IntsAt w a1 b.s.length b.s ∧ IntsAt w a2 b.f.length b.f) ∧ b.s.length ≤ maxLen ∧ b.f.length ≤ maxLen := by
      intro i hil
      obtain ⟨cs, hc, ht⟩ := hi i (by omega)
      rw [show Try.prog.cellsOf 47 = 3 by kernel_rfl] at hc
      obtain ⟨b, a1, a2, c1, c2, rfl, i1, i2, s1, s2⟩ := open_blob ht
      obtain ⟨_, hcl, hat⟩ := World.cells?_some hc
      refine ⟨b, ⟨a1, a2, c1, c2, ?_, ?_, ?_, i1, i2⟩, s1, s2⟩
      · have := hat 0 (by omega)
        rw [Go.Deep.add_add] at this; exact this
      · have := hat 1 (by omega)
        rw [Go.Deep.add_add] at this; exact this
      · have := hat 2 (by omega)
        rw [Go.Deep.add_add] at this; exact this
    obtain ⟨f, hf⟩ : ∃ f : Nat → Bl, ∀ i, i < len → (∃ a1 a2 c1 c2, w.cell? (ad.add (i * 3)) = some (.int .i64 (f i).n) ∧ w.cell? (ad.add (i * 3 + 1)) = some (.slice a1 (f i).s.length c1) ∧ w.cell? (ad.add (i * 3 + 2)) = some (.slice a2 (f i).f.length c2) ∧ IntsAt w a1 (f i).s.length (f i).s ∧ IntsAt w a2 (f i).f.length (f i).f) ∧ (f i).s.length ≤ maxLen ∧ (f i).f.length ≤ maxLen :=
      ⟨fun i => if h : i < len then Classical.choose (hel i h) else ⟨0, [], []⟩, fun i hil => by
        simp only [dif_pos hil]
        exact Classical.choose_spec (hel i hil)⟩
    have hget : ∀ i n, ((List.range len).map f)[i]? = some n → i < len ∧ n = f i := by
      intro i n hn
      rw [List.getElem?_map] at hn
      by_cases hil : i < len
      · rw [List.getElem?_range hil] at hn
        exact ⟨hil, by simpa using hn.symm⟩
      · rw [List.getElem?_eq_none (by simpa using hil)] at hn; cases hn
    refine ⟨(List.range len).map f, ⟨by simp, ?_⟩, by omega, fun n hn => ?_⟩
    · by_cases h0 : len = 0
      · exact .inl h0
      · right
        obtain ⟨⟨_, _, _, _, hc0, _⟩, _⟩ := hf 0 (by omega)
        have hsp := spot_noneI hc0
        obtain ⟨b, off, sp⟩ := ad
        have hsp' : sp = none := by
          simp [Addr.add] at hsp
          exact hsp
        subst hsp'
        have hadd : ∀ j, (⟨b, off, none⟩ : Addr).add j = ⟨b, off + j, none⟩ := fun j => by
          unfold Addr.add
          split
          · rename_i hj; rw [hj]; rfl
          · rfl
        refine ⟨b, off, rfl, fun i n hn => ?_⟩
        obtain ⟨hil, rfl⟩ := hget i n hn
        obtain ⟨⟨a1, a2, c1, c2, e0, e1, e2, i1, i2⟩, _⟩ := hf i hil
        rw [hadd] at e0 e1 e2
        exact ⟨a1, c1, a2, c2, e0, e1, e2, i1, i2⟩
    · obtain ⟨i, hi2⟩ := List.getElem?_of_mem hn
      obtain ⟨hil, rfl⟩ := hget i n hi2
      exact (hf i hil).2
end
end Go.Proofs.Ytonbkmmddahlfaa
