/-
  Texts of this proof, one behind the other: On, Oc, Lo.
-/
import Derived.Deep.Slices
import Derived.Deep.Fields
import Derived.ChangeSame
import Derived.ChangeArms
import Derived.Lib.SmallJoins
import Derived.Test.YtnboodcllmdjeaaTv
import Derived.Test.YtnboodcllmdjeaaCx
import Derived.Test.YtnboodcllmdjeaaLc
/-
  AN ARGUMENT THAT IS A LIST OF NODES, opened to its cells.
-/
namespace Go.Proofs.Ytnboodcllmdjeaa
open Go.ChangeShapes Go.WideShapes Go.Deep

theorem len_three {α : Type} : ∀ {l : List α}, l.length = 3 → ∃ a b c, l = [a, b, c]
  | [a, b, c], _ => ⟨a, b, c, rfl⟩
theorem len_two {α : Type} : ∀ {l : List α}, l.length = 2 → ∃ a b, l = [a, b]
  | [a, b], _ => ⟨a, b, rfl⟩

theorem spot_none {w : World} {a : Addr} {v : Value} (h : w.cell? a = some v) : a.spot = none := by
  unfold World.cell? at h
  split at h
  · split at h
    · cases h
    · rename_i hs; simpa using hs
  · cases h

section
variable {H : Type} {enc : TypeId × Value → H} {w : World} {base : Nat} {spare : Nat → Bool} {held : Bool}

end

end Go.Proofs.Ytnboodcllmdjeaa

/-
  A COMMAND FROM OUTSIDE: an argument laws.Command.
-/
namespace Go.Proofs.Ytnboodcllmdjeaa
open Go.RowKit Go.Joins Go.ChangeShapes Go.WideShapes
set_option linter.unusedVariables false

theorem len3_parts {α : Type} : ∀ {l : List α}, l.length = 3 → ∃ a b c, l = [a, b, c]
  | [a, b, c], _ => ⟨a, b, c, rfl⟩
theorem len2_parts {α : Type} : ∀ {l : List α}, l.length = 2 → ∃ a b, l = [a, b]
  | [a, b], _ => ⟨a, b, rfl⟩
theorem len5_parts {α : Type} : ∀ {l : List α}, l.length = 5 → ∃ a b c d e, l = [a, b, c, d, e]
  | [a, b, c, d, e], _ => ⟨a, b, c, d, e, rfl⟩

section
variable {H : Type} {enc : TypeId × Value → H} {w : World} {base : Nat} {spare : Nat → Bool} {held : Bool}

theorem open_conCells {fuel : Nat} {c1 c2 : Value} {x : DataW H × List MemPlace} (h : DataW.trod enc Try.prog w base spare held fuel 62 [c1, c2] = some x) :
    ∃ k v : Int, c1 = .int .i64 k ∧ c2 = .int .i64 v := by
  obtain ⟨ys, m, _, _, _, hyl, hg⟩ := DataW.trod_struct Try.underlying62 h
  obtain ⟨y0, y1, rfl⟩ : ∃ y0 y1, ys = [y0, y1] := len2_parts hyl
  have h2 : DataW.trod enc Try.prog w base spare held m 3 (([c1, c2].drop 0).take (Try.prog.cellsOf 3)) = some y0 := hg 0 _ rfl
  have h3 : DataW.trod enc Try.prog w base spare held m 3 (([c1, c2].drop 1).take (Try.prog.cellsOf 3)) = some y1 := hg 1 _ rfl
  rw [(by kernel_rfl : Try.prog.cellsOf 3 = 1)] at h2
  rw [(by kernel_rfl : Try.prog.cellsOf 3 = 1)] at h3
  obtain ⟨k, hk, _⟩ := DataW.trod_int Try.underlying3 (show DataW.trod enc Try.prog w base spare held m 3 [c1] = some y0 from h2)
  obtain ⟨v, hv, _⟩ := DataW.trod_int Try.underlying3 (show DataW.trod enc Try.prog w base spare held m 3 [c2] = some y1 from h3)
  simp at hk hv
  exact ⟨k, v, hk, hv⟩

theorem open_cmdCells {fuel : Nat} {cs : List Value} {x : DataW H × List MemPlace} (h : DataW.trod enc Try.prog w base spare held fuel 64 cs = some x) :
    ∃ c : Cmd, cs = [.string c.p, .int .i64 c.fk, .int .i64 c.fv, .int .i64 c.tk, .int .i64 c.tv] ∧ c.p.size ≤ maxLen := by
  obtain ⟨xs, n, _, _, hl, hxl, hf⟩ := DataW.trod_struct Try.underlying64 h
  have hl5 : cs.length = 5 := hl.trans (by kernel_rfl)
  obtain ⟨c0, c1, c2, c3, c4, rfl⟩ := len5_parts hl5
  obtain ⟨x0, x1, x2, rfl⟩ : ∃ x0 x1 x2, xs = [x0, x1, x2] := len3_parts hxl
  have h0 : DataW.trod enc Try.prog w base spare held n 9 (([c0, c1, c2, c3, c4].drop 0).take (Try.prog.cellsOf 9)) = some x0 := hf 0 _ rfl
  have h1 : DataW.trod enc Try.prog w base spare held n 62 (([c0, c1, c2, c3, c4].drop 1).take (Try.prog.cellsOf 62)) = some x1 := hf 1 _ rfl
  have h2 : DataW.trod enc Try.prog w base spare held n 62 (([c0, c1, c2, c3, c4].drop 3).take (Try.prog.cellsOf 62)) = some x2 := hf 2 _ rfl
  rw [(by kernel_rfl : Try.prog.cellsOf 9 = 1)] at h0
  rw [(by kernel_rfl : Try.prog.cellsOf 62 = 2)] at h1
  rw [(by kernel_rfl : Try.prog.cellsOf 62 = 2)] at h2
  obtain ⟨s, hs, _, hsz⟩ := DataW.trod_string Try.underlying9 (show DataW.trod enc Try.prog w base spare held n 9 [c0] = some x0 from h0)
  obtain ⟨k1, v1, e1, e2⟩ := open_conCells (show DataW.trod enc Try.prog w base spare held n 62 [c1, c2] = some x1 from h1)
  obtain ⟨k2, v2, e3, e4⟩ := open_conCells (show DataW.trod enc Try.prog w base spare held n 62 [c3, c4] = some x2 from h2)
  simp at hs
  subst hs; subst e1; subst e2; subst e3; subst e4
  exact ⟨⟨s, k1, v1, k2, v2⟩, rfl, hsz⟩

set_option maxRecDepth 100000 in
theorem open_command {r : Reach} {b0 : Nat} {v : Value} {d : DataW H} {p : List MemPlace} (hv : Value.okWide Try.prog w r b0 64 v) (h : DataW.Trod enc Try.prog w base spare held 64 v d p) :
    ∃ c : Cmd, v = cmdV c ∧ c.p.size ≤ maxLen := by
  obtain ⟨cs, rfl, hsz⟩ := okWide_struct Try.underlying64 hv
  obtain ⟨fuel, hf⟩ := h
  obtain ⟨c, hc, hs⟩ := open_cmdCells (show DataW.trod enc Try.prog w base spare held fuel 64 cs.toList = some (d, p) from hf)
  refine ⟨c, ?_, hs⟩
  unfold cmdV
  rw [← Array.toArray_toList (xs := cs), hc]
end

end Go.Proofs.Ytnboodcllmdjeaa

/-
  AN ARGUMENT THAT IS A LIST OF COMMANDS, opened to its cells.
-/
namespace Go.Proofs.Ytnboodcllmdjeaa
open Go.ChangeShapes Go.WideShapes Go.Deep

section
variable {H : Type} {enc : TypeId × Value → H} {w : World} {base : Nat} {spare : Nat → Bool} {held : Bool}

theorem open_commands {fuel : Nat} {a : Option Addr} {len cap : Nat} {x : DataW H × List MemPlace} (h : DataW.trod enc Try.prog w base spare held fuel 38 [.slice a len cap] = some x) :
    ∃ cs : List Cmd, CmdsAt w a len cs ∧ len ≤ maxLen ∧ ShortC maxLen cs := by
  rcases open_slice Try.underlying38 h with ⟨h0, _⟩ | ⟨ad, len', cap', m, n, D, Pl, hcs, _, hl, hm, hmm, _, hi⟩
  · simp at h0
    obtain ⟨rfl, rfl, rfl⟩ := h0
    exact ⟨[], ⟨rfl, .inl rfl⟩, by unfold maxLen; omega, fun n hn => by cases hn⟩
  · simp at hcs
    obtain ⟨rfl, rfl, rfl⟩ := hcs
    have hlm : len ≤ m := by rw [hmm]; split <;> omega
    have hel : ∀ i, i < len → ∃ c : Cmd, w.cell? (ad.add (i * 5)) = some (.string c.p) ∧ w.cell? (ad.add (i * 5 + 1)) = some (.int .i64 c.fk) ∧ w.cell? (ad.add (i * 5 + 2)) = some (.int .i64 c.fv) ∧ w.cell? (ad.add (i * 5 + 3)) = some (.int .i64 c.tk) ∧ w.cell? (ad.add (i * 5 + 4)) = some (.int .i64 c.tv) ∧ c.p.size ≤ maxLen := by
      intro i hil
      obtain ⟨cs, hc, ht⟩ := hi i (by omega)
      rw [show Try.prog.cellsOf 64 = 5 by kernel_rfl] at hc
      obtain ⟨c, rfl, hsz⟩ := open_cmdCells ht
      obtain ⟨_, hcl, hat⟩ := World.cells?_some hc
      refine ⟨c, ?_, ?_, ?_, ?_, ?_, hsz⟩
      · have := hat 0 (by omega)
        rw [Go.Deep.add_add] at this; exact this
      · have := hat 1 (by omega)
        rw [Go.Deep.add_add] at this; exact this
      · have := hat 2 (by omega)
        rw [Go.Deep.add_add] at this; exact this
      · have := hat 3 (by omega)
        rw [Go.Deep.add_add] at this; exact this
      · have := hat 4 (by omega)
        rw [Go.Deep.add_add] at this; exact this
    obtain ⟨f, hf⟩ : ∃ f : Nat → Cmd, ∀ i, i < len → w.cell? (ad.add (i * 5)) = some (.string (f i).p) ∧ w.cell? (ad.add (i * 5 + 1)) = some (.int .i64 (f i).fk) ∧ w.cell? (ad.add (i * 5 + 2)) = some (.int .i64 (f i).fv) ∧ w.cell? (ad.add (i * 5 + 3)) = some (.int .i64 (f i).tk) ∧ w.cell? (ad.add (i * 5 + 4)) = some (.int .i64 (f i).tv) ∧ (f i).p.size ≤ maxLen :=
      ⟨fun i => if h : i < len then Classical.choose (hel i h) else ⟨⟨#[]⟩, 0, 0, 0, 0⟩, fun i hil => by
        simp only [dif_pos hil]
        exact Classical.choose_spec (hel i hil)⟩
    have hget : ∀ i n, ((List.range len).map f)[i]? = some n → i < len ∧ n = f i := by
      intro i n hn
      rw [List.getElem?_map] at hn
      by_cases hil : i < len
      · rw [List.getElem?_range hil] at hn
        exact ⟨hil, by simpa using hn.symm⟩
      · rw [List.getElem?_eq_none (by simpa using hil)] at hn; cases hn
    refine ⟨(List.range len).map f, ⟨by simp, ?_⟩, by omega, fun n hn => ?_⟩
    · by_cases h0 : len = 0
      · exact .inl h0
      · right
        have hsp := spot_none (hf 0 (by omega)).1
        obtain ⟨b, off, sp⟩ := ad
        have hsp' : sp = none := by
          simp [Addr.add] at hsp
          exact hsp
        subst hsp'
        have hadd : ∀ j, (⟨b, off, none⟩ : Addr).add j = ⟨b, off + j, none⟩ := fun j => by
          unfold Addr.add
          split
          · rename_i hj; rw [hj]; rfl
          · rfl
        refine ⟨b, off, rfl, fun i n hn => ?_⟩
        obtain ⟨hil, rfl⟩ := hget i n hn
        obtain ⟨c0, c1, c2, c3, c4, _⟩ := hf i hil
        rw [hadd] at c0 c1 c2 c3 c4
        exact ⟨c0, c1, c2, c3, c4⟩
    · obtain ⟨i, hi2⟩ := List.getElem?_of_mem hn
      obtain ⟨hil, rfl⟩ := hget i n hi2
      exact (hf i hil).2.2.2.2.2
end

end Go.Proofs.Ytnboodcllmdjeaa
