/-
  A COMMAND FROM OUTSIDE: an argument laws.Command.
-/
import Derived.Lib.SmallJoins
import Derived.Test.YtnmpbocnbcokeaaCx
namespace Go.Proofs.Ytnmpbocnbcokeaa
open Go.RowKit Go.Joins Go.ChangeShapes Go.WideShapes
set_option linter.unusedVariables false

theorem len3_parts {α : Type} : ∀ {l : List α}, l.length = 3 → ∃ a b c, l = [a, b, c]
  | [a, b, c], _ => ⟨a, b, c, rfl⟩
theorem len2_parts {α : Type} : ∀ {l : List α}, l.length = 2 → ∃ a b, l = [a, b]
  | [a, b], _ => ⟨a, b, rfl⟩
theorem len5_parts {α : Type} : ∀ {l : List α}, l.length = 5 → ∃ a b c d e, l = [a, b, c, d, e]
  | [a, b, c, d, e], _ => ⟨a, b, c, d, e, rfl⟩

section
variable {H : Type} {enc : TypeId × Value → H} {w : World} {base : Nat} {spare : Nat → Bool} {held : Bool}

theorem open_conCells {fuel : Nat} {c1 c2 : Value} {x : DataW H × List MemPlace} (h : DataW.trod enc Try.prog w base spare held fuel 31 [c1, c2] = some x) :
    ∃ k v : Int, c1 = .int .i64 k ∧ c2 = .int .i64 v := by
  obtain ⟨ys, m, _, _, _, hyl, hg⟩ := DataW.trod_struct Try.underlying31 h
  obtain ⟨y0, y1, rfl⟩ : ∃ y0 y1, ys = [y0, y1] := len2_parts hyl
  have h2 : DataW.trod enc Try.prog w base spare held m 3 (([c1, c2].drop 0).take (Try.prog.cellsOf 3)) = some y0 := hg 0 _ rfl
  have h3 : DataW.trod enc Try.prog w base spare held m 3 (([c1, c2].drop 1).take (Try.prog.cellsOf 3)) = some y1 := hg 1 _ rfl
  rw [(by kernel_rfl : Try.prog.cellsOf 3 = 1)] at h2
  rw [(by kernel_rfl : Try.prog.cellsOf 3 = 1)] at h3
  obtain ⟨k, hk, _⟩ := DataW.trod_int Try.underlying3 (show DataW.trod enc Try.prog w base spare held m 3 [c1] = some y0 from h2)
  obtain ⟨v, hv, _⟩ := DataW.trod_int Try.underlying3 (show DataW.trod enc Try.prog w base spare held m 3 [c2] = some y1 from h3)
  simp at hk hv
  exact ⟨k, v, hk, hv⟩

theorem open_cmdCells {fuel : Nat} {cs : List Value} {x : DataW H × List MemPlace} (h : DataW.trod enc Try.prog w base spare held fuel 33 cs = some x) :
    ∃ c : Cmd, cs = [.string c.p, .int .i64 c.fk, .int .i64 c.fv, .int .i64 c.tk, .int .i64 c.tv] ∧ c.p.size ≤ maxLen := by
  obtain ⟨xs, n, _, _, hl, hxl, hf⟩ := DataW.trod_struct Try.underlying33 h
  have hl5 : cs.length = 5 := hl.trans (by kernel_rfl)
  obtain ⟨c0, c1, c2, c3, c4, rfl⟩ := len5_parts hl5
  obtain ⟨x0, x1, x2, rfl⟩ : ∃ x0 x1 x2, xs = [x0, x1, x2] := len3_parts hxl
  have h0 : DataW.trod enc Try.prog w base spare held n 9 (([c0, c1, c2, c3, c4].drop 0).take (Try.prog.cellsOf 9)) = some x0 := hf 0 _ rfl
  have h1 : DataW.trod enc Try.prog w base spare held n 31 (([c0, c1, c2, c3, c4].drop 1).take (Try.prog.cellsOf 31)) = some x1 := hf 1 _ rfl
  have h2 : DataW.trod enc Try.prog w base spare held n 31 (([c0, c1, c2, c3, c4].drop 3).take (Try.prog.cellsOf 31)) = some x2 := hf 2 _ rfl
  rw [(by kernel_rfl : Try.prog.cellsOf 9 = 1)] at h0
  rw [(by kernel_rfl : Try.prog.cellsOf 31 = 2)] at h1
  rw [(by kernel_rfl : Try.prog.cellsOf 31 = 2)] at h2
  obtain ⟨s, hs, _, hsz⟩ := DataW.trod_string Try.underlying9 (show DataW.trod enc Try.prog w base spare held n 9 [c0] = some x0 from h0)
  obtain ⟨k1, v1, e1, e2⟩ := open_conCells (show DataW.trod enc Try.prog w base spare held n 31 [c1, c2] = some x1 from h1)
  obtain ⟨k2, v2, e3, e4⟩ := open_conCells (show DataW.trod enc Try.prog w base spare held n 31 [c3, c4] = some x2 from h2)
  simp at hs
  subst hs; subst e1; subst e2; subst e3; subst e4
  exact ⟨⟨s, k1, v1, k2, v2⟩, rfl, hsz⟩

set_option maxRecDepth 100000 in
theorem open_command {r : Reach} {b0 : Nat} {v : Value} {d : DataW H} {p : List MemPlace} (hv : Value.okWide Try.prog w r b0 33 v) (h : DataW.Trod enc Try.prog w base spare held 33 v d p) :
    ∃ c : Cmd, v = cmdV c ∧ c.p.size ≤ maxLen := by
  obtain ⟨cs, rfl, hsz⟩ := okWide_struct Try.underlying33 hv
  obtain ⟨fuel, hf⟩ := h
  obtain ⟨c, hc, hs⟩ := open_cmdCells (show DataW.trod enc Try.prog w base spare held fuel 33 cs.toList = some (d, p) from hf)
  refine ⟨c, ?_, hs⟩
  unfold cmdV
  rw [← Array.toArray_toList (xs := cs), hc]
end

end Go.Proofs.Ytnmpbocnbcokeaa
