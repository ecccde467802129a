/-
  append of a list of numbers to a list of the call's own, wherever the first lies, nil or not, at an operation that is guarded or not.
-/
import Derived.Laws.OwnMore
import Derived.Laws.AppendOwnNone
import Derived.Test.YtonbkmmddahlfaaFd
namespace Go.Proofs.Ytonbkmmddahlfaa
open Go.RowKit
set_option linter.unusedVariables false

theorem ints_cellsA {W : World} {ad : Addr} {len : Nat} {zs : List Int} (h : IntsAt W (some ad) len zs) : ∀ j u, (intsV zs)[j]? = some u → W.cell? (ad.add j) = some u := by
  intro j u hj
  obtain ⟨h1, h0 | ⟨b, off, ha, hc⟩⟩ := h
  · have := (List.getElem?_eq_some_iff.1 hj).1
    rw [intsV_length] at this
    omega
  · cases ha
    exact ints_cells ⟨h1, .inr ⟨b, off, rfl, hc⟩⟩ j u hj

theorem wpList_wanted {P : Program} {w : World} {ops : Array Oper} {rest : List Oper} {o : Oper} {a : Act} {Q : Exit → Act → World → Prop} (hw : Region.wanted o (yielded ops a.tmps) = true)
    (h : ∀ K : Act → World → Prop, (∀ a w, wpList P ops Q rest a w → K a w) → o.wp P a w K Q) : wpList P ops Q (o :: rest) a w :=
  wpList_step fun K hK => by rw [if_pos hw]; exact h K hK

/-- At an operation that is guarded or not. -/
theorem wpList_append_ints {w : World} {ops : Array Oper} {rest : List Oper} {o : Oper} {a : Act} {Q : Exit → Act → World → Prop} (hw : Region.wanted o (yielded ops a.tmps) = true) (s x : Operand)
    (ho : o.op = .call { callee := .builtin .append, args := #[s, x], argTypes := #[29, 29] })
    (base : Nat) (v : Value) (acc : List Int) (hs : a.eval s = v) (hown : w.ownsRow base 3 1 v acc.length (intsV acc))
    (ad : Option Addr) (len cap : Nat) (zs : List Int) (hx : a.eval x = .slice ad len cap) (hi : IntsAt w ad len zs) (hc : ad = none → cap = 0) (hlen : acc.length + zs.length ≤ 2097152) (hb : base ≤ w.heap.size)
    (h : ∀ v3 w3, w3.ownsRow base 3 1 v3 (acc ++ zs).length (intsV (acc ++ zs)) → w.grownBy w3 v.ownBlock → wpList Try.prog ops Q rest (a.put o.dst v3) w3) : wpList Try.prog ops Q (o :: rest) a w := by
  obtain ⟨i0, hi0, hz0, hz1, hz2⟩ := info_parts infoInt
  have hl := hi.1
  refine wpList_wanted hw fun K hK => ?_
  match ad, hx, hi, hc with
  | none, hx, hi, hc =>
    have h0 : len = 0 := by
      obtain ⟨_, h0 | ⟨b, off, ha, _⟩⟩ := hi
      · exact h0
      · cases ha
    have hz : zs = [] := List.length_eq_zero_iff.1 (by omega)
    subst hz; subst h0
    rw [hc rfl] at hx
    have hrun := run_append_owned_none (P := Try.prog) (w := w) base 29 o.type 3 i0 1 Try.underlying29 hi0 v acc.length (intsV acc) hown
    unfold Oper.wp
    simp [execOp, ho, resolve, invoke, builtin, hs, hx, hrun, Result.andThen]
    exact hK _ _ (h v w (by rw [List.append_nil]; exact hown) ⟨rfl, rfl, rfl, Nat.le_refl _, fun _ _ _ => rfl⟩)
  | some ad, hx, hi, hc =>
    exact wp_append_own w s x 29 ho base 3 i0 (.int .i64 0) 1 8 Try.underlying29 hi0 hz0 hz1 hz2 rfl (by decide) v acc.length (intsV acc) hs hown ad len cap (intsV zs) hx (by rw [intsV_length]; omega) (ints_cellsA hi) (intsV_cells _) (by unfold maxLen; omega) (by omega) hb fun v' w' h1 h2 _ => hK _ _ (h v' w' (own_join1 (by rw [hl]; exact h1)) h2)

end Go.Proofs.Ytonbkmmddahlfaa
