/-
  WALKS: append of numbers onto a list of the call's own or onto an empty literal; spec.l31Find, l31Copy, l31All.
-/
import Derived.Test.YtonbkmmddahlfaaGi
import Derived.Test.YtonbkmmddahlfaaJf
import Derived.Test.YtonbkmmddahlfaaJc
namespace Go.Proofs.Ytonbkmmddahlfaa
open Go.RowKit
set_option linter.unusedVariables false

theorem jo_first : (0 : Nat) ≤ 0 := Nat.le_refl 0

theorem below_al {n : Nat} {W W' : World} (h : Below n W W') (hn : n ≤ W.heap.size) (o : Obj) : Below n W (W'.alloc o) := h.alloc (Nat.le_trans hn h.size) o

/-- A list of the call's own, or an empty literal. -/
def Fresh (w : World) (base : Nat) (v : Value) (zs : List Int) : Prop := w.ownsRow base 3 1 v zs.length (intsV zs) ∨ (zs = [] ∧ ∃ sp, v = .slice (some sp) 0 0)
theorem Fresh.ls {w : World} {base : Nat} {v : Value} {zs : List Int} (h : Fresh w base v zs) : LsAt w v zs := by
  rcases h with h | ⟨rfl, sp, rfl⟩
  · exact ls_of_own h
  · exact ⟨some sp, 0, rfl, Nat.le_refl _, Nat.zero_le _, by simp, .inl rfl⟩
theorem Fresh.out {w : World} {base : Nat} {v : Value} {zs : List Int} (h : Fresh w base v zs) : ∃ a c, v = .slice a zs.length c := by
  obtain ⟨a, c, e, -⟩ := h.ls.out
  exact ⟨a, c, e⟩
theorem fresh_lit (w : World) (base : Nat) (sp : Addr) : Fresh w base (.slice (some sp) 0 0) [] := .inr ⟨rfl, sp, rfl⟩
theorem Fresh.below {w w' : World} {base : Nat} {v : Value} {zs : List Int} (h : Fresh w base v zs) (hb : Below w.heap.size w w') : Fresh w' base v zs := by
  rcases h with h | h
  · exact .inl (own_below1 h hb)
  · exact .inr h
theorem Fresh.drew {w : World} {base : Nat} {v : Value} {zs : List Int} (h : Fresh w base v zs) : Fresh w.drew base v zs := h

theorem run_append_fresh {w : World} (sp : Addr) (ad : Option Addr) (len cap : Nat) (zs : List Int) (hi : IntsAt w ad len zs) (hc : ad = none → cap = 0) (hl : len ≤ 2097152) (ty : TypeId) (base : Nat) (hb : base ≤ w.heap.size) :
    ∃ v w', (Builtin.append_ #[29, 29] ty #[.slice (some sp) 0 0, .slice ad len cap]).run Try.prog w = .ok v w' ∧ Fresh w' base v zs ∧ Below w.heap.size w w' := by
  obtain ⟨i0, hi0, hz0, hz1, hz2⟩ := info_parts infoInt
  have hzl := hi.1
  by_cases h0 : len = 0
  · subst h0
    have hz : zs = [] := List.eq_nil_of_length_eq_zero hzl
    subst hz
    refine ⟨.slice (some sp) 0 0, w, ?_, fresh_lit _ _ _, Below.refl _ _⟩
    have ht := Try.underlying29
    cases ad with
    | none => simp [Builtin.append_, run_underlying ht, sizeOf, typeInfo, hi0, Builtin.lenOf, Builtin.firstCells, storeCells]
    | some ad =>
      have hfc : (Builtin.firstCells i0.size 0 (.slice (some ad) 0 cap)).run Try.prog w = .ok #[] w := by
        have := run_firstCells_some (P := Try.prog) (w := w) i0.size 0 ad 0 cap [] (by simp) (by intro j v hj; simp at hj)
        simpa using this
      simp [Builtin.append_, run_underlying ht, sizeOf, typeInfo, hi0, Builtin.lenOf, hfc, storeCells]
  · obtain ⟨_, h1 | ⟨b, off, rfl, hcl⟩⟩ := hi
    · exact absurd h1 h0
    have hcells : ∀ j v, (intsV zs)[j]? = some v → w.cell? ((⟨b, off, none⟩ : Addr).add j) = some v := fun j v hj => ints_cells ⟨hzl, .inr ⟨b, off, rfl, hcl⟩⟩ j v hj
    have hrun := run_append_grow (P := Try.prog) (w := w) 29 ty 3 i0 (.int .i64 0) Try.underlying29 hi0 hz0 sp 0 0 [] (by simp) (by intro j v hj; simp at hj) ⟨b, off, none⟩ len cap (intsV zs) (by rw [intsV_length, hz1]; omega) hcells (by omega) (by omega) (growslice_fits (by omega) (by rw [hz2]; omega))
    rw [Nat.zero_add] at hrun
    refine ⟨_, _, hrun, .inl ?_, ((Below.refl _ w).alloc (Nat.le_refl _) _).drew⟩
    have hG : len ≤ grownCap w len 0 3 := grownCap_ge w _ _ _
    have hGm : grownCap w len 0 3 ≤ maxLen := grownCap_le_maxLen w len 0 3 (by unfold maxLen; omega)
    refine ⟨by rw [intsV_length]; omega, .inr ⟨w.heap.size, _, _, by rw [hzl], hb, World.alloc_heap_new _ _, by omega, hGm, ?_, ?_⟩⟩
    · rw [Array.size_append, Array.size_append, size_zeroCells, List.size_toArray, List.size_toArray, intsV_length, hzl]
      generalize grownCap w len 0 3 = G at hG hGm ⊢
      have : (Value.int IntKind.i64 0).cells.size = 1 := rfl
      simp [this]
      omega
    · simp [intsV_length, hzl]

/-- append of a list to an empty literal: a new list, all that stood stands. -/
theorem wp_append_lit {w : World} {o : Oper} {a : Act} {K : Act → World → Prop} {Q : Exit → Act → World → Prop} (s x : Operand)
    (ho : o.op = .call { callee := .builtin .append, args := #[s, x], argTypes := #[29, 29] })
    (base : Nat) (sp : Addr) (hs : a.eval s = .slice (some sp) 0 0)
    (ad : Option Addr) (len cap : Nat) (zs : List Int) (hx : a.eval x = .slice ad len cap) (hi : LsAt w (.slice ad len cap) zs) (hlen : zs.length ≤ 2097152) (hb : base ≤ w.heap.size)
    (h : ∀ v3 w3, Fresh w3 base v3 zs → Below w.heap.size w w3 → K (a.put o.dst v3) w3) : o.wp Try.prog a w K Q := by
  obtain ⟨hl, hin, hlc, hcm, hc⟩ := hi.ints
  subst hl
  obtain ⟨v, w', hrun, hF, hB⟩ := run_append_fresh sp ad zs.length cap zs hin hc hlen o.type base hb
  unfold Oper.wp
  simp [execOp, ho, resolve, invoke, builtin, hs, hx, hrun, Result.andThen]
  exact h v w' hF hB

/-- append(v, x...) in any place. -/
theorem wp_append_onto {w : World} {o : Oper} {a : Act} {K : Act → World → Prop} {Q : Exit → Act → World → Prop} (s x : Operand)
    (ho : o.op = .call { callee := .builtin .append, args := #[s, x], argTypes := #[29, 29] })
    (base : Nat) (v : Value) (acc : List Int) (hs : a.eval s = v) (hF : Fresh w base v acc)
    (ad : Option Addr) (len cap : Nat) (zs : List Int) (hx : a.eval x = .slice ad len cap) (hi : LsAt w (.slice ad len cap) zs) (hlen : acc.length + zs.length ≤ 2097152) (hb : base ≤ w.heap.size)
    (h : ∀ v3 w3, Fresh w3 base v3 (acc ++ zs) → Below base w w3 → K (a.put o.dst v3) w3) : o.wp Try.prog a w K Q := by
  obtain ⟨hl, hin, hlc, hcm, hc⟩ := hi.ints
  subst hl
  rcases hF with hown | ⟨rfl, sp, rfl⟩
  · obtain ⟨i0, hi0, hz0, hz1, hz2⟩ := info_parts infoInt
    have hgb : ∀ w3, w.grownBy w3 v.ownBlock → Below base w w3 := fun w3 hg => (Below.refl base w).grown hg hb (fun k e => (hown.lt k e).1)
    match ad, hx, hin, hc with
    | none, hx, hin, hc =>
      have h0 : zs.length = 0 := by
        obtain ⟨_, h0 | ⟨b, off, ha, _⟩⟩ := hin
        · exact h0
        · cases ha
      have hz : zs = [] := List.length_eq_zero_iff.1 h0
      subst hz
      rw [hc rfl] at hx
      have hrun := run_append_owned_none (P := Try.prog) (w := w) base 29 o.type 3 i0 1 Try.underlying29 hi0 v acc.length (intsV acc) hown
      unfold Oper.wp
      simp [execOp, ho, resolve, invoke, builtin, hs, hx, hrun, Result.andThen]
      exact h v w (by rw [List.append_nil]; exact .inl hown) (Below.refl _ _)
    | some ad, hx, hin, hc =>
      exact wp_append_own w s x 29 ho base 3 i0 (.int .i64 0) 1 8 Try.underlying29 hi0 hz0 hz1 hz2 rfl (by decide) v acc.length (intsV acc) hs hown ad zs.length cap (intsV zs) hx (by rw [intsV_length]; omega) (ints_cellsA hin) (intsV_cells _) (by unfold maxLen; omega) (by omega) hb fun v' w' h1 h2 _ => h v' w' (.inl (own_join1 h1)) (hgb w' h2)
  · obtain ⟨v, w', hrun, hF, hB⟩ := run_append_fresh sp ad zs.length cap zs hin hc (by simpa using hlen) o.type base hb
    unfold Oper.wp
    simp [execOp, ho, resolve, invoke, builtin, hs, hx, hrun, Result.andThen]
    exact h v w' (by simpa using hF) (hB.mono hb)
/-- The same at an ordered operation. -/
theorem wpList_append_onto {w : World} {ops : Array Oper} {rest : List Oper} {o : Oper} {a : Act} {Q : Exit → Act → World → Prop} (hgd : o.guard = none) (s x : Operand)
    (ho : o.op = .call { callee := .builtin .append, args := #[s, x], argTypes := #[29, 29] })
    (base : Nat) (v : Value) (acc : List Int) (hs : a.eval s = v) (hF : Fresh w base v acc)
    (ad : Option Addr) (len cap : Nat) (zs : List Int) (hx : a.eval x = .slice ad len cap) (hi : LsAt w (.slice ad len cap) zs) (hlen : acc.length + zs.length ≤ 2097152) (hb : base ≤ w.heap.size)
    (h : ∀ v3 w3, Fresh w3 base v3 (acc ++ zs) → Below base w w3 → wpList Try.prog ops Q rest (a.put o.dst v3) w3) : wpList Try.prog ops Q (o :: rest) a w :=
  wpList_plain hgd fun K hK => wp_append_onto s x ho base v acc hs hF ad len cap zs hx hi hlen hb fun v3 w3 h1 h2 => hK _ _ (h v3 w3 h1 h2)

/-- What l31Find tells. -/
def FindPost (bs : List Bl) (n : Int) (W : World) (e : Ending) (w' : World) : Prop :=
  ((∃ (i : Nat) (x : Bl), e = .returned (.int .i64 i) ∧ bs[i]? = some x ∧ findB bs n = some x ∧ x.n = n) ∨ (e = .returned (.int .i64 (-1)) ∧ findB bs n = none)) ∧ w' = W

set_option maxHeartbeats 1000000 in
set_option maxRecDepth 100000 in
theorem l31Find_c (a : Option Addr) (len cap : Nat) (bs : List Bl) (n : Int) (hl : len ≤ 2097152) (W : World) (hN : BlobsAt W a len bs) :
    Calls Try.prog 36 #[.slice a len cap, .int .i64 n] W (FindPost bs n W) := by
  have HN := Lib.hid hN
  have HE := Lib.hid hN.1
  have hl' : (len : Int) ≤ 2097152 := by omega
  clear hN
  go_enter Try.func36, Try.ntmps36
  go_wp2
  go_loopw [5] (fun k wr => ∃ i : Nat, k = .int .i64 i ∧ i ≤ len ∧ Hid (∀ j b, j < i → bs[j]? = some b → b.n ≠ n) ∧ W = wr) (fun k _ => len - (intOf k).toNat)
  case atStart => exact ⟨0, rfl, Nat.zero_le _, Lib.hid (fun j b h => absurd h (Nat.not_lt_zero _)), rfl⟩
  case round =>
    obtain ⟨i, rfl, hi, HNO, rfl⟩ := hrel
    by_cases hlt : i < len
    · obtain ⟨b, off, x, a1, c1, a2, c2, rfl, hx, e0, -, -, -, -⟩ := HN.out.at2 hlt
      have hlt' : (i : Int) < len := by omega
      have hi0 : (0 : Int) ≤ i := by omega
      have HLT := Lib.hid hlt
      have HX := Lib.hid hx
      by_cases hc : x.n = n
      · have hd : (x.n == n) = true := by simp [hc]
        have HF := Lib.hid (show findB bs n = some x by
          unfold findB
          rw [List.find?_eq_some_iff_append]
          refine ⟨by simpa using hc, bs.take i, bs.drop (i + 1), ?_, fun y hy => ?_⟩
          · obtain ⟨h1, h2⟩ := List.getElem?_eq_some_iff.1 hx
            rw [← h2, List.getElem_cons_drop, List.take_append_drop]
          · obtain ⟨j, hj⟩ := List.getElem?_of_mem hy
            rw [List.getElem?_take] at hj
            split at hj
            · rename_i hji
              have := HNO.out j y hji hj
              simpa using this
            · cases hj)
        have HCN := Lib.hid hc
        generalize x.n = xn at e0 hd
        clear hx hlt hi hc
        go_wp2
        go_ret
        exact ⟨.inl ⟨i, x, rfl, HX.out, HF.out, HCN.out⟩, rfl⟩
      · have hd : (x.n == n) = false := by simpa using hc
        have HCN := Lib.hid hc
        generalize x.n = xn at e0 hd
        clear hx hlt hi hc
        go_wp2
        go_roundw
        case rel =>
          refine ⟨i + 1, by go_num, HLT.out, Lib.hid (fun j y hj hy => ?_), trivial⟩
          by_cases h : j < i
          · exact HNO.out j y h hy
          · obtain rfl : j = i := by omega
            rw [HX.out] at hy; cases hy
            exact HCN.out
        case measure => have := HLT.out; simp [intOf]; omega
    · have hge : (len : Int) ≤ i := by omega
      have HF := Lib.hid (show findB bs n = none by
        unfold findB
        rw [List.find?_eq_none]
        intro y hy
        obtain ⟨j, hj⟩ := List.getElem?_of_mem hy
        have := HNO.out j y (by have := (List.getElem?_eq_some_iff.1 hj).1; have := HE.out; omega) hj
        simpa using this)
      clear hlt hi
      go_wp2
      go_ret
      exact ⟨.inr ⟨rfl, HF.out⟩, rfl⟩

end Go.Proofs.Ytonbkmmddahlfaa
