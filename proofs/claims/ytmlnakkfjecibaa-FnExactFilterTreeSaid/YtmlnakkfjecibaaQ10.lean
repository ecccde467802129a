/-
  Texts of this proof, one behind the other: Qc, To, Le, En, Tx, No, Mk, Lm, Ra, Ob, Or, Op, Rb, Ri, Iq, On, Zi, Oc, Lo, Sz, Sg, Ml.
-/
import Derived.Laws.Cover1
import Derived.Laws.StructEq
import Derived.Deep.RegionHeld3
import Derived.Deep.Cut
import Derived.Laws.AppendOwnNone
import Derived.Laws.Concat
import Derived.Laws.Runes
import Derived.Laws.BytesString
import Derived.Deep.QuietTactic
import Derived.Deep.Slices
import Derived.Deep.Fields
import Derived.ChangeSame
import Derived.ChangeArms
import Derived.Lib.SmallJoins
import Derived.Test.YtmlnakkfjecibaaQ1
import Derived.Test.YtmlnakkfjecibaaSm
import Derived.Test.YtmlnakkfjecibaaQ6
import Derived.Test.YtmlnakkfjecibaaQ2
import Derived.Test.YtmlnakkfjecibaaSa
import Derived.Test.YtmlnakkfjecibaaWd
import Derived.Test.YtmlnakkfjecibaaTl
import Derived.Test.YtmlnakkfjecibaaQ4
import Derived.Test.YtmlnakkfjecibaaOa
import Derived.Test.YtmlnakkfjecibaaQ9
import Derived.Test.YtmlnakkfjecibaaPv
import Derived.Test.YtmlnakkfjecibaaQ5
import Derived.Test.YtmlnakkfjecibaaTt
import Derived.Test.YtmlnakkfjecibaaTv
import Derived.Test.YtmlnakkfjecibaaZeq
/-
  A command held against itself.
-/
namespace Go.Proofs.Ytmlnakkfjecibaa
open Go.RowKit

theorem cmdEqS (p : ByteArray) (fk fv tk tv : Int) (w : World) : (binOp .eql 32 (.agg #[.string p, .int .i64 fk, .int .i64 fv, .int .i64 tk, .int .i64 tv]) (.agg #[.string p, .int .i64 fk, .int .i64 fv, .int .i64 tk, .int .i64 tv])).run Try.prog w = .ok (.bool true) w := by
  simp [binOp, go_sem, Op.equal, Op.maxDepth]

theorem cmdNeS (p : ByteArray) (fk fv tk tv : Int) (w : World) : (binOp .neq 32 (.agg #[.string p, .int .i64 fk, .int .i64 fv, .int .i64 tk, .int .i64 tv]) (.agg #[.string p, .int .i64 fk, .int .i64 fv, .int .i64 tk, .int .i64 tv])).run Try.prog w = .ok (.bool false) w := by
  simp [binOp, go_sem, Op.equal, Op.maxDepth]

end Go.Proofs.Ytmlnakkfjecibaa

/-
  WALKS: laws.toNode, laws.toNodeS, laws.szNodeS: lists of nodes that come from outside.
-/
namespace Go.Proofs.Ytmlnakkfjecibaa
open Go.RowKit
set_option linter.unusedVariables false

/-- A node as a value. -/
abbrev nodeV (n : Nd) : Value := .agg #[.string n.p, .int .i64 n.k, .int .i64 n.v]

def NodeRet (n : Nd) (w : World) (e : Ending) (w' : World) : Prop := e = .returned (nodeV n) ∧ Below w.heap.size w w'

theorem node_results (s : Nat) (fn : Func) (hf : fn.results = #[.cell s 46]) (W : World) (g : Nat) (n : Nd) (tmps : Array Value) (ht : tmps[s]? = some (.pointer (some ⟨g, 0, none⟩)))
    (h : W.cell? ⟨g, 0, none⟩ = some (.string n.p) ∧ W.cell? ⟨g, 1, none⟩ = some (.int .i64 n.k) ∧ W.cell? ⟨g, 2, none⟩ = some (.int .i64 n.v)) : (results fn tmps).run Try.prog W = .ok (nodeV n) W := by
  obtain ⟨c0, c1, c2⟩ := h
  simp [results, hf, go_sem, ht, c0, c1, c2]

/-- A block of cells of the call's own. -/
def Blk (W : World) (g : Nat) (cs : Array Value) (t : TypeId) : Prop := W.heap[g]? = some (.cells cs t (0, 0))

theorem blk_new (W : World) (cs : Array Value) (t : TypeId) : Blk (W.alloc (.cells cs t)) W.heap.size cs t := World.alloc_heap_new _ _
theorem Blk.lt {W : World} {g : Nat} {cs : Array Value} {t : TypeId} (h : Blk W g cs t) : g < W.heap.size := by
  unfold Blk at h
  exact (Array.getElem?_eq_some_iff.1 h).1
theorem Blk.below {W W' : World} {g : Nat} {cs : Array Value} {t : TypeId} (h : Blk W g cs t) (hb : Below W.heap.size W W') : Blk W' g cs t := (hb.block g h.lt).trans h
theorem Blk.cell {W : World} {g : Nat} {cs : Array Value} {t : TypeId} (h : Blk W g cs t) (i : Nat) : W.cell? ⟨g, i, none⟩ = cs[i]? := cell_of_row W g i cs t (0, 0) h
theorem Blk.frozen {W : World} {g : Nat} {cs : Array Value} {t : TypeId} (h : Blk W g cs t) (i : Nat) : W.frozen? ⟨g, i, none⟩ = false := frozen_of_row W g i cs t h
theorem Blk.set {W : World} {g : Nat} {cs : Array Value} {t : TypeId} (h : Blk W g cs t) (i : Nat) (u : Value) : Blk (W.setCell ⟨g, i, none⟩ u) g (cs.setIfInBounds i u) t := heap_setCell_same W g i cs t u h
theorem Blk.setOther {W : World} {g : Nat} {cs : Array Value} {t : TypeId} (h : Blk W g cs t) (a : Addr) (u : Value) (ha : g ≠ a.block) : Blk (W.setCell a u) g cs t := (heap_setCell_other W a g u ha).trans h

set_option maxHeartbeats 1000000 in
theorem toNode_c (n : Nd) (w : World) : Calls Try.prog 72 #[nodeV n] w (NodeRet n w) := by
  obtain ⟨p, k, v⟩ := n
  have HT := Lib.hid (fun w => toContent_c k v w)
  unfold con at HT
  unfold nodeV
  go_enter Try.func72, Try.ntmps72
  go_wp2_with fail
  refine (HT.out _).mono ?_; rintro e W1 ⟨rfl, hb1⟩
  have hx : w.heap.size + 1 + 1 = ((w.alloc (.cells #[.string p, .int .i64 k, .int .i64 v] 97)).alloc (.cells #[.string ⟨#[]⟩, .int .i64 0, .int .i64 0] 46)).heap.size := by simp
  have K3 := Lib.hid (show Blk W1 (w.heap.size + 1 + 1) #[.string p, .int .i64 0, .int .i64 0] 46 by rw [hx]; exact (blk_new _ _ _).below hb1)
  have hy : w.heap.size + 1 = (w.alloc (.cells #[.string p, .int .i64 k, .int .i64 v] 97)).heap.size := by simp
  have K2 := Lib.hid (show Blk W1 (w.heap.size + 1) #[.string ⟨#[]⟩, .int .i64 0, .int .i64 0] 46 by rw [hy]; exact ((blk_new _ _ _).below (below_box _ _)).below hb1)
  have B1 := Lib.hid (below_next (below_box w _) (below_next (below_box _ _) (below_next (below_box _ _) hb1)))
  have s1 : W1.cell? ⟨w.heap.size + 1 + 1, 1, none⟩ = some (.int .i64 0) := K3.out.cell 1
  have s2 : W1.cell? ⟨w.heap.size + 1 + 1, 2, none⟩ = some (.int .i64 0) := K3.out.cell 2
  have s0 : W1.cell? ⟨w.heap.size + 1 + 1, 0, none⟩ = some (.string p) := K3.out.cell 0
  have z1 := K3.out.frozen 1
  have z2 := K3.out.frozen 2
  have r0 : W1.cell? ⟨w.heap.size + 1, 0, none⟩ = some (.string ⟨#[]⟩) := K2.out.cell 0
  have r1 : W1.cell? ⟨w.heap.size + 1, 1, none⟩ = some (.int .i64 0) := K2.out.cell 1
  have r2 : W1.cell? ⟨w.heap.size + 1, 2, none⟩ = some (.int .i64 0) := K2.out.cell 2
  have y0 := K2.out.frozen 0
  have y1 := K2.out.frozen 1
  have y2 := K2.out.frozen 2
  clear hb1 hx hy
  unfold con
  go_wp2
  have K4 := (((((K2.out.setOther ⟨w.heap.size + 1 + 1, 1, none⟩ (.int .i64 k) (by simp)).setOther ⟨w.heap.size + 1 + 1, 2, none⟩ (.int .i64 v) (by simp)).set 0 (.string p)).set 1 (.int .i64 k)).set 2 (.int .i64 v))
  refine bodyPost_ret (node_results 2 _ rfl _ (w.heap.size + 1) ⟨p, k, v⟩ _ rfl ⟨K4.cell 0, K4.cell 1, K4.cell 2⟩) rfl ⟨rfl, ?_⟩
  exact below_setCell (below_setCell (below_setCell (below_setCell (below_setCell B1.out _ _ (by simp; omega)) _ _ (by simp; omega)) _ _ (by simp)) _ _ (by simp)) _ _ (by simp)

theorem flatN_take_set : ∀ (ns : List Nd) (i : Nat) (n : Nd) (zs : List Value), ns[i]? = some n → 3 ≤ zs.length →
    (((flatN (ns.take i) ++ zs).set (i * 3) (.string n.p)).set (i * 3 + 1) (.int .i64 n.k)).set (i * 3 + 2) (.int .i64 n.v) = flatN (ns.take (i + 1)) ++ zs.drop 3 := by
  intro ns i n zs hn hz
  have hi := (List.getElem?_eq_some_iff.1 hn).1
  have hl : (flatN (ns.take i)).length = i * 3 := by rw [flatN_length, List.length_take]; omega
  rw [List.take_add_one, hn, flatN_append]
  match zs, hz with
  | a :: b :: c :: r, _ =>
    show _ = (flatN (ns.take i) ++ [.string n.p, .int .i64 n.k, .int .i64 n.v]) ++ r
    rw [List.set_append_right _ _ (by omega), hl, show i * 3 - i * 3 = 0 by omega]
    rw [List.set_append_right _ _ (by omega), hl, show i * 3 + 1 - i * 3 = 1 by omega]
    rw [List.set_append_right _ _ (by omega), hl, show i * 3 + 2 - i * 3 = 2 by omega]
    simp

theorem below_of_none {W w : World} (h : W.grownBy w none) : Below W.heap.size W w := ⟨h.os, h.tape, h.output, h.size, fun k hk => h.block k hk (by simp)⟩

theorem stored3 {W : World} {base : Nat} {e : TypeId} {g cap n : Nat} {xs : List Value} (h : W.ownsRow base e 3 (.slice (some ⟨g, 0, none⟩) n cap) n xs) (j : Nat) (u v x : Value) :
    (((W.setCell ⟨g, j, none⟩ u).setCell ⟨g, j + 1, none⟩ v).setCell ⟨g, j + 2, none⟩ x).ownsRow base e 3 (.slice (some ⟨g, 0, none⟩) n cap) n (((xs.set j u).set (j + 1) v).set (j + 2) x) :=
  ((((h.stored j u).1.stored (j + 1) v).1).stored (j + 2) x).1

def ToRel (ns : List Nd) (len : Nat) (W : World) (i : Value) (wr : World) : Prop :=
  ∃ (n : Nat) (zs : List Value), i = .int .i64 n ∧ n ≤ len ∧ zs.length = (len - n) * 3 ∧ wr.ownsRow W.heap.size 46 3 (.slice (some ⟨W.heap.size, 0, none⟩) len len) len (flatN (ns.take n) ++ zs) ∧ Hid (Below W.heap.size W wr)

set_option maxHeartbeats 2000000 in
set_option maxRecDepth 100000 in
theorem toNodeS_c (a : Option Addr) (len cap : Nat) (ns : List Nd) (hl : len ≤ 2097152) (W : World) (hN : NodesAt W a len ns) :
    Calls Try.prog 41 #[.slice a len cap] W fun e W' => OwnsNodes W.heap.size ns e W' ∧ Below W.heap.size W W' := by
  obtain ⟨i0, hi, hz0, hz1, hz2⟩ := info_parts infoNode
  have HN := Lib.hid hN
  have HE := Lib.hid hN.1
  have HT := Lib.hid (fun n w => toNode_c n w)
  have HL := Lib.hid hl
  clear hN
  go_enter Try.func41, Try.ntmps41
  go_wp2_with (refine wpList_make_full _ rfl _ _ 39 rfl W.heap.size 46 i0 (.agg #[.string ⟨#[]⟩, .int .i64 0, .int .i64 0]) 3 Try.underlying39 hi hz0 hz1 .i64 .i64 _ _ len rfl rfl rfl rfl (by rw [hz2]; omega) (by unfold maxLen; omega) (Nat.le_refl _) ?_; intro w1 hown1 hg1)
  have hb1 := below_of_none hg1
  clear hg1
  go_loopw [4] (fun i wr => ToRel ns len W i wr) (fun i _ => len - (intOf i).toNat)
  case atStart =>
    refine ⟨0, _, rfl, by omega, ?_, (by simpa [flatN_nil] using hown1), hb1⟩
    have := hown1.1
    omega
  case round =>
    obtain ⟨i, zs, rfl, hi1, hzl, hown, HB⟩ := hrel
    by_cases hlt : i < len
    · obtain ⟨b, off, n, rfl, hn, c0, c1, c2⟩ := (HN.out.keep HB.out).node hlt
      have hlt' : (i : Int) < len := by omega
      have HLT := Lib.hid hlt
      have HNN := Lib.hid hn
      have hz3 : 3 ≤ zs.length := by omega
      have HZ := Lib.hid (And.intro hzl hz3)
      obtain ⟨p, k, v⟩ := n
      have HTN := Lib.hid (fun w => HT.out ⟨p, k, v⟩ w)
      unfold nodeV NodeRet at HTN
      clear hi1 hlt hn hzl hz3 hown1
      go_wp2_with fail
      refine (HTN.out _).mono ?_; rintro e W2 ⟨rfl, hb2⟩
      have HO2 := Lib.hid (own_below hown hb2)
      have HB2 := Lib.hid (below_next HB.out hb2)
      clear hown hb2 c0 c1 c2
      have hll : (flatN (ns.take i)).length = i * 3 := by rw [flatN_length, List.length_take]; have := HE.out; have := HLT.out; omega
      have cell : ∀ j, j < 3 → ∃ u, W2.cell? ⟨W.heap.size, i * 3 + j, none⟩ = some u := by
        intro j hj
        have hx := HZ.out.1
        have hy := HLT.out
        rw [HO2.out.cellAt _ (by omega)]
        exact ⟨_, List.getElem?_eq_getElem (by rw [List.length_append, hll]; omega)⟩
      obtain ⟨u0, e0⟩ := cell 0 (by omega)
      replace e0 : W2.cell? ⟨W.heap.size, i * 3, none⟩ = some u0 := e0
      obtain ⟨u1, e1⟩ := cell 1 (by omega)
      obtain ⟨u2, e2⟩ := cell 2 (by omega)
      have y0 := HO2.out.frozenAt (i * 3)
      have y1 := HO2.out.frozenAt (i * 3 + 1)
      have y2 := HO2.out.frozenAt (i * 3 + 2)
      clear cell hll
      go_wp2
      have HS3 := stored3 HO2.out (i * 3) (.string p) (.int .i64 k) (.int .i64 v)
      rw [flatN_take_set ns i ⟨p, k, v⟩ zs HNN.out HZ.out.2] at HS3
      go_roundw
      case rel => exact ⟨i + 1, zs.drop 3, by go_num, by have := HLT.out; omega, by rw [List.length_drop]; have h1 := HZ.out.1; have h2 := HZ.out.2; have h3 := HLT.out; omega, HS3, below_setCell (below_setCell (below_setCell HB2.out _ _ (Nat.le_refl _)) _ _ (Nat.le_refl _)) _ _ (Nat.le_refl _)⟩
      case measure => have := HLT.out; simp [intOf]; omega
    · have hge : (len : Int) ≤ i := by omega
      have hz0' : zs = [] := List.eq_nil_of_length_eq_zero (by omega)
      subst hz0'
      rw [List.append_nil, List.take_of_length_le (by have := HE.out; omega)] at hown
      clear hi1 hlt
      go_wp2
      go_ret
      exact ⟨⟨_, rfl, by have h := HE.out; rw [h]; exact hown⟩, HB.out⟩

end Go.Proofs.Ytmlnakkfjecibaa

/-
  WALKS: lists of commands in the laws: laws.toCommandS, szCommandS, eqCommandS, sameLog.
-/
namespace Go.Proofs.Ytmlnakkfjecibaa
open Go.RowKit
set_option linter.unusedVariables false

theorem flatC_take_set : ∀ (cs : List Cmd) (i : Nat) (c : Cmd) (zs : List Value), cs[i]? = some c → 5 ≤ zs.length →
    (((((flatC (cs.take i) ++ zs).set (i * 5) (.string c.p)).set (i * 5 + 1) (.int .i64 c.fk)).set (i * 5 + 2) (.int .i64 c.fv)).set (i * 5 + 3) (.int .i64 c.tk)).set (i * 5 + 4) (.int .i64 c.tv) = flatC (cs.take (i + 1)) ++ zs.drop 5 := by
  intro cs i c zs hn hz
  have hi := (List.getElem?_eq_some_iff.1 hn).1
  have hl : (flatC (cs.take i)).length = i * 5 := by rw [flatC_length, List.length_take]; omega
  rw [List.take_add_one, hn, flatC_append]
  match zs, hz with
  | a :: b :: c' :: d :: e :: r, _ =>
    show _ = (flatC (cs.take i) ++ [.string c.p, .int .i64 c.fk, .int .i64 c.fv, .int .i64 c.tk, .int .i64 c.tv]) ++ r
    rw [List.set_append_right _ _ (by omega), hl, show i * 5 - i * 5 = 0 by omega]
    rw [List.set_append_right _ _ (by omega), hl, show i * 5 + 1 - i * 5 = 1 by omega]
    rw [List.set_append_right _ _ (by omega), hl, show i * 5 + 2 - i * 5 = 2 by omega]
    rw [List.set_append_right _ _ (by omega), hl, show i * 5 + 3 - i * 5 = 3 by omega]
    rw [List.set_append_right _ _ (by omega), hl, show i * 5 + 4 - i * 5 = 4 by omega]
    simp

theorem stored5 {W : World} {base : Nat} {e : TypeId} {g cap n : Nat} {xs : List Value} (h : W.ownsRow base e 5 (.slice (some ⟨g, 0, none⟩) n cap) n xs) (j : Nat) (u v x y z : Value) :
    (((((W.setCell ⟨g, j, none⟩ u).setCell ⟨g, j + 1, none⟩ v).setCell ⟨g, j + 2, none⟩ x).setCell ⟨g, j + 3, none⟩ y).setCell ⟨g, j + 4, none⟩ z).ownsRow base e 5 (.slice (some ⟨g, 0, none⟩) n cap) n (((((xs.set j u).set (j + 1) v).set (j + 2) x).set (j + 3) y).set (j + 4) z) :=
  ((((((h.stored j u).1.stored (j + 1) v).1).stored (j + 2) x).1.stored (j + 3) y).1.stored (j + 4) z).1

def ToRelC (cs : List Cmd) (len : Nat) (W : World) (i : Value) (wr : World) : Prop :=
  ∃ (n : Nat) (zs : List Value), i = .int .i64 n ∧ n ≤ len ∧ zs.length = (len - n) * 5 ∧ wr.ownsRow W.heap.size 32 5 (.slice (some ⟨W.heap.size, 0, none⟩) len len) len (flatC (cs.take n) ++ zs) ∧ Hid (Below W.heap.size W wr)

set_option maxHeartbeats 2000000 in
set_option maxRecDepth 100000 in
theorem toCommandS_c (a : Option Addr) (len cap : Nat) (cs : List Cmd) (hl : len ≤ 2097152) (W : World) (hN : CmdsAt W a len cs) :
    Calls Try.prog 34 #[.slice a len cap] W (CmdsPost cs W) := by
  obtain ⟨i0, hi, hz0, hz1, hz2⟩ := info_parts infoCmd
  have HN := Lib.hid hN
  have HE := Lib.hid hN.1
  have HT := Lib.hid (fun c w => toCommand_c c w)
  have HL := Lib.hid hl
  clear hN
  go_enter Try.func34, Try.ntmps34
  go_wp2_with (refine wpList_make_full _ rfl _ _ 23 rfl W.heap.size 32 i0 (.agg #[.string ⟨#[]⟩, .int .i64 0, .int .i64 0, .int .i64 0, .int .i64 0]) 5 Try.underlying23 hi hz0 hz1 .i64 .i64 _ _ len rfl rfl rfl rfl (by rw [hz2]; omega) (by unfold maxLen; omega) (Nat.le_refl _) ?_; intro w1 hown1 hg1)
  have hb1 := below_of_none hg1
  clear hg1
  go_loopw [4] (fun i wr => ToRelC cs len W i wr) (fun i _ => len - (intOf i).toNat)
  case atStart =>
    refine ⟨0, _, rfl, by omega, ?_, (by simpa [flatC_nil] using hown1), hb1⟩
    have := hown1.1
    omega
  case round =>
    obtain ⟨i, zs, rfl, hi1, hzl, hown, HB⟩ := hrel
    by_cases hlt : i < len
    · obtain ⟨b, off, n, rfl, hn, c0, c1, c2, c3, c4⟩ := (HN.out.keep HB.out).node hlt
      have hlt' : (i : Int) < len := by omega
      have HLT := Lib.hid hlt
      have HNN := Lib.hid hn
      have hz3 : 5 ≤ zs.length := by omega
      have HZ := Lib.hid (And.intro hzl hz3)
      obtain ⟨p, fk, fv, tk, tv⟩ := n
      have HTN := Lib.hid (fun w => HT.out ⟨p, fk, fv, tk, tv⟩ w)
      unfold CmdPost cmdV at HTN
      simp only at c0 c1 c2 c3 c4 HTN
      clear hi1 hlt hn hzl hz3 hown1
      go_wp2_with fail
      refine (HTN.out _).mono ?_; rintro e W2 ⟨rfl, hb2⟩
      have HO2 := Lib.hid (own_below hown hb2)
      have HB2 := Lib.hid (below_next HB.out hb2)
      clear hown hb2 c0 c1 c2 c3 c4
      have hll : (flatC (cs.take i)).length = i * 5 := by rw [flatC_length, List.length_take]; have := HE.out; have := HLT.out; omega
      have cell : ∀ j, j < 5 → ∃ u, W2.cell? ⟨W.heap.size, i * 5 + j, none⟩ = some u := by
        intro j hj
        have hx := HZ.out.1
        have hy := HLT.out
        rw [HO2.out.cellAt _ (by omega)]
        exact ⟨_, List.getElem?_eq_getElem (by rw [List.length_append, hll]; omega)⟩
      obtain ⟨u0, e0⟩ := cell 0 (by omega)
      replace e0 : W2.cell? ⟨W.heap.size, i * 5, none⟩ = some u0 := e0
      obtain ⟨u1, e1⟩ := cell 1 (by omega)
      obtain ⟨u2, e2⟩ := cell 2 (by omega)
      obtain ⟨u3, e3⟩ := cell 3 (by omega)
      obtain ⟨u4, e4⟩ := cell 4 (by omega)
      have y0 := HO2.out.frozenAt (i * 5)
      have y1 := HO2.out.frozenAt (i * 5 + 1)
      have y2 := HO2.out.frozenAt (i * 5 + 2)
      have y3 := HO2.out.frozenAt (i * 5 + 3)
      have y4 := HO2.out.frozenAt (i * 5 + 4)
      clear cell hll
      go_wp2
      have HS3 := stored5 HO2.out (i * 5) (.string p) (.int .i64 fk) (.int .i64 fv) (.int .i64 tk) (.int .i64 tv)
      rw [flatC_take_set cs i ⟨p, fk, fv, tk, tv⟩ zs HNN.out HZ.out.2] at HS3
      go_roundw
      case rel => exact ⟨i + 1, zs.drop 5, by go_num, by have := HLT.out; omega, by rw [List.length_drop]; have h1 := HZ.out.1; have h2 := HZ.out.2; have h3 := HLT.out; omega, HS3, below_setCell (below_setCell (below_setCell (below_setCell (below_setCell HB2.out _ _ (Nat.le_refl _)) _ _ (Nat.le_refl _)) _ _ (Nat.le_refl _)) _ _ (Nat.le_refl _)) _ _ (Nat.le_refl _)⟩
      case measure => have := HLT.out; simp [intOf]; omega
    · have hge : (len : Int) ≤ i := by omega
      have hz0' : zs = [] := List.eq_nil_of_length_eq_zero (by omega)
      subst hz0'
      rw [List.append_nil, List.take_of_length_le (by have := HE.out; omega)] at hown
      clear hi1 hlt
      go_wp2
      go_ret
      exact ⟨⟨_, rfl, by have h := HE.out; rw [h]; exact hown⟩, HB.out⟩

/-- What is left; if anything is, the list and its texts are of modest length. -/
def SzCmds (len : Nat) (cs : List Cmd) (w : World) (e : Ending) (w' : World) : Prop := ∃ z : Int, e = .returned (.int .i64 z) ∧ z ≤ 1048576 ∧ (0 ≤ z → len ≤ 1048576 ∧ ShortC 1048576 cs) ∧ Below w.heap.size w w'

def SzRelC (len : Nat) (cs : List Cmd) (w : World) (l i : Value) (wr : World) : Prop :=
  ∃ (n : Nat) (z : Int), i = .int .i64 n ∧ n ≤ len ∧ l = .int .i64 z ∧ Hid (0 ≤ z ∧ z ≤ 1048576) ∧ Hid (∀ j m, j < n → cs[j]? = some m → m.p.size ≤ 1048576) ∧ Hid (Below w.heap.size w wr)

set_option maxHeartbeats 1000000 in
theorem szCommandS_c (l0 : Int) (hl0 : 0 ≤ l0) (hl1 : l0 ≤ 1048576) (a : Option Addr) (len cap : Nat) (cs : List Cmd) (hlen : len ≤ maxLen) (hm : ShortC maxLen cs) (w : World) (hN : CmdsAt w a len cs) :
    Calls Try.prog 33 #[.slice a len cap, .int .i64 l0] w (SzCmds len cs w) := by
  have HN := Lib.hid hN
  have HE := Lib.hid hN.1
  have HM := Lib.hid hm
  have hl : len ≤ 9223372036854775807 := Nat.le_trans hlen (by unfold maxLen; omega)
  have hw0 : IntKind.i64.wrap (l0 - (len : Int)) = l0 - len := IntWalk.i64_in _ (by omega)
  clear hN hm hlen
  by_cases h : (len : Int) ≤ l0
  · obtain ⟨z, hz⟩ : ∃ z, l0 - len = z := ⟨_, rfl⟩
    have hzp : 0 ≤ z := by omega
    have HZ := Lib.hid (show 0 ≤ z ∧ z ≤ 1048576 by omega)
    have hw := hw0.trans hz
    have HL := Lib.hid (show len ≤ 1048576 by omega)
    have hl2 : (len : Int) ≤ 1048576 := by omega
    clear hz hl h hw0
    go_enter Try.func33, Try.ntmps33
    go_wp2
    clear hzp hw
    go_loopw [1, 5] (fun l i wr => SzRelC len cs w l i wr) (fun _ i _ => len - (intOf i).toNat)
    case atStart => exact ⟨0, z, rfl, by omega, rfl, HZ, Lib.hid (fun j m h _ => absurd h (by omega)), Below.refl _ _⟩
    case round =>
      obtain ⟨i, l, rfl, hi, rfl, HLL, HP, HB⟩ := hrel
      by_cases hlt : i < len
      · obtain ⟨b, off, n, rfl, hn, c0, c1, c2, c3, c4⟩ := (HN.out.keep HB.out).node hlt
        have hlt' : (i : Int) < len := by omega
        have HO := Lib.hid (fun w => szCommand_c n l HLL.out.1 HLL.out.2 (HM.out n (List.mem_of_getElem? hn)) w)
        have HNN := Lib.hid hn
        have HLT := Lib.hid hlt
        obtain ⟨p, fk, fv, tk, tv⟩ := n
        unfold SzCmd cmdV at HO
        simp only at c0 c1 c2 c3 c4 HO
        clear hi hlt hn
        go_wp2_with fail
        refine (HO.out _).mono ?_; rintro e W2 ⟨z2, rfl, hz0, hz1, hz2, hb2⟩
        have HB2 := Lib.hid (below_next HB.out hb2)
        clear c0 c1 c2 c3 c4 hb2
        by_cases hneg : z2 < 0
        · clear hz0 hz1 hz2
          go_wp2
          go_ret
          exact ⟨-1, rfl, by omega, fun h => absurd h (by omega), HB2.out⟩
        · have hpos : 0 ≤ z2 := by omega
          have HZ2 := Lib.hid (And.intro hpos (And.intro hz1 (hz2 hpos)))
          clear hz0 hz1 hz2 hneg
          go_wp2
          go_roundw
          case rel =>
            refine ⟨i + 1, z2, by go_num, by have := HLT.out; omega, rfl, ⟨HZ2.out.1, HZ2.out.2.1⟩, ?_, HB2⟩
            intro j m hj hm
            by_cases hji : j < i
            · exact HP.out j m hji hm
            · have : j = i := by omega
              subst this
              rw [HNN.out] at hm
              obtain rfl := Option.some.inj hm
              exact HZ2.out.2.2
          case measure => have := HLT.out; simp [intOf]; omega
      · have hge : (len : Int) ≤ i := by omega
        have HQ := Lib.hid (show len ≤ i by omega)
        clear hi hlt
        go_wp2
        go_ret
        exact ⟨l, rfl, HLL.out.2, fun _ => ⟨HL.out, fun n hn => by
          obtain ⟨j, hj⟩ := List.getElem?_of_mem hn
          exact HP.out j n (by have h1 := (List.getElem?_eq_some_iff.1 hj).1; have h2 := HE.out; have h3 := HQ.out; omega) hj⟩, HB.out⟩
  · have hz : l0 - len < 0 := by omega
    obtain ⟨z, hz'⟩ : ∃ z, l0 - len = z := ⟨_, rfl⟩
    have hw := hw0.trans hz'
    rw [hz'] at hz
    clear hz' hl h hw0
    go_enter Try.func33, Try.ntmps33
    go_wp2
    go_ret
    exact ⟨-1, rfl, by omega, fun h => absurd h (by omega), Below.refl _ _⟩

/-- Two lists of commands that read alike. -/
def EqRelC (len : Nat) (W : World) (i : Value) (wr : World) : Prop := ∃ n : Nat, i = .int .i64 n ∧ n ≤ len ∧ Hid (Below W.heap.size W wr)

set_option maxHeartbeats 2000000 in
set_option maxRecDepth 100000 in
theorem eqCommandS_c (a1 a2 : Option Addr) (len c1 c2 : Nat) (cs : List Cmd) (hl : len ≤ 2097152) (W : World) (h1 : CmdsAt W a1 len cs) (h2 : CmdsAt W a2 len cs) :
    Calls Try.prog 35 #[.slice a1 len c1, .slice a2 len c2] W (BoolPost true W) := by
  have H1 := Lib.hid h1
  have H2 := Lib.hid h2
  have HC := Lib.hid (fun c w => eqCommand_c c w)
  unfold cmdV at HC
  have hl' : (len : Int) ≤ 2097152 := by omega
  clear h1 h2
  go_enter Try.func35, Try.ntmps35
  go_wp2
  go_loopw [5] (fun i wr => EqRelC len W i wr) (fun i _ => len - (intOf i).toNat)
  case atStart => exact ⟨0, rfl, by omega, Below.refl _ _⟩
  case round =>
    obtain ⟨i, rfl, hi, HB⟩ := hrel
    by_cases hlt : i < len
    · obtain ⟨b, off, n, HA1, hn1, c0, c1, c2, c3, c4⟩ := (H1.out.keep HB.out).node hlt
      obtain ⟨b', off', n', HA2, hn2, d0, d1, d2, d3, d4⟩ := (H2.out.keep HB.out).node hlt
      obtain rfl : n' = n := by rw [hn1] at hn2; exact (Option.some.inj hn2).symm
      have hlt' : (i : Int) < len := by omega
      have hil : (i : Int) ≤ 2097152 := by omega
      have HLT := Lib.hid hlt
      obtain rfl := HA1
      obtain rfl := HA2
      obtain ⟨p, fk, fv, tk, tv⟩ := n'
      simp only at c0 c1 c2 c3 c4 d0 d1 d2 d3 d4
      have HS0 := Lib.hid (show wr.drew.cell? ⟨b, off + i * 5, none⟩ = some (.string p) ∧ wr.drew.cell? ⟨b, off + i * 5 + 1, none⟩ = some (.int .i64 fk) ∧ wr.drew.cell? ⟨b, off + i * 5 + 2, none⟩ = some (.int .i64 fv) ∧ wr.drew.cell? ⟨b, off + i * 5 + 3, none⟩ = some (.int .i64 tk) ∧ wr.drew.cell? ⟨b, off + i * 5 + 4, none⟩ = some (.int .i64 tv) ∧ wr.drew.cell? ⟨b', off' + i * 5, none⟩ = some (.string p) ∧ wr.drew.cell? ⟨b', off' + i * 5 + 1, none⟩ = some (.int .i64 fk) ∧ wr.drew.cell? ⟨b', off' + i * 5 + 2, none⟩ = some (.int .i64 fv) ∧ wr.drew.cell? ⟨b', off' + i * 5 + 3, none⟩ = some (.int .i64 tk) ∧ wr.drew.cell? ⟨b', off' + i * 5 + 4, none⟩ = some (.int .i64 tv) ∧ Below W.heap.size W wr.drew from ⟨c0, c1, c2, c3, c4, d0, d1, d2, d3, d4, HB.out.drew⟩)
      have HCX := Lib.hid (HC.out ⟨p, fk, fv, tk, tv⟩ wr.drew)
      simp only at HCX
      have HKP := Lib.hid (fun (u1 u2 : World) (h : u1.cell? ⟨b, off + i * 5, none⟩ = some (.string p) ∧ u1.cell? ⟨b, off + i * 5 + 1, none⟩ = some (.int .i64 fk) ∧ u1.cell? ⟨b, off + i * 5 + 2, none⟩ = some (.int .i64 fv) ∧ u1.cell? ⟨b, off + i * 5 + 3, none⟩ = some (.int .i64 tk) ∧ u1.cell? ⟨b, off + i * 5 + 4, none⟩ = some (.int .i64 tv) ∧ u1.cell? ⟨b', off' + i * 5, none⟩ = some (.string p) ∧ u1.cell? ⟨b', off' + i * 5 + 1, none⟩ = some (.int .i64 fk) ∧ u1.cell? ⟨b', off' + i * 5 + 2, none⟩ = some (.int .i64 fv) ∧ u1.cell? ⟨b', off' + i * 5 + 3, none⟩ = some (.int .i64 tk) ∧ u1.cell? ⟨b', off' + i * 5 + 4, none⟩ = some (.int .i64 tv) ∧ Below W.heap.size W u1) (hb : Below u1.heap.size u1 u2) => show u2.cell? ⟨b, off + i * 5, none⟩ = some (.string p) ∧ u2.cell? ⟨b, off + i * 5 + 1, none⟩ = some (.int .i64 fk) ∧ u2.cell? ⟨b, off + i * 5 + 2, none⟩ = some (.int .i64 fv) ∧ u2.cell? ⟨b, off + i * 5 + 3, none⟩ = some (.int .i64 tk) ∧ u2.cell? ⟨b, off + i * 5 + 4, none⟩ = some (.int .i64 tv) ∧ u2.cell? ⟨b', off' + i * 5, none⟩ = some (.string p) ∧ u2.cell? ⟨b', off' + i * 5 + 1, none⟩ = some (.int .i64 fk) ∧ u2.cell? ⟨b', off' + i * 5 + 2, none⟩ = some (.int .i64 fv) ∧ u2.cell? ⟨b', off' + i * 5 + 3, none⟩ = some (.int .i64 tk) ∧ u2.cell? ⟨b', off' + i * 5 + 4, none⟩ = some (.int .i64 tv) ∧ Below W.heap.size W u2 from ⟨cell_kept hb h.1, cell_kept hb h.2.1, cell_kept hb h.2.2.1, cell_kept hb h.2.2.2.1, cell_kept hb h.2.2.2.2.1, cell_kept hb h.2.2.2.2.2.1, cell_kept hb h.2.2.2.2.2.2.1, cell_kept hb h.2.2.2.2.2.2.2.1, cell_kept hb h.2.2.2.2.2.2.2.2.1, cell_kept hb h.2.2.2.2.2.2.2.2.2.1, below_next h.2.2.2.2.2.2.2.2.2.2 hb⟩)
      clear hlt hi hn1 hn2 c0 c1 c2 c3 c4 d0 d1 d2 d3 d4
      go_upto_region 6 with (fail)
      go_region_held3 (fun w' => w'.cell? ⟨b, off + i * 5, none⟩ = some (.string p) ∧ w'.cell? ⟨b, off + i * 5 + 1, none⟩ = some (.int .i64 fk) ∧ w'.cell? ⟨b, off + i * 5 + 2, none⟩ = some (.int .i64 fv) ∧ w'.cell? ⟨b, off + i * 5 + 3, none⟩ = some (.int .i64 tk) ∧ w'.cell? ⟨b, off + i * 5 + 4, none⟩ = some (.int .i64 tv) ∧ w'.cell? ⟨b', off' + i * 5, none⟩ = some (.string p) ∧ w'.cell? ⟨b', off' + i * 5 + 1, none⟩ = some (.int .i64 fk) ∧ w'.cell? ⟨b', off' + i * 5 + 2, none⟩ = some (.int .i64 fv) ∧ w'.cell? ⟨b', off' + i * 5 + 3, none⟩ = some (.int .i64 tk) ∧ w'.cell? ⟨b', off' + i * 5 + 4, none⟩ = some (.int .i64 tv) ∧ Below W.heap.size W w')
        (first | exact HS0.out | exact HKP.out _ _ HS0.out hb7)
        (first | (go_at_call 69; (with_reducible refine (HCX.out).mono ?_); rintro e W7 ⟨rfl, hb7⟩))
      rename_i hS
      have HB7 := Lib.hid hS.2.2.2.2.2.2.2.2.2.2
      clear hS
      go_wp2
      go_roundw
      case rel => exact ⟨i + 1, by go_num, by have := HLT.out; omega, HB7.out⟩
      case measure => have := HLT.out; simp [intOf]; omega
    · have hge : (len : Int) ≤ i := by omega
      clear hi hlt
      go_wp2
      go_ret
      exact ⟨rfl, HB.out⟩

set_option maxHeartbeats 2000000 in
set_option maxRecDepth 100000 in
theorem sameLog_c (a1 a2 : Option Addr) (len c1 c2 : Nat) (cs : List Cmd) (hl : len ≤ 2097152) (W : World) (h1 : CmdsAt W a1 len cs) (h2 : CmdsAt W a2 len cs) :
    Calls Try.prog 15 #[.slice a1 len c1, .slice a2 len c2] W (BoolPost true W) := by
  have H1 := Lib.hid h1
  have H2 := Lib.hid h2
  clear h1 h2
  go_enter Try.func15, Try.ntmps15
  go_wp2
  go_loopw [5] (fun i wr => ∃ n : Nat, i = .int .i64 n ∧ n ≤ len ∧ Hid (Below W.heap.size W wr)) (fun i _ => len - (intOf i).toNat)
  case atStart => exact ⟨0, rfl, by omega, Below.refl _ _⟩
  case round =>
    obtain ⟨i, rfl, hi, HB⟩ := hrel
    by_cases hlt : i < len
    · obtain ⟨b, off, n, rfl, hn, c0, c1, c2, c3, c4⟩ := (H1.out.keep HB.out).node hlt
      obtain ⟨b', off', n', rfl, hn', d0, d1, d2, d3, d4⟩ := (H2.out.keep HB.out).node hlt
      obtain rfl : n = n' := Option.some.inj (hn.symm.trans hn')
      have hlt' : (i : Int) < len := by omega
      have hi0 : (0 : Int) ≤ i := by omega
      have HLT := Lib.hid hlt
      obtain ⟨p, fk, fv, tk, tv⟩ := n
      simp only at c0 c1 c2 c3 c4 d0 d1 d2 d3 d4
      have hne := fun w => cmdNeS p fk fv tk tv w
      clear hi hlt hn hn'
      go_wp2
      go_quiet (fail)
      have HB2 := Lib.hid (below_drewN HB.out nq)
      clear c0 c1 c2 c3 c4 d0 d1 d2 d3 d4
      go_wp2
      go_roundw
      case rel => exact ⟨i + 1, by go_num, by have := HLT.out; omega, HB2⟩
      case measure => have := HLT.out; simp [intOf]; omega
    · have hge : (len : Int) ≤ i := by omega
      clear hi hlt
      go_wp2
      go_ret
      exact ⟨rfl, HB.out⟩

end Go.Proofs.Ytmlnakkfjecibaa

/-
  WALKS: laws.eqNode, laws.eqNodeS, at equal lists.
-/
namespace Go.Proofs.Ytmlnakkfjecibaa
open Go.RowKit
set_option linter.unusedVariables false

set_option maxHeartbeats 1000000 in
theorem eqNode_c (n : Nd) (w : World) : Calls Try.prog 73 #[nodeV n, nodeV n] w (BoolPost true w) := by
  obtain ⟨p, k, v⟩ := n
  have HC := Lib.hid (fun w => eqContent_c k v w)
  unfold nodeV
  go_enter Try.func73, Try.ntmps73
  go_wp2_with fail
  refine (HC.out _).mono ?_
  rintro e W1 ⟨rfl, hb1⟩
  have HB := Lib.hid (below_next (below_next (below_box _ _) (below_box _ _)) hb1)
  clear hb1
  go_wp2
  go_ret
  exact ⟨rfl, HB.out⟩

def EqRel (len : Nat) (W : World) (i : Value) (wr : World) : Prop := ∃ n : Nat, i = .int .i64 n ∧ n ≤ len ∧ Hid (Below W.heap.size W wr)

set_option maxHeartbeats 2000000 in
set_option maxRecDepth 100000 in
theorem eqNodeS_c (a1 a2 : Option Addr) (len c1 c2 : Nat) (ns : List Nd) (hl : len ≤ 2097152) (W : World) (h1 : NodesAt W a1 len ns) (h2 : NodesAt W a2 len ns) :
    Calls Try.prog 42 #[.slice a1 len c1, .slice a2 len c2] W (BoolPost true W) := by
  have H1 := Lib.hid h1
  have H2 := Lib.hid h2
  have HC := Lib.hid (fun n w => eqNode_c n w)
  unfold nodeV at HC
  have hl' : (len : Int) ≤ 2097152 := by omega
  clear h1 h2
  go_enter Try.func42, Try.ntmps42
  go_wp2
  go_loopw [5] (fun i wr => EqRel len W i wr) (fun i _ => len - (intOf i).toNat)
  case atStart => exact ⟨0, rfl, by omega, Below.refl _ _⟩
  case round =>
    obtain ⟨i, rfl, hi, HB⟩ := hrel
    by_cases hlt : i < len
    · obtain ⟨b, off, n, HA1, hn1, c0, c1, c2⟩ := (H1.out.keep HB.out).node hlt
      obtain ⟨b', off', n', HA2, hn2, d0, d1, d2⟩ := (H2.out.keep HB.out).node hlt
      obtain rfl : n' = n := by rw [hn1] at hn2; exact (Option.some.inj hn2).symm
      have hlt' : (i : Int) < len := by omega
      have hil : (i : Int) ≤ 2097152 := by omega
      have HLT := Lib.hid hlt
      obtain rfl := HA1
      obtain rfl := HA2
      obtain ⟨p, k, v⟩ := n'
      simp only at c0 c1 c2 d0 d1 d2
      have HS0 := Lib.hid (show wr.drew.cell? ⟨b, off + i * 3, none⟩ = some (.string p) ∧ wr.drew.cell? ⟨b, off + i * 3 + 1, none⟩ = some (.int .i64 k) ∧ wr.drew.cell? ⟨b, off + i * 3 + 2, none⟩ = some (.int .i64 v) ∧
        wr.drew.cell? ⟨b', off' + i * 3, none⟩ = some (.string p) ∧ wr.drew.cell? ⟨b', off' + i * 3 + 1, none⟩ = some (.int .i64 k) ∧ wr.drew.cell? ⟨b', off' + i * 3 + 2, none⟩ = some (.int .i64 v) from ⟨c0, c1, c2, d0, d1, d2⟩)
      have HCX := Lib.hid (HC.out ⟨p, k, v⟩ wr.drew)
      clear hlt hi hn1 hn2
      go_upto_region 6 with (fail)
      refine wp_region_held_drew (S := (fun w' => w'.cell? ⟨b, off + i * 3, none⟩ = some (.string p) ∧ w'.cell? ⟨b, off + i * 3 + 1, none⟩ = some (.int .i64 k) ∧ w'.cell? ⟨b, off + i * 3 + 2, none⟩ = some (.int .i64 v) ∧ w'.cell? ⟨b', off' + i * 3, none⟩ = some (.string p) ∧ w'.cell? ⟨b', off' + i * 3 + 1, none⟩ = some (.int .i64 k) ∧ w'.cell? ⟨b', off' + i * 3 + 2, none⟩ = some (.int .i64 v))) (by kernel_rfl) HS0.out (fun hH => ?_)
      refine wpAnyH_take (i := 0) (oi := _) (v := ?_) rfl (by kernel_rfl) (by kernel_rfl) (by kernel_rfl) (fun _ _ _ h => h) (Or.inl ⟨by rfl, ?_⟩) (by assumption) ?_
      rotate_left
      · (intro w hSw; (try dsimp only at hSw); go_simp; try with_reducible rfl)
      try simp only [Act.put, List.getElem_toArray, List.getElem_cons_zero, List.setIfInBounds_toArray, List.set_cons_zero, List.set_cons_succ]
      refine wpAnyH_take (i := 1) (oi := _) (v := ?_) rfl (by kernel_rfl) (by kernel_rfl) (by kernel_rfl) (fun _ _ _ h => h) (Or.inl ⟨by rfl, ?_⟩) (by assumption) ?_
      rotate_left
      · (intro w hSw; (try dsimp only at hSw); go_simp; try with_reducible rfl)
      try simp only [Act.put, List.getElem_toArray, List.getElem_cons_zero, List.getElem_cons_succ, List.setIfInBounds_toArray, List.set_cons_zero, List.set_cons_succ]
      refine wpAnyH_take (i := 2) (oi := _) (v := ?_) rfl (by kernel_rfl) (by kernel_rfl) (by kernel_rfl) (fun _ _ _ h => h) (Or.inl ⟨by rfl, ?_⟩) (by assumption) ?_
      rotate_left
      · (intro w hSw; (try dsimp only at hSw); go_simp; try with_reducible rfl)
      try simp only [Act.put, List.getElem_toArray, List.getElem_cons_zero, List.getElem_cons_succ, List.setIfInBounds_toArray, List.set_cons_zero, List.set_cons_succ]
      refine wpAnyH_take (i := 3) (oi := _) (v := ?_) rfl (by kernel_rfl) (by kernel_rfl) (by kernel_rfl) (fun _ _ _ h => h) (Or.inl ⟨by rfl, ?_⟩) (by assumption) ?_
      rotate_left
      · (intro w hSw; (try dsimp only at hSw); go_simp; try with_reducible rfl)
      try simp only [Act.put, List.getElem_toArray, List.getElem_cons_zero, List.getElem_cons_succ, List.setIfInBounds_toArray, List.set_cons_zero, List.set_cons_succ]
      refine wpAnyH_take (i := 4) (oi := _) (v := ?_) rfl (by kernel_rfl) (by kernel_rfl) (by kernel_rfl) (fun _ _ _ h => h) (Or.inl ⟨by rfl, ?_⟩) (by assumption) ?_
      rotate_left
      · (intro w hSw; (try dsimp only at hSw); go_simp; try with_reducible rfl)
      try simp only [Act.put, List.getElem_toArray, List.getElem_cons_zero, List.getElem_cons_succ, List.setIfInBounds_toArray, List.set_cons_zero, List.set_cons_succ]
      refine wpAnyH_take (i := 5) (oi := _) (v := ?_) rfl (by kernel_rfl) (by kernel_rfl) (by kernel_rfl) (fun _ _ _ h => h) (Or.inl ⟨by rfl, ?_⟩) (by assumption) ?_
      rotate_left
      · (intro w hSw; (try dsimp only at hSw); go_simp; try with_reducible rfl)
      try simp only [Act.put, List.getElem_toArray, List.getElem_cons_zero, List.getElem_cons_succ, List.setIfInBounds_toArray, List.set_cons_zero, List.set_cons_succ]
      refine wpAnyH_take (i := 6) (oi := _) (v := ?_) rfl (by kernel_rfl) (by kernel_rfl) (by kernel_rfl) (fun _ _ _ h => h) (Or.inl ⟨by rfl, ?_⟩) (by assumption) ?_
      rotate_left
      · (intro w hSw; (try dsimp only at hSw); go_simp; try with_reducible rfl)
      try simp only [Act.put, List.getElem_toArray, List.getElem_cons_zero, List.getElem_cons_succ, List.setIfInBounds_toArray, List.set_cons_zero, List.set_cons_succ]
      refine wpAnyH_take (i := 7) (oi := _) (v := ?_) rfl (by kernel_rfl) (by kernel_rfl) (by kernel_rfl) (fun _ _ _ h => h) (Or.inl ⟨by rfl, ?_⟩) (by assumption) ?_
      rotate_left
      · (intro w hSw; (try dsimp only at hSw); go_simp; try with_reducible rfl)
      try simp only [Act.put, List.getElem_toArray, List.getElem_cons_zero, List.getElem_cons_succ, List.setIfInBounds_toArray, List.set_cons_zero, List.set_cons_succ]
      refine wpAnyH_ready (rs := [8]) (by kernel_rfl) (by simp) ?_
      refine AllReadyH.cons rfl (fun K hK => ?_) (AllReadyH.nil)
      go_simp
      go_at_call 73; (with_reducible refine (HCX.out).mono ?_); rintro e W7 ⟨rfl, hb7⟩
      refine hK.out _ _ ⟨cell_kept hb7 HS0.out.1, cell_kept hb7 HS0.out.2.1, cell_kept hb7 HS0.out.2.2.1, cell_kept hb7 HS0.out.2.2.2.1, cell_kept hb7 HS0.out.2.2.2.2.1, cell_kept hb7 HS0.out.2.2.2.2.2⟩ (fun hHeld => ?_)
      try simp only [Act.put, List.getElem_toArray, List.getElem_cons_zero, List.getElem_cons_succ, List.setIfInBounds_toArray, List.set_cons_zero, List.set_cons_succ]
      have H7 := Lib.hid (below_next (show Below W.heap.size W wr.drew from HB.out.drew) hb7)
      refine wpAnyH_take (i := 9) (oi := _) (v := ?_) rfl (by kernel_rfl) (by kernel_rfl) (by kernel_rfl) (fun _ _ _ h => h) (Or.inl ⟨by rfl, ?_⟩) (by assumption) ?_
      rotate_left
      · (intro w hSw; (try dsimp only at hSw); go_simp; try with_reducible rfl)
      try simp only [Act.put, List.getElem_toArray, List.getElem_cons_zero, List.getElem_cons_succ, List.setIfInBounds_toArray, List.set_cons_zero, List.set_cons_succ]
      refine wpAnyH_done (by kernel_rfl) ?_ _
      go_wp2
      go_roundw
      case rel => exact ⟨i + 1, by go_num, by have := HLT.out; omega, H7.out⟩
      case measure => have := HLT.out; simp [intOf]; omega
    · have hge : (len : Int) ≤ i := by omega
      clear hlt
      go_wp2
      go_ret
      exact ⟨rfl, HB.out⟩

end Go.Proofs.Ytmlnakkfjecibaa

/-
  TEXTS OF PLACES: what stands ahead of a name (strings.TrimSuffix of a slash, and a slash).
-/
namespace Go.Proofs.Ytmlnakkfjecibaa
open Go.RowKit

def begB (v : List UInt8) : ByteArray := if v = [] then ⟨#[47]⟩ else pB v ++ ⟨#[47]⟩

theorem begB_name (v : List UInt8) (c : UInt8) : begB v ++ ⟨#[c]⟩ = pB (v ++ [c]) := by
  unfold begB
  by_cases h : v = []
  · rw [if_pos h, h]; rfl
  · rw [if_neg h]
    apply ByteArray.ext
    apply Array.ext'
    simp only [ByteArray.data_append, Array.toList_append]
    rw [pB_list, pB_list]
    unfold Pm.pathOf
    rw [if_neg h, if_neg (by simp), Pm.flat_append, List.append_assoc]
    rfl

theorem pB_last {v : List UInt8} (hv : Wrd v) (hn : v ≠ []) : ∃ m c, (pB v).size = m + 1 ∧ ((pB v).extract m (m + 1)).toList = [c] ∧ c ≠ 47 := by
  have e := Pm.flat_last v hn
  have hs : (pB v).data.toList = Pm.flat v.dropLast ++ [47, v.getLast hn] := by
    rw [pB_list]; unfold Pm.pathOf; rw [if_neg hn]; exact e
  have hz : (pB v).size = (Pm.flat v.dropLast ++ [47, v.getLast hn]).length := by rw [← hs]; rfl
  refine ⟨(Pm.flat v.dropLast).length + 1, v.getLast hn, by rw [hz]; simp, ?_, Pm.letter_not_47 (hv.2 _ (List.getLast_mem hn))⟩
  rw [Lib.toList_data, ByteArray.data_extract, Array.toList_extract, hs]
  simp [List.extract_eq_take_drop]

theorem beg_eq (v : List UInt8) : (if v = [] then (⟨#[]⟩ : ByteArray) else pB v) ++ ⟨#[47]⟩ = begB v := by
  unfold begB; split <;> rfl

end Go.Proofs.Ytmlnakkfjecibaa

/-
  WALKS: the nodes behind a place (impl.place.nodes).
-/
namespace Go.Proofs.Ytmlnakkfjecibaa
open Go.RowKit
set_option linter.unusedVariables false

/-- What is behind one letter. -/
def part (F : List UInt8 → Int × Int) (d : Nat) (w : List UInt8) (c : UInt8) : List Nd := oneAt F (w ++ [c]) ++ lst F d (w ++ [c])
def accN (F : List UInt8 → Int × Int) (d : Nat) (w : List UInt8) (n : Nat) : List Nd := (letters.take n).flatMap (part F d w)

theorem accN_four (F : List UInt8 → Int × Int) (d : Nat) (w : List UInt8) : accN F d w 4 = lst F (d + 1) w := rfl

theorem lst_len (F : List UInt8 → Int × Int) : ∀ (d : Nat) (w : List UInt8), (lst F d w).length + 1 ≤ 8 ^ d
  | 0, _ => by simp [lst]
  | d + 1, w => by
    have ho : ∀ u, (oneAt F u).length ≤ 1 := fun u => by unfold oneAt; split <;> simp
    have h1 := lst_len F d (w ++ [97])
    have h2 := lst_len F d (w ++ [98])
    have h3 := lst_len F d (w ++ [99])
    have h4 := lst_len F d (w ++ [100])
    have o1 := ho (w ++ [97])
    have o2 := ho (w ++ [98])
    have o3 := ho (w ++ [99])
    have o4 := ho (w ++ [100])
    have e : (lst F (d + 1) w).length = ((oneAt F (w ++ [97])).length + (lst F d (w ++ [97])).length) + (((oneAt F (w ++ [98])).length + (lst F d (w ++ [98])).length) + (((oneAt F (w ++ [99])).length + (lst F d (w ++ [99])).length) + ((oneAt F (w ++ [100])).length + (lst F d (w ++ [100])).length))) := by
      rw [show lst F (d + 1) w = letters.flatMap (part F d w) from rfl]
      unfold letters
      simp only [List.flatMap_cons, List.flatMap_nil, List.length_append, List.length_nil, Nat.add_zero]
      unfold part
      simp only [List.length_append]
    rw [e, Nat.pow_succ]
    have : 1 ≤ 8 ^ d := Nat.one_le_pow _ _ (by omega)
    omega

theorem lst_le {F : List UInt8 → Int × Int} {d : Nat} (hd : d ≤ 4) (w : List UInt8) : (lst F d w).length ≤ 4096 := by
  have h := lst_len F d w
  have : 8 ^ d ≤ 8 ^ 4 := Nat.pow_le_pow_right (by omega) hd
  omega

theorem accN_le {F : List UInt8 → Int × Int} {d : Nat} (hd : d < 4) (w : List UInt8) (n : Nat) : (accN F d w n).length ≤ 4096 := by
  have h : (accN F d w n).length ≤ (lst F (d + 1) w).length := by
    unfold accN
    rw [show lst F (d + 1) w = (letters.take n ++ letters.drop n).flatMap (part F d w) by rw [List.take_append_drop]; rfl, List.flatMap_append, List.length_append]
    omega
  have := lst_le (F := F) (show d + 1 ≤ 4 by omega) w
  omega

theorem accN_next (F : List UInt8 → Int × Int) (d : Nat) (w : List UInt8) {n : Nat} (hn : n < 4) : accN F d w (n + 1) = accN F d w n ++ part F d w (UInt8.ofNat (97 + n)) := by
  rcases (by omega : n = 0 ∨ n = 1 ∨ n = 2 ∨ n = 3) with rfl | rfl | rfl | rfl <;> simp [accN, letters] <;> rfl

theorem oneAt_zero {F : List UInt8 → Int × Int} {u : List UInt8} (h : (F u).1 = 0) : oneAt F u = [] := if_pos h
theorem oneAt_some {F : List UInt8 → Int × Int} {u : List UInt8} (h : (F u).1 ≠ 0) : oneAt F u = [ndAt F u] := if_neg h

theorem none_down {W : World} {A : List UInt8 → Option Nat} {F : List UInt8 → Int × Int} (h : Trie W A F) {w : List UInt8} (hn : A w = none) : ∀ u, A (w ++ u) = none := by
  intro u
  generalize hl : u.length = n
  induction n generalizing u with
  | zero => rw [List.length_eq_zero_iff.1 hl, List.append_nil]; exact hn
  | succ n ih =>
    have hu : u ≠ [] := fun e => by rw [e] at hl; cases hl
    have e := List.dropLast_concat_getLast hu
    rw [← e, ← List.append_assoc]
    exact h.up _ _ (ih _ (by rw [List.length_dropLast, hl]; rfl))

theorem part_none {W : World} {A : List UInt8 → Option Nat} {F : List UInt8 → Int × Int} (h : Trie W A F) {w : List UInt8} (hw : Wrd w) {d : Nat} (hd : w.length + (d + 1) ≤ 4) {c : UInt8} (hc : Pm.letter c = true) (hn : A (w ++ [c]) = none) : part F d w c = [] := by
  have hz : ∀ u, Wrd (w ++ [c] ++ u) → F (w ++ [c] ++ u) = (0, 0) := fun u hu => h.nil _ hu (none_down h hn u)
  have hwc : ∀ u, u.length ≤ d → (∀ x ∈ u, Pm.letter x = true) → Wrd (w ++ [c] ++ u) := fun u hu hl => ⟨by simp; omega, fun x hx => by
    rcases List.mem_append.1 hx with hx | hx
    · rcases List.mem_append.1 hx with hx | hx
      · exact hw.2 x hx
      · rw [List.mem_singleton.1 hx]; exact hc
    · exact hl x hx⟩
  unfold part
  rw [oneAt_zero, List.nil_append, List.eq_nil_iff_forall_not_mem]
  · intro x hx
    obtain ⟨c', u, h1, h2, h3, _⟩ := mem_lst.1 hx
    rw [hz (c' :: u) (hwc _ (by rw [List.length_cons]; omega) h2)] at h3
    exact h3 rfl
  · have := hz [] (hwc [] (by simp) (by simp))
    rw [List.append_nil] at this
    rw [this]

theorem letter_nth {n : Nat} (hn : n < 4) : Pm.letter (UInt8.ofNat (97 + n)) = true := by
  rcases (by omega : n = 0 ∨ n = 1 ∨ n = 2 ∨ n = 3) with rfl | rfl | rfl | rfl <;> decide

set_option maxHeartbeats 1000000 in
set_option maxRecDepth 100000 in
theorem index4 (a0 a1 a2 a3 : Option Nat) (W : World) : (Instr.index 83 (.agg #[ptrTo a0, ptrTo a1, ptrTo a2, ptrTo a3]) (.int .i64 0)).run Try.prog W = .ok (ptrTo a0) W ∧ (Instr.index 83 (.agg #[ptrTo a0, ptrTo a1, ptrTo a2, ptrTo a3]) (.int .i64 1)).run Try.prog W = .ok (ptrTo a1) W
    ∧ (Instr.index 83 (.agg #[ptrTo a0, ptrTo a1, ptrTo a2, ptrTo a3]) (.int .i64 2)).run Try.prog W = .ok (ptrTo a2) W ∧ (Instr.index 83 (.agg #[ptrTo a0, ptrTo a1, ptrTo a2, ptrTo a3]) (.int .i64 3)).run Try.prog W = .ok (ptrTo a3) W := by
  have h : Try.prog.underlying 83 = some (.array 4 79) := by kernel_rfl
  refine ⟨?_, ?_, ?_, ?_⟩ <;> simp [Instr.index, asIntOf, run_underlying h, go_sem, ptrTo]

theorem indexKid (A : List UInt8 → Option Nat) (w : List UInt8) {n : Nat} (hn : n < 4) (W : World) :
    (Instr.index 83 (.agg #[ptrTo (A (w ++ [97])), ptrTo (A (w ++ [98])), ptrTo (A (w ++ [99])), ptrTo (A (w ++ [100]))]) (.int .i64 n)).run Try.prog W = .ok (ptrTo (A (w ++ [UInt8.ofNat (97 + n)]))) W := by
  obtain ⟨h0, h1, h2, h3⟩ := index4 (A (w ++ [97])) (A (w ++ [98])) (A (w ++ [99])) (A (w ++ [100])) W
  rcases (by omega : n = 0 ∨ n = 1 ∨ n = 2 ∨ n = 3) with rfl | rfl | rfl | rfl
  · exact h0
  · exact h1
  · exact h2
  · exact h3

theorem indexNone {n : Nat} (hn : n < 4) (W : World) :
    (Instr.index 83 (.agg #[.pointer none, .pointer none, .pointer none, .pointer none]) (.int .i64 n)).run Try.prog W = .ok (.pointer none) W := by
  obtain ⟨h0, h1, h2, h3⟩ := index4 none none none none W
  rcases (by omega : n = 0 ∨ n = 1 ∨ n = 2 ∨ n = 3) with rfl | rfl | rfl | rfl
  · exact h0
  · exact h1
  · exact h2
  · exact h3

theorem encode_nth {n : Nat} (hn : n < 4) : Utf8.encode (97 + (n : Int)) = ⟨#[UInt8.ofNat (97 + n)]⟩ := by
  rcases (by omega : n = 0 ∨ n = 1 ∨ n = 2 ∨ n = 3) with rfl | rfl | rfl | rfl <;> rfl

theorem flatN_one_cell (ns : List Nd) : ∀ u ∈ flatN ns, u.oneCell' = true := by
  intro u hu
  unfold flatN at hu
  obtain ⟨n, _, hn⟩ := List.mem_flatMap.1 hu
  simp at hn
  rcases hn with rfl | rfl | rfl <;> rfl

theorem own_cells {W : World} {base : Nat} {e : TypeId} {ns : List Nd} {g cap : Nat} (h : W.ownsRow base e 3 (.slice (some ⟨g, 0, none⟩) ns.length cap) ns.length (flatN ns)) :
    ∀ j u, (flatN ns)[j]? = some u → W.cell? ((⟨g, 0, none⟩ : Addr).add j) = some u := by
  intro j u hj
  have hl := flatN_length ns
  have hj' := (List.getElem?_eq_some_iff.1 hj).1
  have := h.cellAt j (by omega)
  have e2 : ((⟨g, 0, none⟩ : Addr).add j) = ⟨g, j, none⟩ := by
    unfold Addr.add
    split
    · rename_i h0; rw [h0]
    · simp
  rw [e2]
  exact this.trans hj

theorem own_join {W : World} {b : Nat} {e : TypeId} {v : Value} {acc more : List Nd} (h : W.ownsRow b e 3 v (acc.length + more.length) (flatN acc ++ flatN more)) : W.ownsRow b e 3 v (acc ++ more).length (flatN (acc ++ more)) := by
  rw [flatN_append, List.length_append]; exact h

theorem own_cases {W : World} {base : Nat} {e : TypeId} {size n : Nat} {v : Value} {xs : List Value} (h : W.ownsRow base e size v n xs) : (v = .slice none 0 0 ∧ n = 0) ∨ ∃ g cap, v = .slice (some ⟨g, 0, none⟩) n cap := by
  rcases h.2 with h | ⟨g, cap, _, h, _⟩
  · exact .inl h
  · exact .inr ⟨g, cap, h⟩

/-- What nodes returns. -/
def NodesPost (F : List UInt8 → Int × Int) (d : Nat) (w : List UInt8) (W : World) (e : Ending) (W' : World) : Prop := OwnsNodes W.heap.size (lst F d w) e W' ∧ Below W.heap.size W W'

def NodesRel (F : List UInt8 → Int × Int) (d : Nat) (w : List UInt8) (W : World) (o i : Value) (wr : World) : Prop :=
  ∃ n : Nat, i = .int .i64 n ∧ n ≤ 4 ∧ wr.ownsRow W.heap.size 46 3 o (accN F d w n).length (flatN (accN F d w n)) ∧ Hid (Below W.heap.size W wr)

end Go.Proofs.Ytmlnakkfjecibaa

/-
  WALKS: laws.markText, markNodeS, markStringS, heldNodeS, heldStringS, eqStringS: what a test writes into memory of the program's, and finds again.
-/
namespace Go.Proofs.Ytmlnakkfjecibaa
open Go.RowKit
set_option linter.unusedVariables false

/-- The digits of a number, ahead of a text. -/
def digs : Nat → Nat → ByteArray → ByteArray
  | 0, _, out => out
  | f + 1, k, out => if k = 0 then out else digs f (k / 10) (⟨#[UInt8.ofNat (48 + k % 10)]⟩ ++ out)

/-- The text of a mark. -/
def mtext (k : Nat) : ByteArray := ⟨#[109]⟩ ++ digs k k ⟨#[]⟩

theorem digs_zero (f : Nat) (out : ByteArray) : digs f 0 out = out := by cases f <;> simp [digs]
theorem digs_more : ∀ (f g k : Nat) (out : ByteArray), k ≤ f → k ≤ g → digs f k out = digs g k out
  | 0, g, k, out, h, _ => by rw [show k = 0 by omega, digs_zero, digs_zero]
  | f + 1, 0, k, out, _, h => by rw [show k = 0 by omega, digs_zero, digs_zero]
  | f + 1, g + 1, k, out, h1, h2 => by
    unfold digs
    split
    · rfl
    · exact digs_more f g _ _ (by omega) (by omega)
theorem digs_step {k : Nat} (out : ByteArray) (hk : 0 < k) : digs k k out = digs (k / 10) (k / 10) (⟨#[UInt8.ofNat (48 + k % 10)]⟩ ++ out) := by
  obtain ⟨f, rfl⟩ : ∃ f, k = f + 1 := ⟨k - 1, by omega⟩
  conv => lhs; unfold digs
  rw [if_neg (by omega)]
  exact digs_more _ _ _ _ (by omega) (by omega)

theorem convByte (w : World) (r : Nat) (hr : r ≤ 9) : (convert 22 9 (.slice (some ⟨w.heap.size, 0, none⟩) 1 1)).run Try.prog (w.alloc (.cells #[.int .u8 (48 + (r : Int))] 5)) =
    .ok (.string ⟨#[UInt8.ofNat (48 + r)]⟩) (w.alloc (.cells #[.int .u8 (48 + (r : Int))] 5)) := by
  rw [run_convert_bytes_string _ _ _ _ _ _ _ Try.underlying22 Try.underlying5 Try.underlying9, run_bytesToString _ _ _ _ [48 + (r : Int)] ?_]
  · simp only [List.foldl_cons, List.foldl_nil]
    have : (48 + (r : Int)).toNat = 48 + r := by omega
    rw [this]; rfl
  · simp [loadCells, go_sem, Addr.add]

def MarkRel (k0 : Nat) (W : World) (kv o : Value) (wr : World) : Prop :=
  ∃ (k : Nat) (out : ByteArray), kv = .int .i64 k ∧ o = .string out ∧ out.size + k ≤ k0 ∧ Hid (digs k k out = digs k0 k0 ⟨#[]⟩) ∧ Hid (Below W.heap.size W wr)

set_option maxHeartbeats 2000000 in
set_option maxRecDepth 100000 in
theorem markText_c (k0 : Nat) (h1 : 1 ≤ k0) (h2 : k0 ≤ 1099511627776) (W : World) :
    Calls Try.prog 70 #[.int .i64 k0] W fun e W' => e = .returned (.string (mtext k0)) ∧ Below W.heap.size W W' := by
  have hp : (0 : Int) < k0 := by omega
  go_enter Try.func70, Try.ntmps70
  go_wp2
  go_loopw [0, 3] (fun kv o wr => MarkRel k0 W kv o wr) (fun kv _ _ => (intOf kv).toNat)
  case atStart => exact ⟨k0, ⟨#[]⟩, rfl, rfl, by show 0 + k0 ≤ k0; omega, rfl, Below.refl _ _⟩
  case round =>
    obtain ⟨k, out, rfl, rfl, hsz, HD, HB⟩ := hrel
    by_cases hk : 0 < k
    · have hk' : (0 : Int) < k := by omega
      have hkm : (k : Int) ≤ 1099511627776 := by omega
      obtain ⟨r, hr⟩ : ∃ r, r = k % 10 := ⟨_, rfl⟩
      obtain ⟨q, hq⟩ : ∃ q, q = k / 10 := ⟨_, rfl⟩
      have hr0 : (k : Int).tmod 10 = (r : Int) := by rw [hr]; rfl
      have hq0 : (k : Int).tdiv 10 = (q : Int) := by rw [hq]; rfl
      have hr9 : (r : Int) ≤ 9 := by omega
      have hqk : q < k := by omega
      have hqm : (q : Int) ≤ 1099511627776 := by omega
      have HSZ := Lib.hid hsz
      have HQK := Lib.hid hqk
      have HDS := Lib.hid (show digs k k out = digs q q (⟨#[UInt8.ofNat (48 + r)]⟩ ++ out) by rw [hr, hq]; exact digs_step out hk)
      have hos : out.size ≤ 1099511627776 := by omega
      have hcv := convByte wr r (by omega)
      clear hk hsz hr hq hqk
      go_wp2
      have he : (48 + UInt8.ofNat r) = UInt8.ofNat (48 + r) := by rw [UInt8.ofNat_add]; rfl
      rw [he]
      go_roundw
      case rel =>
        refine ⟨q, ⟨#[UInt8.ofNat (48 + r)]⟩ ++ out, rfl, rfl, ?_, ?_, below_next HB.out (below_box _ _)⟩
        · rw [ByteArray.size_append]
          have h5 := HSZ.out
          have h6 := HQK.out
          show 1 + out.size + q ≤ k0
          omega
        · show _ = _
          rw [← HDS.out]; exact HD.out
      case measure => have := HQK.out; simp [intOf]; omega
    · have hk0 : k = 0 := by omega
      subst hk0
      have hos : out.size ≤ 1099511627776 := by omega
      have HE := Lib.hid (show ⟨#[109]⟩ ++ out = mtext k0 by unfold mtext; rw [← HD.out, digs_zero])
      clear hsz hk
      go_wp2
      refine bodyPost_ret (v := .string (⟨#[109]⟩ ++ out)) (by simp [results, Try.f70, go_sem]) rfl ⟨by rw [HE.out], HB.out⟩

/-! ## Lists of nodes -/

/-- The nodes that a test writes. -/
def markN (n : Nat) : List Nd := (List.range n).map (fun i => ⟨mtext (1 + 3 * i), 1 + 3 * (i : Int) + 1, 1 + 3 * (i : Int) + 1 + 1⟩)
theorem markN_len (n : Nat) : (markN n).length = n := by simp [markN]
theorem markN_get {n i : Nat} (h : i < n) : (markN n)[i]? = some ⟨mtext (1 + 3 * i), 1 + 3 * (i : Int) + 1, 1 + 3 * (i : Int) + 1 + 1⟩ := by
  unfold markN; rw [List.getElem?_map, List.getElem?_range h]; rfl

def MarkedRel (len base : Nat) (v : Value) (W : World) (kv i : Value) (wr : World) : Prop :=
  ∃ (n : Nat) (zs : List Value), i = .int .i64 n ∧ kv = .int .i64 (1 + 3 * (n : Int)) ∧ n ≤ len ∧ zs.length = (len - n) * 3 ∧ wr.ownsRow base 46 3 v len (flatN ((markN len).take n) ++ zs) ∧ Hid (W.grownBy wr v.ownBlock)

theorem _root_.Go.World.grownBy.set {A B : World} {g : Nat} {n cap : Nat} (h : A.grownBy B (Value.slice (some ⟨g, 0, none⟩) n cap).ownBlock) (g' i : Nat) (hg : g' = g) (u : Value) : A.grownBy (B.setCell ⟨g', i, none⟩ u) (Value.slice (some ⟨g, 0, none⟩) n cap).ownBlock := by
  subst hg
  exact ⟨h.os, h.tape, h.output, by (have hz : (B.setCell ⟨g', i, none⟩ u).heap.size = B.heap.size := by simp [World.setCell]); (rw [hz]); exact h.size, fun k hk hr => (Below.heap_setCell _ _ _ _ (fun e => hr (by rw [e]; rfl))).trans (h.block k hk hr)⟩

theorem grown_next {A B C : World} {row : Option Nat} (h : A.grownBy B row) (k : Below B.heap.size B C) : A.grownBy C row :=
  ⟨k.os.trans h.os, k.tape.trans h.tape, k.output.trans h.output, Nat.le_trans h.size k.size, fun i hi hr => (k.block i (by have := h.size; omega)).trans (h.block i hi hr)⟩

set_option maxHeartbeats 2000000 in
set_option maxRecDepth 100000 in
theorem markNodeS_c (v : Value) (base len : Nat) (xs : List Value) (hl : len ≤ 2097152) (W : World) (h : W.ownsRow base 46 3 v len xs) :
    Calls Try.prog 43 #[v, .int .i64 1] W fun e W' => e = .returned (.int .i64 (1 + 3 * (len : Int))) ∧ W.grownBy W' v.ownBlock ∧ W'.ownsRow base 46 3 v len (flatN (markN len)) := by
  have HX := Lib.hid h
  have hxl := h.1
  have HMT := Lib.hid (fun k (h1 : 1 ≤ k) (h2 : k ≤ 1099511627776) w => markText_c k h1 h2 w)
  obtain ⟨a, cap, hv⟩ : ∃ a cap, v = .slice a len cap := by
    rcases own_cases h with ⟨h1, h2⟩ | ⟨g, cap, h1⟩
    · exact ⟨none, 0, by rw [h1, h2]⟩
    · exact ⟨_, cap, h1⟩
  have hl' : (len : Int) ≤ 2097152 := by omega
  clear h
  subst hv
  go_enter Try.func43, Try.ntmps43
  go_wp2
  go_loopw [1, 5] (fun kv i wr => MarkedRel len base (.slice a len cap) W kv i wr) (fun _ i _ => len - (intOf i).toNat)
  case atStart => exact ⟨0, xs, rfl, rfl, by omega, by rw [hxl]; rfl, HX.out, ⟨rfl, rfl, rfl, Nat.le_refl _, fun _ _ _ => rfl⟩⟩
  case round =>
    obtain ⟨i, zs, rfl, rfl, hi, hzl, hown, HG⟩ := hrel
    by_cases hlt : i < len
    · have hlt' : (i : Int) < len := by omega
      have hil : (i : Int) ≤ 2097152 := by omega
      have HLT := Lib.hid hlt
      have HZ := Lib.hid (And.intro hzl (show 3 ≤ zs.length by omega))
      rcases own_cases hown with ⟨_, h2⟩ | ⟨g, cap', h2⟩
      · omega
      simp at h2
      obtain ⟨rfl, rfl⟩ := h2
      have HO := Lib.hid hown
      have HM := Lib.hid (show Calls Try.prog 70 #[.int .i64 (1 + 3 * (i : Int))] wr (fun e W' => e = .returned (.string (mtext (1 + 3 * i))) ∧ Below wr.heap.size wr W') by have := HMT.out (1 + 3 * i) (by omega) (by omega) wr; rwa [show ((1 + 3 * i : Nat) : Int) = 1 + 3 * (i : Int) by push_cast; rfl] at this)
      clear hi hlt hzl hown
      go_wp2_with fail
      refine HM.out.mono ?_
      rintro e W2 ⟨rfl, hb2⟩
      have HO2 := Lib.hid (own_below HO.out hb2)
      have HG2 := Lib.hid (grown_next HG.out hb2)
      have hll : (flatN ((markN len).take i)).length = i * 3 := by rw [flatN_length, List.length_take, markN_len]; have := HLT.out; omega
      have cell : ∀ j, j < 3 → ∃ u, W2.cell? ⟨g, i * 3 + j, none⟩ = some u := by
        intro j hj
        have hx := HZ.out.1
        have hy := HLT.out
        rw [HO2.out.cellAt _ (by omega)]
        exact ⟨_, List.getElem?_eq_getElem (by rw [List.length_append, hll]; omega)⟩
      obtain ⟨u0, e0⟩ := cell 0 (by omega)
      replace e0 : W2.cell? ⟨g, i * 3, none⟩ = some u0 := e0
      obtain ⟨u1, e1⟩ := cell 1 (by omega)
      obtain ⟨u2, e2⟩ := cell 2 (by omega)
      have y0 := HO2.out.frozenAt (i * 3)
      have y1 := HO2.out.frozenAt (i * 3 + 1)
      have y2 := HO2.out.frozenAt (i * 3 + 2)
      generalize hmt : mtext (1 + 3 * i) = mt
      have HMTX := Lib.hid hmt
      clear cell hll hb2 hmt
      go_wp2
      have HS3 := stored3 HO2.out (i * 3) (.string mt) (.int .i64 (1 + 3 * (i : Int) + 1)) (.int .i64 (1 + 3 * (i : Int) + 1 + 1))
      rw [← HMTX.out, flatN_take_set (markN len) i _ zs (markN_get HLT.out) HZ.out.2] at HS3
      go_roundw
      case rel =>
        refine ⟨i + 1, zs.drop 3, by push_cast; rfl, by rw [show 1 + 3 * ((i + 1 : Nat) : Int) = 1 + 3 * (i : Int) + 1 + 1 + 1 by omega], by have := HLT.out; omega, by rw [List.length_drop]; have h1 := HZ.out.1; have h2 := HZ.out.2; have h3 := HLT.out; omega, ?_, ?_⟩
        · rw [← HMTX.out]; exact HS3
        · exact ((HG2.out.set _ _ rfl _).set _ _ rfl _).set _ _ rfl _
      case measure => have := HLT.out; simp [intOf]; omega
    · have hge : (len : Int) ≤ i := by omega
      have hie : i = len := by omega
      have hz0' : zs = [] := List.eq_nil_of_length_eq_zero (by omega)
      subst hz0'
      subst hie
      rw [List.append_nil, List.take_of_length_le (by rw [markN_len]; omega)] at hown
      clear hi hlt
      go_wp2
      refine bodyPost_ret (v := .int .i64 (1 + 3 * (i : Int))) (by simp [results, Try.f43, go_sem]) rfl ⟨rfl, HG.out, hown⟩


def HeldRel (len st : Nat) (W : World) (kv i : Value) (wr : World) : Prop :=
  ∃ n : Nat, i = .int .i64 n ∧ kv = .int .i64 (1 + (st : Int) * (n : Int)) ∧ n ≤ len ∧ Hid (Below W.heap.size W wr)

set_option maxHeartbeats 2000000 in
set_option maxRecDepth 100000 in
theorem heldNodeS_c (a : Option Addr) (len cap : Nat) (hl : len ≤ 2097152) (W : World) (hN : NodesAt W a len (markN len)) :
    Calls Try.prog 44 #[.slice a len cap, .int .i64 1] W fun e W' => e = .returned (.int .i64 (1 + 3 * (len : Int))) ∧ Below W.heap.size W W' := by
  have HN := Lib.hid hN
  have HMT := Lib.hid (fun k (h1 : 1 ≤ k) (h2 : k ≤ 1099511627776) w => markText_c k h1 h2 w)
  have hl' : (len : Int) ≤ 2097152 := by omega
  clear hN
  go_enter Try.func44, Try.ntmps44
  go_wp2
  go_loopw [1, 5] (fun kv i wr => HeldRel len 3 W kv i wr) (fun _ i _ => len - (intOf i).toNat)
  case atStart => exact ⟨0, rfl, rfl, by omega, Below.refl _ _⟩
  case round =>
    obtain ⟨i, rfl, rfl, hi, HB⟩ := hrel
    by_cases hlt : i < len
    · obtain ⟨b, off, n, rfl, hn, c0, c1, c2⟩ := (HN.out.keep HB.out).node hlt
      have hlt' : (i : Int) < len := by omega
      have hil : (i : Int) ≤ 2097152 := by omega
      have HLT := Lib.hid hlt
      rw [markN_get hlt] at hn
      obtain rfl := Option.some.inj hn
      have HM := Lib.hid (show Calls Try.prog 70 #[.int .i64 (1 + 3 * (i : Int))] wr.drew (fun e W' => e = .returned (.string (mtext (1 + 3 * i))) ∧ Below wr.drew.heap.size wr.drew W') by have := HMT.out (1 + 3 * i) (by omega) (by omega) wr.drew; rwa [show ((1 + 3 * i : Nat) : Int) = 1 + 3 * (i : Int) by push_cast; rfl] at this)
      simp only at c0 c1 c2
      generalize hmt : mtext (1 + 3 * i) = mt at HM c0
      have HS0 := Lib.hid (show wr.drew.cell? ⟨b, off + i * 3, none⟩ = some (.string mt) ∧ wr.drew.cell? ⟨b, off + i * 3 + 1, none⟩ = some (.int .i64 (1 + 3 * (i : Int) + 1)) ∧ wr.drew.cell? ⟨b, off + i * 3 + 2, none⟩ = some (.int .i64 (1 + 3 * (i : Int) + 1 + 1)) from ⟨c0, c1, c2⟩)
      clear hlt hi hn hmt
      rw [show ((3 : Nat) : Int) = 3 from rfl]
      go_upto_region 4 with (fail)
      refine wp_region_held_drew (S := (fun w' => w'.cell? ⟨b, off + i * 3, none⟩ = some (.string mt) ∧ w'.cell? ⟨b, off + i * 3 + 1, none⟩ = some (.int .i64 (1 + 3 * (i : Int) + 1)) ∧ w'.cell? ⟨b, off + i * 3 + 2, none⟩ = some (.int .i64 (1 + 3 * (i : Int) + 1 + 1)))) (by kernel_rfl) HS0.out (fun hH => ?_)
      refine wpAnyH_take (i := 0) (oi := _) (v := ?_) rfl (by kernel_rfl) (by kernel_rfl) (by kernel_rfl) (fun _ _ _ h => h) (Or.inl ⟨by rfl, ?_⟩) (by assumption) ?_
      rotate_left
      · (intro w hSw; (try dsimp only at hSw); go_simp; try with_reducible rfl)
      try simp only [Act.put, List.getElem_toArray, List.getElem_cons_zero, List.setIfInBounds_toArray, List.set_cons_zero, List.set_cons_succ]
      refine wpAnyH_take (i := 1) (oi := _) (v := ?_) rfl (by kernel_rfl) (by kernel_rfl) (by kernel_rfl) (fun _ _ _ h => h) (Or.inl ⟨by rfl, ?_⟩) (by assumption) ?_
      rotate_left
      · (intro w hSw; (try dsimp only at hSw); go_simp; try with_reducible rfl)
      try simp only [Act.put, List.getElem_toArray, List.getElem_cons_zero, List.getElem_cons_succ, List.setIfInBounds_toArray, List.set_cons_zero, List.set_cons_succ]
      refine wpAnyH_take (i := 2) (oi := _) (v := ?_) rfl (by kernel_rfl) (by kernel_rfl) (by kernel_rfl) (fun _ _ _ h => h) (Or.inl ⟨by rfl, ?_⟩) (by assumption) ?_
      rotate_left
      · (intro w hSw; (try dsimp only at hSw); go_simp; try with_reducible rfl)
      try simp only [Act.put, List.getElem_toArray, List.getElem_cons_zero, List.getElem_cons_succ, List.setIfInBounds_toArray, List.set_cons_zero, List.set_cons_succ]
      refine wpAnyH_take (i := 3) (oi := _) (v := ?_) rfl (by kernel_rfl) (by kernel_rfl) (by kernel_rfl) (fun _ _ _ h => h) (Or.inl ⟨by rfl, ?_⟩) (by assumption) ?_
      rotate_left
      · (intro w hSw; (try dsimp only at hSw); go_simp; try with_reducible rfl)
      try simp only [Act.put, List.getElem_toArray, List.getElem_cons_zero, List.getElem_cons_succ, List.setIfInBounds_toArray, List.set_cons_zero, List.set_cons_succ]
      refine wpAnyH_take (i := 4) (oi := _) (v := ?_) rfl (by kernel_rfl) (by kernel_rfl) (by kernel_rfl) (fun _ _ _ h => h) (Or.inl ⟨by rfl, ?_⟩) (by assumption) ?_
      rotate_left
      · (intro w hSw; (try dsimp only at hSw); go_simp; try with_reducible rfl)
      try simp only [Act.put, List.getElem_toArray, List.getElem_cons_zero, List.getElem_cons_succ, List.setIfInBounds_toArray, List.set_cons_zero, List.set_cons_succ]
      refine wpAnyH_take (i := 5) (oi := _) (v := ?_) rfl (by kernel_rfl) (by kernel_rfl) (by kernel_rfl) (fun _ _ _ h => h) (Or.inl ⟨by rfl, ?_⟩) (by assumption) ?_
      rotate_left
      · (intro w hSw; (try dsimp only at hSw); go_simp; try with_reducible rfl)
      try simp only [Act.put, List.getElem_toArray, List.getElem_cons_zero, List.getElem_cons_succ, List.setIfInBounds_toArray, List.set_cons_zero, List.set_cons_succ]
      refine wpAnyH_ready (rs := [6]) (by kernel_rfl) (by simp) ?_
      refine AllReadyH.cons rfl (fun K hK => ?_) (AllReadyH.nil)
      go_simp
      go_at_call 70; (with_reducible refine (HM.out).mono ?_); rintro e W7 ⟨rfl, hb7⟩
      refine hK.out _ _ ⟨cell_kept hb7 HS0.out.1, cell_kept hb7 HS0.out.2.1, cell_kept hb7 HS0.out.2.2⟩ (fun hHeld => ?_)
      try simp only [Act.put, List.getElem_toArray, List.getElem_cons_zero, List.getElem_cons_succ, List.setIfInBounds_toArray, List.set_cons_zero, List.set_cons_succ]
      have H7 := Lib.hid (below_next (show Below W.heap.size W wr.drew from HB.out.drew) hb7)
      have v1 := cell_kept hb7 HS0.out.2.1
      have v2 := cell_kept hb7 HS0.out.2.2
      refine wpAnyH_take (i := 7) (oi := _) (v := ?_) rfl (by kernel_rfl) (by kernel_rfl) (by kernel_rfl) (fun _ _ _ h => h) (Or.inl ⟨by rfl, ?_⟩) (by assumption) ?_
      rotate_left
      · (intro w hSw; (try dsimp only at hSw); go_simp; try with_reducible rfl)
      try simp only [Act.put, List.getElem_toArray, List.getElem_cons_zero, List.getElem_cons_succ, List.setIfInBounds_toArray, List.set_cons_zero, List.set_cons_succ]
      refine wpAnyH_done (by kernel_rfl) ?_ _
      clear c0 c1 c2 hb7
      go_wp2
      go_roundw
      case rel => exact ⟨i + 1, by push_cast; rfl, by rw [show 1 + ((3 : Nat) : Int) * ((i + 1 : Nat) : Int) = 1 + 3 * (i : Int) + 1 + 1 + 1 by omega], by have := HLT.out; omega, H7.out⟩
      case measure => have := HLT.out; simp [intOf]; omega
    · have hge : (len : Int) ≤ i := by omega
      have hie : i = len := by omega
      subst hie
      clear hi hlt
      go_wp2
      refine bodyPost_ret (v := .int .i64 (1 + ((3 : Nat) : Int) * (i : Int))) (by simp [results, Try.f44, go_sem]) rfl ⟨rfl, HB.out⟩

/-! ## Lists of texts -/

def markS (n : Nat) : List ByteArray := (List.range n).map (fun i => mtext (1 + i))
theorem markS_len (n : Nat) : (markS n).length = n := by simp [markS]
theorem markS_get {n i : Nat} (h : i < n) : (markS n)[i]? = some (mtext (1 + i)) := by
  unfold markS; rw [List.getElem?_map, List.getElem?_range h]; rfl

def MarkedSRel (len base : Nat) (v : Value) (W : World) (kv i : Value) (wr : World) : Prop :=
  ∃ (n : Nat) (zs : List Value), i = .int .i64 n ∧ kv = .int .i64 (1 + (n : Int)) ∧ n ≤ len ∧ zs.length = len - n ∧ wr.ownsRow base 9 1 v len (((markS len).take n).map Value.string ++ zs) ∧ Hid (W.grownBy wr v.ownBlock)

theorem take_set_one {α : Type} (l : List α) (i : Nat) (x : α) (zs : List α) (h : l.length = i) (hz : 1 ≤ zs.length) : (l ++ zs).set i x = (l ++ [x]) ++ zs.drop 1 := by
  match zs, hz with
  | a :: r, _ =>
    rw [List.set_append_right _ _ (by omega), h, Nat.sub_self]
    simp

set_option maxHeartbeats 2000000 in
set_option maxRecDepth 100000 in
theorem markStringS_c (v : Value) (base len : Nat) (xs : List Value) (hl : len ≤ 2097152) (W : World) (h : W.ownsRow base 9 1 v len xs) :
    Calls Try.prog 37 #[v, .int .i64 1] W fun e W' => e = .returned (.int .i64 (1 + (len : Int))) ∧ W.grownBy W' v.ownBlock ∧ W'.ownsRow base 9 1 v len ((markS len).map Value.string) := by
  have HX := Lib.hid h
  have hxl := h.1
  have HMT := Lib.hid (fun k (h1 : 1 ≤ k) (h2 : k ≤ 1099511627776) w => markText_c k h1 h2 w)
  obtain ⟨a, cap, hv⟩ : ∃ a cap, v = .slice a len cap := by
    rcases own_cases h with ⟨h1, h2⟩ | ⟨g, cap, h1⟩
    · exact ⟨none, 0, by rw [h1, h2]⟩
    · exact ⟨_, cap, h1⟩
  have hl' : (len : Int) ≤ 2097152 := by omega
  clear h
  subst hv
  go_enter Try.func37, Try.ntmps37
  go_wp2
  go_loopw [1, 5] (fun kv i wr => MarkedSRel len base (.slice a len cap) W kv i wr) (fun _ i _ => len - (intOf i).toNat)
  case atStart => exact ⟨0, xs, rfl, rfl, by omega, by rw [hxl]; omega, HX.out, ⟨rfl, rfl, rfl, Nat.le_refl _, fun _ _ _ => rfl⟩⟩
  case round =>
    obtain ⟨i, zs, rfl, rfl, hi, hzl, hown, HG⟩ := hrel
    by_cases hlt : i < len
    · have hlt' : (i : Int) < len := by omega
      have hil : (i : Int) ≤ 2097152 := by omega
      have HLT := Lib.hid hlt
      have HZ := Lib.hid (And.intro hzl (show 1 ≤ zs.length by omega))
      rcases own_cases hown with ⟨_, h2⟩ | ⟨g, cap', h2⟩
      · omega
      simp at h2
      obtain ⟨rfl, rfl⟩ := h2
      have HO := Lib.hid hown
      have HM := Lib.hid (show Calls Try.prog 70 #[.int .i64 (1 + (i : Int))] wr (fun e W' => e = .returned (.string (mtext (1 + i))) ∧ Below wr.heap.size wr W') by have := HMT.out (1 + i) (by omega) (by omega) wr; rwa [show ((1 + i : Nat) : Int) = 1 + (i : Int) by push_cast; rfl] at this)
      clear hi hlt hzl hown
      go_wp2_with fail
      refine HM.out.mono ?_
      rintro e W2 ⟨rfl, hb2⟩
      have HO2 := Lib.hid (own_below HO.out hb2)
      have HG2 := Lib.hid (grown_next HG.out hb2)
      have hll : (((markS len).take i).map Value.string).length = i := by rw [List.length_map, List.length_take, markS_len]; have := HLT.out; omega
      have HLL := Lib.hid hll
      obtain ⟨u0, e0⟩ : ∃ u, W2.cell? ⟨g, i, none⟩ = some u := by
        have hx := HZ.out.1
        have hy := HLT.out
        rw [HO2.out.cellAt _ (by omega)]
        exact ⟨_, List.getElem?_eq_getElem (by rw [List.length_append, hll]; omega)⟩
      have y0 := HO2.out.frozenAt i
      generalize hmt : mtext (1 + i) = mt
      have HMTX := Lib.hid hmt
      clear hll hb2 hmt
      go_wp2
      have HS1 := (HO2.out.stored i (.string mt)).1
      rw [take_set_one _ i _ zs HLL.out HZ.out.2] at HS1
      go_roundw
      case rel =>
        refine ⟨i + 1, zs.drop 1, by push_cast; rfl, by rw [show 1 + ((i + 1 : Nat) : Int) = 1 + (i : Int) + 1 by omega], by have := HLT.out; omega, by rw [List.length_drop]; have h1 := HZ.out.1; have h2 := HZ.out.2; have h3 := HLT.out; omega, ?_, HG2.out.set _ _ rfl _⟩
        rw [List.take_add_one, markS_get HLT.out, List.map_append, HMTX.out]; exact HS1
      case measure => have := HLT.out; simp [intOf]; omega
    · have hge : (len : Int) ≤ i := by omega
      have hie : i = len := by omega
      have hz0' : zs = [] := List.eq_nil_of_length_eq_zero (by omega)
      subst hz0'
      subst hie
      rw [List.append_nil, List.take_of_length_le (by rw [markS_len]; omega)] at hown
      clear hi hlt
      go_wp2
      refine bodyPost_ret (v := .int .i64 (1 + (i : Int))) (by simp [results, Try.f37, go_sem]) rfl ⟨rfl, HG.out, hown⟩

def HeldSRel (len : Nat) (W : World) (kv i : Value) (wr : World) : Prop :=
  ∃ n : Nat, i = .int .i64 n ∧ kv = .int .i64 (1 + (n : Int)) ∧ n ≤ len ∧ Hid (Below W.heap.size W wr)

set_option maxHeartbeats 2000000 in
set_option maxRecDepth 100000 in
theorem eqStringS_c (a1 a2 : Option Addr) (len c1 c2 : Nat) (ns : List ByteArray) (hl : len ≤ 2097152) (W : World) (h1 : TextsAt W a1 len ns) (h2 : TextsAt W a2 len ns) :
    Calls Try.prog 32 #[.slice a1 len c1, .slice a2 len c2] W (BoolPost true W) := by
  have H1 := Lib.hid h1
  have H2 := Lib.hid h2
  have hl' : (len : Int) ≤ 2097152 := by omega
  clear h1 h2
  go_enter Try.func32, Try.ntmps32
  go_wp2
  go_loopw [5] (fun i wr => EqRel len W i wr) (fun i _ => len - (intOf i).toNat)
  case atStart => exact ⟨0, rfl, by omega, Below.refl _ _⟩
  case round =>
    obtain ⟨i, rfl, hi, HB⟩ := hrel
    by_cases hlt : i < len
    · obtain ⟨b, off, n, rfl, hn1, c0⟩ := (H1.out.keep HB.out).node hlt
      obtain ⟨b', off', n', rfl, hn2, d0⟩ := (H2.out.keep HB.out).node hlt
      obtain rfl : n' = n := by rw [hn1] at hn2; exact (Option.some.inj hn2).symm
      have hlt' : (i : Int) < len := by omega
      have hil : (i : Int) ≤ 2097152 := by omega
      have HLT := Lib.hid hlt
      clear hlt hi hn1 hn2
      go_wp2
      go_quiet (fail)
      go_wp2
      go_roundw
      case rel => exact ⟨i + 1, by go_num, by have := HLT.out; omega, below_drewN HB.out nq⟩
      case measure => have := HLT.out; simp [intOf]; omega
    · have hge : (len : Int) ≤ i := by omega
      clear hlt
      go_wp2
      go_ret
      exact ⟨rfl, HB.out⟩

end Go.Proofs.Ytmlnakkfjecibaa

/-
  WALKS: laws.markCommandS (from any number on), laws.heldCommandS.
-/
namespace Go.Proofs.Ytmlnakkfjecibaa
open Go.RowKit
set_option linter.unusedVariables false

/-- The commands that a test writes. -/
def markCK (k0 n : Nat) : List Cmd := (List.range n).map (fun i => ⟨mtext (k0 + 5 * i), (k0 : Int) + 5 * (i : Int) + 1, (k0 : Int) + 5 * (i : Int) + 1 + 1, (k0 : Int) + 5 * (i : Int) + 1 + 1 + 1, (k0 : Int) + 5 * (i : Int) + 1 + 1 + 1 + 1⟩)
theorem markCK_len (k0 n : Nat) : (markCK k0 n).length = n := by simp [markCK]
theorem markCK_get {k0 n i : Nat} (h : i < n) : (markCK k0 n)[i]? = some ⟨mtext (k0 + 5 * i), (k0 : Int) + 5 * (i : Int) + 1, (k0 : Int) + 5 * (i : Int) + 1 + 1, (k0 : Int) + 5 * (i : Int) + 1 + 1 + 1, (k0 : Int) + 5 * (i : Int) + 1 + 1 + 1 + 1⟩ := by
  unfold markCK; rw [List.getElem?_map, List.getElem?_range h]; rfl

def MarkedCRel (k0 len base : Nat) (v : Value) (W : World) (kv i : Value) (wr : World) : Prop :=
  ∃ (n : Nat) (zs : List Value), i = .int .i64 n ∧ kv = .int .i64 ((k0 : Int) + 5 * (n : Int)) ∧ n ≤ len ∧ zs.length = (len - n) * 5 ∧ wr.ownsRow base 32 5 v len (flatC ((markCK k0 len).take n) ++ zs) ∧ Hid (W.grownBy wr v.ownBlock)

set_option maxHeartbeats 4000000 in
set_option maxRecDepth 100000 in
theorem markCommandS_c (v : Value) (base len k0 : Nat) (hk1 : 1 ≤ k0) (hk2 : k0 ≤ 1000000000) (xs : List Value) (hl : len ≤ 2097152) (W : World) (h : W.ownsRow base 32 5 v len xs) :
    Calls Try.prog 36 #[v, .int .i64 k0] W fun e W' => e = .returned (.int .i64 ((k0 : Int) + 5 * (len : Int))) ∧ W.grownBy W' v.ownBlock ∧ W'.ownsRow base 32 5 v len (flatC (markCK k0 len)) := by
  have HX := Lib.hid h
  have hxl := h.1
  have HMT := Lib.hid (fun k (h1 : 1 ≤ k) (h2 : k ≤ 1099511627776) w => markText_c k h1 h2 w)
  obtain ⟨a, cap, hv⟩ : ∃ a cap, v = .slice a len cap := by
    rcases own_cases h with ⟨h1, h2⟩ | ⟨g, cap, h1⟩
    · exact ⟨none, 0, by rw [h1, h2]⟩
    · exact ⟨_, cap, h1⟩
  have hl' : (len : Int) ≤ 2097152 := by omega
  have hk2' : (k0 : Int) ≤ 1000000000 := by omega
  have hk1' : (1 : Int) ≤ k0 := by omega
  clear h
  subst hv
  go_enter Try.func36, Try.ntmps36
  go_wp2
  go_loopw [1, 5] (fun kv i wr => MarkedCRel k0 len base (.slice a len cap) W kv i wr) (fun _ i _ => len - (intOf i).toNat)
  case atStart => exact ⟨0, xs, rfl, by simp, by omega, by rw [hxl]; rfl, HX.out, ⟨rfl, rfl, rfl, Nat.le_refl _, fun _ _ _ => rfl⟩⟩
  case round =>
    obtain ⟨i, zs, rfl, rfl, hi, hzl, hown, HG⟩ := hrel
    by_cases hlt : i < len
    · have hlt' : (i : Int) < len := by omega
      have hil : (i : Int) ≤ 2097152 := by omega
      have HLT := Lib.hid hlt
      have HZ := Lib.hid (And.intro hzl (show 5 ≤ zs.length by omega))
      rcases own_cases hown with ⟨_, h2⟩ | ⟨g, cap', h2⟩
      · omega
      simp at h2
      obtain ⟨rfl, rfl⟩ := h2
      have HO := Lib.hid hown
      have HM := Lib.hid (show Calls Try.prog 70 #[.int .i64 ((k0 : Int) + 5 * (i : Int))] wr (fun e W' => e = .returned (.string (mtext (k0 + 5 * i))) ∧ Below wr.heap.size wr W') by have := HMT.out (k0 + 5 * i) (by omega) (by omega) wr; rwa [show ((k0 + 5 * i : Nat) : Int) = (k0 : Int) + 5 * (i : Int) by push_cast; rfl] at this)
      clear hi hlt hzl hown
      go_wp2_with fail
      refine HM.out.mono ?_
      rintro e W2 ⟨rfl, hb2⟩
      have HO2 := Lib.hid (own_below HO.out hb2)
      have HG2 := Lib.hid (grown_next HG.out hb2)
      have hll : (flatC ((markCK k0 len).take i)).length = i * 5 := by rw [flatC_length, List.length_take, markCK_len]; have := HLT.out; omega
      have cell : ∀ j, j < 5 → ∃ u, W2.cell? ⟨g, i * 5 + j, none⟩ = some u := by
        intro j hj
        have hx := HZ.out.1
        have hy := HLT.out
        rw [HO2.out.cellAt _ (by omega)]
        exact ⟨_, List.getElem?_eq_getElem (by rw [List.length_append, hll]; omega)⟩
      obtain ⟨u0, e0⟩ := cell 0 (by omega)
      replace e0 : W2.cell? ⟨g, i * 5, none⟩ = some u0 := e0
      obtain ⟨u1, e1⟩ := cell 1 (by omega)
      obtain ⟨u2, e2⟩ := cell 2 (by omega)
      obtain ⟨u3, e3⟩ := cell 3 (by omega)
      obtain ⟨u4, e4⟩ := cell 4 (by omega)
      have y0 := HO2.out.frozenAt (i * 5)
      have y1 := HO2.out.frozenAt (i * 5 + 1)
      have y2 := HO2.out.frozenAt (i * 5 + 2)
      have y3 := HO2.out.frozenAt (i * 5 + 3)
      have y4 := HO2.out.frozenAt (i * 5 + 4)
      generalize hmt : mtext (k0 + 5 * i) = mt
      have HMTX := Lib.hid hmt
      clear cell hll hb2 hmt
      go_wp2
      have HS3 := stored5 HO2.out (i * 5) (.string mt) (.int .i64 ((k0 : Int) + 5 * (i : Int) + 1)) (.int .i64 ((k0 : Int) + 5 * (i : Int) + 1 + 1)) (.int .i64 ((k0 : Int) + 5 * (i : Int) + 1 + 1 + 1)) (.int .i64 ((k0 : Int) + 5 * (i : Int) + 1 + 1 + 1 + 1))
      rw [← HMTX.out, flatC_take_set (markCK k0 len) i _ zs (markCK_get HLT.out) HZ.out.2] at HS3
      go_roundw
      case rel =>
        refine ⟨i + 1, zs.drop 5, by push_cast; rfl, by rw [show (k0 : Int) + 5 * ((i + 1 : Nat) : Int) = (k0 : Int) + 5 * (i : Int) + 1 + 1 + 1 + 1 + 1 by omega], by have := HLT.out; omega, by rw [List.length_drop]; have h1 := HZ.out.1; have h2 := HZ.out.2; have h3 := HLT.out; omega, ?_, ?_⟩
        · rw [← HMTX.out]; exact HS3
        · exact ((((HG2.out.set _ _ rfl _).set _ _ rfl _).set _ _ rfl _).set _ _ rfl _).set _ _ rfl _
      case measure => have := HLT.out; simp [intOf]; omega
    · have hge : (len : Int) ≤ i := by omega
      have hie : i = len := by omega
      have hz0' : zs = [] := List.eq_nil_of_length_eq_zero (by omega)
      subst hz0'
      subst hie
      rw [List.append_nil, List.take_of_length_le (by rw [markCK_len]; omega)] at hown
      clear hi hlt
      go_wp2
      refine bodyPost_ret (v := .int .i64 ((k0 : Int) + 5 * (i : Int))) (by simp [results, Try.f36, go_sem]) rfl ⟨rfl, HG.out, hown⟩

def HeldCRel (len : Nat) (W : World) (kv i : Value) (wr : World) : Prop :=
  ∃ n : Nat, i = .int .i64 n ∧ kv = .int .i64 (1 + 5 * (n : Int)) ∧ n ≤ len ∧ Hid (Below W.heap.size W wr)

set_option maxHeartbeats 4000000 in
set_option maxRecDepth 100000 in
theorem heldCommandS_c (a : Option Addr) (len cap : Nat) (hl : len ≤ 2097152) (W : World) (hN : CmdsAt W a len (markCK 1 len)) :
    Calls Try.prog 38 #[.slice a len cap, .int .i64 1] W fun e W' => e = .returned (.int .i64 (1 + 5 * (len : Int))) ∧ Below W.heap.size W W' := by
  have HN := Lib.hid hN
  have HMT := Lib.hid (fun k (h1 : 1 ≤ k) (h2 : k ≤ 1099511627776) w => markText_c k h1 h2 w)
  have hl' : (len : Int) ≤ 2097152 := by omega
  clear hN
  go_enter Try.func38, Try.ntmps38
  go_wp2
  go_loopw [1, 5] (fun kv i wr => HeldCRel len W kv i wr) (fun _ i _ => len - (intOf i).toNat)
  case atStart => exact ⟨0, rfl, rfl, by omega, Below.refl _ _⟩
  case round =>
    obtain ⟨i, rfl, rfl, hi, HB⟩ := hrel
    by_cases hlt : i < len
    · obtain ⟨b, off, n, rfl, hn, c0, c1, c2, c3, c4⟩ := (HN.out.keep HB.out).node hlt
      have hlt' : (i : Int) < len := by omega
      have hil : (i : Int) ≤ 2097152 := by omega
      have HLT := Lib.hid hlt
      rw [markCK_get hlt] at hn
      obtain rfl := Option.some.inj hn
      have HM := Lib.hid (show Calls Try.prog 70 #[.int .i64 (1 + 5 * (i : Int))] wr.drew (fun e W' => e = .returned (.string (mtext (1 + 5 * i))) ∧ Below wr.drew.heap.size wr.drew W') by have := HMT.out (1 + 5 * i) (by omega) (by omega) wr.drew; rwa [show ((1 + 5 * i : Nat) : Int) = 1 + 5 * (i : Int) by push_cast; rfl] at this)
      rw [show (((1 : Nat) : Int)) = 1 from rfl] at c1 c2 c3 c4
      simp only at c0 c1 c2 c3 c4
      generalize hmt : mtext (1 + 5 * i) = mt at HM c0
      have HS0 := Lib.hid (show wr.drew.cell? ⟨b, off + i * 5, none⟩ = some (.string mt) ∧ wr.drew.cell? ⟨b, off + i * 5 + 1, none⟩ = some (.int .i64 (1 + 5 * (i : Int) + 1)) ∧ wr.drew.cell? ⟨b, off + i * 5 + 2, none⟩ = some (.int .i64 (1 + 5 * (i : Int) + 1 + 1)) ∧ wr.drew.cell? ⟨b, off + i * 5 + 3, none⟩ = some (.int .i64 (1 + 5 * (i : Int) + 1 + 1 + 1)) ∧ wr.drew.cell? ⟨b, off + i * 5 + 4, none⟩ = some (.int .i64 (1 + 5 * (i : Int) + 1 + 1 + 1 + 1)) ∧ Below W.heap.size W wr.drew from ⟨c0, c1, c2, c3, c4, HB.out.drew⟩)
      have HKP := Lib.hid (fun (u1 u2 : World) (h : u1.cell? ⟨b, off + i * 5, none⟩ = some (.string mt) ∧ u1.cell? ⟨b, off + i * 5 + 1, none⟩ = some (.int .i64 (1 + 5 * (i : Int) + 1)) ∧ u1.cell? ⟨b, off + i * 5 + 2, none⟩ = some (.int .i64 (1 + 5 * (i : Int) + 1 + 1)) ∧ u1.cell? ⟨b, off + i * 5 + 3, none⟩ = some (.int .i64 (1 + 5 * (i : Int) + 1 + 1 + 1)) ∧ u1.cell? ⟨b, off + i * 5 + 4, none⟩ = some (.int .i64 (1 + 5 * (i : Int) + 1 + 1 + 1 + 1)) ∧ Below W.heap.size W u1) (hb : Below u1.heap.size u1 u2) => show u2.cell? ⟨b, off + i * 5, none⟩ = some (.string mt) ∧ u2.cell? ⟨b, off + i * 5 + 1, none⟩ = some (.int .i64 (1 + 5 * (i : Int) + 1)) ∧ u2.cell? ⟨b, off + i * 5 + 2, none⟩ = some (.int .i64 (1 + 5 * (i : Int) + 1 + 1)) ∧ u2.cell? ⟨b, off + i * 5 + 3, none⟩ = some (.int .i64 (1 + 5 * (i : Int) + 1 + 1 + 1)) ∧ u2.cell? ⟨b, off + i * 5 + 4, none⟩ = some (.int .i64 (1 + 5 * (i : Int) + 1 + 1 + 1 + 1)) ∧ Below W.heap.size W u2 from ⟨cell_kept hb h.1, cell_kept hb h.2.1, cell_kept hb h.2.2.1, cell_kept hb h.2.2.2.1, cell_kept hb h.2.2.2.2.1, below_next h.2.2.2.2.2 hb⟩)
      clear hlt hi hn hmt c0 c1 c2 c3 c4
      go_upto_region 4 with (fail)
      go_region_held3 (fun w' => w'.cell? ⟨b, off + i * 5, none⟩ = some (.string mt) ∧ w'.cell? ⟨b, off + i * 5 + 1, none⟩ = some (.int .i64 (1 + 5 * (i : Int) + 1)) ∧ w'.cell? ⟨b, off + i * 5 + 2, none⟩ = some (.int .i64 (1 + 5 * (i : Int) + 1 + 1)) ∧ w'.cell? ⟨b, off + i * 5 + 3, none⟩ = some (.int .i64 (1 + 5 * (i : Int) + 1 + 1 + 1)) ∧ w'.cell? ⟨b, off + i * 5 + 4, none⟩ = some (.int .i64 (1 + 5 * (i : Int) + 1 + 1 + 1 + 1)) ∧ Below W.heap.size W w')
        (first | exact HS0.out | exact HKP.out _ _ HS0.out hb7)
        (first | (go_at_call 70; (with_reducible refine (HM.out).mono ?_); rintro e W7 ⟨rfl, hb7⟩))
      rename_i hS
      obtain ⟨v0, v1, v2, v3, v4, hB7⟩ := hS
      have H7 := Lib.hid hB7
      clear hB7
      go_wp2
      go_roundw
      case rel => exact ⟨i + 1, by push_cast; rfl, by rw [show 1 + 5 * ((i + 1 : Nat) : Int) = 1 + 5 * (i : Int) + 1 + 1 + 1 + 1 + 1 by omega], by have := HLT.out; omega, H7.out⟩
      case measure => have := HLT.out; simp [intOf]; omega
    · have hge : (len : Int) ≤ i := by omega
      have hie : i = len := by omega
      subst hie
      clear hi hlt
      go_wp2
      refine bodyPost_ret (v := .int .i64 (1 + 5 * (i : Int))) (by simp [results, Try.f38, go_sem]) rfl ⟨rfl, HB.out⟩

end Go.Proofs.Ytmlnakkfjecibaa

/-
  PLAIN MATHEMATICS OF CONFLICTS (P78 to P87).
-/
namespace Go.Proofs.Ytmlnakkfjecibaa

/-- spec.l16Over. -/
def overC (c d : Cmd) : Bool := l1uB c.p d.p && !(c.tk == 1) && !(d.tk == 0)
/-- spec.l16Clash. -/
def clashC (c d : Cmd) : Bool := (decide (c.p = d.p) && !(c.tk == d.tk && c.tv == d.tv)) || overC c d || overC d c
/-- spec.CommandsClash. -/
def clashP (c d : Cmd) : Bool := validC c && validC d && clashC c d

theorem clash_turn (c d : Cmd) : clashC c d = clashC d c := by
  unfold clashC
  rw [Bool.or_assoc, Bool.or_assoc, Bool.or_comm (overC c d)]
  congr 1
  have h1 : decide (c.p = d.p) = decide (d.p = c.p) := decide_eq_decide.2 ⟨Eq.symm, Eq.symm⟩
  rw [h1, Bool.beq_comm (a := c.tk), Bool.beq_comm (a := c.tv)]

theorem over_self (c : Cmd) : overC c c = false := by
  unfold overC l1uB
  cases h1 : (c.p.toList == [47]) <;> simp

/-- P78. -/
theorem clash_sym (c d : Cmd) : clashP d c = clashP c d := by
  unfold clashP
  rw [clash_turn d c, Bool.and_comm (validC d)]
theorem clash_self (c : Cmd) : clashP c c = false := by
  unfold clashP clashC
  rw [over_self]
  simp

/-- P79. -/
theorem clash_when {c d : Cmd} (hc : validC c = true) (hd : validC d = true) : clashP c d = ((decide (c.p = d.p) && !(c.tk == d.tk && c.tv == d.tv)) || (undB c.p d.p && !(c.tk == 1) && !(d.tk == 0)) || (undB d.p c.p && !(d.tk == 1) && !(c.tk == 0))) := by
  unfold clashP clashC overC
  rw [hc, hd, l1u_und (validC_vp hc) (validC_vp hd), l1u_und (validC_vp hd) (validC_vp hc)]
  rfl

/-- P80. -/
theorem clash_tree {c d : Cmd} {t : List Nd} (h : clashP c d = true) (ht : validT t = true) : ¬ (getT t c.p = (c.tk, c.tv) ∧ getT t d.p = (d.tk, d.tv)) := by
  rintro ⟨h1, h2⟩
  have hv : validC c = true ∧ validC d = true := by
    unfold clashP at h
    rw [Bool.and_eq_true, Bool.and_eq_true] at h
    exact h.1
  rw [clash_when hv.1 hv.2, Bool.or_eq_true, Bool.or_eq_true] at h
  rcases h with (h | h) | h
  · rw [Bool.and_eq_true, decide_eq_true_eq] at h
    obtain ⟨hp, hn⟩ := h
    rw [hp, h2] at h1
    injection h1 with e1 e2
    rw [e1, e2] at hn
    simp at hn
  · simp only [Bool.and_eq_true, Bool.not_eq_true', beq_eq_false_iff_ne] at h
    obtain ⟨⟨hu, hk⟩, hz⟩ := h
    have := up_dir ht (show (getT t d.p).1 ≠ 0 by rw [h2]; exact hz) hu
    rw [h1] at this
    exact hk this
  · simp only [Bool.and_eq_true, Bool.not_eq_true', beq_eq_false_iff_ne] at h
    obtain ⟨⟨hu, hk⟩, hz⟩ := h
    have := up_dir ht (show (getT t c.p).1 ≠ 0 by rw [h1]; exact hz) hu
    rw [h2] at this
    exact hk this

/-- spec.l16Ok. -/
def okL (a b : List Cmd) : Bool := canonV a && canonV b
/-- spec.l16Some. -/
def someC (cs : List Cmd) (c : Cmd) : Bool := cs.any (fun d => clashC d c)
/-- Two commands compared. -/
def eqC (a b : Cmd) : Bool := decide (a.p = b.p) && (a.fk == b.fk && a.fv == b.fv) && (a.tk == b.tk && a.tv == b.tv)
theorem eqC_iff {a b : Cmd} : eqC a b = true ↔ a = b := by
  obtain ⟨p, fk, fv, tk, tv⟩ := a
  obtain ⟨q, gk, gv, uk, uv⟩ := b
  unfold eqC
  simp only [Bool.and_eq_true, decide_eq_true_eq, beq_iff_eq, Cmd.mk.injEq]
  constructor
  · rintro ⟨⟨h1, h2, h3⟩, h4, h5⟩; exact ⟨h1, h2, h3, h4, h5⟩
  · rintro ⟨h1, h2, h3, h4, h5⟩; exact ⟨⟨h1, h2, h3⟩, h4, h5⟩
/-- spec.l16Has. -/
def hasC (cs : List Cmd) (c : Cmd) : Bool := cs.any (fun d => eqC d c)
theorem hasC_iff {cs : List Cmd} {c : Cmd} : hasC cs c = true ↔ c ∈ cs := by
  unfold hasC
  rw [List.any_eq_true]
  constructor
  · rintro ⟨d, hd, h⟩; rw [← eqC_iff.1 h]; exact hd
  · intro h; exact ⟨c, h, eqC_iff.2 rfl⟩
/-- One row of conflicts. -/
def rowL (c : Cmd) (i : Nat) : List Cmd → Nat → List (Nat × Nat)
  | [], _ => []
  | d :: r, k => if clashC c d = true then (i, k) :: rowL c i r (k + 1) else rowL c i r (k + 1)
def rowsL (b : List Cmd) : List Cmd → Nat → List (Nat × Nat)
  | [], _ => []
  | c :: r, i => rowL c i b 0 ++ rowsL b r (i + 1)
/-- spec.ClashesOf. -/
def clashesL (a b : List Cmd) : List (Nat × Nat) := if okL a b = true then rowsL b a 0 else []
/-- spec.SafeOf. -/
def safeL (a b : List Cmd) : List Cmd := if okL a b = true then b.filter (fun d => !someC a d && !hasC a d) else []
/-- spec.AgreedOf. -/
def agreedL (a b : List Cmd) : List Cmd := if okL a b = true then b.filter (fun d => hasC a d && !someC a d) else []
/-- spec.LeftOf. -/
def leftL (a b : List Cmd) : List Cmd := if okL a b = true then a.filter (fun c => someC b c) else []

theorem mem_row {c : Cmd} {i x y : Nat} : ∀ (b : List Cmd) (k : Nat), (x, y) ∈ rowL c i b k ↔ x = i ∧ k ≤ y ∧ ∃ d, b[y - k]? = some d ∧ clashC c d = true
  | [], k => by simp [rowL]
  | d :: r, k => by
    have ih := mem_row (c := c) (i := i) (x := x) (y := y) r (k + 1)
    have hstep : (∃ e, (d :: r)[y - k]? = some e ∧ clashC c e = true) ∧ k ≤ y ↔ (y = k ∧ clashC c d = true) ∨ (k + 1 ≤ y ∧ ∃ e, r[y - (k + 1)]? = some e ∧ clashC c e = true) := by
      constructor
      · rintro ⟨⟨e, he, hc⟩, hk⟩
        by_cases h : y = k
        · subst h
          rw [Nat.sub_self] at he
          simp at he
          subst he
          exact .inl ⟨rfl, hc⟩
        · right
          obtain ⟨j, hj⟩ : ∃ j, y - k = j + 1 := ⟨y - k - 1, by omega⟩
          rw [hj, List.getElem?_cons_succ] at he
          exact ⟨by omega, e, by rw [show y - (k + 1) = j by omega]; exact he, hc⟩
      · rintro (⟨rfl, hc⟩ | ⟨hk, e, he, hc⟩)
        · exact ⟨⟨d, by rw [Nat.sub_self]; rfl, hc⟩, Nat.le_refl _⟩
        · refine ⟨⟨e, ?_, hc⟩, by omega⟩
          rw [show y - k = y - (k + 1) + 1 by omega, List.getElem?_cons_succ]
          exact he
    unfold rowL
    split
    · rename_i h
      rw [List.mem_cons, ih, Prod.mk.injEq]
      constructor
      · rintro (⟨rfl, rfl⟩ | ⟨h1, h2, h3⟩)
        · exact ⟨rfl, Nat.le_refl _, (hstep.2 (.inl ⟨rfl, h⟩)).1⟩
        · exact ⟨h1, by omega, (hstep.2 (.inr ⟨h2, h3⟩)).1⟩
      · rintro ⟨h1, h2, h3⟩
        rcases hstep.1 ⟨h3, h2⟩ with ⟨h4, _⟩ | ⟨h4, h5⟩
        · exact .inl ⟨h1, h4⟩
        · exact .inr ⟨h1, h4, h5⟩
    · rename_i h
      rw [ih]
      constructor
      · rintro ⟨h1, h2, h3⟩
        exact ⟨h1, by omega, (hstep.2 (.inr ⟨h2, h3⟩)).1⟩
      · rintro ⟨h1, h2, h3⟩
        rcases hstep.1 ⟨h3, h2⟩ with ⟨_, h4⟩ | ⟨h4, h5⟩
        · exact absurd h4 h
        · exact ⟨h1, h4, h5⟩

theorem mem_rows {b : List Cmd} {x y : Nat} : ∀ (a : List Cmd) (i : Nat), (x, y) ∈ rowsL b a i ↔ i ≤ x ∧ ∃ c d, a[x - i]? = some c ∧ b[y]? = some d ∧ clashC c d = true
  | [], i => by simp [rowsL]
  | c :: r, i => by
    unfold rowsL
    rw [List.mem_append, mem_row, mem_rows r (i + 1), Nat.sub_zero]
    constructor
    · rintro (⟨rfl, _, d, hd, hc⟩ | ⟨hi, e, d, he, hd, hc⟩)
      · exact ⟨Nat.le_refl _, c, d, by rw [Nat.sub_self]; rfl, hd, hc⟩
      · exact ⟨by omega, e, d, by rw [show x - i = x - (i + 1) + 1 by omega, List.getElem?_cons_succ]; exact he, hd, hc⟩
    · rintro ⟨hi, e, d, he, hd, hc⟩
      by_cases h : x = i
      · subst h
        rw [Nat.sub_self] at he
        simp at he
        subst he
        exact .inl ⟨rfl, Nat.zero_le _, d, hd, hc⟩
      · right
        refine ⟨by omega, e, d, ?_, hd, hc⟩
        rw [show x - i = x - (i + 1) + 1 by omega, List.getElem?_cons_succ] at he
        exact he

/-- How many are in conflict. -/
def cntC (c : Cmd) (b : List Cmd) : Nat := (b.filter (fun d => clashC c d)).length
theorem row_len (c : Cmd) (i : Nat) : ∀ (b : List Cmd) (k : Nat), (rowL c i b k).length = cntC c b
  | [], _ => rfl
  | d :: r, k => by
    unfold rowL cntC
    rw [List.filter_cons]
    split
    · rw [List.length_cons, List.length_cons, row_len c i r (k + 1)]; rfl
    · rw [row_len c i r (k + 1)]; rfl
theorem rows_len (b : List Cmd) : ∀ (a : List Cmd) (i : Nat), (rowsL b a i).length = (a.map (fun c => cntC c b)).sum
  | [], _ => rfl
  | c :: r, i => by
    unfold rowsL
    rw [List.length_append, row_len, rows_len b r (i + 1), List.map_cons, List.sum_cons]

theorem cnt_cons (c d : Cmd) (b : List Cmd) : cntC c (d :: b) = (if clashC c d = true then 1 else 0) + cntC c b := by
  unfold cntC
  rw [List.filter_cons]
  split
  · rw [List.length_cons]; omega
  · omega
theorem sum_col (d : Cmd) (b : List Cmd) : ∀ a : List Cmd, (a.map (fun c => cntC c (d :: b))).sum = cntC d a + (a.map (fun c => cntC c b)).sum
  | [] => rfl
  | c :: r => by
    rw [List.map_cons, List.sum_cons, sum_col d b r, cnt_cons, cnt_cons, clash_turn c d, List.map_cons, List.sum_cons]
    omega
theorem sum_turn (a : List Cmd) : ∀ b : List Cmd, (a.map (fun c => cntC c b)).sum = (b.map (fun d => cntC d a)).sum
  | [] => by
    have : ∀ a : List Cmd, (a.map (fun c => cntC c [])).sum = 0 := by
      intro a
      induction a with
      | nil => rfl
      | cons c r ih => rw [List.map_cons, List.sum_cons, ih]; rfl
    rw [this]
    rfl
  | d :: b => by rw [sum_col, sum_turn a b, List.map_cons, List.sum_cons]

theorem ok_turn (a b : List Cmd) : okL b a = okL a b := Bool.and_comm _ _

/-- P81: just those. -/
theorem mem_clashes {a b : List Cmd} (h : okL a b = true) {x y : Nat} : (x, y) ∈ clashesL a b ↔ ∃ c d, a[x]? = some c ∧ b[y]? = some d ∧ clashC c d = true := by
  unfold clashesL
  rw [if_pos h, mem_rows, Nat.sub_zero]
  simp

/-- P82. -/
theorem clashes_turn (a b : List Cmd) : (clashesL b a).length = (clashesL a b).length ∧ ∀ x y, (x, y) ∈ clashesL a b → (y, x) ∈ clashesL b a := by
  by_cases h : okL a b = true
  · have h2 := (ok_turn a b).trans h
    refine ⟨?_, fun x y hm => ?_⟩
    · unfold clashesL
      rw [if_pos h, if_pos h2, rows_len, rows_len, sum_turn]
    · obtain ⟨c, d, hc, hd, hcd⟩ := (mem_clashes h).1 hm
      exact (mem_clashes h2).2 ⟨d, c, hd, hc, (clash_turn d c).trans hcd⟩
  · have h2 : ¬ okL b a = true := fun e => h ((ok_turn a b).symm.trans e)
    unfold clashesL
    rw [if_neg h, if_neg h2]
    exact ⟨rfl, fun x y hm => by cases hm⟩

theorem some_iff {cs : List Cmd} {c : Cmd} : someC cs c = true ↔ ∃ d ∈ cs, clashC d c = true := by
  unfold someC
  rw [List.any_eq_true]

/-- P83, P84, P85: parts of canonical logs are canonical. -/
theorem filter_canon {cs : List Cmd} (f : Cmd → Bool) (h : canonV cs = true) : canonV (cs.filter f) = true := by
  obtain ⟨h1, h2, h3⟩ := canonV_iff.1 h
  exact canonV_iff.2 ⟨List.Pairwise.sublist List.filter_sublist h1, List.Nodup.sublist (List.filter_sublist.map _) h2, validL_part h3 List.filter_sublist⟩
theorem canon_nil : canonV [] = true := rfl
theorem safe_canon (a b : List Cmd) : canonV (safeL a b) = true := by
  unfold safeL
  split
  · rename_i h
    unfold okL at h
    rw [Bool.and_eq_true] at h
    exact filter_canon _ h.2
  · rfl
theorem agreed_canon (a b : List Cmd) : canonV (agreedL a b) = true := by
  unfold agreedL
  split
  · rename_i h
    unfold okL at h
    rw [Bool.and_eq_true] at h
    exact filter_canon _ h.2
  · rfl
theorem left_canon (a b : List Cmd) : canonV (leftL a b) = true := by
  unfold leftL
  split
  · rename_i h
    unfold okL at h
    rw [Bool.and_eq_true] at h
    exact filter_canon _ h.1
  · rfl

/-- P85. -/
theorem left_told {a b : List Cmd} (h : okL a b = true) {i : Nat} {c : Cmd} (hc : a[i]? = some c) : (∃ k, (i, k) ∈ clashesL a b) ↔ c ∈ leftL a b := by
  unfold leftL
  rw [if_pos h, List.mem_filter, some_iff]
  constructor
  · rintro ⟨k, hk⟩
    obtain ⟨c', d, h1, h2, h3⟩ := (mem_clashes h).1 hk
    rw [hc] at h1
    obtain rfl := Option.some.inj h1
    exact ⟨List.mem_of_getElem? hc, d, List.mem_of_getElem? h2, (clash_turn d c).trans h3⟩
  · rintro ⟨_, d, hd, h3⟩
    obtain ⟨k, hk⟩ := List.getElem?_of_mem hd
    exact ⟨k, (mem_clashes h).2 ⟨c, d, hc, hk, (clash_turn c d).trans h3⟩⟩

/-- P86: each in one part. -/
theorem parts_len {a b : List Cmd} (h : okL a b = true) : (safeL a b).length + (agreedL a b).length + (leftL b a).length = b.length := by
  unfold safeL agreedL leftL
  rw [if_pos h, if_pos h, if_pos ((ok_turn a b).trans h)]
  clear h
  induction b with
  | nil => rfl
  | cons d r ih =>
    simp only [List.filter_cons, List.length_cons]
    cases someC a d <;> cases hasC a d <;> simp <;> omega
theorem parts_one {a b : List Cmd} (h : okL a b = true) {d : Cmd} (hd : d ∈ b) :
    (someC a d = true ∧ d ∉ safeL a b ∧ d ∉ agreedL a b ∧ d ∈ leftL b a) ∨ (someC a d = false ∧ hasC a d = true ∧ d ∉ safeL a b ∧ d ∈ agreedL a b ∧ d ∉ leftL b a) ∨ (someC a d = false ∧ hasC a d = false ∧ d ∈ safeL a b ∧ d ∉ agreedL a b ∧ d ∉ leftL b a) := by
  unfold safeL agreedL leftL
  rw [if_pos h, if_pos h, if_pos ((ok_turn a b).trans h)]
  simp only [List.mem_filter]
  cases h1 : someC a d <;> cases h2 : hasC a d <;> simp [hd]

/-- P87. -/
theorem none_safe {a b : List Cmd} (h : okL a b = true) (hn : clashesL a b = []) : (safeL a b).length + (agreedL a b).length = b.length ∧ leftL a b = [] := by
  have hs : ∀ d ∈ b, someC a d = false := by
    intro d hd
    rw [Bool.eq_false_iff]
    intro hs
    obtain ⟨c, hc, hcd⟩ := some_iff.1 hs
    obtain ⟨i, hi⟩ := List.getElem?_of_mem hc
    obtain ⟨k, hk⟩ := List.getElem?_of_mem hd
    have := (mem_clashes h).2 ⟨c, d, hi, hk, hcd⟩
    rw [hn] at this
    cases this
  constructor
  · have hp := parts_len h
    have : leftL b a = [] := by
      unfold leftL
      rw [if_pos ((ok_turn a b).trans h), List.filter_eq_nil_iff]
      intro d hd e
      rw [hs d hd] at e
      cases e
    rw [this] at hp
    simpa using hp
  · unfold leftL
    rw [if_pos h, List.filter_eq_nil_iff]
    intro c hc e
    obtain ⟨d, hd, hdc⟩ := some_iff.1 e
    have := hs d hd
    rw [Bool.eq_false_iff] at this
    exact this (some_iff.2 ⟨c, hc, (clash_turn c d).trans hdc⟩)

/-! ### the loops' steps -/
theorem row_snoc (c : Cmd) (i : Nat) (d : Cmd) : ∀ (xs : List Cmd) (k : Nat), rowL c i (xs ++ [d]) k = rowL c i xs k ++ (if clashC c d = true then [(i, k + xs.length)] else [])
  | [], k => by
    show rowL c i [d] k = [] ++ _
    unfold rowL
    rw [List.nil_append]
    rfl
  | x :: xs, k => by
    have ih := row_snoc c i d xs (k + 1)
    show rowL c i (x :: (xs ++ [d])) k = _
    unfold rowL
    rw [ih, List.length_cons, show k + 1 + xs.length = k + (xs.length + 1) by omega]
    split <;> rfl
theorem rows_snoc (b : List Cmd) (c : Cmd) : ∀ (xs : List Cmd) (i : Nat), rowsL b (xs ++ [c]) i = rowsL b xs i ++ rowL c (i + xs.length) b 0
  | [], i => by
    show rowL c i b 0 ++ [] = [] ++ rowL c (i + 0) b 0
    rw [List.append_nil, List.nil_append, Nat.add_zero]
  | x :: xs, i => by
    show rowL x i b 0 ++ rowsL b (xs ++ [c]) (i + 1) = (rowL x i b 0 ++ rowsL b xs (i + 1)) ++ _
    rw [rows_snoc b c xs (i + 1), List.length_cons, List.append_assoc, show i + 1 + xs.length = i + (xs.length + 1) by omega]
theorem row_take {c d : Cmd} {i k : Nat} {b : List Cmd} (h : b[k]? = some d) : rowL c i (b.take (k + 1)) 0 = rowL c i (b.take k) 0 ++ (if clashC c d = true then [(i, k)] else []) := by
  have hk := (List.getElem?_eq_some_iff.1 h).1
  rw [List.take_add_one, h, show (some d).toList = [d] from rfl, row_snoc, List.length_take, Nat.min_eq_left (by omega), Nat.zero_add]
theorem rows_take {c : Cmd} {i : Nat} {a b : List Cmd} (h : a[i]? = some c) : rowsL b (a.take (i + 1)) 0 = rowsL b (a.take i) 0 ++ rowL c i b 0 := by
  have hk := (List.getElem?_eq_some_iff.1 h).1
  rw [List.take_add_one, h, show (some c).toList = [c] from rfl, rows_snoc, List.length_take, Nat.min_eq_left (by omega), Nat.zero_add]
theorem filter_take {f : Cmd → Bool} {cs : List Cmd} {k : Nat} {d : Cmd} (h : cs[k]? = some d) : (cs.take (k + 1)).filter f = (cs.take k).filter f ++ (if f d = true then [d] else []) := by
  rw [List.take_add_one, h, show (some d).toList = [d] from rfl, List.filter_append]
  congr 1
  cases hf : f d <;> simp [hf]
theorem rowL_le (c : Cmd) (i : Nat) (b : List Cmd) (k : Nat) : (rowL c i b k).length ≤ b.length := by
  rw [row_len]
  exact List.length_filter_le _ _
theorem rowsL_le (b : List Cmd) : ∀ (a : List Cmd) (i : Nat), (rowsL b a i).length ≤ a.length * b.length
  | [], i => by simp [rowsL]
  | c :: r, i => by
    unfold rowsL
    rw [List.length_append, List.length_cons, Nat.add_mul, Nat.one_mul]
    have h1 := rowL_le c i b 0
    have h2 := rowsL_le b r (i + 1)
    omega

end Go.Proofs.Ytmlnakkfjecibaa

/-
  PLAIN MATHEMATICS OF ORDERS, second part: neighbours exchanged (P73, P74); orders counted (P75, P76).
-/
namespace Go.Proofs.Ytmlnakkfjecibaa

theorem atK_append_left {a b : List Cmd} {k : Nat} (h : k < a.length) : atK (a ++ b) k = atK a k := by
  unfold atK
  rw [List.getD_eq_getElem?_getD, List.getD_eq_getElem?_getD, List.getElem?_append_left h]
theorem atK_append_right {a b : List Cmd} {k : Nat} (h : a.length ≤ k) : atK (a ++ b) k = atK b (k - a.length) := by
  unfold atK
  rw [List.getD_eq_getElem?_getD, List.getD_eq_getElem?_getD, List.getElem?_append_right h]

theorem atK_ext {a b : List Cmd} (hl : a.length = b.length) (h : ∀ k, k < a.length → atK a k = atK b k) : a = b := by
  refine List.ext_getElem? (fun k => ?_)
  by_cases hk : k < a.length
  · rw [atK_get hk, atK_get (by omega), h k hk]
  · rw [List.getElem?_eq_none (by omega), List.getElem?_eq_none (by omega)]

/-- Two neighbours exchanged. -/
theorem swap_adj (pre suf : List Cmd) (c d : Cmd) : swapK (pre ++ c :: d :: suf) pre.length (pre.length + 1) = pre ++ d :: c :: suf := by
  refine atK_ext (by rw [swapK_length]; simp) (fun k hk => ?_)
  rw [swapK_length] at hk
  have h0 : atK (pre ++ c :: d :: suf) pre.length = c := by rw [atK_append_right (Nat.le_refl _), Nat.sub_self]; rfl
  have h1 : atK (pre ++ c :: d :: suf) (pre.length + 1) = d := by rw [atK_append_right (by omega), show pre.length + 1 - pre.length = 1 by omega]; rfl
  rw [atK_swap (by simp) (by simp), h0, h1]
  by_cases e1 : k = pre.length + 1
  · subst e1
    rw [if_pos rfl, atK_append_right (by omega), show pre.length + 1 - pre.length = 1 by omega]
    rfl
  · rw [if_neg e1]
    by_cases e2 : k = pre.length
    · subst e2
      rw [if_pos rfl, atK_append_right (Nat.le_refl _), Nat.sub_self]
      rfl
    · rw [if_neg e2]
      by_cases e3 : k < pre.length
      · rw [atK_append_left e3, atK_append_left e3]
      · rw [atK_append_right (by omega), atK_append_right (by omega)]
        obtain ⟨j, hj⟩ : ∃ j, k - pre.length = j + 2 := ⟨k - pre.length - 2, by omega⟩
        rw [hj]
        rfl

theorem split_adj {cs : List Cmd} {k : Nat} (hk : k + 1 < cs.length) : ∃ pre suf, cs = pre ++ atK cs k :: atK cs (k + 1) :: suf ∧ pre.length = k := by
  refine ⟨cs.take k, cs.drop (k + 2), ?_, by rw [List.length_take]; omega⟩
  conv => lhs; rw [← List.take_append_drop k cs]
  congr 1
  rw [List.drop_eq_getElem_cons (by omega), List.drop_eq_getElem_cons (by omega)]
  have e1 := atK_get (zs := cs) (k := k) (by omega)
  have e2 := atK_get (zs := cs) (k := k + 1) hk
  rw [List.getElem?_eq_getElem (by omega)] at e1
  rw [List.getElem?_eq_getElem hk] at e2
  rw [Option.some.inj e1, Option.some.inj e2]

/-- spec.OrderSwap. -/
def orderSwap (cs : List Cmd) (k : Int) : List Cmd × Bool :=
  if orderV cs = true ∧ 0 ≤ k ∧ k + 2 ≤ cs.length then (if fitsB (swapK cs k.toNat (k.toNat + 1)) = true then (swapK cs k.toNat (k.toNat + 1), true) else ([], false)) else ([], false)

theorem fits_swap {pre suf : List Cmd} {c d : Cmd} (h : FitsO (pre ++ c :: d :: suf)) : FitsO (pre ++ d :: c :: suf) ↔ mustC c d = false := by
  unfold FitsO at h ⊢
  rw [List.pairwise_append] at h ⊢
  obtain ⟨h1, h2, h3⟩ := h
  rw [List.pairwise_cons, List.pairwise_cons] at h2
  rw [List.pairwise_cons, List.pairwise_cons]
  obtain ⟨h4, h5, h6⟩ := h2
  constructor
  · rintro ⟨_, ⟨g, _⟩, _⟩
    exact g c (by simp)
  · intro hm
    refine ⟨h1, ⟨fun x hx => ?_, fun x hx => h4 x (List.mem_cons_of_mem _ hx), h6⟩, fun x hx y hy => h3 x hx y ?_⟩
    · rcases List.mem_cons.1 hx with rfl | hx
      · exact hm
      · exact h5 x hx
    · rcases List.mem_cons.1 hy with rfl | hy
      · simp
      · rcases List.mem_cons.1 hy with rfl | hy
        · simp
        · simp [hy]

theorem validL_perm {cs ds : List Cmd} (h : cs.Perm ds) (hv : validL cs = true) : validL ds = true := by
  obtain ⟨h1, h2⟩ := (validL_iff cs).1 hv
  exact (validL_iff ds).2 ⟨fun c hc => h1 c (h.mem_iff.2 hc), by rw [← h.length_eq]; exact h2⟩

theorem order_perm {cs ds : List Cmd} (h : cs.Perm ds) (hv : orderV cs = true) (hf : FitsO ds) : orderV ds = true := by
  obtain ⟨h1, h2, _⟩ := orderV_iff.1 hv
  exact orderV_iff.2 ⟨(h.map Cmd.p).nodup_iff.1 h1, validL_perm h h2, hf⟩

/-- P73. -/
theorem swap_told {cs out : List Cmd} {k : Int} (h : orderSwap cs k = (out, true)) : ∃ n : Nat, k = n ∧ n + 1 < cs.length ∧ out.length = cs.length ∧ out = swapK cs n (n + 1) ∧ orderSwap out k = (cs, true) ∧ orderV out = true ∧ mustP (atK cs n) (atK cs (n + 1)) = false ∧ orderV cs = true := by
  unfold orderSwap at h
  split at h
  · rename_i hc
    obtain ⟨hv, hk0, hk1⟩ := hc
    obtain ⟨n, rfl⟩ := Int.eq_ofNat_of_zero_le hk0
    have hkn : n + 1 < cs.length := by omega
    simp only [Int.toNat_natCast] at h
    split at h
    · rename_i hf
      injection h with h _
      subst h
      obtain ⟨pre, suf, hcs, hp⟩ := split_adj hkn
      obtain ⟨c, hcc⟩ : ∃ c, atK cs n = c := ⟨_, rfl⟩
      obtain ⟨d, hdd⟩ : ∃ d, atK cs (n + 1) = d := ⟨_, rfl⟩
      rw [hcc, hdd] at hcs
      have hsw : swapK cs n (n + 1) = pre ++ d :: c :: suf := by rw [hcs, ← hp]; exact swap_adj pre suf c d
      have hback : swapK (swapK cs n (n + 1)) n (n + 1) = cs := by rw [hsw, hcs, ← hp]; exact swap_adj pre suf d c
      have hO := (orderV_iff.1 hv).2.2
      have hfO := (fitsB_iff _).1 hf
      have hvo : orderV (swapK cs n (n + 1)) = true := order_perm (swapK_perm (by omega) hkn).symm hv hfO
      refine ⟨n, rfl, hkn, swapK_length _ _ _, rfl, ?_, hvo, ?_, hv⟩
      · unfold orderSwap
        rw [if_pos ⟨hvo, hk0, by rw [swapK_length]; exact hk1⟩, Int.toNat_natCast, hback, if_pos ((fitsB_iff _).2 hO)]
      · rw [hcs] at hO
        rw [hsw] at hfO
        have := (fits_swap hO).1 hfO
        rw [hcc, hdd]
        unfold mustP
        rw [this]
        simp
    · injection h with _ h; cases h
  · injection h with _ h; cases h

/-- P74. -/
theorem swap_when {cs : List Cmd} {n : Nat} (hv : orderV cs = true) (hn : n + 1 < cs.length) : (orderSwap cs n).2 = !mustP (atK cs n) (atK cs (n + 1)) := by
  unfold orderSwap
  rw [if_pos ⟨hv, by omega, by omega⟩, Int.toNat_natCast]
  obtain ⟨h1, h2, hO⟩ := orderV_iff.1 hv
  obtain ⟨pre, suf, hcs, hp⟩ := split_adj hn
  obtain ⟨c, hcc⟩ : ∃ c, atK cs n = c := ⟨_, rfl⟩
  obtain ⟨d, hdd⟩ : ∃ d, atK cs (n + 1) = d := ⟨_, rfl⟩
  have hvc := ((validL_iff cs).1 h2).1 c (by rw [← hcc]; exact atK_mem (by omega))
  have hvd := ((validL_iff cs).1 h2).1 d (by rw [← hdd]; exact atK_mem hn)
  rw [hcc, hdd] at hcs ⊢
  have hsw : swapK cs n (n + 1) = pre ++ d :: c :: suf := by rw [hcs, ← hp]; exact swap_adj pre suf c d
  rw [hcs] at hO
  rw [hsw]
  have hiff := fits_swap hO
  rw [← fitsB_iff] at hiff
  unfold mustP
  rw [hvc, hvd]
  cases hf : fitsB (pre ++ d :: c :: suf) with
  | true =>
    rw [if_pos rfl, hiff.1 hf]
    rfl
  | false =>
    rw [if_neg (by decide)]
    cases hm : mustC c d with
    | true => rfl
    | false => rw [hiff.2 hm] at hf; cases hf

/-! ### counting -/
/-- spec.l15Free. -/
def freeK (cs : List Cmd) (used : List Bool) (k : Nat) : Bool := (List.range cs.length).all (fun i => used.getD i false || !mustC (atK cs i) (atK cs k)) && !used.getD k false
/-- spec.l15Count. -/
def countK (cs : List Cmd) : List Bool → Nat → Nat
  | _, 0 => 1
  | used, left + 1 => ((List.range cs.length).map (fun k => if freeK cs used k = true then countK cs (used.set k true) left else 0)).sum
/-- spec.OrdersCount. -/
def ordersCount (cs : List Cmd) : Int := if onceV cs = true ∧ cs.length ≤ 6 then (countK cs (List.replicate cs.length false) cs.length : Nat) else -1

/-- How many are left. -/
def leftK (used : List Bool) (n : Nat) : Nat := ((List.range n).map (fun k => if used.getD k false = true then 0 else 1)).sum

theorem sum_le {f g : Nat → Nat} : ∀ (l : List Nat), (∀ k ∈ l, f k ≤ g k) → (l.map f).sum ≤ (l.map g).sum
  | [], _ => Nat.le_refl _
  | a :: l, h => by
    rw [List.map_cons, List.sum_cons, List.map_cons, List.sum_cons]
    have := sum_le l (fun k hk => h k (List.mem_cons_of_mem _ hk))
    have := h a (by simp)
    omega
theorem sum_eq {f g : Nat → Nat} (l : List Nat) (h : ∀ k ∈ l, f k = g k) : (l.map f).sum = (l.map g).sum := by
  rw [List.map_congr_left h]
theorem sum_mul {f : Nat → Nat} (c : Nat) : ∀ (l : List Nat), (l.map (fun k => f k * c)).sum = (l.map f).sum * c
  | [] => by simp
  | a :: l => by rw [List.map_cons, List.sum_cons, List.map_cons, List.sum_cons, sum_mul c l, Nat.add_mul]
theorem sum_one {f : Nat → Nat} : ∀ (l : List Nat) (k : Nat), k ∈ l → f k ≤ (l.map f).sum
  | a :: l, k, h => by
    rw [List.map_cons, List.sum_cons]
    rcases List.mem_cons.1 h with rfl | h
    · omega
    · have := sum_one (f := f) l k h; omega

theorem getD_set {used : List Bool} {k j : Nat} (hk : k < used.length) : (used.set k true).getD j false = if j = k then true else used.getD j false := by
  rw [List.getD_eq_getElem?_getD, List.getElem?_set, List.getD_eq_getElem?_getD]
  by_cases h : k = j
  · subst h
    simp [hk]
  · rw [if_neg h, if_neg (fun e => h e.symm)]

theorem left_set {used : List Bool} {n k : Nat} (hl : used.length = n) (hk : k < n) (hu : used.getD k false = false) : leftK (used.set k true) n + 1 = leftK used n := by
  have go : ∀ m, m ≤ n → ((List.range m).map (fun j => if (used.set k true).getD j false = true then 0 else 1)).sum + (if k < m then 1 else 0) = ((List.range m).map (fun j => if used.getD j false = true then 0 else 1)).sum := by
    intro m
    induction m with
    | zero => intro _; simp
    | succ m ih =>
      intro hm
      have ih := ih (by omega)
      rw [List.range_succ, List.map_append, List.map_append, List.sum_append, List.sum_append]
      simp only [List.map_cons, List.map_nil, List.sum_cons, List.sum_nil]
      rw [getD_set (by omega)]
      generalize ((List.range m).map (fun j => if (used.set k true).getD j false = true then 0 else 1)).sum = s1 at ih ⊢
      generalize ((List.range m).map (fun j => if used.getD j false = true then 0 else 1)).sum = s2 at ih ⊢
      by_cases h : m = k
      · subst h
        simp only [Nat.lt_irrefl, if_false] at ih
        simp only [hu, if_true, Nat.lt_succ_self, Bool.false_eq_true, if_false]
        omega
      · simp only [if_neg h]
        by_cases h2 : k < m
        · simp only [if_pos h2] at ih
          simp only [if_pos (show k < m + 1 by omega)]
          omega
        · simp only [if_neg h2] at ih
          simp only [if_neg (show ¬ k < m + 1 by omega)]
          omega
  have := go n (Nat.le_refl _)
  rw [if_pos hk] at this
  exact this

/-- The factorial. -/
def facK : Nat → Nat
  | 0 => 1
  | n + 1 => (n + 1) * facK n

/-- P75, above. -/
theorem count_le (cs : List Cmd) : ∀ (left : Nat) (used : List Bool), used.length = cs.length → leftK used cs.length = left → countK cs used left ≤ facK left
  | 0, _, _, _ => Nat.le_refl _
  | left + 1, used, hl, h => by
    unfold countK
    have h1 := sum_le (f := fun k => if freeK cs used k = true then countK cs (used.set k true) left else 0) (g := fun k => (if used.getD k false = true then 0 else 1) * facK left) (List.range cs.length) (fun k hk => by
      have hk := List.mem_range.1 hk
      by_cases hf : freeK cs used k = true
      · have hu : used.getD k false = false := by
          unfold freeK at hf
          rw [Bool.and_eq_true] at hf
          simpa using hf.2
        have := left_set hl hk hu
        have hc := count_le cs left (used.set k true) (by simpa using hl) (by omega)
        simp only [if_pos hf, hu]
        rw [if_neg (by decide), Nat.one_mul]
        exact hc
      · simp only [if_neg hf]
        exact Nat.zero_le _)
    rw [sum_mul] at h1
    have h2 : ((List.range cs.length).map (fun k => if used.getD k false = true then 0 else 1)).sum = left + 1 := h
    rw [h2] at h1
    exact h1

theorem leftK_pos : ∀ (n : Nat) (used : List Bool), 0 < leftK used n → ∃ k, k < n ∧ used.getD k false = false ∧ ∀ j, j < k → used.getD j false = true := by
  intro n used
  induction n with
  | zero => intro h; simp [leftK] at h
  | succ n ih =>
    intro h
    by_cases h0 : 0 < leftK used n
    · obtain ⟨k, h1, h2, h3⟩ := ih h0
      exact ⟨k, by omega, h2, h3⟩
    · have hz : leftK used n = 0 := by omega
      have hall : ∀ j, j < n → used.getD j false = true := by
        intro j hj
        cases hu : used.getD j false with
        | true => rfl
        | false =>
          have := sum_one (f := fun k => if used.getD k false = true then 0 else 1) (List.range n) j (List.mem_range.2 hj)
          simp only [hu] at this
          rw [if_neg (by decide)] at this
          unfold leftK at hz
          omega
      refine ⟨n, by omega, ?_, hall⟩
      unfold leftK at h hz
      rw [List.range_succ, List.map_append, List.sum_append, hz] at h
      simp only [List.map_cons, List.map_nil, List.sum_cons, List.sum_nil] at h
      cases hu : used.getD n false with
      | false => rfl
      | true => rw [hu, if_pos rfl] at h; omega

theorem must_self (c : Cmd) : mustC c c = false := by
  unfold mustC l1uB
  cases h1 : (c.p.toList == [47]) <;> simp

/-- P75, below. -/
theorem count_ge {cs : List Cmd} (h : FitsO cs) : ∀ (left : Nat) (used : List Bool), used.length = cs.length → leftK used cs.length = left → 1 ≤ countK cs used left
  | 0, _, _, _ => Nat.le_refl _
  | left + 1, used, hl, hh => by
    obtain ⟨k, hk, hu, hj⟩ := leftK_pos cs.length used (by omega)
    have hf : freeK cs used k = true := by
      unfold freeK
      rw [Bool.and_eq_true, List.all_eq_true, hu]
      refine ⟨fun i hi => ?_, rfl⟩
      have hi := List.mem_range.1 hi
      by_cases h1 : i < k
      · rw [hj i h1]; rfl
      · by_cases h2 : i = k
        · subst h2
          rw [must_self]
          simp
        · have := List.pairwise_iff_getElem.1 h k i hk hi (by omega)
          have e1 := atK_get (zs := cs) hk
          have e2 := atK_get (zs := cs) hi
          rw [List.getElem?_eq_getElem hk] at e1
          rw [List.getElem?_eq_getElem hi] at e2
          rw [Option.some.inj e1, Option.some.inj e2] at this
          rw [this]
          simp
    have := left_set hl hk hu
    have hc := count_ge h left (used.set k true) (by simpa using hl) (by omega)
    unfold countK
    have h1 := sum_one (f := fun k => if freeK cs used k = true then countK cs (used.set k true) left else 0) (List.range cs.length) k (List.mem_range.2 hk)
    simp only [if_pos hf] at h1
    omega

theorem left_all (n : Nat) : leftK (List.replicate n false) n = n := by
  unfold leftK
  rw [sum_eq (g := fun _ => 1) _ (fun k hk => by
    have hk := List.mem_range.1 hk
    rw [List.getD_eq_getElem?_getD, List.getElem?_replicate, if_pos hk]
    rfl)]
  induction n with
  | zero => rfl
  | succ n ih => rw [List.range_succ, List.map_append, List.sum_append, ih]; rfl

theorem atK_reverse {cs : List Cmd} {k : Nat} (hk : k < cs.length) : atK cs.reverse k = atK cs (cs.length - 1 - k) := by
  unfold atK
  rw [List.getD_eq_getElem?_getD, List.getD_eq_getElem?_getD, List.getElem?_reverse hk]
theorem getD_reverse {us : List Bool} {k : Nat} (hk : k < us.length) : us.reverse.getD k false = us.getD (us.length - 1 - k) false := by
  rw [List.getD_eq_getElem?_getD, List.getD_eq_getElem?_getD, List.getElem?_reverse hk]

theorem range_rev (n : Nat) (f : Nat → Nat) : ((List.range n).map (fun k => f (n - 1 - k))).sum = ((List.range n).map f).sum := by
  have h : (List.range n).map (fun k => f (n - 1 - k)) = ((List.range n).map f).reverse := by
    refine List.ext_getElem? (fun k => ?_)
    by_cases hk : k < n
    · rw [List.getElem?_reverse (by simpa using hk), List.getElem?_map, List.getElem?_map, List.getElem?_range hk, List.length_map, List.length_range, List.getElem?_range (by omega)]
      rfl
    · rw [List.getElem?_eq_none (by simpa using hk), List.getElem?_eq_none (by simpa using hk)]
  rw [h, List.sum_reverse]

theorem free_rev {cs : List Cmd} {us : List Bool} (hl : us.length = cs.length) {k : Nat} (hk : k < cs.length) : freeK cs.reverse us.reverse k = freeK cs us (cs.length - 1 - k) := by
  unfold freeK
  rw [getD_reverse (by omega), hl, atK_reverse hk, List.length_reverse]
  congr 1
  rw [Bool.eq_iff_iff, List.all_eq_true, List.all_eq_true]
  constructor
  · intro h i hi
    have hi := List.mem_range.1 hi
    have := h (cs.length - 1 - i) (List.mem_range.2 (by omega))
    rw [getD_reverse (by omega), hl, atK_reverse (by omega), show cs.length - 1 - (cs.length - 1 - i) = i by omega] at this
    exact this
  · intro h i hi
    have hi := List.mem_range.1 hi
    rw [getD_reverse (by omega), hl, atK_reverse hi]
    exact h _ (List.mem_range.2 (by omega))

theorem set_rev {us : List Bool} {k : Nat} (hk : k < us.length) : us.reverse.set k true = (us.set (us.length - 1 - k) true).reverse := by
  refine List.ext_getElem? (fun j => ?_)
  by_cases hj : j < us.length
  · rw [List.getElem?_reverse (by simpa using hj), List.getElem?_set, List.getElem?_set, List.length_set, List.length_reverse, List.getElem?_reverse hj]
    by_cases h : k = j
    · subst h
      rw [if_pos rfl, if_pos rfl, if_pos hk, if_pos (show us.length - 1 - k < us.length by omega)]
    · rw [if_neg h, if_neg (by omega)]
  · rw [List.getElem?_eq_none (by simpa using hj), List.getElem?_eq_none (by simpa using hj)]

/-- P76. -/
theorem count_rev (cs : List Cmd) : ∀ (left : Nat) (us : List Bool), us.length = cs.length → countK cs.reverse us.reverse left = countK cs us left
  | 0, _, _ => rfl
  | left + 1, us, hl => by
    unfold countK
    rw [List.length_reverse, ← range_rev cs.length (fun k => if freeK cs us k = true then countK cs (us.set k true) left else 0)]
    refine sum_eq _ (fun k hk => ?_)
    have hk := List.mem_range.1 hk
    rw [free_rev hl hk, set_rev (by omega), count_rev cs left _ (by simpa using hl), hl]

theorem once_rev {cs : List Cmd} (h : onceV cs = true) : onceV cs.reverse = true := by
  obtain ⟨h1, h2⟩ := onceV_iff.1 h
  exact onceV_iff.2 ⟨by rw [List.map_reverse]; exact (List.reverse_perm _).nodup_iff.2 h1, validL_perm (List.reverse_perm cs).symm h2⟩

theorem orders_rev {cs : List Cmd} (h : ordersCount cs ≠ -1) : ordersCount cs.reverse = ordersCount cs := by
  unfold ordersCount at h ⊢
  by_cases hc : onceV cs = true ∧ cs.length ≤ 6
  · rw [if_pos hc, if_pos ⟨once_rev hc.1, by rw [List.length_reverse]; exact hc.2⟩, List.length_reverse]
    have := count_rev cs cs.length (List.replicate cs.length false) (by simp)
    rw [List.reverse_replicate] at this
    rw [this]
  · rw [if_neg hc] at h
    exact absurd rfl h

/-- P75. -/
theorem orders_bound {cs : List Cmd} (h : ordersCount cs ≠ -1) : 0 ≤ ordersCount cs ∧ ordersCount cs ≤ (facK cs.length : Nat) ∧ cs.length ≤ 6 ∧ (orderV cs = true → 1 ≤ ordersCount cs) := by
  unfold ordersCount at h ⊢
  by_cases hc : onceV cs = true ∧ cs.length ≤ 6
  · rw [if_pos hc]
    have h1 := count_le cs cs.length (List.replicate cs.length false) (by simp) (left_all _)
    refine ⟨by omega, by omega, hc.2, fun hv => ?_⟩
    have := count_ge (orderV_iff.1 hv).2.2 cs.length (List.replicate cs.length false) (by simp) (left_all _)
    omega
  · rw [if_neg hc] at h
    exact absurd rfl h

end Go.Proofs.Ytmlnakkfjecibaa

/-
  PLAIN MATHEMATICS OF ORDERS, third part: sets of commands as the bits of a number; orders counted set by set.
-/
namespace Go.Proofs.Ytmlnakkfjecibaa

/-! ### sets as bits -/
/-- Of the first j commands, those that must precede a command. -/
def needTo (cs : List Cmd) (k : Nat) : Nat → Nat
  | 0 => 0
  | j + 1 => if mustP (atK cs j) (atK cs k) = true then needTo cs k j ||| 2 ^ j else needTo cs k j

theorem needTo_bit (cs : List Cmd) (k : Nat) : ∀ j i, (needTo cs k j).testBit i = (decide (i < j) && mustP (atK cs i) (atK cs k))
  | 0, i => by simp [needTo]
  | j + 1, i => by
    unfold needTo
    by_cases e : i = j
    · subst e
      cases hm : mustP (atK cs i) (atK cs k) with
      | true => rw [if_pos rfl, Nat.testBit_or, Nat.testBit_two_pow]; simp
      | false => rw [if_neg (by decide), needTo_bit cs k i i]; simp
    · have hd : decide (i < j + 1) = decide (i < j) := decide_eq_decide.2 (by omega)
      rw [hd]
      split
      · rw [Nat.testBit_or, Nat.testBit_two_pow, needTo_bit cs k j i, decide_eq_false (show ¬ j = i from fun h => e h.symm), Bool.or_false]
      · exact needTo_bit cs k j i

theorem needTo_lt (cs : List Cmd) (k : Nat) : ∀ j, needTo cs k j < 2 ^ j
  | 0 => by simp [needTo]
  | j + 1 => by
    unfold needTo
    have h := needTo_lt cs k j
    have h2 : 2 ^ j < 2 ^ (j + 1) := Nat.pow_lt_pow_right (by omega) (by omega)
    split
    · exact Nat.or_lt_two_pow (by omega) h2
    · omega

theorem pow_lt32 {j : Nat} (h : j ≤ 20) : 2 ^ j ≤ 1048576 := Nat.pow_le_pow_right (n := 2) (by omega) h

theorem hasAll_iff {a s : Nat} (hs : s < 4294967296) (ha : a < 4294967296) : a &&& (4294967295 - s) = 0 ↔ ∀ i, a.testBit i = true → s.testBit i = true := by
  have hbit : ∀ i, (a &&& (4294967295 - s)).testBit i = (a.testBit i && (decide (i < 32) && !s.testBit i)) := by
    intro i
    rw [Nat.testBit_and]
    congr 1
    have := Nat.testBit_two_pow_sub_succ (n := 32) (x := s) (by simpa using hs) i
    rw [← this]
    congr 1
    omega
  constructor
  · intro h i hi
    have h2 := hbit i
    rw [h, Nat.zero_testBit, hi, Bool.true_and] at h2
    have hi32 : i < 32 := by
      apply Classical.byContradiction
      intro h3
      have := Nat.testBit_lt_two_pow (x := a) (i := i) (Nat.lt_of_lt_of_le ha (Nat.pow_le_pow_right (show 0 < 2 by omega) (show 32 ≤ i by omega)))
      rw [this] at hi
      cases hi
    rw [decide_eq_true hi32, Bool.true_and] at h2
    simpa using h2.symm
  · intro h
    apply Nat.eq_of_testBit_eq
    intro i
    rw [hbit i, Nat.zero_testBit]
    cases hi : a.testBit i with
    | false => rfl
    | true => rw [h i hi]; simp

theorem has_iff (s k : Nat) : (s / 2 ^ k) &&& 1 = if s.testBit k = true then 1 else 0 := by
  rw [Nat.and_one_is_mod, Nat.testBit_eq_decide_div_mod_eq]
  by_cases h : s / 2 ^ k % 2 = 1
  · rw [h, if_pos (by simp)]
  · rw [if_neg (by simpa using h)]
    omega

/-! ### possible orders, by bits -/
theorem or_pow (k : Nat) : (2 ^ k - 1) ||| 2 ^ k = 2 ^ (k + 1) - 1 := by
  apply Nat.eq_of_testBit_eq
  intro i
  rw [Nat.testBit_or, Nat.testBit_two_pow_sub_one, Nat.testBit_two_pow_sub_one, Nat.testBit_two_pow, Bool.eq_iff_iff]
  simp
  omega

theorem must_valid {cs : List Cmd} (hv : ∀ c ∈ cs, validC c = true) {i k : Nat} (hi : i < cs.length) (hk : k < cs.length) : mustP (atK cs i) (atK cs k) = mustC (atK cs i) (atK cs k) := by
  unfold mustP
  rw [hv _ (atK_mem hi), hv _ (atK_mem hk)]
  rfl

theorem fits_bits {cs : List Cmd} (hv : ∀ c ∈ cs, validC c = true) : fitsB cs = true ↔ ∀ k, k < cs.length → ∀ i, (needTo cs k cs.length).testBit i = true → (2 ^ k - 1).testBit i = true := by
  rw [fitsB_iff, FitsO, List.pairwise_iff_getElem]
  have hget : ∀ i (hi : i < cs.length), cs[i] = atK cs i := fun i hi => by
    have := atK_get (zs := cs) hi
    rw [List.getElem?_eq_getElem hi] at this
    exact Option.some.inj this
  constructor
  · intro h k hk i hi
    rw [needTo_bit, Bool.and_eq_true, decide_eq_true_eq] at hi
    obtain ⟨h1, h2⟩ := hi
    rw [Nat.testBit_two_pow_sub_one, decide_eq_true_eq]
    rw [must_valid hv h1 hk] at h2
    apply Classical.byContradiction
    intro h3
    by_cases e : i = k
    · subst e; rw [must_self] at h2; cases h2
    · have := h k i hk h1 (by omega)
      rw [hget k hk, hget i h1, h2] at this
      cases this
  · intro h k i hk hi hlt
    rw [hget k hk, hget i hi]
    cases hm : mustC (atK cs i) (atK cs k) with
    | false => rfl
    | true =>
      have := h k hk i (by rw [needTo_bit, must_valid hv hi hk, hm, decide_eq_true hi]; rfl)
      rw [Nat.testBit_two_pow_sub_one, decide_eq_true_eq] at this
      omega

/-! ### counting, set by set -/
/-- A set as the model's list of marks. -/
def usedK (n S : Nat) : List Bool := (List.range n).map (fun i => S.testBit i)
theorem usedK_length (n S : Nat) : (usedK n S).length = n := by simp [usedK]
theorem usedK_get {n S i : Nat} (h : i < n) : (usedK n S).getD i false = S.testBit i := by
  unfold usedK
  rw [List.getD_eq_getElem?_getD, List.getElem?_map, List.getElem?_range h]
  rfl
theorem usedK_zero (n : Nat) : usedK n 0 = List.replicate n false := by
  refine List.ext_getElem? (fun i => ?_)
  by_cases h : i < n
  · unfold usedK
    rw [List.getElem?_map, List.getElem?_range h, List.getElem?_replicate, if_pos h]
    simp
  · rw [List.getElem?_eq_none (by rw [usedK_length]; omega), List.getElem?_eq_none (by simp; omega)]
theorem usedK_or {n S k : Nat} (hk : k < n) : usedK n (S ||| 2 ^ k) = (usedK n S).set k true := by
  refine List.ext_getElem? (fun i => ?_)
  by_cases h : i < n
  · rw [List.getElem?_set, usedK_length]
    unfold usedK
    rw [List.getElem?_map, List.getElem?_range h, List.getElem?_map, List.getElem?_range h]
    by_cases e : k = i
    · subst e
      rw [if_pos rfl, if_pos hk]
      simp [Nat.testBit_or, Nat.testBit_two_pow]
    · rw [if_neg e]
      simp [Nat.testBit_or, Nat.testBit_two_pow, e]
  · rw [List.getElem?_eq_none (by rw [usedK_length]; omega), List.getElem?_eq_none (by rw [List.length_set, usedK_length]; omega)]

theorem free_bits {cs : List Cmd} (hv : ∀ c ∈ cs, validC c = true) {S k : Nat} (hk : k < cs.length) : freeK cs (usedK cs.length S) k = true ↔ S.testBit k = false ∧ ∀ i, (needTo cs k cs.length).testBit i = true → S.testBit i = true := by
  unfold freeK
  rw [Bool.and_eq_true, usedK_get hk, List.all_eq_true]
  constructor
  · rintro ⟨h1, h2⟩
    refine ⟨by simpa using h2, fun i hi => ?_⟩
    rw [needTo_bit, Bool.and_eq_true, decide_eq_true_eq] at hi
    have := h1 i (List.mem_range.2 hi.1)
    rw [usedK_get hi.1, ← must_valid hv hi.1 hk, hi.2] at this
    simpa using this
  · rintro ⟨h1, h2⟩
    refine ⟨fun i hi => ?_, by rw [h1]; rfl⟩
    have hi := List.mem_range.1 hi
    rw [usedK_get hi, ← must_valid hv hi hk]
    cases hm : mustP (atK cs i) (atK cs k) with
    | false => simp
    | true => rw [h2 i (by rw [needTo_bit, hm, decide_eq_true hi]; rfl)]; rfl

def stepT (cs : List Cmd) (S k : Nat) (t : List Nat) : List Nat :=
  if freeK cs (usedK cs.length S) k = true then t.set (S ||| 2 ^ k) (t.getD (S ||| 2 ^ k) 0 + t.getD S 0) else t
def rowT (cs : List Cmd) (S : Nat) (t : List Nat) : Nat → List Nat
  | 0 => t
  | j + 1 => stepT cs S j (rowT cs S t j)
def tab0 (cs : List Cmd) : List Nat := (List.replicate (2 ^ cs.length) 0).set 0 1
def tabT (cs : List Cmd) : Nat → List Nat
  | 0 => tab0 cs
  | m + 1 => rowT cs m (tabT cs m) cs.length

theorem sum_point {f g : Nat → Nat} {x d : Nat} (h : ∀ k, k ≠ x → f k = g k) (hx : f x = g x + d) : ∀ m, ((List.range m).map f).sum = ((List.range m).map g).sum + (if x < m then d else 0)
  | 0 => by simp
  | m + 1 => by
    rw [List.range_succ, List.map_append, List.map_append, List.sum_append, List.sum_append, sum_point h hx m]
    simp only [List.map_cons, List.map_nil, List.sum_cons, List.sum_nil]
    by_cases e : m = x
    · subst e
      rw [hx, if_neg (Nat.lt_irrefl _), if_pos (Nat.lt_succ_self _)]
      omega
    · rw [h m e]
      by_cases e2 : x < m
      · rw [if_pos e2, if_pos (by omega)]; omega
      · rw [if_neg e2, if_neg (by omega)]; omega

/-- What the sets from a number on weigh. -/
def wsum (N lo : Nat) (t : List Nat) (w : Nat → Nat) : Nat := ((List.range N).map (fun S => if lo ≤ S then t.getD S 0 * w S else 0)).sum

theorem getD_setN {t : List Nat} {x j v : Nat} (hx : x < t.length) : (t.set x v).getD j 0 = if j = x then v else t.getD j 0 := by
  rw [List.getD_eq_getElem?_getD, List.getElem?_set, List.getD_eq_getElem?_getD]
  by_cases h : x = j
  · subst h
    simp [hx]
  · rw [if_neg h, if_neg (fun e => h e.symm)]

theorem wsum_set {N lo x d : Nat} {t : List Nat} {w : Nat → Nat} (hx : x < N) (hl : t.length = N) (hlo : lo ≤ x) : wsum N lo (t.set x (t.getD x 0 + d)) w = wsum N lo t w + d * w x := by
  unfold wsum
  rw [sum_point (x := x) (d := d * w x) (g := fun S => if lo ≤ S then t.getD S 0 * w S else 0) (fun k hk => by
    rw [getD_setN (by omega), if_neg hk]) (by
    rw [getD_setN (by omega), if_pos rfl, if_pos hlo, if_pos hlo, Nat.add_mul]) N, if_pos hx]

theorem wsum_split {N lo : Nat} {t : List Nat} {w : Nat → Nat} (h : lo < N) : wsum N lo t w = wsum N (lo + 1) t w + t.getD lo 0 * w lo := by
  unfold wsum
  rw [sum_point (x := lo) (d := t.getD lo 0 * w lo) (g := fun S => if lo + 1 ≤ S then t.getD S 0 * w S else 0) (fun k hk => by
    by_cases e : lo ≤ k
    · rw [if_pos e, if_pos (by omega)]
    · rw [if_neg e, if_neg (by omega)]) (by
    rw [if_pos (Nat.le_refl _), if_neg (by omega)]; omega) N, if_pos h]

theorem wsum_none {N lo : Nat} {t : List Nat} {w : Nat → Nat} (h : N ≤ lo) : wsum N lo t w = 0 := by
  unfold wsum
  rw [sum_eq (g := fun _ => 0 * 1) _ (fun k hk => by
    have := List.mem_range.1 hk
    rw [if_neg (by omega)])]
  rw [show (fun _ : Nat => 0 * 1) = (fun k => (fun _ => 0) k * 1) from rfl, sum_mul]
  induction N with
  | zero => rfl
  | succ n ih =>
    have ih := ih (by omega)
    rw [List.range_succ, List.map_append, List.sum_append, Nat.add_mul, ih]
    rfl

theorem wsum_ge {N lo x : Nat} {t : List Nat} {w : Nat → Nat} (hx : x < N) (hlo : lo ≤ x) (hw : 1 ≤ w x) : t.getD x 0 ≤ wsum N lo t w := by
  have := sum_one (f := fun S => if lo ≤ S then t.getD S 0 * w S else 0) (List.range N) x (List.mem_range.2 hx)
  simp only [if_pos hlo] at this
  refine Nat.le_trans ?_ this
  exact Nat.le_mul_of_pos_right _ hw

theorem set_grows {n S k : Nat} (hS : S < 2 ^ n) (hk : k < n) (hb : S.testBit k = false) : S < S ||| 2 ^ k ∧ S ||| 2 ^ k < 2 ^ n := by
  refine ⟨Nat.lt_of_le_of_ne Nat.left_le_or (fun e => ?_), Nat.or_lt_two_pow hS (Nat.pow_lt_pow_right (by omega) hk)⟩
  have := congrArg (fun x => Nat.testBit x k) e
  simp only [Nat.testBit_or, Nat.testBit_two_pow, hb] at this
  simp at this

theorem free_bit {cs : List Cmd} {S k : Nat} (hk : k < cs.length) (h : freeK cs (usedK cs.length S) k = true) : S.testBit k = false := by
  unfold freeK at h
  rw [Bool.and_eq_true, usedK_get hk] at h
  simpa using h.2

theorem row_spec {cs : List Cmd} {S : Nat} {t : List Nat} (hS : S < 2 ^ cs.length) (hl : t.length = 2 ^ cs.length) (w : Nat → Nat) : ∀ j, j ≤ cs.length → (rowT cs S t j).length = 2 ^ cs.length ∧ (∀ i, i ≤ S → (rowT cs S t j).getD i 0 = t.getD i 0) ∧
    wsum (2 ^ cs.length) (S + 1) (rowT cs S t j) w = wsum (2 ^ cs.length) (S + 1) t w + t.getD S 0 * ((List.range j).map (fun k => if freeK cs (usedK cs.length S) k = true then w (S ||| 2 ^ k) else 0)).sum
  | 0, _ => ⟨hl, fun _ _ => rfl, by simp [rowT]⟩
  | j + 1, hj => by
    obtain ⟨h1, h2, h3⟩ := row_spec hS hl w j (by omega)
    have hr : ((List.range (j + 1)).map (fun k => if freeK cs (usedK cs.length S) k = true then w (S ||| 2 ^ k) else 0)).sum = ((List.range j).map (fun k => if freeK cs (usedK cs.length S) k = true then w (S ||| 2 ^ k) else 0)).sum + (if freeK cs (usedK cs.length S) j = true then w (S ||| 2 ^ j) else 0) := by
      rw [List.range_succ, List.map_append, List.sum_append]
      simp
    rw [hr, show rowT cs S t (j + 1) = stepT cs S j (rowT cs S t j) from rfl]
    unfold stepT
    by_cases hf : freeK cs (usedK cs.length S) j = true
    · rw [if_pos hf, if_pos hf]
      obtain ⟨g1, g2⟩ := set_grows hS (by omega) (free_bit (by omega) hf)
      refine ⟨by rw [List.length_set]; exact h1, fun i hi => ?_, ?_⟩
      · rw [getD_setN (by rw [h1]; exact g2), if_neg (by omega), h2 i hi]
      · rw [wsum_set g2 h1 (by omega), h3, h2 S (Nat.le_refl _), Nat.mul_add]
        omega
    · rw [if_neg hf, if_neg hf]
      refine ⟨h1, h2, ?_⟩
      rw [h3]
      simp

/-- The orders of what a set leaves. -/
def cntS (cs : List Cmd) (S : Nat) : Nat := countK cs (usedK cs.length S) (leftK (usedK cs.length S) cs.length)
def facS (cs : List Cmd) (S : Nat) : Nat := facK (leftK (usedK cs.length S) cs.length)

theorem left_or {cs : List Cmd} {S k : Nat} (hk : k < cs.length) (hb : S.testBit k = false) : leftK (usedK cs.length (S ||| 2 ^ k)) cs.length + 1 = leftK (usedK cs.length S) cs.length := by
  rw [usedK_or hk]
  exact left_set (usedK_length _ _) hk (by rw [usedK_get hk]; exact hb)

theorem left_pos {n S : Nat} (hS : S + 1 < 2 ^ n) : 0 < leftK (usedK n S) n := by
  apply Classical.byContradiction
  intro h
  have hall : ∀ i, i < n → S.testBit i = true := by
    intro i hi
    cases hu : S.testBit i with
    | true => rfl
    | false =>
      have := sum_one (f := fun k => if (usedK n S).getD k false = true then 0 else 1) (List.range n) i (List.mem_range.2 hi)
      simp only [usedK_get hi, hu] at this
      rw [if_neg (by decide)] at this
      unfold leftK at h
      omega
  have : S = 2 ^ n - 1 := by
    apply Nat.eq_of_testBit_eq
    intro i
    rw [Nat.testBit_two_pow_sub_one]
    by_cases hi : i < n
    · rw [hall i hi, decide_eq_true hi]
    · rw [decide_eq_false hi]
      exact Nat.testBit_lt_two_pow (Nat.lt_of_lt_of_le (by omega : S < 2 ^ n) (Nat.pow_le_pow_right (n := 2) (by omega) (by omega)))
  omega

theorem sum_zero {f : Nat → Nat} : ∀ n, (∀ k, k < n → f k = 0) → ((List.range n).map f).sum = 0
  | 0, _ => rfl
  | n + 1, h => by
    rw [List.range_succ, List.map_append, List.sum_append, sum_zero n (fun k hk => h k (by omega))]
    simp [h n (by omega)]

theorem left_full (n : Nat) : leftK (usedK n (2 ^ n - 1)) n = 0 := by
  unfold leftK
  exact sum_zero n (fun k hk => by rw [usedK_get hk, Nat.testBit_two_pow_sub_one, decide_eq_true hk, if_pos rfl])

theorem cnt_step {cs : List Cmd} {S : Nat} (hS : S + 1 < 2 ^ cs.length) : cntS cs S = ((List.range cs.length).map (fun k => if freeK cs (usedK cs.length S) k = true then cntS cs (S ||| 2 ^ k) else 0)).sum := by
  unfold cntS
  obtain ⟨l, hl⟩ : ∃ l, leftK (usedK cs.length S) cs.length = l + 1 := ⟨leftK (usedK cs.length S) cs.length - 1, by have := left_pos hS; omega⟩
  rw [hl]
  conv => lhs; unfold countK
  refine sum_eq _ (fun k hk => ?_)
  have hk := List.mem_range.1 hk
  by_cases hf : freeK cs (usedK cs.length S) k = true
  · rw [if_pos hf, if_pos hf]
    have h := left_or hk (free_bit hk hf)
    rw [show leftK (usedK cs.length (S ||| 2 ^ k)) cs.length = l by omega, usedK_or hk]
  · rw [if_neg hf, if_neg hf]

theorem fac_pos : ∀ n, 1 ≤ facK n
  | 0 => Nat.le_refl _
  | n + 1 => by
    unfold facK
    have := fac_pos n
    exact Nat.mul_le_mul (show 1 ≤ n + 1 by omega) this

theorem fac_step {cs : List Cmd} {S : Nat} {j : Nat} (hj : j ≤ cs.length) : ((List.range j).map (fun k => if freeK cs (usedK cs.length S) k = true then facS cs (S ||| 2 ^ k) else 0)).sum ≤ facS cs S := by
  have hmono : ∀ j, j ≤ cs.length → ((List.range j).map (fun k => if freeK cs (usedK cs.length S) k = true then facS cs (S ||| 2 ^ k) else 0)).sum ≤ ((List.range cs.length).map (fun k => if freeK cs (usedK cs.length S) k = true then facS cs (S ||| 2 ^ k) else 0)).sum := by
    intro j hj
    obtain ⟨d, hd⟩ : ∃ d, cs.length = j + d := ⟨cs.length - j, by omega⟩
    rw [hd]
    have : ∀ (d : Nat) (f : Nat → Nat), ((List.range j).map f).sum ≤ ((List.range (j + d)).map f).sum := by
      intro d f
      induction d with
      | zero => exact Nat.le_refl _
      | succ d ih => rw [← Nat.add_assoc, List.range_succ, List.map_append, List.sum_append]; omega
    exact this d _
  refine Nat.le_trans (hmono j hj) ?_
  by_cases h0 : leftK (usedK cs.length S) cs.length = 0
  · rw [sum_eq (g := fun _ => (fun _ => 0) 0) _ (fun k hk => by
      have hk := List.mem_range.1 hk
      rw [if_neg (fun hf => by have := left_or hk (free_bit hk hf); omega)])]
    have hz : ∀ m, ((List.range m).map (fun _ => (0 : Nat))).sum = 0 := by
      intro m
      induction m with
      | zero => rfl
      | succ m ih => rw [List.range_succ, List.map_append, List.sum_append, ih]; rfl
    rw [hz]
    exact Nat.zero_le _
  · obtain ⟨l, hl⟩ : ∃ l, leftK (usedK cs.length S) cs.length = l + 1 := ⟨leftK (usedK cs.length S) cs.length - 1, by omega⟩
    have h1 := sum_le (f := fun k => if freeK cs (usedK cs.length S) k = true then facS cs (S ||| 2 ^ k) else 0) (g := fun k => (if (usedK cs.length S).getD k false = true then 0 else 1) * facK l) (List.range cs.length) (fun k hk => by
      have hk := List.mem_range.1 hk
      by_cases hf : freeK cs (usedK cs.length S) k = true
      · have hb := free_bit hk hf
        have h := left_or hk hb
        simp only [if_pos hf, usedK_get hk, hb]
        rw [if_neg (by decide), Nat.one_mul]
        unfold facS
        rw [show leftK (usedK cs.length (S ||| 2 ^ k)) cs.length = l by omega]
        exact Nat.le_refl _
      · simp only [if_neg hf]
        exact Nat.zero_le _)
    rw [sum_mul] at h1
    have h2 : ((List.range cs.length).map (fun k => if (usedK cs.length S).getD k false = true then 0 else 1)).sum = l + 1 := hl
    rw [h2] at h1
    unfold facS
    rw [hl]
    exact h1

theorem tab0_length (cs : List Cmd) : (tab0 cs).length = 2 ^ cs.length := by simp [tab0]
theorem tab0_get (cs : List Cmd) (i : Nat) : (tab0 cs).getD i 0 = if i = 0 then 1 else 0 := by
  unfold tab0
  have : 0 < 2 ^ cs.length := Nat.pow_pos (by omega)
  rw [getD_setN (by simpa using this)]
  by_cases h : i = 0
  · rw [if_pos h, if_pos h]
  · rw [if_neg h, if_neg h, List.getD_eq_getElem?_getD, List.getElem?_replicate]
    split <;> rfl

theorem tab_length (cs : List Cmd) : ∀ m, m ≤ 2 ^ cs.length → (tabT cs m).length = 2 ^ cs.length
  | 0, _ => tab0_length cs
  | m + 1, h => (row_spec (by omega) (tab_length cs m (by omega)) (fun _ => 0) cs.length (Nat.le_refl _)).1

theorem tab0_sum (cs : List Cmd) (w : Nat → Nat) : wsum (2 ^ cs.length) 0 (tab0 cs) w = w 0 := by
  unfold wsum
  have hp : 0 < 2 ^ cs.length := Nat.pow_pos (by omega)
  rw [sum_point (x := 0) (d := w 0) (g := fun _ => 0) (fun k hk => by
    rw [tab0_get, if_neg hk, if_pos (Nat.zero_le _)]; omega) (by rw [tab0_get, if_pos rfl, if_pos (Nat.zero_le _)]; omega) _, if_pos hp]
  have hz : ∀ m, ((List.range m).map (fun _ => (0 : Nat))).sum = 0 := by
    intro m
    induction m with
    | zero => rfl
    | succ m ih => rw [List.range_succ, List.map_append, List.sum_append, ih]; rfl
  rw [hz, Nat.zero_add]

theorem tab_cnt (cs : List Cmd) : ∀ m, m < 2 ^ cs.length → wsum (2 ^ cs.length) m (tabT cs m) (cntS cs) = cntS cs 0
  | 0, _ => tab0_sum cs _
  | m + 1, h => by
    have ih := tab_cnt cs m (by omega)
    rw [wsum_split (by omega)] at ih
    have := (row_spec (S := m) (t := tabT cs m) (by omega) (tab_length cs m (by omega)) (cntS cs) cs.length (Nat.le_refl _)).2.2
    show wsum _ _ (rowT cs m (tabT cs m) cs.length) _ = _
    rw [this, ← cnt_step h, ih]

/-- What the table says in the end. -/
theorem tab_end (cs : List Cmd) : (tabT cs (2 ^ cs.length)).getD (2 ^ cs.length - 1) 0 = countK cs (List.replicate cs.length false) cs.length := by
  have hp : 0 < 2 ^ cs.length := Nat.pow_pos (by omega)
  obtain ⟨m, hm⟩ : ∃ m, 2 ^ cs.length = m + 1 := ⟨2 ^ cs.length - 1, by omega⟩
  have h1 := tab_cnt cs m (by omega)
  rw [wsum_split (by omega), wsum_none (by omega), Nat.zero_add] at h1
  have h2 := (row_spec (S := m) (t := tabT cs m) (by omega) (tab_length cs m (by omega)) (fun _ => 0) cs.length (Nat.le_refl _)).2.1 m (Nat.le_refl _)
  have h3 : cntS cs m = 1 := by
    unfold cntS
    have := left_full cs.length
    rw [show 2 ^ cs.length - 1 = m by omega] at this
    rw [this]
    rfl
  have h4 : cntS cs 0 = countK cs (List.replicate cs.length false) cs.length := by
    unfold cntS
    rw [usedK_zero, left_all]
  rw [hm, Nat.add_sub_cancel]
  show (rowT cs m (tabT cs m) cs.length).getD m 0 = _
  rw [h2, ← h4, ← h1, h3, Nat.mul_one]

theorem tab_fac (cs : List Cmd) : ∀ m, m ≤ 2 ^ cs.length → wsum (2 ^ cs.length) m (tabT cs m) (facS cs) ≤ facK cs.length
  | 0, _ => by
    show wsum _ _ (tab0 cs) _ ≤ _
    rw [tab0_sum]
    unfold facS
    rw [usedK_zero, left_all]
    exact Nat.le_refl _
  | m + 1, h => by
    have ih := tab_fac cs m (by omega)
    rw [wsum_split (by omega)] at ih
    have := (row_spec (S := m) (t := tabT cs m) (by omega) (tab_length cs m (by omega)) (facS cs) cs.length (Nat.le_refl _)).2.2
    show wsum _ _ (rowT cs m (tabT cs m) cs.length) _ ≤ _
    rw [this]
    have := Nat.mul_le_mul_left ((tabT cs m).getD m 0) (fac_step (cs := cs) (S := m) (Nat.le_refl _))
    omega

/-- No number of the table is great. -/
theorem row_small (cs : List Cmd) {m j : Nat} (hm : m < 2 ^ cs.length) (hj : j ≤ cs.length) (hI : ∀ i, (tabT cs m).getD i 0 ≤ facK cs.length) (i : Nat) : (rowT cs m (tabT cs m) j).getD i 0 ≤ facK cs.length := by
  have hr := row_spec (S := m) (t := tabT cs m) (by omega) (tab_length cs m (by omega)) (facS cs) j hj
  by_cases h1 : i ≤ m
  · rw [hr.2.1 i h1]
    exact hI i
  · by_cases h2 : i < 2 ^ cs.length
    · have h3 := wsum_ge (N := 2 ^ cs.length) (lo := m + 1) (x := i) (t := rowT cs m (tabT cs m) j) (w := facS cs) h2 (by omega) (fac_pos _)
      have h4 := tab_fac cs m (by omega)
      rw [wsum_split (by omega)] at h4
      have h5 := Nat.mul_le_mul_left ((tabT cs m).getD m 0) (fac_step (cs := cs) (S := m) hj)
      have h6 := hr.2.2
      omega
    · rw [List.getD_eq_getElem?_getD, List.getElem?_eq_none (by rw [hr.1]; omega)]
      exact Nat.zero_le _

theorem tab_small (cs : List Cmd) : ∀ m, m ≤ 2 ^ cs.length → ∀ i, (tabT cs m).getD i 0 ≤ facK cs.length
  | 0, _, i => by
    show (tab0 cs).getD i 0 ≤ _
    rw [tab0_get]
    have := fac_pos cs.length
    split <;> omega
  | m + 1, h, i => row_small cs (by omega) (Nat.le_refl _) (tab_small cs m (by omega)) i

theorem fac_le {n : Nat} (h : n ≤ 6) : facK n ≤ 720 := by
  have : n = 0 ∨ n = 1 ∨ n = 2 ∨ n = 3 ∨ n = 4 ∨ n = 5 ∨ n = 6 := by omega
  rcases this with rfl | rfl | rfl | rfl | rfl | rfl | rfl <;> decide

/-! ### each path once, by a set of paths -/
theorem addKey_le : ∀ (xs L : List Lit), (xs.foldl Maps.addKey L).length ≤ L.length + xs.length
  | [], L => by simp
  | x :: r, L => by
    rw [List.foldl_cons]
    have := addKey_le r (Maps.addKey L x)
    have h2 : (Maps.addKey L x).length ≤ L.length + 1 := by unfold Maps.addKey; split <;> simp
    simp only [List.length_cons]
    omega

theorem addKey_nodup : ∀ (xs L : List Lit), (∀ x ∈ xs, WideAt.IsKeyLit x) → L.Nodup → ((xs.foldl Maps.addKey L).length = L.length + xs.length ↔ (L ++ xs).Nodup)
  | [], L, _, h => by simp [h]
  | x :: r, L, hk, hL => by
    rw [List.foldl_cons]
    have hx := hk x (by simp)
    unfold Maps.addKey
    split
    · rename_i h
      obtain ⟨y, hy, hs⟩ := List.any_eq_true.1 h
      obtain rfl := (WideAt.sameKey_iff hx).1 hs
      constructor
      · intro h2
        have := addKey_le r L
        simp only [List.length_cons] at h2
        unfold Maps.addKey at this
        omega
      · intro h2
        rw [List.nodup_append] at h2
        exact absurd rfl (h2.2.2 y hy y (by simp))
    · rename_i h
      have hnot : x ∉ L := fun hm => h (List.any_eq_true.2 ⟨x, hm, WideAt.sameKey_self hx⟩)
      have hL2 : (L ++ [x]).Nodup := by
        rw [List.nodup_append]
        exact ⟨hL, by simp, fun a ha b hb e => hnot (by rw [List.mem_singleton.1 hb] at e; rw [← e]; exact ha)⟩
      have ih := addKey_nodup r (L ++ [x]) (fun y hy => hk y (by simp [hy])) hL2
      unfold Maps.addKey at ih
      rw [List.append_assoc, List.singleton_append] at ih
      rw [← ih, List.length_append, List.length_cons]
      simp only [List.length_cons, List.length_nil]
      constructor <;> intro h2 <;> omega

theorem nodup_map_inj {α β : Type} {f : α → β} (hf : ∀ a b, f a = f b → a = b) : ∀ l : List α, (l.map f).Nodup ↔ l.Nodup
  | [] => by simp
  | a :: l => by
    rw [List.map_cons, List.nodup_cons, List.nodup_cons, nodup_map_inj hf l]
    constructor
    · rintro ⟨h1, h2⟩; exact ⟨fun h => h1 (List.mem_map_of_mem h), h2⟩
    · rintro ⟨h1, h2⟩
      refine ⟨fun h => ?_, h2⟩
      obtain ⟨b, hb, e⟩ := List.mem_map.1 h
      exact h1 (by rw [← hf b a e]; exact hb)

/-- The paths of the first commands, as the keys of a set. -/
def pathKeys (cs : List Cmd) (n : Nat) : List Lit := (cs.take n).map (fun c => keyL c.p)
theorem pathKeys_next {cs : List Cmd} {n : Nat} {c : Cmd} (h : cs[n]? = some c) : pathKeys cs (n + 1) = pathKeys cs n ++ [keyL c.p] := by
  unfold pathKeys
  rw [List.take_add_one, h, List.map_append]
  rfl
theorem pathKeys_key (cs : List Cmd) (n : Nat) : ∀ x ∈ pathKeys cs n, WideAt.IsKeyLit x := by
  intro x hx
  obtain ⟨c, _, rfl⟩ := List.mem_map.1 hx
  exact keyL_key _

theorem paths_size {H : Type} (u : DataW H) (cs : List Cmd) : Maps.size (Maps.setOf u (pathKeys cs cs.length)) = cs.length ↔ (cs.map Cmd.p).Nodup := by
  rw [Maps.size_setOf u _ (pathKeys_key cs _)]
  have h := addKey_nodup (pathKeys cs cs.length) [] (pathKeys_key cs _) List.nodup_nil
  have hl : (pathKeys cs cs.length).length = cs.length := by simp [pathKeys]
  rw [hl, List.length_nil, Nat.zero_add, List.nil_append] at h
  rw [h]
  unfold pathKeys
  rw [List.take_length, show (fun c : Cmd => keyL c.p) = keyL ∘ Cmd.p from rfl, ← List.map_map]
  exact nodup_map_inj (fun a b => keyL_inj) _

theorem paths_size_le {H : Type} (u : DataW H) (cs : List Cmd) (n : Nat) : Maps.size (Maps.setOf u (pathKeys cs n)) ≤ cs.length := by
  rw [Maps.size_setOf u _ (pathKeys_key cs _)]
  refine Nat.le_trans (addKey_le _ _) ?_
  simp [pathKeys]
  omega

end Go.Proofs.Ytmlnakkfjecibaa

/-
  WALKS: orders of the model: spec.l15Must, MustPrecede, l15Once, l15Fits, OrderFits.
-/
namespace Go.Proofs.Ytmlnakkfjecibaa
open Go.RowKit
theorem once_no {cs : List Cmd} {j : Nat} {d : Cmd} (hd : cs[j]? = some d) (h : firstK cs j d.p = false) : onceV cs = false := by
  unfold onceV
  rw [Bool.and_eq_false_iff]
  left
  rw [decide_eq_false_iff_not, nodup_idx]
  intro hh
  rw [hh j d hd] at h
  cases h
theorem once_all {cs : List Cmd} (h : ∀ (j : Nat) (d : Cmd), cs[j]? = some d → firstK cs j d.p = true) : onceV cs = validL cs := by
  unfold onceV
  rw [decide_eq_true (nodup_idx.2 h)]
  rfl

theorem get_atK {cs : List Cmd} {k : Nat} {c : Cmd} (h : cs[k]? = some c) : atK cs k = c := by
  have hk := (List.getElem?_eq_some_iff.1 h).1
  rw [atK_get hk] at h
  exact Option.some.inj h

theorem fits_no {cs : List Cmd} {i k : Nat} {c d : Cmd} (hc : cs[i]? = some c) (hd : cs[k]? = some d) (hk : k < i) (h : mustC c d = true) : fitsB cs = false := by
  rw [Bool.eq_false_iff]
  intro hf
  have hi := (List.getElem?_eq_some_iff.1 hc).1
  have hk' := (List.getElem?_eq_some_iff.1 hd).1
  have := List.pairwise_iff_getElem.1 ((fitsB_iff cs).1 hf) k i hk' hi hk
  rw [List.getElem?_eq_getElem hi] at hc
  rw [List.getElem?_eq_getElem hk'] at hd
  rw [Option.some.inj hc, Option.some.inj hd, h] at this
  cases this

theorem fits_all {cs : List Cmd} (h : ∀ i k, i < cs.length → k < i → mustC (atK cs i) (atK cs k) = false) : fitsB cs = true := by
  rw [fitsB_iff, FitsO, List.pairwise_iff_getElem]
  intro k i hk hi hlt
  have e1 := atK_get (zs := cs) hk
  have e2 := atK_get (zs := cs) hi
  rw [List.getElem?_eq_getElem hk] at e1
  rw [List.getElem?_eq_getElem hi] at e2
  rw [Option.some.inj e1, Option.some.inj e2]
  exact h i k hi hlt

def FitRel (cs : List Cmd) (W : World) (i : Value) (wr : World) : Prop :=
  ∃ n : Nat, i = .int .i64 n ∧ n ≤ cs.length ∧ Hid (∀ i k, i < n → k < i → mustC (atK cs i) (atK cs k) = false) ∧ Hid (Below W.heap.size W wr)
def FitIn (cs : List Cmd) (W : World) (n : Nat) (k : Value) (wr : World) : Prop :=
  ∃ m : Nat, k = .int .i64 m ∧ m ≤ n ∧ Hid (∀ k, k < m → mustC (atK cs n) (atK cs k) = false) ∧ Hid (Below W.heap.size W wr)

end Go.Proofs.Ytmlnakkfjecibaa

/-
  WALKS: conflicts of the model: spec.l16Over, l16Clash, CommandsClash, l16Ok, l16Some, l16Has.
-/
namespace Go.Proofs.Ytmlnakkfjecibaa
open Go.RowKit
set_option linter.unusedVariables false

theorem rb_first : (0 : Nat) ≤ 0 := Nat.le_refl 0

theorem rb_drewN {n : Nat} {W W' : World} (h : Below n W W') (k : Nat) : Below n W (W'.drewN k) := by
  have e := (drewN_cell W' k ⟨0, 0, none⟩).2.2
  exact ⟨h.os, h.tape, h.output, by rw [e]; exact h.size, fun j hj => by rw [e]; exact h.block j hj⟩

theorem some_no {cs : List Cmd} {c : Cmd} (h : ∀ (j : Nat) (d : Cmd), cs[j]? = some d → clashC d c = false) : someC cs c = false := by
  rw [Bool.eq_false_iff]
  intro hs
  obtain ⟨d, hd, hc⟩ := some_iff.1 hs
  obtain ⟨j, hj⟩ := List.getElem?_of_mem hd
  rw [h j d hj] at hc
  cases hc

theorem cmdEqR (c d : Cmd) (h : c ≠ d) (w : World) : (binOp .eql 32 (.agg #[.string c.p, .int .i64 c.fk, .int .i64 c.fv, .int .i64 c.tk, .int .i64 c.tv]) (.agg #[.string d.p, .int .i64 d.fk, .int .i64 d.fv, .int .i64 d.tk, .int .i64 d.tv])).run Try.prog w = .ok (.bool false) w := by
  obtain ⟨p, fk, fv, tk, tv⟩ := c
  obtain ⟨p', fk', fv', tk', tv'⟩ := d
  simp only
  by_cases hp : p = p'
  · subst hp
    by_cases h1 : fk = fk'
    · subst h1
      by_cases h2 : fv = fv'
      · subst h2
        by_cases h3 : tk = tk'
        · subst h3
          by_cases h4 : tv = tv'
          · subst h4
            exact absurd rfl h
          · simp [binOp, go_sem, Op.equal, Op.maxDepth, h4]
        · have : (tk == tk') = false := beq_eq_false_iff_ne.2 h3
          simp [binOp, go_sem, Op.equal, Op.maxDepth, this]
      · have : (fv == fv') = false := beq_eq_false_iff_ne.2 h2
        simp [binOp, go_sem, Op.equal, Op.maxDepth, this]
    · have : (fk == fk') = false := beq_eq_false_iff_ne.2 h1
      simp [binOp, go_sem, Op.equal, Op.maxDepth, this]
  · have : (p.toList == p'.toList) = false := toList_ne hp
    simp [binOp, go_sem, Op.equal, Op.maxDepth, this]

theorem has_no {cs : List Cmd} {c : Cmd} (h : ∀ j, j < cs.length → cs[j]? ≠ some c) : hasC cs c = false := by
  rw [Bool.eq_false_iff]
  intro hs
  obtain ⟨j, hj⟩ := List.getElem?_of_mem (hasC_iff.1 hs)
  exact h j (List.getElem?_eq_some_iff.1 hj).1 hj

end Go.Proofs.Ytmlnakkfjecibaa

/-
  WALKS: laws.hasCommand, at any command.
-/
namespace Go.Proofs.Ytmlnakkfjecibaa
open Go.RowKit
set_option linter.unusedVariables false

theorem ri_first : (0 : Nat) ≤ 0 := Nat.le_refl 0

set_option maxHeartbeats 2000000 in
set_option maxRecDepth 100000 in
theorem lawHas_c (a : Option Addr) (len cap : Nat) (cs : List Cmd) (c : Cmd) (hl : len ≤ 2097152) (W : World) (hN : CmdsAt W a len cs) :
    Calls Try.prog 20 #[.slice a len cap, cmdV c] W (BoolPost (hasC cs c) W) := by
  have HN := Lib.hid hN
  have HE := Lib.hid hN.1
  have hl' : (len : Int) ≤ 2097152 := by omega
  have HC := Lib.hid (cmds_lit W c)
  have HBX := Lib.hid (below_box W (.cells #[.string c.p, .int .i64 c.fk, .int .i64 c.fv, .int .i64 c.tk, .int .i64 c.tv] 32))
  obtain ⟨cc, hcc⟩ : ∃ x, c = x := ⟨_, rfl⟩
  have HCC := Lib.hid hcc
  rw [show hasC cs c = hasC cs cc by rw [hcc]]
  clear hN hcc
  obtain ⟨p, fk, fv, tk, tv⟩ := c
  unfold cmdV
  simp only at HC HBX ⊢
  go_enter Try.func20, Try.ntmps20
  go_wp2
  generalize W.alloc (.cells #[.string p, .int .i64 fk, .int .i64 fv, .int .i64 tk, .int .i64 tv] 32) = W0 at HC HBX ⊢
  go_loopw [5] (fun i wr => ∃ n : Nat, i = .int .i64 n ∧ n ≤ len ∧ Hid (∀ j, j < n → cs[j]? ≠ some cc) ∧ Hid (Below W0.heap.size W0 wr)) (fun i _ => len - (intOf i).toNat)
  case atStart => exact ⟨0, rfl, Nat.zero_le _, fun j hj => absurd hj (Nat.not_lt_zero _), Below.refl _ _⟩
  case round =>
    obtain ⟨n, rfl, hn, HNO, HB⟩ := hrel
    by_cases hlt : n < len
    · have hlt' : (n : Int) < len := by omega
      have hw1 : IntKind.i64.wrap ((n : Int) + 1) = (n : Int) + 1 := IntWalk.i64_in _ (by omega)
      have HLT := Lib.hid hlt
      obtain ⟨b, off, d, rfl, hd, d0, d1, d2, d3, d4⟩ := (HN.out.keep (below_next HBX.out HB.out)).node hlt
      obtain ⟨b1, off1, c', e1, e2, c0, c1, c2, c3, c4⟩ := (HC.out.keep HB.out).node (i := 0) (by omega)
      cases e1
      obtain rfl : _ = c' := by simpa using e2
      simp only [Nat.zero_mul, Nat.zero_add, Nat.add_zero] at c0 c1 c2 c3 c4
      have HD := Lib.hid hd
      clear hn hlt e2 hd
      by_cases hdc : d = cc
      · have hd2 := hdc.trans HCC.out.symm
        have HX := Lib.hid (show hasC cs cc = true from hasC_iff.2 (by rw [← hdc]; exact List.mem_of_getElem? HD.out))
        subst hd2
        have ce := fun w => cmdEqS p fk fv tk tv w
        clear hdc
        simp only at d0 d1 d2 d3 d4
        go_upto_region 4 with (fail)
        go_quiet (fail)
        go_wp2
        go_ret
        exact ⟨ret_bool HX.out.symm, rb_drewN (below_next HBX.out HB.out) _⟩
      · have ce := fun w => cmdEqR d ⟨p, fk, fv, tk, tv⟩ (by rw [HCC.out]; exact hdc) w
        have HDC := Lib.hid hdc
        clear hdc
        obtain ⟨p', fk', fv', tk', tv'⟩ := d
        simp only at d0 d1 d2 d3 d4 ce
        go_upto_region 4 with (fail)
        go_quiet (fail)
        go_wp2
        go_roundw
        case rel => exact ⟨n + 1, by go_num, HLT.out, Lib.hid (fun j hj => by
          by_cases hjn : j < n
          · exact HNO.out j hjn
          · obtain rfl : j = n := by omega
            rw [HD.out]
            intro h
            exact HDC.out (Option.some.inj h)), Lib.hid (rb_drewN HB.out _)⟩
        case measure => have := HLT.out; simp [intOf]; omega
    · have hge : (len : Int) ≤ n := by omega
      have HX := Lib.hid (has_no (cs := cs) (c := cc) (fun j hj => HNO.out j (by have := HE.out; omega)))
      clear hn hlt
      go_wp2
      go_ret
      exact ⟨ret_bool HX.out.symm, below_next HBX.out HB.out⟩

end Go.Proofs.Ytmlnakkfjecibaa

/-
  WALKS: impl.TreePut.
-/
namespace Go.Proofs.Ytmlnakkfjecibaa
open Go.RowKit
set_option linter.unusedVariables false

theorem treePut_bad {ns : List Nd} {p : ByteArray} {k v : Int} (h : validT ns = false ∨ ¬ 1 ≤ depB p ∨ validB k v = false) : treePut ns p k v = none := by
  unfold treePut
  rcases h with h | h | h <;> simp [h]

theorem tput_nil {r : Option (List Nd)} {base : Nat} {W w : World} (hr : r = none) (hB : Below W.heap.size W w) : TPost r base W (.returned (.tuple #[.slice none 0 0, .bool false])) w :=
  ⟨_, [], false, rfl, .inr ⟨rfl, hr, rfl⟩, World.ownsRow_nil _ _ _ _, hB⟩

theorem lst_short {F : List UInt8 → Int × Int} : Short 8 (lst F 4 []) := by
  intro n hn
  obtain ⟨c, u, h1, h2, h3, rfl⟩ := mem_lst.1 hn
  exact pB_size (v := [] ++ c :: u) ⟨by rw [List.nil_append, List.length_cons]; omega, h2⟩

theorem Short.mono {m m' : Nat} {ns : List Nd} (h : Short m ns) (hm : m ≤ m') : Short m' ns := fun n hn => Nat.le_trans (h n hn) hm

end Go.Proofs.Ytmlnakkfjecibaa

/-
  AN ARGUMENT THAT IS A LIST OF NODES, opened to its cells.
-/
namespace Go.Proofs.Ytmlnakkfjecibaa
open Go.ChangeShapes Go.WideShapes Go.Deep

theorem len_three {α : Type} : ∀ {l : List α}, l.length = 3 → ∃ a b c, l = [a, b, c]
  | [a, b, c], _ => ⟨a, b, c, rfl⟩
theorem len_two {α : Type} : ∀ {l : List α}, l.length = 2 → ∃ a b, l = [a, b]
  | [a, b], _ => ⟨a, b, rfl⟩

theorem spot_none {w : World} {a : Addr} {v : Value} (h : w.cell? a = some v) : a.spot = none := by
  unfold World.cell? at h
  split at h
  · split at h
    · cases h
    · rename_i hs; simpa using hs
  · cases h

section
variable {H : Type} {enc : TypeId × Value → H} {w : World} {base : Nat} {spare : Nat → Bool} {held : Bool}

theorem open_node {fuel : Nat} {cs : List Value} {x : DataW H × List MemPlace} (h : DataW.trod enc Try.prog w base spare held fuel 97 cs = some x) :
    ∃ n : Nd, cs = [.string n.p, .int .i64 n.k, .int .i64 n.v] ∧ n.p.size ≤ maxLen := by
  obtain ⟨xs, n, _, _, hl, hxl, hf⟩ := DataW.trod_struct Try.underlying97 h
  have hl3 : cs.length = 3 := hl.trans (by kernel_rfl)
  obtain ⟨c0, c1, c2, rfl⟩ : ∃ c0 c1 c2, cs = [c0, c1, c2] := len_three hl3
  obtain ⟨x0, x1, rfl⟩ : ∃ x0 x1, xs = [x0, x1] := len_two hxl
  have h0 : DataW.trod enc Try.prog w base spare held n 9 (([c0, c1, c2].drop 0).take (Try.prog.cellsOf 9)) = some x0 := hf 0 _ rfl
  have h1 : DataW.trod enc Try.prog w base spare held n 89 (([c0, c1, c2].drop 1).take (Try.prog.cellsOf 89)) = some x1 := hf 1 _ rfl
  rw [(by kernel_rfl : Try.prog.cellsOf 9 = 1)] at h0
  rw [(by kernel_rfl : Try.prog.cellsOf 89 = 2)] at h1
  obtain ⟨s, hs, _, hsz⟩ := DataW.trod_string Try.underlying9 (show DataW.trod enc Try.prog w base spare held n 9 [c0] = some x0 from h0)
  obtain ⟨ys, m, _, _, _, hyl, hg⟩ := DataW.trod_struct Try.underlying89 (show DataW.trod enc Try.prog w base spare held n 89 [c1, c2] = some x1 from h1)
  obtain ⟨y0, y1, rfl⟩ : ∃ y0 y1, ys = [y0, y1] := len_two hyl
  have h2 : DataW.trod enc Try.prog w base spare held m 3 (([c1, c2].drop 0).take (Try.prog.cellsOf 3)) = some y0 := hg 0 _ rfl
  have h3 : DataW.trod enc Try.prog w base spare held m 3 (([c1, c2].drop 1).take (Try.prog.cellsOf 3)) = some y1 := hg 1 _ rfl
  rw [(by kernel_rfl : Try.prog.cellsOf 3 = 1)] at h2
  rw [(by kernel_rfl : Try.prog.cellsOf 3 = 1)] at h3
  obtain ⟨k, hk, _⟩ := DataW.trod_int Try.underlying3 (show DataW.trod enc Try.prog w base spare held m 3 [c1] = some y0 from h2)
  obtain ⟨v, hv, _⟩ := DataW.trod_int Try.underlying3 (show DataW.trod enc Try.prog w base spare held m 3 [c2] = some y1 from h3)
  simp at hs hk hv
  subst hs; subst hk; subst hv
  exact ⟨⟨s, k, v⟩, rfl, hsz⟩

theorem open_nodes {fuel : Nat} {a : Option Addr} {len cap : Nat} {x : DataW H × List MemPlace} (h : DataW.trod enc Try.prog w base spare held fuel 57 [.slice a len cap] = some x) :
    ∃ ns : List Nd, NodesAt w a len ns ∧ len ≤ maxLen ∧ Short maxLen ns := by
  rcases open_slice Try.underlying57 h with ⟨h0, _⟩ | ⟨ad, len', cap', m, n, D, Pl, hcs, _, hl, hm, hmm, _, hi⟩
  · simp at h0
    obtain ⟨rfl, rfl, rfl⟩ := h0
    exact ⟨[], ⟨rfl, .inl rfl⟩, by unfold maxLen; omega, fun n hn => by cases hn⟩
  · simp at hcs
    obtain ⟨rfl, rfl, rfl⟩ := hcs
    have hlm : len ≤ m := by rw [hmm]; split <;> omega
    have hel : ∀ i, i < len → ∃ nd : Nd, w.cell? (ad.add (i * 3)) = some (.string nd.p) ∧ w.cell? (ad.add (i * 3 + 1)) = some (.int .i64 nd.k) ∧ w.cell? (ad.add (i * 3 + 2)) = some (.int .i64 nd.v) ∧ nd.p.size ≤ maxLen := by
      intro i hil
      obtain ⟨cs, hc, ht⟩ := hi i (by omega)
      rw [show Try.prog.cellsOf 97 = 3 by kernel_rfl] at hc
      obtain ⟨nd, rfl, hsz⟩ := open_node ht
      obtain ⟨_, hcl, hat⟩ := World.cells?_some hc
      refine ⟨nd, ?_, ?_, ?_, hsz⟩
      · have := hat 0 (by omega)
        rw [Go.Deep.add_add] at this; exact this
      · have := hat 1 (by omega)
        rw [Go.Deep.add_add] at this; exact this
      · have := hat 2 (by omega)
        rw [Go.Deep.add_add] at this; exact this
    obtain ⟨f, hf⟩ : ∃ f : Nat → Nd, ∀ i, i < len → w.cell? (ad.add (i * 3)) = some (.string (f i).p) ∧ w.cell? (ad.add (i * 3 + 1)) = some (.int .i64 (f i).k) ∧ w.cell? (ad.add (i * 3 + 2)) = some (.int .i64 (f i).v) ∧ (f i).p.size ≤ maxLen :=
      ⟨fun i => if h : i < len then Classical.choose (hel i h) else ⟨⟨#[]⟩, 0, 0⟩, fun i hil => by
        simp only [dif_pos hil]
        exact Classical.choose_spec (hel i hil)⟩
    have hget : ∀ i n, ((List.range len).map f)[i]? = some n → i < len ∧ n = f i := by
      intro i n hn
      rw [List.getElem?_map] at hn
      by_cases hil : i < len
      · rw [List.getElem?_range hil] at hn
        exact ⟨hil, by simpa using hn.symm⟩
      · rw [List.getElem?_eq_none (by simpa using hil)] at hn; cases hn
    refine ⟨(List.range len).map f, ⟨by simp, ?_⟩, by omega, fun n hn => ?_⟩
    · by_cases h0 : len = 0
      · exact .inl h0
      · right
        have hsp := spot_none (hf 0 (by omega)).1
        obtain ⟨b, off, sp⟩ := ad
        have hsp' : sp = none := by
          simp [Addr.add] at hsp
          exact hsp
        subst hsp'
        have hadd : ∀ j, (⟨b, off, none⟩ : Addr).add j = ⟨b, off + j, none⟩ := fun j => by
          unfold Addr.add
          split
          · rename_i hj; rw [hj]; rfl
          · rfl
        refine ⟨b, off, rfl, fun i n hn => ?_⟩
        obtain ⟨hil, rfl⟩ := hget i n hn
        obtain ⟨c0, c1, c2, _⟩ := hf i hil
        rw [hadd] at c0 c1 c2
        exact ⟨c0, c1, c2⟩
    · obtain ⟨i, hi2⟩ := List.getElem?_of_mem hn
      obtain ⟨hil, rfl⟩ := hget i n hi2
      exact (hf i hil).2.2.2
end

end Go.Proofs.Ytmlnakkfjecibaa

/-
  AN ARGUMENT THAT IS A LIST OF TEXTS, opened to its cells; laws.szStringS, toStringS, markStringS from any number on.
-/
namespace Go.Proofs.Ytmlnakkfjecibaa
set_option linter.unusedVariables false
section
open Go.ChangeShapes Go.WideShapes Go.Deep
variable {H : Type} {enc : TypeId × Value → H} {w : World} {base : Nat} {spare : Nat → Bool} {held : Bool}

theorem open_texts {fuel : Nat} {a : Option Addr} {len cap : Nat} {x : DataW H × List MemPlace} (h : DataW.trod enc Try.prog w base spare held fuel 24 [.slice a len cap] = some x) :
    ∃ ns : List ByteArray, TextsAt w a len ns ∧ len ≤ maxLen ∧ ShortX maxLen ns := by
  rcases open_slice Try.underlying24 h with ⟨h0, _⟩ | ⟨ad, len', cap', m, n, D, Pl, hcs, _, hl, hm, hmm, _, hi⟩
  · simp at h0
    obtain ⟨rfl, rfl, rfl⟩ := h0
    exact ⟨[], ⟨rfl, .inl rfl⟩, by unfold maxLen; omega, fun n hn => by cases hn⟩
  · simp at hcs
    obtain ⟨rfl, rfl, rfl⟩ := hcs
    have hlm : len ≤ m := by rw [hmm]; split <;> omega
    have hel : ∀ i, i < len → ∃ s : ByteArray, w.cell? (ad.add i) = some (.string s) ∧ s.size ≤ maxLen := by
      intro i hil
      obtain ⟨cs, hc, ht⟩ := hi i (by omega)
      rw [show Try.prog.cellsOf 9 = 1 by kernel_rfl] at hc
      obtain ⟨s, hs, _, hsz⟩ := DataW.trod_string Try.underlying9 ht
      subst hs
      obtain ⟨_, hcl, hat⟩ := World.cells?_some hc
      refine ⟨s, ?_, hsz⟩
      have := hat 0 (by omega)
      rw [Go.Deep.add_add, Nat.mul_one, Nat.add_zero] at this; exact this
    obtain ⟨f, hf⟩ : ∃ f : Nat → ByteArray, ∀ i, i < len → w.cell? (ad.add i) = some (.string (f i)) ∧ (f i).size ≤ maxLen :=
      ⟨fun i => if h : i < len then Classical.choose (hel i h) else ⟨#[]⟩, fun i hil => by
        simp only [dif_pos hil]
        exact Classical.choose_spec (hel i hil)⟩
    have hget : ∀ i n, ((List.range len).map f)[i]? = some n → i < len ∧ n = f i := by
      intro i n hn
      rw [List.getElem?_map] at hn
      by_cases hil : i < len
      · rw [List.getElem?_range hil] at hn
        exact ⟨hil, by simpa using hn.symm⟩
      · rw [List.getElem?_eq_none (by simpa using hil)] at hn; cases hn
    refine ⟨(List.range len).map f, ⟨by simp, ?_⟩, by omega, fun n hn => ?_⟩
    · by_cases h0 : len = 0
      · exact .inl h0
      · right
        have hsp := spot_none (hf 0 (by omega)).1
        obtain ⟨b, off, sp⟩ := ad
        have hsp' : sp = none := by
          simp [Addr.add] at hsp
          exact hsp
        subst hsp'
        have hadd : ∀ j, (⟨b, off, none⟩ : Addr).add j = ⟨b, off + j, none⟩ := fun j => by
          unfold Addr.add
          split
          · rename_i hj; rw [hj]; rfl
          · rfl
        refine ⟨b, off, rfl, fun i n hn => ?_⟩
        obtain ⟨hil, rfl⟩ := hget i n hn
        have c0 := (hf i hil).1
        rw [hadd] at c0
        exact c0
    · obtain ⟨i, hi2⟩ := List.getElem?_of_mem hn
      obtain ⟨hil, rfl⟩ := hget i n hi2
      exact (hf i hil).2
end

open Go.RowKit

def ToSRel (ns : List ByteArray) (len : Nat) (W : World) (i : Value) (wr : World) : Prop :=
  ∃ (n : Nat) (zs : List Value), i = .int .i64 n ∧ n ≤ len ∧ zs.length = len - n ∧ wr.ownsRow W.heap.size 9 1 (.slice (some ⟨W.heap.size, 0, none⟩) len len) len ((ns.take n).map Value.string ++ zs) ∧ Hid (Below W.heap.size W wr)

theorem texts_cap {W : World} {a : Option Addr} {len : Nat} {xs : List ByteArray} (h : TextsAt W a len xs) : xs.length = len := h.1

set_option maxHeartbeats 2000000 in
set_option maxRecDepth 100000 in
theorem toStringS_c (a : Option Addr) (len cap : Nat) (ns : List ByteArray) (hl : len ≤ 2097152) (W : World) (hN : TextsAt W a len ns) :
    Calls Try.prog 31 #[.slice a len cap] W fun e W' => TextsPost ns W e W' := by
  obtain ⟨i0, hi, hz0, hz1, hz2⟩ := info_parts infoStr
  have HN := Lib.hid hN
  have HE := Lib.hid hN.1
  have HL := Lib.hid hl
  clear hN
  go_enter Try.func31, Try.ntmps31
  go_wp2_with (refine wpList_make_full _ rfl _ _ 24 rfl W.heap.size 9 i0 (.string ⟨#[]⟩) 1 Try.underlying24 hi hz0 hz1 .i64 .i64 _ _ len rfl rfl rfl rfl (by rw [hz2]; omega) (by unfold maxLen; omega) (Nat.le_refl _) ?_; intro w1 hown1 hg1)
  have hb1 := below_of_none hg1
  clear hg1
  simp only [Nat.mul_one] at hown1
  go_loopw [4] (fun i wr => ToSRel ns len W i wr) (fun i _ => len - (intOf i).toNat)
  case atStart =>
    refine ⟨0, _, rfl, by omega, ?_, hown1, hb1⟩
    exact hown1.1.trans (Nat.mul_one len)
  case round =>
    obtain ⟨i, zs, rfl, hi1, hzl, hown, HB⟩ := hrel
    by_cases hlt : i < len
    · obtain ⟨b, off, n, rfl, hn, c0⟩ := (HN.out.keep HB.out).node hlt
      have hlt' : (i : Int) < len := by omega
      have HLT := Lib.hid hlt
      have HNN := Lib.hid hn
      have hz3 : 1 ≤ zs.length := by omega
      have HZ := Lib.hid (And.intro hzl hz3)
      have HO2 := Lib.hid hown
      have hll : ((ns.take i).map Value.string).length = i := by rw [List.length_map, List.length_take]; have := HE.out; have := HLT.out; omega
      have HLL := Lib.hid hll
      obtain ⟨u0, e0⟩ : ∃ u, wr.cell? ⟨W.heap.size, i, none⟩ = some u := by
        have hx := HZ.out.1
        have hy := HLT.out
        rw [HO2.out.cellAt _ (by omega)]
        exact ⟨_, List.getElem?_eq_getElem (by rw [List.length_append, hll]; omega)⟩
      have y0 := HO2.out.frozenAt i
      clear hi1 hlt hn hzl hz3 hown1 hown hll
      go_wp2
      have HS1 := (HO2.out.stored i (.string n)).1
      rw [take_set_one _ i _ zs HLL.out HZ.out.2] at HS1
      go_roundw
      case rel =>
        refine ⟨i + 1, zs.drop 1, by go_num, by have := HLT.out; omega, by rw [List.length_drop]; have h1 := HZ.out.1; have h2 := HZ.out.2; have h3 := HLT.out; omega, ?_, below_setCell HB.out _ _ (Nat.le_refl _)⟩
        rw [List.take_add_one, HNN.out, List.map_append]; exact HS1
      case measure => have := HLT.out; simp [intOf]; omega
    · have hge : (len : Int) ≤ i := by omega
      have hz0' : zs = [] := List.eq_nil_of_length_eq_zero (by omega)
      subst hz0'
      rw [List.append_nil, List.take_of_length_le (by have := HE.out; omega)] at hown
      clear hi1 hlt
      go_wp2
      go_ret
      exact ⟨⟨_, rfl, by have h := HE.out; rw [h]; exact hown⟩, HB.out⟩

/-- What is left; if anything is, the list and its texts are of modest length. -/
def SzAllT (len : Nat) (ns : List ByteArray) (w : World) (e : Ending) (w' : World) : Prop := ∃ z : Int, e = .returned (.int .i64 z) ∧ z ≤ 1048576 ∧ (0 ≤ z → len ≤ 1048576 ∧ ShortX 1048576 ns) ∧ Below w.heap.size w w'

def SzRelT (len : Nat) (ns : List ByteArray) (w : World) (l i : Value) (wr : World) : Prop :=
  ∃ (n : Nat) (z : Int), i = .int .i64 n ∧ n ≤ len ∧ l = .int .i64 z ∧ Hid (0 ≤ z ∧ z ≤ 1048576) ∧ Hid (∀ (j : Nat) (m : ByteArray), j < n → ns[j]? = some m → m.size ≤ 1048576) ∧ Hid (Below w.heap.size w wr)

set_option maxHeartbeats 2000000 in
set_option maxRecDepth 100000 in
theorem szStringS_c (l0 : Int) (hl0 : 0 ≤ l0) (hl1 : l0 ≤ 1048576) (a : Option Addr) (len cap : Nat) (ns : List ByteArray) (hlen : len ≤ maxLen) (hm : ShortX maxLen ns) (w : World) (hN : TextsAt w a len ns) :
    Calls Try.prog 30 #[.slice a len cap, .int .i64 l0] w (SzAllT len ns w) := by
  have HN := Lib.hid hN
  have HE := Lib.hid hN.1
  have HM := Lib.hid hm
  have hl : len ≤ 9223372036854775807 := Nat.le_trans hlen (by unfold maxLen; omega)
  have hw0 : IntKind.i64.wrap (l0 - (len : Int)) = l0 - len := IntWalk.i64_in _ (by omega)
  clear hN hm hlen
  by_cases h : (len : Int) ≤ l0
  · obtain ⟨z, hz⟩ : ∃ z, l0 - len = z := ⟨_, rfl⟩
    have hzp : 0 ≤ z := by omega
    have HZ := Lib.hid (show 0 ≤ z ∧ z ≤ 1048576 by omega)
    have hw := hw0.trans hz
    have HL := Lib.hid (show len ≤ 1048576 by omega)
    have hl2 : (len : Int) ≤ 1048576 := by omega
    clear hz hl h hw0
    go_enter Try.func30, Try.ntmps30
    go_wp2
    clear hzp hw
    go_loopw [1, 5] (fun l i wr => SzRelT len ns w l i wr) (fun _ i _ => len - (intOf i).toNat)
    case atStart => exact ⟨0, z, rfl, by omega, rfl, HZ, Lib.hid (fun j m h _ => absurd h (by omega)), Below.refl _ _⟩
    case round =>
      obtain ⟨i, l, rfl, hi, rfl, HLL, HP, HB⟩ := hrel
      by_cases hlt : i < len
      · obtain ⟨b, off, n, rfl, hn, c0⟩ := (HN.out.keep HB.out).node hlt
        have hlt' : (i : Int) < len := by omega
        have HNN := Lib.hid hn
        have HLT := Lib.hid hlt
        have hsz := HM.out n (List.mem_of_getElem? hn)
        have hsz' : n.size ≤ 9223372036854775807 := Nat.le_trans hsz (by unfold maxLen; omega)
        obtain ⟨z2, hz2⟩ : ∃ z, l - (n.size : Int) = z := ⟨_, rfl⟩
        have hwz : IntKind.i64.wrap (l - (n.size : Int)) = z2 := (IntWalk.i64_in _ (by have := HLL.out; omega)).trans hz2
        have HZ2 := Lib.hid (show z2 ≤ 1048576 ∧ (0 ≤ z2 → n.size ≤ 1048576) by have := HLL.out; omega)
        clear hi hlt hn hsz hsz' hz2
        by_cases hneg : z2 < 0
        · go_wp2
          go_ret
          exact ⟨-1, rfl, by omega, fun h => absurd h (by omega), HB.out⟩
        · have hpos : 0 ≤ z2 := by omega
          have HPZ := Lib.hid hpos
          clear hneg
          go_wp2
          go_roundw
          case rel =>
            refine ⟨i + 1, z2, by go_num, by have := HLT.out; omega, rfl, ⟨HPZ.out, HZ2.out.1⟩, ?_, HB⟩
            intro j m hj hm
            by_cases hji : j < i
            · exact HP.out j m hji hm
            · have : j = i := by omega
              subst this
              rw [HNN.out] at hm
              obtain rfl := Option.some.inj hm
              exact HZ2.out.2 HPZ.out
          case measure => have := HLT.out; simp [intOf]; omega
      · have hge : (len : Int) ≤ i := by omega
        have HQ := Lib.hid (show len ≤ i by omega)
        clear hi hlt
        go_wp2
        go_ret
        exact ⟨l, rfl, HLL.out.2, fun _ => ⟨HL.out, fun n hn => by
          obtain ⟨j, hj⟩ := List.getElem?_of_mem hn
          exact HP.out j n (by have h1 := (List.getElem?_eq_some_iff.1 hj).1; have h2 := HE.out; have h3 := HQ.out; omega) hj⟩, HB.out⟩
  · have hz : l0 - len < 0 := by omega
    obtain ⟨z, hz'⟩ : ∃ z, l0 - len = z := ⟨_, rfl⟩
    have hw := hw0.trans hz'
    rw [hz'] at hz
    clear hz' hl h hw0
    go_enter Try.func30, Try.ntmps30
    go_wp2
    go_ret
    exact ⟨-1, rfl, by omega, fun h => absurd h (by omega), Below.refl _ _⟩

/-- The texts that a test writes, from a number on. -/
def markSK (k0 n : Nat) : List ByteArray := (List.range n).map (fun i => mtext (k0 + i))
theorem markSK_len (k0 n : Nat) : (markSK k0 n).length = n := by simp [markSK]
theorem markSK_get {k0 n i : Nat} (h : i < n) : (markSK k0 n)[i]? = some (mtext (k0 + i)) := by
  unfold markSK; rw [List.getElem?_map, List.getElem?_range h]; rfl

def MarkedSKRel (k0 len base : Nat) (v : Value) (W : World) (kv i : Value) (wr : World) : Prop :=
  ∃ (n : Nat) (zs : List Value), i = .int .i64 n ∧ kv = .int .i64 ((k0 : Int) + (n : Int)) ∧ n ≤ len ∧ zs.length = len - n ∧ wr.ownsRow base 9 1 v len (((markSK k0 len).take n).map Value.string ++ zs) ∧ Hid (W.grownBy wr v.ownBlock)

set_option maxHeartbeats 2000000 in
set_option maxRecDepth 100000 in
theorem markStringSK_c (v : Value) (base len k0 : Nat) (hk1 : 1 ≤ k0) (hk2 : k0 ≤ 1000000000) (xs : List Value) (hl : len ≤ 2097152) (W : World) (h : W.ownsRow base 9 1 v len xs) :
    Calls Try.prog 37 #[v, .int .i64 k0] W fun e W' => e = .returned (.int .i64 ((k0 : Int) + (len : Int))) ∧ W.grownBy W' v.ownBlock ∧ W'.ownsRow base 9 1 v len ((markSK k0 len).map Value.string) := by
  have HX := Lib.hid h
  have hxl := h.1
  have HMT := Lib.hid (fun k (h1 : 1 ≤ k) (h2 : k ≤ 1099511627776) w => markText_c k h1 h2 w)
  obtain ⟨a, cap, hv⟩ : ∃ a cap, v = .slice a len cap := by
    rcases own_cases h with ⟨h1, h2⟩ | ⟨g, cap, h1⟩
    · exact ⟨none, 0, by rw [h1, h2]⟩
    · exact ⟨_, cap, h1⟩
  have hl' : (len : Int) ≤ 2097152 := by omega
  have hk2' : (k0 : Int) ≤ 1000000000 := by omega
  have hk1' : (1 : Int) ≤ k0 := by omega
  clear h
  subst hv
  go_enter Try.func37, Try.ntmps37
  go_wp2
  go_loopw [1, 5] (fun kv i wr => MarkedSKRel k0 len base (.slice a len cap) W kv i wr) (fun _ i _ => len - (intOf i).toNat)
  case atStart => exact ⟨0, xs, rfl, by simp, by omega, by rw [hxl]; omega, HX.out, ⟨rfl, rfl, rfl, Nat.le_refl _, fun _ _ _ => rfl⟩⟩
  case round =>
    obtain ⟨i, zs, rfl, rfl, hi, hzl, hown, HG⟩ := hrel
    by_cases hlt : i < len
    · have hlt' : (i : Int) < len := by omega
      have hil : (i : Int) ≤ 2097152 := by omega
      have HLT := Lib.hid hlt
      have HZ := Lib.hid (And.intro hzl (show 1 ≤ zs.length by omega))
      rcases own_cases hown with ⟨_, h2⟩ | ⟨g, cap', h2⟩
      · omega
      simp at h2
      obtain ⟨rfl, rfl⟩ := h2
      have HO := Lib.hid hown
      have HM := Lib.hid (show Calls Try.prog 70 #[.int .i64 ((k0 : Int) + (i : Int))] wr (fun e W' => e = .returned (.string (mtext (k0 + i))) ∧ Below wr.heap.size wr W') by have := HMT.out (k0 + i) (by omega) (by omega) wr; rwa [show ((k0 + i : Nat) : Int) = (k0 : Int) + (i : Int) by push_cast; rfl] at this)
      clear hi hlt hzl hown
      go_wp2_with fail
      refine HM.out.mono ?_
      rintro e W2 ⟨rfl, hb2⟩
      have HO2 := Lib.hid (own_below HO.out hb2)
      have HG2 := Lib.hid (grown_next HG.out hb2)
      have hll : (((markSK k0 len).take i).map Value.string).length = i := by rw [List.length_map, List.length_take, markSK_len]; have := HLT.out; omega
      have HLL := Lib.hid hll
      obtain ⟨u0, e0⟩ : ∃ u, W2.cell? ⟨g, i, none⟩ = some u := by
        have hx := HZ.out.1
        have hy := HLT.out
        rw [HO2.out.cellAt _ (by omega)]
        exact ⟨_, List.getElem?_eq_getElem (by rw [List.length_append, hll]; omega)⟩
      have y0 := HO2.out.frozenAt i
      generalize hmt : mtext (k0 + i) = mt
      have HMTX := Lib.hid hmt
      clear hll hb2 hmt
      go_wp2
      have HS1 := (HO2.out.stored i (.string mt)).1
      rw [take_set_one _ i _ zs HLL.out HZ.out.2] at HS1
      go_roundw
      case rel =>
        refine ⟨i + 1, zs.drop 1, by push_cast; rfl, by rw [show (k0 : Int) + ((i + 1 : Nat) : Int) = (k0 : Int) + (i : Int) + 1 by omega], by have := HLT.out; omega, by rw [List.length_drop]; have h1 := HZ.out.1; have h2 := HZ.out.2; have h3 := HLT.out; omega, ?_, HG2.out.set _ _ rfl _⟩
        rw [List.take_add_one, markSK_get HLT.out, List.map_append, HMTX.out]; exact HS1
      case measure => have := HLT.out; simp [intOf]; omega
    · have hge : (len : Int) ≤ i := by omega
      have hie : i = len := by omega
      have hz0' : zs = [] := List.eq_nil_of_length_eq_zero (by omega)
      subst hz0'
      subst hie
      rw [List.append_nil, List.take_of_length_le (by rw [markSK_len]; omega)] at hown
      clear hi hlt
      go_wp2
      refine bodyPost_ret (v := .int .i64 ((k0 : Int) + (i : Int))) (by simp [results, Try.f37, go_sem]) rfl ⟨rfl, HG.out, hown⟩


end Go.Proofs.Ytmlnakkfjecibaa

/-
  A COMMAND FROM OUTSIDE: an argument laws.Command.
-/
namespace Go.Proofs.Ytmlnakkfjecibaa
open Go.RowKit Go.Joins Go.ChangeShapes Go.WideShapes
set_option linter.unusedVariables false

theorem len3_parts {α : Type} : ∀ {l : List α}, l.length = 3 → ∃ a b c, l = [a, b, c]
  | [a, b, c], _ => ⟨a, b, c, rfl⟩
theorem len2_parts {α : Type} : ∀ {l : List α}, l.length = 2 → ∃ a b, l = [a, b]
  | [a, b], _ => ⟨a, b, rfl⟩
theorem len5_parts {α : Type} : ∀ {l : List α}, l.length = 5 → ∃ a b c d e, l = [a, b, c, d, e]
  | [a, b, c, d, e], _ => ⟨a, b, c, d, e, rfl⟩

section
variable {H : Type} {enc : TypeId × Value → H} {w : World} {base : Nat} {spare : Nat → Bool} {held : Bool}

theorem open_conCells {fuel : Nat} {c1 c2 : Value} {x : DataW H × List MemPlace} (h : DataW.trod enc Try.prog w base spare held fuel 89 [c1, c2] = some x) :
    ∃ k v : Int, c1 = .int .i64 k ∧ c2 = .int .i64 v := by
  obtain ⟨ys, m, _, _, _, hyl, hg⟩ := DataW.trod_struct Try.underlying89 h
  obtain ⟨y0, y1, rfl⟩ : ∃ y0 y1, ys = [y0, y1] := len2_parts hyl
  have h2 : DataW.trod enc Try.prog w base spare held m 3 (([c1, c2].drop 0).take (Try.prog.cellsOf 3)) = some y0 := hg 0 _ rfl
  have h3 : DataW.trod enc Try.prog w base spare held m 3 (([c1, c2].drop 1).take (Try.prog.cellsOf 3)) = some y1 := hg 1 _ rfl
  rw [(by kernel_rfl : Try.prog.cellsOf 3 = 1)] at h2
  rw [(by kernel_rfl : Try.prog.cellsOf 3 = 1)] at h3
  obtain ⟨k, hk, _⟩ := DataW.trod_int Try.underlying3 (show DataW.trod enc Try.prog w base spare held m 3 [c1] = some y0 from h2)
  obtain ⟨v, hv, _⟩ := DataW.trod_int Try.underlying3 (show DataW.trod enc Try.prog w base spare held m 3 [c2] = some y1 from h3)
  simp at hk hv
  exact ⟨k, v, hk, hv⟩

theorem open_cmdCells {fuel : Nat} {cs : List Value} {x : DataW H × List MemPlace} (h : DataW.trod enc Try.prog w base spare held fuel 91 cs = some x) :
    ∃ c : Cmd, cs = [.string c.p, .int .i64 c.fk, .int .i64 c.fv, .int .i64 c.tk, .int .i64 c.tv] ∧ c.p.size ≤ maxLen := by
  obtain ⟨xs, n, _, _, hl, hxl, hf⟩ := DataW.trod_struct Try.underlying91 h
  have hl5 : cs.length = 5 := hl.trans (by kernel_rfl)
  obtain ⟨c0, c1, c2, c3, c4, rfl⟩ := len5_parts hl5
  obtain ⟨x0, x1, x2, rfl⟩ : ∃ x0 x1 x2, xs = [x0, x1, x2] := len3_parts hxl
  have h0 : DataW.trod enc Try.prog w base spare held n 9 (([c0, c1, c2, c3, c4].drop 0).take (Try.prog.cellsOf 9)) = some x0 := hf 0 _ rfl
  have h1 : DataW.trod enc Try.prog w base spare held n 89 (([c0, c1, c2, c3, c4].drop 1).take (Try.prog.cellsOf 89)) = some x1 := hf 1 _ rfl
  have h2 : DataW.trod enc Try.prog w base spare held n 89 (([c0, c1, c2, c3, c4].drop 3).take (Try.prog.cellsOf 89)) = some x2 := hf 2 _ rfl
  rw [(by kernel_rfl : Try.prog.cellsOf 9 = 1)] at h0
  rw [(by kernel_rfl : Try.prog.cellsOf 89 = 2)] at h1
  rw [(by kernel_rfl : Try.prog.cellsOf 89 = 2)] at h2
  obtain ⟨s, hs, _, hsz⟩ := DataW.trod_string Try.underlying9 (show DataW.trod enc Try.prog w base spare held n 9 [c0] = some x0 from h0)
  obtain ⟨k1, v1, e1, e2⟩ := open_conCells (show DataW.trod enc Try.prog w base spare held n 89 [c1, c2] = some x1 from h1)
  obtain ⟨k2, v2, e3, e4⟩ := open_conCells (show DataW.trod enc Try.prog w base spare held n 89 [c3, c4] = some x2 from h2)
  simp at hs
  subst hs; subst e1; subst e2; subst e3; subst e4
  exact ⟨⟨s, k1, v1, k2, v2⟩, rfl, hsz⟩

set_option maxRecDepth 100000 in
theorem open_command {r : Reach} {b0 : Nat} {v : Value} {d : DataW H} {p : List MemPlace} (hv : Value.okWide Try.prog w r b0 91 v) (h : DataW.Trod enc Try.prog w base spare held 91 v d p) :
    ∃ c : Cmd, v = cmdV c ∧ c.p.size ≤ maxLen := by
  obtain ⟨cs, rfl, hsz⟩ := okWide_struct Try.underlying91 hv
  obtain ⟨fuel, hf⟩ := h
  obtain ⟨c, hc, hs⟩ := open_cmdCells (show DataW.trod enc Try.prog w base spare held fuel 91 cs.toList = some (d, p) from hf)
  refine ⟨c, ?_, hs⟩
  unfold cmdV
  rw [← Array.toArray_toList (xs := cs), hc]
end

end Go.Proofs.Ytmlnakkfjecibaa

/-
  AN ARGUMENT THAT IS A LIST OF COMMANDS, opened to its cells.
-/
namespace Go.Proofs.Ytmlnakkfjecibaa
open Go.ChangeShapes Go.WideShapes Go.Deep

section
variable {H : Type} {enc : TypeId × Value → H} {w : World} {base : Nat} {spare : Nat → Bool} {held : Bool}

theorem open_commands {fuel : Nat} {a : Option Addr} {len cap : Nat} {x : DataW H × List MemPlace} (h : DataW.trod enc Try.prog w base spare held fuel 52 [.slice a len cap] = some x) :
    ∃ cs : List Cmd, CmdsAt w a len cs ∧ len ≤ maxLen ∧ ShortC maxLen cs := by
  rcases open_slice Try.underlying52 h with ⟨h0, _⟩ | ⟨ad, len', cap', m, n, D, Pl, hcs, _, hl, hm, hmm, _, hi⟩
  · simp at h0
    obtain ⟨rfl, rfl, rfl⟩ := h0
    exact ⟨[], ⟨rfl, .inl rfl⟩, by unfold maxLen; omega, fun n hn => by cases hn⟩
  · simp at hcs
    obtain ⟨rfl, rfl, rfl⟩ := hcs
    have hlm : len ≤ m := by rw [hmm]; split <;> omega
    have hel : ∀ i, i < len → ∃ c : Cmd, w.cell? (ad.add (i * 5)) = some (.string c.p) ∧ w.cell? (ad.add (i * 5 + 1)) = some (.int .i64 c.fk) ∧ w.cell? (ad.add (i * 5 + 2)) = some (.int .i64 c.fv) ∧ w.cell? (ad.add (i * 5 + 3)) = some (.int .i64 c.tk) ∧ w.cell? (ad.add (i * 5 + 4)) = some (.int .i64 c.tv) ∧ c.p.size ≤ maxLen := by
      intro i hil
      obtain ⟨cs, hc, ht⟩ := hi i (by omega)
      rw [show Try.prog.cellsOf 91 = 5 by kernel_rfl] at hc
      obtain ⟨c, rfl, hsz⟩ := open_cmdCells ht
      obtain ⟨_, hcl, hat⟩ := World.cells?_some hc
      refine ⟨c, ?_, ?_, ?_, ?_, ?_, hsz⟩
      · have := hat 0 (by omega)
        rw [Go.Deep.add_add] at this; exact this
      · have := hat 1 (by omega)
        rw [Go.Deep.add_add] at this; exact this
      · have := hat 2 (by omega)
        rw [Go.Deep.add_add] at this; exact this
      · have := hat 3 (by omega)
        rw [Go.Deep.add_add] at this; exact this
      · have := hat 4 (by omega)
        rw [Go.Deep.add_add] at this; exact this
    obtain ⟨f, hf⟩ : ∃ f : Nat → Cmd, ∀ i, i < len → w.cell? (ad.add (i * 5)) = some (.string (f i).p) ∧ w.cell? (ad.add (i * 5 + 1)) = some (.int .i64 (f i).fk) ∧ w.cell? (ad.add (i * 5 + 2)) = some (.int .i64 (f i).fv) ∧ w.cell? (ad.add (i * 5 + 3)) = some (.int .i64 (f i).tk) ∧ w.cell? (ad.add (i * 5 + 4)) = some (.int .i64 (f i).tv) ∧ (f i).p.size ≤ maxLen :=
      ⟨fun i => if h : i < len then Classical.choose (hel i h) else ⟨⟨#[]⟩, 0, 0, 0, 0⟩, fun i hil => by
        simp only [dif_pos hil]
        exact Classical.choose_spec (hel i hil)⟩
    have hget : ∀ i n, ((List.range len).map f)[i]? = some n → i < len ∧ n = f i := by
      intro i n hn
      rw [List.getElem?_map] at hn
      by_cases hil : i < len
      · rw [List.getElem?_range hil] at hn
        exact ⟨hil, by simpa using hn.symm⟩
      · rw [List.getElem?_eq_none (by simpa using hil)] at hn; cases hn
    refine ⟨(List.range len).map f, ⟨by simp, ?_⟩, by omega, fun n hn => ?_⟩
    · by_cases h0 : len = 0
      · exact .inl h0
      · right
        have hsp := spot_none (hf 0 (by omega)).1
        obtain ⟨b, off, sp⟩ := ad
        have hsp' : sp = none := by
          simp [Addr.add] at hsp
          exact hsp
        subst hsp'
        have hadd : ∀ j, (⟨b, off, none⟩ : Addr).add j = ⟨b, off + j, none⟩ := fun j => by
          unfold Addr.add
          split
          · rename_i hj; rw [hj]; rfl
          · rfl
        refine ⟨b, off, rfl, fun i n hn => ?_⟩
        obtain ⟨hil, rfl⟩ := hget i n hn
        obtain ⟨c0, c1, c2, c3, c4, _⟩ := hf i hil
        rw [hadd] at c0 c1 c2 c3 c4
        exact ⟨c0, c1, c2, c3, c4⟩
    · obtain ⟨i, hi2⟩ := List.getElem?_of_mem hn
      obtain ⟨hil, rfl⟩ := hget i n hi2
      exact (hf i hil).2.2.2.2.2
end

end Go.Proofs.Ytmlnakkfjecibaa

/-
  WALKS: laws.szNode, laws.szNodeS: how much a list of nodes from outside holds.
-/
namespace Go.Proofs.Ytmlnakkfjecibaa
open Go.RowKit
set_option linter.unusedVariables false

/-- What is left; if anything is, the text is of modest length. -/
def SzOne (n : Nd) (w : World) (e : Ending) (w' : World) : Prop := ∃ z : Int, e = .returned (.int .i64 z) ∧ -1 ≤ z ∧ z ≤ 1048576 ∧ (0 ≤ z → n.p.size ≤ 1048576) ∧ Below w.heap.size w w'

set_option maxHeartbeats 1000000 in
theorem szNode_c (n : Nd) (l : Int) (h0 : 0 ≤ l) (h1 : l ≤ 1048576) (hm : n.p.size ≤ maxLen) (w : World) : Calls Try.prog 71 #[nodeV n, .int .i64 l] w (SzOne n w) := by
  obtain ⟨p, k, v⟩ := n
  unfold nodeV
  have hm' : p.size ≤ 9223372036854775807 := Nat.le_trans (show p.size ≤ maxLen from hm) (by unfold maxLen; omega)
  obtain ⟨z, hz⟩ : ∃ z, l - (p.size : Int) = z := ⟨_, rfl⟩
  have hw : IntKind.i64.wrap (l - (p.size : Int)) = z := (IntWalk.i64_in _ (by omega)).trans hz
  by_cases hneg : z < 0
  · clear h0 h1 hm hm' hz
    go_enter Try.func71, Try.ntmps71
    go_wp2
    go_ret
    exact ⟨-1, rfl, by omega, by omega, fun h => absurd h (by omega), below_box _ _⟩
  · have hpos : 0 ≤ z := by omega
    have HF := Lib.hid (show z ≤ 1048576 ∧ p.size ≤ 1048576 by omega)
    clear h0 h1 hm hm' hz hneg
    go_enter Try.func71, Try.ntmps71
    go_wp2
    go_ret
    exact ⟨z, rfl, by omega, HF.out.1, fun _ => HF.out.2, below_box _ _⟩

/-- What is left; if anything is, the list and its texts are of modest length. -/
def SzAll (len : Nat) (ns : List Nd) (w : World) (e : Ending) (w' : World) : Prop := ∃ z : Int, e = .returned (.int .i64 z) ∧ (0 ≤ z → len ≤ 1048576 ∧ Short 1048576 ns) ∧ Below w.heap.size w w'

def SzRel (len : Nat) (ns : List Nd) (w : World) (l i : Value) (wr : World) : Prop :=
  ∃ (n : Nat) (z : Int), i = .int .i64 n ∧ n ≤ len ∧ l = .int .i64 z ∧ Hid (0 ≤ z ∧ z ≤ 1048576) ∧ Hid (∀ j m, j < n → ns[j]? = some m → m.p.size ≤ 1048576) ∧ Hid (Below w.heap.size w wr)

set_option maxHeartbeats 1000000 in
theorem szNodeS_c (a : Option Addr) (len cap : Nat) (ns : List Nd) (hlen : len ≤ maxLen) (hm : Short maxLen ns) (w : World) (hN : NodesAt w a len ns) :
    Calls Try.prog 40 #[.slice a len cap, .int .i64 1048576] w (SzAll len ns w) := by
  have HN := Lib.hid hN
  have HE := Lib.hid hN.1
  have HM := Lib.hid hm
  have hl : len ≤ 9223372036854775807 := Nat.le_trans hlen (by unfold maxLen; omega)
  have hw0 : IntKind.i64.wrap (1048576 - (len : Int)) = 1048576 - len := IntWalk.i64_in _ (by omega)
  clear hN hm hlen
  by_cases h : len ≤ 1048576
  · obtain ⟨z, hz⟩ : ∃ z, (1048576 : Int) - len = z := ⟨_, rfl⟩
    have hzp : 0 ≤ z := by omega
    have HZ := Lib.hid (show 0 ≤ z ∧ z ≤ 1048576 by omega)
    have hw := hw0.trans hz
    have HL := Lib.hid h
    have hl2 : (len : Int) ≤ 1048576 := by omega
    clear hz hl h hw0
    go_enter Try.func40, Try.ntmps40
    go_wp2
    clear hzp hw
    go_loopw [1, 5] (fun l i wr => SzRel len ns w l i wr) (fun _ i _ => len - (intOf i).toNat)
    case atStart => exact ⟨0, z, rfl, by omega, rfl, HZ, Lib.hid (fun j m h _ => absurd h (by omega)), Below.refl _ _⟩
    case round =>
      obtain ⟨i, l, rfl, hi, rfl, HLL, HP, HB⟩ := hrel
      by_cases hlt : i < len
      · obtain ⟨b, off, n, rfl, hn, c0, c1, c2⟩ := (HN.out.keep HB.out).node hlt
        have hlt' : (i : Int) < len := by omega
        have HO := Lib.hid (fun w => szNode_c n l HLL.out.1 HLL.out.2 (HM.out n (List.mem_of_getElem? hn)) w)
        have HNN := Lib.hid hn
        have HLT := Lib.hid hlt
        obtain ⟨p, k, v⟩ := n
        unfold nodeV at HO
        clear hi hlt hn
        go_wp2_with fail
        refine (HO.out _).mono ?_; rintro e W2 ⟨z2, rfl, hz0, hz1, hz2, hb2⟩
        have HB2 := Lib.hid (below_next HB.out hb2)
        clear c0 c1 c2 hb2
        by_cases hneg : z2 < 0
        · clear hz0 hz1 hz2
          go_wp2
          go_ret
          exact ⟨-1, rfl, fun h => absurd h (by omega), HB2.out⟩
        · have hpos : 0 ≤ z2 := by omega
          have HZ2 := Lib.hid (And.intro hpos (And.intro hz1 (hz2 hpos)))
          clear hz0 hz1 hz2 hneg
          go_wp2
          go_roundw
          case rel =>
            refine ⟨i + 1, z2, by go_num, by have := HLT.out; omega, rfl, ⟨HZ2.out.1, HZ2.out.2.1⟩, ?_, HB2⟩
            intro j m hj hm
            by_cases hji : j < i
            · exact HP.out j m hji hm
            · have : j = i := by omega
              subst this
              rw [HNN.out] at hm
              obtain rfl := Option.some.inj hm
              exact HZ2.out.2.2
          case measure => have := HLT.out; simp [intOf]; omega
      · have hge : (len : Int) ≤ i := by omega
        have HQ := Lib.hid (show len ≤ i by omega)
        clear hi hlt
        go_wp2
        go_ret
        exact ⟨l, rfl, fun _ => ⟨HL.out, fun n hn => by
          obtain ⟨j, hj⟩ := List.getElem?_of_mem hn
          exact HP.out j n (by have h1 := (List.getElem?_eq_some_iff.1 hj).1; have h2 := HE.out; have h3 := HQ.out; omega) hj⟩, HB.out⟩
  · have hz : (1048576 : Int) - len < 0 := by omega
    obtain ⟨z, hz'⟩ : ∃ z, (1048576 : Int) - len = z := ⟨_, rfl⟩
    have hw := hw0.trans hz'
    rw [hz'] at hz
    clear hz' hl h hw0
    go_enter Try.func40, Try.ntmps40
    go_wp2
    go_ret
    exact ⟨-1, rfl, fun h => absurd h (by omega), Below.refl _ _⟩

end Go.Proofs.Ytmlnakkfjecibaa

/-
  WALKS: laws.szNodeS from whatever is left.
-/
namespace Go.Proofs.Ytmlnakkfjecibaa
open Go.RowKit
set_option linter.unusedVariables false

/-- What is left; if anything is, the list and its texts are of modest length. -/
def SzAllG (len : Nat) (ns : List Nd) (w : World) (e : Ending) (w' : World) : Prop := ∃ z : Int, e = .returned (.int .i64 z) ∧ z ≤ 1048576 ∧ (0 ≤ z → len ≤ 1048576 ∧ Short 1048576 ns) ∧ Below w.heap.size w w'

set_option maxHeartbeats 1000000 in
theorem szNodeSG_c (l0 : Int) (hl0 : 0 ≤ l0) (hl1 : l0 ≤ 1048576) (a : Option Addr) (len cap : Nat) (ns : List Nd) (hlen : len ≤ maxLen) (hm : Short maxLen ns) (w : World) (hN : NodesAt w a len ns) :
    Calls Try.prog 40 #[.slice a len cap, .int .i64 l0] w (SzAllG len ns w) := by
  have HN := Lib.hid hN
  have HE := Lib.hid hN.1
  have HM := Lib.hid hm
  have hl : len ≤ 9223372036854775807 := Nat.le_trans hlen (by unfold maxLen; omega)
  have hw0 : IntKind.i64.wrap (l0 - (len : Int)) = l0 - len := IntWalk.i64_in _ (by omega)
  clear hN hm hlen
  by_cases h : (len : Int) ≤ l0
  · obtain ⟨z, hz⟩ : ∃ z, l0 - len = z := ⟨_, rfl⟩
    have hzp : 0 ≤ z := by omega
    have HZ := Lib.hid (show 0 ≤ z ∧ z ≤ 1048576 by omega)
    have hw := hw0.trans hz
    have HL := Lib.hid (show len ≤ 1048576 by omega)
    have hl2 : (len : Int) ≤ 1048576 := by omega
    clear hz hl h hw0
    go_enter Try.func40, Try.ntmps40
    go_wp2
    clear hzp hw
    go_loopw [1, 5] (fun l i wr => SzRel len ns w l i wr) (fun _ i _ => len - (intOf i).toNat)
    case atStart => exact ⟨0, z, rfl, by omega, rfl, HZ, Lib.hid (fun j m h _ => absurd h (by omega)), Below.refl _ _⟩
    case round =>
      obtain ⟨i, l, rfl, hi, rfl, HLL, HP, HB⟩ := hrel
      by_cases hlt : i < len
      · obtain ⟨b, off, n, rfl, hn, c0, c1, c2⟩ := (HN.out.keep HB.out).node hlt
        have hlt' : (i : Int) < len := by omega
        have HO := Lib.hid (fun w => szNode_c n l HLL.out.1 HLL.out.2 (HM.out n (List.mem_of_getElem? hn)) w)
        have HNN := Lib.hid hn
        have HLT := Lib.hid hlt
        obtain ⟨p, k, v⟩ := n
        unfold nodeV at HO
        clear hi hlt hn
        go_wp2_with fail
        refine (HO.out _).mono ?_; rintro e W2 ⟨z2, rfl, hz0, hz1, hz2, hb2⟩
        have HB2 := Lib.hid (below_next HB.out hb2)
        clear c0 c1 c2 hb2
        by_cases hneg : z2 < 0
        · clear hz0 hz1 hz2
          go_wp2
          go_ret
          exact ⟨-1, rfl, by omega, fun h => absurd h (by omega), HB2.out⟩
        · have hpos : 0 ≤ z2 := by omega
          have HZ2 := Lib.hid (And.intro hpos (And.intro hz1 (hz2 hpos)))
          clear hz0 hz1 hz2 hneg
          go_wp2
          go_roundw
          case rel =>
            refine ⟨i + 1, z2, by go_num, by have := HLT.out; omega, rfl, ⟨HZ2.out.1, HZ2.out.2.1⟩, ?_, HB2⟩
            intro j m hj hm
            by_cases hji : j < i
            · exact HP.out j m hji hm
            · have : j = i := by omega
              subst this
              rw [HNN.out] at hm
              obtain rfl := Option.some.inj hm
              exact HZ2.out.2.2
          case measure => have := HLT.out; simp [intOf]; omega
      · have hge : (len : Int) ≤ i := by omega
        have HQ := Lib.hid (show len ≤ i by omega)
        clear hi hlt
        go_wp2
        go_ret
        exact ⟨l, rfl, HLL.out.2, fun _ => ⟨HL.out, fun n hn => by
          obtain ⟨j, hj⟩ := List.getElem?_of_mem hn
          exact HP.out j n (by have h1 := (List.getElem?_eq_some_iff.1 hj).1; have h2 := HE.out; have h3 := HQ.out; omega) hj⟩, HB.out⟩
  · have hz : l0 - len < 0 := by omega
    obtain ⟨z, hz'⟩ : ∃ z, l0 - len = z := ⟨_, rfl⟩
    have hw := hw0.trans hz'
    rw [hz'] at hz
    clear hz' hl h hw0
    go_enter Try.func40, Try.ntmps40
    go_wp2
    go_ret
    exact ⟨-1, rfl, by omega, fun h => absurd h (by omega), Below.refl _ _⟩

end Go.Proofs.Ytmlnakkfjecibaa

/-
  WALKS: laws.markNodeS from any number on.
-/
namespace Go.Proofs.Ytmlnakkfjecibaa
open Go.RowKit
set_option linter.unusedVariables false

/-- The nodes that a test writes. -/
def markNK (k0 n : Nat) : List Nd := (List.range n).map (fun i => ⟨mtext (k0 + 3 * i), (k0 : Int) + 3 * (i : Int) + 1, (k0 : Int) + 3 * (i : Int) + 1 + 1⟩)
theorem markNK_len (k0 n : Nat) : (markNK k0 n).length = n := by simp [markNK]
theorem markNK_get {k0 n i : Nat} (h : i < n) : (markNK k0 n)[i]? = some ⟨mtext (k0 + 3 * i), (k0 : Int) + 3 * (i : Int) + 1, (k0 : Int) + 3 * (i : Int) + 1 + 1⟩ := by
  unfold markNK; rw [List.getElem?_map, List.getElem?_range h]; rfl

def MarkedKRel (k0 len base : Nat) (v : Value) (W : World) (kv i : Value) (wr : World) : Prop :=
  ∃ (n : Nat) (zs : List Value), i = .int .i64 n ∧ kv = .int .i64 ((k0 : Int) + 3 * (n : Int)) ∧ n ≤ len ∧ zs.length = (len - n) * 3 ∧ wr.ownsRow base 46 3 v len (flatN ((markNK k0 len).take n) ++ zs) ∧ Hid (W.grownBy wr v.ownBlock)

set_option maxHeartbeats 2000000 in
set_option maxRecDepth 100000 in
theorem markNodeSK_c (v : Value) (base len k0 : Nat) (hk1 : 1 ≤ k0) (hk2 : k0 ≤ 1000000000) (xs : List Value) (hl : len ≤ 2097152) (W : World) (h : W.ownsRow base 46 3 v len xs) :
    Calls Try.prog 43 #[v, .int .i64 k0] W fun e W' => e = .returned (.int .i64 ((k0 : Int) + 3 * (len : Int))) ∧ W.grownBy W' v.ownBlock ∧ W'.ownsRow base 46 3 v len (flatN (markNK k0 len)) := by
  have HX := Lib.hid h
  have hxl := h.1
  have HMT := Lib.hid (fun k (h1 : 1 ≤ k) (h2 : k ≤ 1099511627776) w => markText_c k h1 h2 w)
  obtain ⟨a, cap, hv⟩ : ∃ a cap, v = .slice a len cap := by
    rcases own_cases h with ⟨h1, h2⟩ | ⟨g, cap, h1⟩
    · exact ⟨none, 0, by rw [h1, h2]⟩
    · exact ⟨_, cap, h1⟩
  have hl' : (len : Int) ≤ 2097152 := by omega
  have hk2' : (k0 : Int) ≤ 1000000000 := by omega
  have hk1' : (1 : Int) ≤ k0 := by omega
  clear h
  subst hv
  go_enter Try.func43, Try.ntmps43
  go_wp2
  go_loopw [1, 5] (fun kv i wr => MarkedKRel k0 len base (.slice a len cap) W kv i wr) (fun _ i _ => len - (intOf i).toNat)
  case atStart => exact ⟨0, xs, rfl, by simp, by omega, by rw [hxl]; rfl, HX.out, ⟨rfl, rfl, rfl, Nat.le_refl _, fun _ _ _ => rfl⟩⟩
  case round =>
    obtain ⟨i, zs, rfl, rfl, hi, hzl, hown, HG⟩ := hrel
    by_cases hlt : i < len
    · have hlt' : (i : Int) < len := by omega
      have hil : (i : Int) ≤ 2097152 := by omega
      have HLT := Lib.hid hlt
      have HZ := Lib.hid (And.intro hzl (show 3 ≤ zs.length by omega))
      rcases own_cases hown with ⟨_, h2⟩ | ⟨g, cap', h2⟩
      · omega
      simp at h2
      obtain ⟨rfl, rfl⟩ := h2
      have HO := Lib.hid hown
      have HM := Lib.hid (show Calls Try.prog 70 #[.int .i64 ((k0 : Int) + 3 * (i : Int))] wr (fun e W' => e = .returned (.string (mtext (k0 + 3 * i))) ∧ Below wr.heap.size wr W') by have := HMT.out (k0 + 3 * i) (by omega) (by omega) wr; rwa [show ((k0 + 3 * i : Nat) : Int) = (k0 : Int) + 3 * (i : Int) by push_cast; rfl] at this)
      clear hi hlt hzl hown
      go_wp2_with fail
      refine HM.out.mono ?_
      rintro e W2 ⟨rfl, hb2⟩
      have HO2 := Lib.hid (own_below HO.out hb2)
      have HG2 := Lib.hid (grown_next HG.out hb2)
      have hll : (flatN ((markNK k0 len).take i)).length = i * 3 := by rw [flatN_length, List.length_take, markNK_len]; have := HLT.out; omega
      have cell : ∀ j, j < 3 → ∃ u, W2.cell? ⟨g, i * 3 + j, none⟩ = some u := by
        intro j hj
        have hx := HZ.out.1
        have hy := HLT.out
        rw [HO2.out.cellAt _ (by omega)]
        exact ⟨_, List.getElem?_eq_getElem (by rw [List.length_append, hll]; omega)⟩
      obtain ⟨u0, e0⟩ := cell 0 (by omega)
      replace e0 : W2.cell? ⟨g, i * 3, none⟩ = some u0 := e0
      obtain ⟨u1, e1⟩ := cell 1 (by omega)
      obtain ⟨u2, e2⟩ := cell 2 (by omega)
      have y0 := HO2.out.frozenAt (i * 3)
      have y1 := HO2.out.frozenAt (i * 3 + 1)
      have y2 := HO2.out.frozenAt (i * 3 + 2)
      generalize hmt : mtext (k0 + 3 * i) = mt
      have HMTX := Lib.hid hmt
      clear cell hll hb2 hmt
      go_wp2
      have HS3 := stored3 HO2.out (i * 3) (.string mt) (.int .i64 ((k0 : Int) + 3 * (i : Int) + 1)) (.int .i64 ((k0 : Int) + 3 * (i : Int) + 1 + 1))
      rw [← HMTX.out, flatN_take_set (markNK k0 len) i _ zs (markNK_get HLT.out) HZ.out.2] at HS3
      go_roundw
      case rel =>
        refine ⟨i + 1, zs.drop 3, by push_cast; rfl, by rw [show (k0 : Int) + 3 * ((i + 1 : Nat) : Int) = (k0 : Int) + 3 * (i : Int) + 1 + 1 + 1 by omega], by have := HLT.out; omega, by rw [List.length_drop]; have h1 := HZ.out.1; have h2 := HZ.out.2; have h3 := HLT.out; omega, ?_, ?_⟩
        · rw [← HMTX.out]; exact HS3
        · exact ((HG2.out.set _ _ rfl _).set _ _ rfl _).set _ _ rfl _
      case measure => have := HLT.out; simp [intOf]; omega
    · have hge : (len : Int) ≤ i := by omega
      have hie : i = len := by omega
      have hz0' : zs = [] := List.eq_nil_of_length_eq_zero (by omega)
      subst hz0'
      subst hie
      rw [List.append_nil, List.take_of_length_le (by rw [markNK_len]; omega)] at hown
      clear hi hlt
      go_wp2
      refine bodyPost_ret (v := .int .i64 ((k0 : Int) + 3 * (i : Int))) (by simp [results, Try.f43, go_sem]) rfl ⟨rfl, HG.out, hown⟩

end Go.Proofs.Ytmlnakkfjecibaa
