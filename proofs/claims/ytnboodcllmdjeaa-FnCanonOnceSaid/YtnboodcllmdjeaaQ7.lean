/-
  Texts of this proof, one behind the other: Hg, Eu, Tc, Eq, Cb, Lu, Il, Hh, Qc, Kc, Hj, Sm, To, Le, En, Tx, No, Mk, Lm.
-/
import Derived.Maps.Own
import Derived.Maps.OwnSet
import Derived.Laws.Cover1
import Derived.StillTailTactics
import Derived.WalkSmall
import Derived.Maps.RangeWalk
import Derived.Sort.OwnSorted
import Derived.Sort.KeysCollected
import Derived.Laws.StructEq
import Derived.Lib.AppendZerosOnto
import Derived.Lib.Walk
import Derived.Deep.QuietTactic
import Derived.Deep.RegionHeld3
import Derived.Deep.Cut
import Derived.Laws.AppendOwnNone
import Derived.Laws.Concat
import Derived.Laws.Runes
import Derived.Laws.BytesString
import Derived.Test.YtnboodcllmdjeaaHb
import Derived.Test.YtnboodcllmdjeaaQe
import Derived.Test.YtnboodcllmdjeaaQ4
import Derived.Test.YtnboodcllmdjeaaQ1
import Derived.Test.YtnboodcllmdjeaaCv
import Derived.Test.YtnboodcllmdjeaaQ3
import Derived.Test.YtnboodcllmdjeaaCk
import Derived.Test.YtnboodcllmdjeaaQ5
import Derived.Test.YtnboodcllmdjeaaQ2
import Derived.Test.YtnboodcllmdjeaaCx
import Derived.Test.YtnboodcllmdjeaaLc
import Derived.Test.YtnboodcllmdjeaaTl
import Derived.Test.YtnboodcllmdjeaaSa
import Derived.Test.YtnboodcllmdjeaaWd
/-
  WALKS: impl.wholesOf: a map of commands by their paths.
-/
namespace Go.Proofs.Ytnboodcllmdjeaa
open Go.RowKit
open Go.Maps (IsMap has)
set_option linter.unusedVariables false

theorem keyLaw : Maps.Keyed Try.prog 9 := Maps.string_keyed Try.underlying9
theorem zeroCmd (w : World) : (zeroValue 36).run Try.prog w = .ok (.agg #[.string ⟨#[]⟩, .int .i64 0, .int .i64 0, .int .i64 0, .int .i64 0]) w := by kernel_rfl

theorem keyOf_path {p : ByteArray} (h : p.size ≤ maxLen) : keyOf Try.prog 9 (.string p) = some (keyL p) := WideMaps.keyOf_string_mk Try.underlying9 h

/-- 'whole, more := wholes[path]'. -/
theorem wpList_lookup_cmd (w : World) {ops : Array Oper} {rest : List Oper} {o : Oper} {a : Act} {Q : Exit → Act → World → Prop} (hg : o.guard = none) (m x : Operand) (hop : o.op = Op.lookup 44 m x true) (b n : Nat) (D : DataW Unit)
    (hm : a.eval m = .map (some b)) (hown : w.ownsMap Try.prog 9 cmdElem b n D) (p : ByteArray) (hx : a.eval x = .string p) (hp : p.size ≤ maxLen)
    (hK : ∀ (q : ByteArray) (fk fv tk tv : Int), D.atKey (keyL p) (encD dC) = encD ⟨q, fk, fv, tk, tv⟩ → wpList Try.prog ops Q rest (a.put o.dst (.tuple #[.agg #[.string q, .int .i64 fk, .int .i64 fv, .int .i64 tk, .int .i64 tv], .bool (has D (keyL p))])) w) :
    wpList Try.prog ops Q (o :: rest) a w :=
  wpList_lookup_own_ok w hg m x _ hop _ _ keyLaw Try.underlying44 cmdElem (zeroCmd w) (encD dC) [] (cmdElem_mk dC) b n D hm hown _ _ hx (keyOf_path hp) (fun v ps hv => by
    obtain ⟨c, rfl, hc⟩ := cmdElem_inv hv
    obtain ⟨q, fk, fv, tk, tv⟩ := c
    injection hc with hc _
    exact hK q fk fv tk tv hc)

/-- 'wholes[path] = c'. -/
theorem wpList_store_cmd (w : World) {ops : Array Oper} {rest : List Oper} {o : Oper} {a : Act} {Q : Exit → Act → World → Prop} (hg : o.guard = none) (m x v : Operand) (hop : o.op = Op.mapUpdate 44 m x v) (b n : Nat) (D : DataW Unit)
    (hm : a.eval m = .map (some b)) (hown : w.ownsMap Try.prog 9 cmdElem b n D) (hn : n < maxLen) (p : ByteArray) (hx : a.eval x = .string p) (hp : p.size ≤ maxLen) (c : Cmd) (hv : a.eval v = .agg #[.string c.p, .int .i64 c.fk, .int .i64 c.fv, .int .i64 c.tk, .int .i64 c.tv])
    (hK : ∀ w', w'.ownsMap Try.prog 9 cmdElem b (n + 1) (D.put (keyL p) (encD c)) → w.grownBy w' (some b) → wpList Try.prog ops Q rest (a.put o.dst undef) w') :
    wpList Try.prog ops Q (o :: rest) a w :=
  wpList_mapUpdate_own w hg m x v _ hop _ _ keyLaw Try.underlying44 cmdElem b n D hm hown hn _ _ _ hx hv (keyOf_path hp) _ _ (cmdElem_mk c) hK

/-- What wholesOf leaves. -/
def WholePost (cs : List Cmd) (W : World) (e : Ending) (w' : World) : Prop :=
  ((∃ D : DataW Unit, e = .returned (.tuple #[.map (some W.heap.size), .bool true]) ∧ w'.ownsMap Try.prog 9 cmdElem W.heap.size cs.length D ∧ WholeK cs cs.length D) ∨ (e = .returned (.tuple #[.map none, .bool false]) ∧ ∃ p, foldP p none cs = none)) ∧ Below W.heap.size W w'

def WholeRel (cs : List Cmd) (W : World) (i : Value) (wr : World) : Prop :=
  ∃ (n : Nat) (D : DataW Unit), i = .int .i64 n ∧ n ≤ cs.length ∧ Hid (wr.ownsMap Try.prog 9 cmdElem W.heap.size n D) ∧ Hid (WholeK cs n D) ∧ Hid (Below W.heap.size W wr)

theorem whole_below {W wr w1 : World} {o1 o2 : Obj} (hB : Below W.heap.size W wr) (hg : ((wr.alloc o1).alloc o2).grownBy w1 (some W.heap.size)) : Below W.heap.size W w1 :=
  ((hB.alloc hB.size o1).alloc (by have := hB.size; rw [World.size_alloc]; omega) o2).grown hg (by have := hB.size; rw [World.size_alloc, World.size_alloc]; omega) (fun k e => by cases e; exact Nat.le_refl _)

set_option maxHeartbeats 1000000 in
set_option maxRecDepth 100000 in
theorem wholesOf_c (a : Option Addr) (len cap : Nat) (cs : List Cmd) (hl : len ≤ 2097152) (hs : ShortC 2097152 cs) (W : World) (hN : CmdsAt W a len cs) :
    Calls Try.prog 27 #[.slice a len cap] W (WholePost cs W) := by
  have HN := Lib.hid hN
  have HE := Lib.hid hN.1
  have HS := Lib.hid hs
  have hl' : (len : Int) ≤ 2097152 := by omega
  have hmm := @run_makeMap Try.prog
  clear hN hs
  go_enter Try.func27, Try.ntmps27
  go_wp2
  clear hmm
  go_loopw [12] (fun i wr => WholeRel cs W i wr) (fun i _ => len - (intOf i).toNat)
  case atStart => exact ⟨0, .map [], rfl, Nat.zero_le _, World.ownsMap_made _ _ _ _, whole_start cs, below_box _ _⟩
  case round =>
    obtain ⟨n, D, rfl, hn, HM, HW, HB⟩ := hrel
    by_cases hlt : n < len
    · have hlt' : (n : Int) < len := by omega
      obtain ⟨b, off, c, rfl, hc, d0, d1, d2, d3, d4⟩ := HN.out.node hlt
      have c0 := cell_kept HB.out d0
      have c1 := cell_kept HB.out d1
      have c2 := cell_kept HB.out d2
      have c3 := cell_kept HB.out d3
      have c4 := cell_kept HB.out d4
      have HX := Lib.hid hc
      have HLT := Lib.hid (And.intro hlt hn)
      have HPS := Lib.hid (show c.p.size ≤ maxLen from Nat.le_trans (HS.out.at hc) (by unfold maxLen; omega))
      obtain ⟨p, fk, fv, tk, tv⟩ := c
      simp only at c0 c1 c2 c3 c4
      clear hc hlt hn d0 d1 d2 d3 d4
      have hn7 : n < maxLen := by unfold maxLen; omega
      cases hb : has D (keyL p) with
      | false =>
        have HBV := Lib.hid hb
        go_wp2_with (first | (at_lookup; refine wpList_lookup_cmd _ rfl _ _ rfl _ n D rfl (HM.out.alloc _) p rfl HPS.out ?_; intro q gk gv uk uv hat; have HAT := Lib.hid hat; clear hat) | (at_mapUpdate; refine wpList_store_cmd _ rfl _ _ _ rfl _ n D rfl ((HM.out.alloc _).alloc _) hn7 p rfl HPS.out ⟨p, fk, fv, tk, tv⟩ rfl ?_; intro w1 hown1 hgrow1))
        go_roundw
        case rel => exact ⟨n + 1, D.put (keyL p) (encD ⟨p, fk, fv, tk, tv⟩), by go_num, by have := HLT.out; have := HE.out; omega, hown1, whole_new HW.out HX.out HBV.out, whole_below HB.out hgrow1⟩
        case measure => have := HLT.out; simp [intOf]; omega
      | true =>
        have HBV := Lib.hid hb
        go_wp2_with (first | (at_lookup; refine wpList_lookup_cmd _ rfl _ _ rfl _ n D rfl (HM.out.alloc _) p rfl HPS.out ?_; intro q gk gv uk uv hat; have HAT := Lib.hid hat; clear hat) | (at_mapUpdate; refine wpList_store_cmd _ rfl _ _ _ rfl _ n D rfl ((HM.out.alloc _).alloc _) hn7 p rfl HPS.out ⟨p, gk, gv, tk, tv⟩ rfl ?_; intro w1 hown1 hgrow1))
        · rename_i e1 e2
          go_roundw
          case rel => exact ⟨n + 1, D.put (keyL p) (encD ⟨p, gk, gv, tk, tv⟩), by go_num, by have := HLT.out; have := HE.out; omega, hown1, whole_on (x := ⟨q, gk, gv, uk, uv⟩) HW.out HX.out HBV.out HAT.out (by rw [e1, e2]), whole_below HB.out hgrow1⟩
          case measure => have := HLT.out; simp [intOf]; omega
        · rename_i e1 e2
          go_ret2
          exact ⟨.inr ⟨rfl, p, whole_bad (x := ⟨q, gk, gv, uk, uv⟩) HW.out HX.out HBV.out HAT.out (fun e => e2 (congrArg Prod.snd e))⟩, (HB.out.alloc HB.out.size _).alloc (by have := HB.out.size; rw [World.size_alloc]; omega) _⟩
        · rename_i e1
          go_ret2
          exact ⟨.inr ⟨rfl, p, whole_bad (x := ⟨q, gk, gv, uk, uv⟩) HW.out HX.out HBV.out HAT.out (fun e => e1 (congrArg Prod.fst e))⟩, (HB.out.alloc HB.out.size _).alloc (by have := HB.out.size; rw [World.size_alloc]; omega) _⟩
    · have hnl : n = len := by have := HE.out; omega
      subst hnl
      go_wp2
      go_ret2
      exact ⟨.inl ⟨D, rfl, by rw [HE.out]; exact HM.out, by rw [HE.out]; exact HW.out⟩, HB.out⟩

end Go.Proofs.Ytnboodcllmdjeaa

/-
  WALKS: impl.entry's undone and commands.
-/
namespace Go.Proofs.Ytnboodcllmdjeaa
open Go.RowKit
set_option linter.unusedVariables false

def UndoneRel (B : Nat) (cs : List Cmd) (W : World) (e f : Value) (wr : World) : Prop :=
  ∃ (n : Nat) (x y : Option Addr), e = .pointer x ∧ f = .pointer y ∧ n ≤ cs.length ∧ Hid (EntAt B wr x (cs.drop n)) ∧ Hid (EntAt W.heap.size wr y ((cs.take n).reverse.map undoC)) ∧ Hid (Below W.heap.size W wr)

theorem undone_step {cs : List Cmd} {n : Nat} {c : Cmd} (hc : cs[n]? = some c) : (cs.take (n + 1)).reverse.map undoC = undoC c :: (cs.take n).reverse.map undoC := by
  rw [List.take_add_one, hc]
  simp

def CommandsRel (B : Nat) (cs : List Cmd) (W : World) (e l : Value) (wr : World) : Prop :=
  ∃ (n : Nat) (x : Option Addr), e = .pointer x ∧ n ≤ cs.length ∧ Hid (EntAt B W x (cs.drop n)) ∧ wr.ownsRow W.heap.size 36 5 l (cs.take n).length (flatC (cs.take n)) ∧ Hid (Below W.heap.size W wr)

end Go.Proofs.Ytnboodcllmdjeaa

/-
  WALKS: laws.toContent.
-/
namespace Go.Proofs.Ytnboodcllmdjeaa
open Go.RowKit

set_option maxHeartbeats 400000 in
theorem toContent_c (k v : Int) (w : World) : Calls Try.prog 58 #[con k v] w (ConRet k v w) := by
  unfold con ConRet
  go_enter Try.func58, Try.ntmps58
  go_wp2
  refine bodyPost_ret (v := con k v) ?_ rfl ⟨rfl, ((below_box _ _).alloc (by simp) _).alloc (by simp; omega) _⟩
  simp [results, Try.f58, go_sem]

end Go.Proofs.Ytnboodcllmdjeaa

/-
  WALKS: laws.eqContent at equal contents.
-/
namespace Go.Proofs.Ytnboodcllmdjeaa
open Go.RowKit

set_option maxHeartbeats 400000 in
theorem eqContent_c (k v : Int) (w : World) : Calls Try.prog 59 #[.agg #[.int .i64 k, .int .i64 v], .agg #[.int .i64 k, .int .i64 v]] w (BoolPost true w) := by
  go_enter Try.func59, Try.ntmps59
  go_wp2
  go_ret
  exact ⟨rfl, (below_box _ _).alloc (by simp) _⟩

end Go.Proofs.Ytnboodcllmdjeaa

/-
  WALKS: commands in the exact laws: laws.toCommand, szCommand, eqCommand; spec.CommandUndo.
-/
namespace Go.Proofs.Ytnboodcllmdjeaa
open Go.RowKit
set_option linter.unusedVariables false

/-- What is left; if anything is, the text is of modest length. -/
def SzCmd (c : Cmd) (w : World) (e : Ending) (w' : World) : Prop := ∃ z : Int, e = .returned (.int .i64 z) ∧ -1 ≤ z ∧ z ≤ 1048576 ∧ (0 ≤ z → c.p.size ≤ 1048576) ∧ Below w.heap.size w w'

set_option maxHeartbeats 1000000 in
theorem szCommand_c (c : Cmd) (l : Int) (h0 : 0 ≤ l) (h1 : l ≤ 1048576) (hm : c.p.size ≤ maxLen) (w : World) : Calls Try.prog 41 #[cmdV c, .int .i64 l] w (SzCmd c w) := by
  obtain ⟨p, fk, fv, tk, tv⟩ := c
  unfold cmdV
  have hm' : p.size ≤ 9223372036854775807 := Nat.le_trans (show p.size ≤ maxLen from hm) (by unfold maxLen; omega)
  obtain ⟨z, hz⟩ : ∃ z, l - (p.size : Int) = z := ⟨_, rfl⟩
  have hw : IntKind.i64.wrap (l - (p.size : Int)) = z := (IntWalk.i64_in _ (by omega)).trans hz
  by_cases hneg : z < 0
  · clear h0 h1 hm hm' hz
    go_enter Try.func41, Try.ntmps41
    go_wp2
    go_ret
    exact ⟨-1, rfl, by omega, by omega, fun h => absurd h (by omega), below_box _ _⟩
  · have hpos : 0 ≤ z := by omega
    have HF := Lib.hid (show z ≤ 1048576 ∧ p.size ≤ 1048576 by omega)
    clear h0 h1 hm hm' hz hneg
    go_enter Try.func41, Try.ntmps41
    go_wp2
    go_ret
    exact ⟨z, rfl, by omega, HF.out.1, fun _ => HF.out.2, below_box _ _⟩

set_option maxHeartbeats 1000000 in
theorem eqCommand_c (c : Cmd) (w : World) : Calls Try.prog 43 #[cmdV c, cmdV c] w (BoolPost true w) := by
  obtain ⟨p, fk, fv, tk, tv⟩ := c
  have HE := Lib.hid (fun k v w => eqContent_c k v w)
  unfold cmdV
  go_enter Try.func43, Try.ntmps43
  go_wp2_with fail
  refine (HE.out _ _ _).mono ?_
  rintro e W1 ⟨rfl, hb1⟩
  have hbb := below_next (below_box (w.alloc (.cells #[.string p, .int .i64 fk, .int .i64 fv, .int .i64 tk, .int .i64 tv] 36)) _) hb1
  have q3 := box_cell hbb 3
  have q4 := box_cell hbb 4
  have r3 := box_cell hb1 3
  have r4 := box_cell hb1 4
  simp at q3 q4 r3 r4
  have B1 := Lib.hid (below_next (below_box w _) hbb)
  clear hb1 hbb
  go_wp2_with fail
  refine (HE.out _ _ _).mono ?_
  rintro e W2 ⟨rfl, hb2⟩
  have B2 := Lib.hid (below_next B1.out hb2)
  clear hb2 q3 q4 r3 r4
  go_wp2
  go_ret
  exact ⟨rfl, B2.out⟩

theorem five_at {W : World} {n : Nat} (hn : n = W.heap.size) (a b c d e : Value) (t : TypeId) : Five (W.alloc (.cells #[a, b, c, d, e] t)) n a b c d e := by subst hn; exact five_new W a b c d e t

set_option maxHeartbeats 1000000 in
theorem toCommand_c (c : Cmd) (W : World) : Calls Try.prog 42 #[cmdV c] W (CmdPost c W) := by
  obtain ⟨p, fk, fv, tk, tv⟩ := c
  have HT := Lib.hid (fun k v w => toContent_c k v w)
  have HA := Lib.hid (((five_at (W := W) rfl (.string p) (.int .i64 fk) (.int .i64 fv) (.int .i64 tk) (.int .i64 tv) 64).alloc (.cells #[.string ⟨#[]⟩, .int .i64 0, .int .i64 0, .int .i64 0, .int .i64 0] 36)).alloc (.cells #[.string p, .int .i64 0, .int .i64 0, .int .i64 0, .int .i64 0] 36))
  have HB := Lib.hid ((five_at (W := W.alloc (.cells #[.string p, .int .i64 fk, .int .i64 fv, .int .i64 tk, .int .i64 tv] 64)) (n := W.heap.size + 1) (by simp) (.string ⟨#[]⟩) (.int .i64 0) (.int .i64 0) (.int .i64 0) (.int .i64 0) 36).alloc (.cells #[.string p, .int .i64 0, .int .i64 0, .int .i64 0, .int .i64 0] 36))
  have HC := Lib.hid (five_at (W := (W.alloc (.cells #[.string p, .int .i64 fk, .int .i64 fv, .int .i64 tk, .int .i64 tv] 64)).alloc (.cells #[.string ⟨#[]⟩, .int .i64 0, .int .i64 0, .int .i64 0, .int .i64 0] 36)) (n := W.heap.size + 1 + 1) (by simp) (.string p) (.int .i64 0) (.int .i64 0) (.int .i64 0) (.int .i64 0) 36)
  have HD := Lib.hid (below_next (below_next (below_box W (.cells #[.string p, .int .i64 fk, .int .i64 fv, .int .i64 tk, .int .i64 tv] 64)) (below_box _ (.cells #[.string ⟨#[]⟩, .int .i64 0, .int .i64 0, .int .i64 0, .int .i64 0] 36))) (below_box _ (.cells #[.string p, .int .i64 0, .int .i64 0, .int .i64 0, .int .i64 0] 36)))
  unfold cmdV
  unfold con at HT
  go_enter Try.func42, Try.ntmps42
  go_wp2_with fail
  refine (HT.out _ _ _).mono ?_
  rintro e W1 ⟨rfl, hb1⟩
  have A1 := Lib.hid (HA.out.below hb1)
  have R1 := Lib.hid (HB.out.below hb1)
  have O1 := Lib.hid (HC.out.below hb1)
  have B1 := Lib.hid (below_next HD.out hb1)
  clear HA HB HC HD hb1
  have A2 := Lib.hid ((A1.out.setOther (x := ⟨W.heap.size + 1 + 1, 1, none⟩) (v := .int .i64 fk) (by show W.heap.size + 1 + 1 ≠ _; omega)).setOther (x := ⟨W.heap.size + 1 + 1, 2, none⟩) (v := .int .i64 fv) (by show W.heap.size + 1 + 1 ≠ _; omega))
  have R2 := Lib.hid ((R1.out.setOther (x := ⟨W.heap.size + 1 + 1, 1, none⟩) (v := .int .i64 fk) (by show W.heap.size + 1 + 1 ≠ _; omega)).setOther (x := ⟨W.heap.size + 1 + 1, 2, none⟩) (v := .int .i64 fv) (by show W.heap.size + 1 + 1 ≠ _; omega))
  have O2 := Lib.hid ((O1.out.set1 (x := .int .i64 fk)).set2 (x := .int .i64 fv))
  have B2 := Lib.hid (below_setCell (below_setCell B1.out ⟨W.heap.size + 1 + 1, 1, none⟩ (.int .i64 fk) (by simp; omega)) ⟨W.heap.size + 1 + 1, 2, none⟩ (.int .i64 fv) (by simp; omega))
  obtain ⟨c0, c1, c2, c3, c4, f0, f1, f2, f3, f4, -⟩ := O1.out
  unfold con
  go_upto_region 4 with (fail)
  clear c0 c1 c2 c3 c4 f0 f1 f2 f3 f4 A1 R1 O1 B1
  generalize (W1.setCell ⟨W.heap.size + 1 + 1, 1, none⟩ (.int .i64 fk)).setCell ⟨W.heap.size + 1 + 1, 2, none⟩ (.int .i64 fv) = W2 at A2 R2 O2 B2 ⊢
  obtain ⟨-, -, -, a3, a4, -⟩ := A2.out
  go_wp2_with fail
  refine (HT.out _ _ _).mono ?_
  rintro e W3 ⟨rfl, hb3⟩
  have R3 := Lib.hid (R2.out.below hb3)
  have O3 := Lib.hid (O2.out.below hb3)
  have B3 := Lib.hid (below_next B2.out hb3)
  clear hb3 a3 a4 A2 R2 O2 B2
  have R4 := Lib.hid ((R3.out.setOther (x := ⟨W.heap.size + 1 + 1, 3, none⟩) (v := .int .i64 tk) (by show W.heap.size + 1 + 1 ≠ _; omega)).setOther (x := ⟨W.heap.size + 1 + 1, 4, none⟩) (v := .int .i64 tv) (by show W.heap.size + 1 + 1 ≠ _; omega))
  have O4 := Lib.hid ((O3.out.set3 (x := .int .i64 tk)).set4 (x := .int .i64 tv))
  have B4 := Lib.hid (below_setCell (below_setCell B3.out ⟨W.heap.size + 1 + 1, 3, none⟩ (.int .i64 tk) (by simp; omega)) ⟨W.heap.size + 1 + 1, 4, none⟩ (.int .i64 tv) (by simp; omega))
  obtain ⟨c0, c1, c2, c3, c4, f0, f1, f2, f3, f4, -⟩ := O3.out
  unfold con
  go_upto_region 5 with (fail)
  clear c0 c1 c2 c3 c4 f0 f1 f2 f3 f4 R3 O3 B3
  generalize (W3.setCell ⟨W.heap.size + 1 + 1, 3, none⟩ (.int .i64 tk)).setCell ⟨W.heap.size + 1 + 1, 4, none⟩ (.int .i64 tv) = W4 at R4 O4 B4 ⊢
  obtain ⟨c0, c1, c2, c3, c4, -⟩ := O4.out
  obtain ⟨r0, r1, r2, r3, r4, f0, f1, f2, f3, f4, -⟩ := R4.out
  go_wp2
  exact bodyPost_ret (cmd_results _ rfl _ (W.heap.size + 1) ⟨p, fk, fv, tk, tv⟩ _ rfl R4.out.setAll) rfl ⟨rfl, below_set5 B4.out (Nat.le_succ _)⟩

theorem undo_yes {c : Cmd} {vc : Bool} (h : validC c = vc) : undoC c = if vc = true then ⟨c.p, c.tk, c.tv, c.fk, c.fv⟩ else zeroC := by subst h; rfl

end Go.Proofs.Ytnboodcllmdjeaa

/-
  WALK: spec.LogUndo.
-/
namespace Go.Proofs.Ytnboodcllmdjeaa
open Go.RowKit
set_option linter.unusedVariables false

def UndoRelL (cs : List Cmd) (vl : Bool) (len : Nat) (W : World) (o i : Value) (wr : World) : Prop :=
  ∃ (n : Nat) (z : Int) (acc : List Cmd), i = .int .i64 z ∧ z = (n : Int) - 1 ∧ n ≤ len ∧ wr.ownsRow W.heap.size 36 5 o acc.length (flatC acc) ∧ Hid (acc = (cs.drop n).reverse.map undoC) ∧ Hid (vl = false → n = len) ∧ Hid (Below W.heap.size W wr)

theorem undo_out {cs acc : List Cmd} {vl : Bool} {n len : Nat} (hl : cs.length = len) (hv : validL cs = vl) (ha : acc = (cs.drop n).reverse.map undoC) (hn : vl = false → n = len) (h : vl = false ∨ n = 0) : undoL cs = acc := by
  subst ha
  cases vl with
  | false =>
    rw [undoL_bad hv, hn rfl, ← hl, List.drop_length]
    rfl
  | true =>
    rcases h with h | rfl
    · cases h
    · rw [undoL_ok hv, List.drop_zero]

end Go.Proofs.Ytnboodcllmdjeaa

/-
  WALKS: impl.LogValid, LogUndo, LogApply, LogFits.
-/
namespace Go.Proofs.Ytnboodcllmdjeaa
open Go.RowKit
set_option linter.unusedVariables false

/-- Between two rounds of LogApply. -/
def DoneRel (ns : List Nd) (cs : List Cmd) (W : World) (l k o i : Value) (wr : World) : Prop :=
  ∃ (n : Nat) (acc : List Nd) (x : Option Addr), l = .pointer x ∧ k = .bool true ∧ i = .int .i64 n ∧ n ≤ cs.length ∧ wr.ownsRow W.heap.size 112 3 o acc.length (flatN acc) ∧ Hid (EntAt W.heap.size wr x (cs.drop n)) ∧ Hid (acc.length ≤ 10) ∧ Hid (Short 2097152 acc) ∧ Hid (runL ns (cs.take n) = (acc, n)) ∧ Hid (Below W.heap.size W wr)

set_option maxHeartbeats 1000000 in
set_option maxRecDepth 100000 in
theorem implLogValid_c (a : Option Addr) (len cap : Nat) (cs : List Cmd) (hl : len ≤ 2097152) (hs : ShortC 2097152 cs) (W : World) (hN : CmdsAt W a len cs) :
    Calls Try.prog 26 #[.slice a len cap] W (BoolPost (validL cs) W) := by
  have HEn := Lib.hid (entriesOf_c a len cap cs hs W hN)
  clear hN hs hl
  go_enter Try.func26, Try.ntmps26
  go_wp2_with fail
  refine HEn.out.mono ?_
  rintro e W1 ⟨hb, ⟨hv, rfl⟩ | ⟨hv, x, rfl, -⟩⟩
  · have HB := Lib.hid hb
    have HV := Lib.hid hv
    clear hb hv
    go_wp2
    go_ret
    exact ⟨ret_bool HV.out.symm, HB.out⟩
  · have HB := Lib.hid hb
    have HV := Lib.hid hv
    clear hb hv
    go_wp2
    go_ret
    exact ⟨ret_bool HV.out.symm, HB.out⟩

end Go.Proofs.Ytnboodcllmdjeaa

/-
  WALKS: impl.LogCanon.
-/
namespace Go.Proofs.Ytnboodcllmdjeaa
open Go.RowKit
open Go.Maps (IsMap has)
set_option linter.unusedVariables false

theorem own_lower {W : World} {base base' : Nat} {e : TypeId} {size n : Nat} {v : Value} {xs : List Value} (h : W.ownsRow base e size v n xs) (hb : base' ≤ base) : W.ownsRow base' e size v n xs := by
  obtain ⟨h1, h2⟩ := h
  refine ⟨h1, ?_⟩
  rcases h2 with h3 | ⟨x, cap, cur, rfl, h4, h5⟩
  · exact .inl h3
  · exact .inr ⟨x, cap, cur, rfl, Nat.le_trans hb h4, h5⟩

abbrev RangesC (wr : World) (b r n : Nat) (D : DataW Unit) (left : Lit → Bool) (cnt : Nat) : Prop := wr.ranges Try.prog 9 cmdElem b r n D left cnt

theorem ranges_keptM {w w' : World} {b r n : Nat} {D : DataW Unit} {left : Lit → Bool} {cnt : Nat} (h : RangesC w b r n D left cnt) (hk : KeptM w w') : RangesC w' b r n D left cnt := by
  obtain ⟨es, clock, since, seen, c0, hb, F, hs, hD, hr, rest⟩ := h
  exact ⟨es, clock, since, seen, c0, hk b _ hb rfl, F, hs, hD, hk r _ hr rfl, rest⟩

/-- The step of 'for _, c := range wholes'. -/
theorem wpList_next_cmd (w : World) {ops : Array Oper} {rest : List Oper} {o : Oper} {a : Act} {Q : Exit → Act → World → Prop} (hg : o.guard = none) (it : Operand) (hop : o.op = Op.next it false) (b r n : Nat) (D : DataW Unit) (left : Lit → Bool) (cnt : Nat)
    (hit : a.eval it = .pointer (some ⟨r, 0, none⟩)) (h : RangesC w b r n D left cnt)
    (hDone : (∀ kl, left kl = false) → wpList Try.prog ops Q rest (a.put o.dst (.tuple #[.bool false])) w)
    (hMore : ∀ (p q : ByteArray) (fk fv tk tv : Int) (w' : World) (cnt' : Nat), left (keyL p) = true → (∀ zd, D.atKey (keyL p) zd = encD ⟨q, fk, fv, tk, tv⟩) → RangesC w' b r n D (fun z => left z && !z.sameKey (keyL p)) cnt' → cnt' < cnt →
      w.grownBy w' (some r) → (Instr.entry (.pointer (some ⟨r, 0, none⟩))).run Try.prog w' = .ok (.tuple #[.string p, .agg #[.string q, .int .i64 fk, .int .i64 fv, .int .i64 tk, .int .i64 tv]]) w' →
      wpList Try.prog ops Q rest (a.put o.dst (.tuple #[.bool true, .string p, .agg #[.string q, .int .i64 fk, .int .i64 fv, .int .i64 tk, .int .i64 tv]])) w') :
    wpList Try.prog ops Q (o :: rest) a w :=
  wpList_next_ranges w hg it hop 9 keyLaw cmdElem (fun p : ByteArray => Value.string p) (fun c : Cmd => .agg #[.string c.p, .int .i64 c.fk, .int .i64 c.fv, .int .i64 c.tk, .int .i64 c.tv])
    (fun key kl hk => by obtain ⟨x, hx, _⟩ := Maps.keyOf_str Try.underlying9 hk; exact ⟨_, hx⟩)
    (fun v y hv => by obtain ⟨c, hc, _⟩ := cmdElem_inv hv; exact ⟨c, hc⟩) b r n D left cnt hit h (fun _ hl => hDone hl)
    (fun p c kl y w' cnt' hkey hlk hv hat hrg hlt hgr hsz hen => by
      obtain ⟨x, ex, rfl, _⟩ := Maps.keyOf_str Try.underlying9 hkey
      have hp : p = ⟨x.toArray⟩ := by
        have : (Value.string p) = encStr x := ex
        unfold encStr at this
        injection this
      have hkl : (Lit.string x) = keyL p := by rw [hp]; unfold keyL; simp
      rw [hkl] at hlk hat hrg
      obtain ⟨c', ec, rfl⟩ := cmdElem_inv hv
      rw [cmdElem_mk] at hv
      injection hv with hv
      injection hv with hv _
      obtain ⟨q, fk, fv, tk, tv⟩ := c
      exact hMore p q fk fv tk tv w' cnt' hlk (fun zd => (hat zd).trans hv.symm) hrg hlt hgr hen)

def CanonRel (cs : List Cmd) (D : DataW Unit) (b r B : Nat) (W : World) (wr : World) : Prop :=
  ∃ (left : Lit → Bool) (cnt : Nat) (v : Value) (zs : List Cmd), RangesC wr b r cs.length D left cnt ∧ Hid (HpAt wr B (B + 1) v zs) ∧ Hid (HeapK zs zs.length) ∧ Hid (PushK cs left zs) ∧ Hid (Below W.heap.size W wr)

theorem push_round {cs zs ys : List Cmd} {D : DataW Unit} {b r B : Nat} {W wr w2 W4 : World} {left : Lit → Bool} {cnt cnt2 : Nat} {v4 : Value} {p : ByteArray} {c : Cmd} {o : Obj} (hw : WholeK cs cs.length D) (hh : has D (keyL p) = true) (hat : ∀ z, D.atKey (keyL p) z = encD c) (hpk : PushK cs left zs) (hl : left (keyL p) = true)
    (hne : (c.fk, c.fv) ≠ (c.tk, c.tv)) (hq : c.p = p) (hr2 : RangesC w2 b r cs.length D (fun z => left z && !z.sameKey (keyL p)) cnt2) (hrg : RangesC wr b r cs.length D left cnt) (hlt : cnt2 < cnt) (hb2 : Below W.heap.size W w2) (hws : W.heap.size ≤ B)
    (hA4 : HpAt W4 B (B + 1) v4 ys) (hp4 : ys.Perm (zs ++ [c])) (hh4 : HeapK ys ys.length) (hb4 : Below B (w2.alloc o) W4) (hk4 : KeptM (w2.alloc o) W4) : CanonRel cs D b r B W W4 ∧ W4.rangeLeft b r < wr.rangeLeft b r := by
  subst hq
  have hr4 : RangesC W4 b r cs.length D (fun z => left z && !z.sameKey (keyL c.p)) cnt2 := ranges_keptM (ranges_keptM hr2 (KeptM.below (below_box w2 o))) hk4
  exact ⟨⟨_, cnt2, v4, ys, hr4, hA4, hh4, push_one hw hh hat hpk hl hne hp4, (hb2.alloc hb2.size o).trans (hb4.mono hws)⟩, by rw [hr4.left_eq, hrg.left_eq]; exact hlt⟩

theorem skip_round {cs zs : List Cmd} {D : DataW Unit} {b r B : Nat} {W wr w2 : World} {left : Lit → Bool} {cnt cnt2 : Nat} {v : Value} {p : ByteArray} {c : Cmd} {o : Obj} (hw : WholeK cs cs.length D) (hh : has D (keyL p) = true) (hat : ∀ z, D.atKey (keyL p) z = encD c) (hpk : PushK cs left zs)
    (he : (c.fk, c.fv) = (c.tk, c.tv)) (hq : c.p = p) (hr2 : RangesC w2 b r cs.length D (fun z => left z && !z.sameKey (keyL p)) cnt2) (hrg : RangesC wr b r cs.length D left cnt) (hlt : cnt2 < cnt) (hb2 : Below W.heap.size W w2)
    (hA2 : HpAt w2 B (B + 1) v zs) (hhk : HeapK zs zs.length) : CanonRel cs D b r B W (w2.alloc o) ∧ (w2.alloc o).rangeLeft b r < wr.rangeLeft b r := by
  subst hq
  have hr4 : RangesC (w2.alloc o) b r cs.length D (fun z => left z && !z.sameKey (keyL c.p)) cnt2 := ranges_keptM hr2 (KeptM.below (below_box w2 o))
  exact ⟨⟨_, cnt2, v, zs, hr4, hA2.keep (below_box w2 o), hhk, push_skip hw hh hat hpk he, hb2.alloc hb2.size o⟩, by rw [hr4.left_eq, hrg.left_eq]; exact hlt⟩

set_option maxHeartbeats 1000000 in
set_option maxRecDepth 100000 in
theorem logCanon_c (a : Option Addr) (len cap : Nat) (cs : List Cmd) (hl : len ≤ 2097152) (hs : ShortC 2097152 cs) (W : World) (hN : CmdsAt W a len cs) :
    Calls Try.prog 11 #[.slice a len cap] W (MovePost (logCanon cs) W) := by
  obtain ⟨vl, hvl⟩ : ∃ v, validL cs = v := ⟨_, rfl⟩
  have HV := Lib.hid (show Calls Try.prog 26 #[.slice a len cap] W (BoolPost vl W) by rw [← hvl]; exact implLogValid_c a len cap cs hl hs W hN)
  have HVT := Lib.hid hvl
  have HWH := Lib.hid (fun W' (hb : Below W.heap.size W W') => wholesOf_c a len cap cs hl hs W' (hN.keep hb))
  clear hN hs hl hvl
  go_enter Try.func11, Try.ntmps11
  go_wp2_with fail
  refine HV.out.mono ?_
  rintro e W1 ⟨rfl, hb1⟩
  have B1 := Lib.hid hb1
  clear hb1
  cases vl with
  | false =>
    go_wp2
    go_ret2
    exact move_end (logCanon_bad HVT.out) (World.ownsRow_nil _ _ _ _) B1.out
  | true =>
    go_wp2_with fail
    refine (HWH.out W1 B1.out).mono ?_
    rintro e W2 ⟨hor, hb2⟩
    have B2 := Lib.hid (below_next B1.out hb2)
    have HB2 := Lib.hid hb2.size
    clear hb2
    rcases hor with ⟨D, rfl, hM, hW⟩ | ⟨rfl, p, hp⟩
    · have HM := Lib.hid hM
      have HW := Lib.hid hW
      have HC20 := Lib.hid (show cs.length ≤ 20 from ((validL_iff cs).1 HVT.out).2)
      clear hM hW
      go_wp2_with (at_range; refine wpList_range_own _ rfl _ _ rfl _ _ keyLaw Try.underlying44 cmdElem _ _ D rfl (HM.out.alloc _) ?_; intro w0 hrg0 hg0 hs0)
      simp only [World.size_alloc] at hrg0 hs0 ⊢
      go_frame
      have HX0 := Lib.hid ((Boxed.new W2 47 (.slice none 0 0)).kept hg0 (by simp))
      have HBW := Lib.hid (show Below W.heap.size W w0 from (B2.out.alloc B2.out.size _).grown hg0 (by have := B2.out.size; rw [World.size_alloc]; omega) (by simp))
      have HWS := Lib.hid (show W.heap.size ≤ W2.heap.size from B2.out.size)
      clear hg0 hs0
      go_loopw [8] (fun _ wr => CanonRel cs D W1.heap.size (W2.heap.size + 1) W2.heap.size W wr) (fun _ wr => wr.rangeLeft W1.heap.size (W2.heap.size + 1))
      case atStart => exact ⟨has D, Maps.size D, .slice none 0 0, [], hrg0, ⟨HX0.out, World.ownsRow_nil _ _ _ _, by omega⟩, fun k k0 kn => absurd kn (by simp), push_start HW.out, HBW.out⟩
      case round =>
        clear hrg0
        obtain ⟨left, cnt, v, zs, hrg, HA, HHK, HPK, HB⟩ := hrel
        have HRG := Lib.hid hrg
        go_wp2_with (at_next; refine wpList_next_cmd _ rfl _ rfl _ _ _ _ _ _ rfl hrg ?_ ?_)
        · intro hl0
          have HTA := Lib.hid (takeAll_c W2.heap.size (W2.heap.size + 1) v zs (by have := push_len HPK.out; have := HC20.out; omega) wr HA.out.box.lt HA.out HHK.out)
          have HL0 := Lib.hid hl0
          clear hrg hl0
          go_wp2_with fail
          refine HTA.out.mono ?_
          rintro e W5 ⟨sl, acc, rfl, ho, ht, hb⟩
          go_wp2
          go_ret2
          exact move_end (push_end HVT.out HW.out HPK.out HL0.out ht) (own_lower ho HB.out.size) (HB.out.trans (hb.mono HWS.out))
        · intro p q fk fv tk tv w2 cnt2 hlk hat hrg2 hlt hg2 hen
          have HA2 := Lib.hid (HA.out.grown hg2 (fun e => by injection e with e; omega) (fun k hk e => row_ne_iter HA.out.row HRG.out (e.trans hk.symm)))
          have HB2w := Lib.hid (show Below W.heap.size W w2 from HB.out.grown hg2 (by have := HWS.out; have := HA.out.box.lt; omega) (fun k e => by injection e with e; have := HWS.out; omega))
          have HLK := Lib.hid (And.intro hlk hat)
          have HR2 := Lib.hid hrg2
          have HLT := Lib.hid (show cnt2 < cnt from hlt)
          have HH := Lib.hid (Maps.has_true_of_atKey hat)
          have HQP := Lib.hid (whole_at (c := ⟨q, fk, fv, tk, tv⟩) HW.out (Maps.has_true_of_atKey hat) hat).1
          have HPU := Lib.hid (heapPush_c W2.heap.size (W2.heap.size + 1) v zs ⟨q, fk, fv, tk, tv⟩ (by have := push_len HPK.out; have := HC20.out; omega) (w2.alloc (.cells #[.string q, .int .i64 fk, .int .i64 fv, .int .i64 tk, .int .i64 tv] 36)) (by have := HA2.out.box.lt; rw [World.size_alloc]; omega) (HA2.out.keep (below_box _ _)) HHK.out)
          unfold cmdV at HPU
          simp only at HPU
          clear hrg hlk hat hrg2 hlt hg2
          by_cases e1 : fk = tk
          · by_cases e2 : fv = tv
            · subst e1; subst e2
              clear HPU
              go_wp2
              exact skip_round HW.out HH.out HLK.out.2 HPK.out rfl HQP.out HR2.out HRG.out HLT.out HB2w.out HA2.out HHK.out
            · subst e1
              go_wp2_with (go_at_call 28; (with_reducible refine (HPU.out).mono ?_); rintro e W4 ⟨rfl, v4, ys, hA4, hp4, hh4, hb4, hk4⟩)
              exact push_round HW.out HH.out HLK.out.2 HPK.out HLK.out.1 (fun e => e2 (congrArg Prod.snd e)) HQP.out HR2.out HRG.out HLT.out (hb2 := HB2w.out) HWS.out hA4 hp4 hh4 hb4 hk4
          · go_wp2_with (go_at_call 28; (with_reducible refine (HPU.out).mono ?_); rintro e W4 ⟨rfl, v4, ys, hA4, hp4, hh4, hb4, hk4⟩)
            exact push_round HW.out HH.out HLK.out.2 HPK.out HLK.out.1 (fun e => e1 (congrArg Prod.fst e)) HQP.out HR2.out HRG.out HLT.out (hb2 := HB2w.out) HWS.out hA4 hp4 hh4 hb4 hk4
    · go_wp2
      go_ret2
      exact move_end (logCanon_fail hp) (World.ownsRow_nil _ _ _ _) B2.out

end Go.Proofs.Ytnboodcllmdjeaa

/-
  A command held against itself.
-/
namespace Go.Proofs.Ytnboodcllmdjeaa
open Go.RowKit

theorem cmdEqS (p : ByteArray) (fk fv tk tv : Int) (w : World) : (binOp .eql 36 (.agg #[.string p, .int .i64 fk, .int .i64 fv, .int .i64 tk, .int .i64 tv]) (.agg #[.string p, .int .i64 fk, .int .i64 fv, .int .i64 tk, .int .i64 tv])).run Try.prog w = .ok (.bool true) w := by
  simp [binOp, go_sem, Op.equal, Op.maxDepth]

theorem cmdNeS (p : ByteArray) (fk fv tk tv : Int) (w : World) : (binOp .neq 36 (.agg #[.string p, .int .i64 fk, .int .i64 fv, .int .i64 tk, .int .i64 tv]) (.agg #[.string p, .int .i64 fk, .int .i64 fv, .int .i64 tk, .int .i64 tv])).run Try.prog w = .ok (.bool false) w := by
  simp [binOp, go_sem, Op.equal, Op.maxDepth]

end Go.Proofs.Ytnboodcllmdjeaa

/-
  WALKS: slices.Grow and slices.Concat of lists of commands, empty ones and nil too.
-/
namespace Go.Proofs.Ytnboodcllmdjeaa
open Go.RowKit
set_option linter.unusedVariables false

set_option maxHeartbeats 1000000 in
set_option maxRecDepth 100000 in
/-- slices.Grow of nothing: room for n commands. -/
theorem growCm_c (n : Nat) (hn : n ≤ 2097152) (W : World) :
    Calls Try.prog 56 #[.slice none 0 0, .int .i64 n] W fun e W' => OwnsCmds W.heap.size [] e W' ∧ Below W.heap.size W W' := by
  by_cases h0 : n = 0
  · subst h0
    go_enter Try.func56, Try.ntmps56
    go_wp2
    refine bodyPost_ret (v := .slice none 0 0) (by simp [results, Try.f56, go_sem]) rfl ⟨⟨_, rfl, World.ownsRow_nil _ _ _ _⟩, Below.refl _ _⟩
  · have h1 : 1 ≤ n := by omega
    obtain ⟨i0, hi, hz0, hz1, hz2⟩ := info_parts infoCmd
    have hold : (Builtin.firstCells i0.size 0 (.slice none 0 0)).run Try.prog W.drew = .ok (([] : List Value)).toArray W.drew := run_firstCells_none W.drew i0.size 0 0 0
    have hrz : ∀ ty, (Builtin.append_ #[23, 3] ty #[.slice none 0 0, .int .i64 n]).run Try.prog W =
        .ok (.slice (some ⟨W.heap.size, 0, none⟩) (0 + n) (grownCap W (0 + n) 0 36)) (W.drew.alloc (.cells (([] : List Value).toArray ++ Builtin.zeroCells (Value.agg #[.string ⟨#[]⟩, .int .i64 0, .int .i64 0, .int .i64 0, .int .i64 0]).cells n ++ Builtin.zeroCells (Value.agg #[.string ⟨#[]⟩, .int .i64 0, .int .i64 0, .int .i64 0, .int .i64 0]).cells (grownCap W (0 + n) 0 36 - (0 + n))) 36)) := fun ty =>
      Lib.run_append_grow_zeros W 23 3 ty 36 i0 (.agg #[.string ⟨#[]⟩, .int .i64 0, .int .i64 0, .int .i64 0, .int .i64 0]) .i64 .i64 Try.underlying23 Try.underlying3 hi hz0 none 0 0 [] hold n (by omega) (by omega) (by omega) (by omega) (by rw [hz2]; omega) (growslice_fits (by omega) (by rw [hz2]; omega))
    have hGn : 0 + n ≤ grownCap W (0 + n) 0 36 := grownCap_ge W _ _ _
    have hGm : grownCap W (0 + n) 0 36 ≤ maxLen := grownCap_le_maxLen W (0 + n) 0 36 (by unfold maxLen; omega)
    rw [Nat.zero_add] at hrz hGn hGm
    obtain ⟨G, hG⟩ : ∃ G, G = grownCap W n 0 36 := ⟨_, rfl⟩
    rw [← hG] at hrz hGn hGm
    have HGN := Lib.hid hGn
    have HGM := Lib.hid hGm
    have n0 : 0 < (n : Int) := by omega
    have hn' : (n : Int) ≤ 2097152 := by omega
    have hG63 : G ≤ 9223372036854775807 := by unfold maxLen at hGm; omega
    clear hold hG hGn hGm
    go_enter Try.func56, Try.ntmps56
    go_wp2_with (at_builtin; refine Lib.wpList_append_run _ rfl _ _ _ _ rfl _ _ rfl rfl _ _ (hrz _) ?_)
    refine bodyPost_ret (v := .slice (some ⟨W.heap.size, 0, none⟩) 0 G) (by simp [results, Try.f56, go_sem]) rfl ⟨⟨_, rfl, ?_⟩, ((Below.refl _ W).alloc (Nat.le_refl _) _).drew⟩
    exact World.ownsRow_made (e := 36) (size := 5) W _ G (Nat.le_refl _) HGM.out (by
      rw [Array.size_append, size_zeroCells, size_zeroCells]
      have := HGN.out
      simp
      omega)

/-- A list of commands among the arguments of slices.Concat. -/
structure CRow where
  a : Option Addr
  len : Nat
  cap : Nat
  cs : List Cmd

/-- A slice of lists of commands in memory. -/
def RowsCAt (W : World) (g off : Nat) (rows : List CRow) : Prop := ∀ i r, rows[i]? = some r → W.cell? ⟨g, off + i, none⟩ = some (.slice r.a r.len r.cap) ∧ CmdsAt W r.a r.len r.cs

theorem RowsCAt.keep {W W' : World} {g off : Nat} {rows : List CRow} (h : RowsCAt W g off rows) (hb : Below W.heap.size W W') : RowsCAt W' g off rows := fun i r hr =>
  ⟨cell_kept hb (h i r hr).1, (h i r hr).2.keep hb⟩

def allC (rows : List CRow) : List Cmd := rows.flatMap CRow.cs

theorem allC_next {rows : List CRow} {i : Nat} {r : CRow} (h : rows[i]? = some r) : allC (rows.take (i + 1)) = allC (rows.take i) ++ r.cs := by
  unfold allC
  rw [List.take_add_one, h, List.flatMap_append]
  simp

theorem allC_le (rows : List CRow) (i : Nat) : (allC (rows.take i)).length ≤ (allC rows).length := by
  conv => rhs; rw [← List.take_append_drop i rows]
  unfold allC
  rw [List.flatMap_append, List.length_append]
  omega

def SizeC (rows : List CRow) (W : World) (s i : Value) (wr : World) : Prop :=
  ∃ n : Nat, i = .int .i64 n ∧ n ≤ rows.length ∧ s = .int .i64 ((allC (rows.take n)).length : Nat) ∧ W = wr

def JoinC (rows : List CRow) (W : World) (o i : Value) (wr : World) : Prop :=
  ∃ n : Nat, i = .int .i64 n ∧ n ≤ rows.length ∧ wr.ownsRow W.heap.size 36 5 o (allC (rows.take n)).length (flatC (allC (rows.take n))) ∧ Hid (Below W.heap.size W wr)

set_option maxHeartbeats 2000000 in
set_option maxRecDepth 100000 in
/-- slices.Concat of lists of commands. -/
theorem concatC_c (g off cap : Nat) (rows : List CRow) (hl : rows.length ≤ 2097152) (ht : (allC rows).length ≤ 2097152) (W : World) (hN : RowsCAt W g off rows) :
    Calls Try.prog 38 #[.slice (some ⟨g, off, none⟩) rows.length cap] W fun e W' => OwnsCmds W.heap.size (allC rows) e W' ∧ Below W.heap.size W W' := by
  have HN := Lib.hid hN
  have HT := Lib.hid ht
  obtain ⟨tot, htot⟩ : ∃ tot, tot = (allC rows).length := ⟨_, rfl⟩
  have HG := Lib.hid (fun W' => show Calls Try.prog 56 #[.slice none 0 0, .int .i64 tot] W' (fun e W'' => OwnsCmds W'.heap.size [] e W'' ∧ Below W'.heap.size W' W'') from growCm_c tot (by omega) W')
  have HTO := Lib.hid htot
  obtain ⟨len, hlen⟩ : ∃ len, len = rows.length := ⟨_, rfl⟩
  rw [← hlen] at hl ⊢
  have HE := Lib.hid hlen
  have hl' : (len : Int) ≤ 2097152 := by omega
  clear hN ht htot hlen
  go_enter Try.func38, Try.ntmps38
  go_wp2_with fail
  go_loopw [3, 11] (fun s i wr => SizeC rows W s i wr) (fun _ i _ => len - (intOf i).toNat)
  case atStart => exact ⟨0, rfl, by omega, rfl, rfl⟩
  case round =>
    obtain ⟨i, rfl, hi1, rfl, rfl⟩ := hrel
    by_cases hlt : i < len
    · obtain ⟨r, hr⟩ : ∃ r, rows[i]? = some r := ⟨_, List.getElem?_eq_getElem (by have := HE.out; omega)⟩
      obtain ⟨c0, hzi⟩ := HN.out i r hr
      have HLR := Lib.hid hzi.1
      have hlt' : (i : Int) < len := by omega
      have hil : (i : Int) ≤ 2097152 := by omega
      have HLT := Lib.hid hlt
      have HFN := Lib.hid (allC_next hr)
      have hf1 := allC_le rows (i + 1)
      rw [HFN.out, List.length_append, hzi.1] at hf1
      have hf2 := HT.out
      obtain ⟨s, hs⟩ : ∃ s, s = (allC (rows.take i)).length := ⟨_, rfl⟩
      rw [← hs] at hf1 ⊢
      have HS := Lib.hid hs
      obtain ⟨rl, hrl⟩ : ∃ rl, rl = r.len := ⟨_, rfl⟩
      rw [← hrl] at c0 hf1
      have HRL := Lib.hid hrl
      have hsz : (s : Int) + rl ≤ 2097152 := by omega
      have hsz0 : (0 : Int) ≤ (s : Int) + rl := by omega
      clear hlt hi1 hr hzi hf1 hf2 hs hrl
      go_wp2_with fail
      go_roundw
      case rel => exact ⟨i + 1, by push_cast; rfl, by have := HE.out; have := HLT.out; omega, by rw [HFN.out, List.length_append, ← HS.out, HLR.out, ← HRL.out]; push_cast; rfl, rfl⟩
      case measure => have := HLT.out; simp [intOf]; omega
    · have hge : (len : Int) ≤ i := by omega
      have htk : rows.take i = rows := List.take_of_length_le (by have := HE.out; omega)
      rw [htk, ← HTO.out]
      clear hi1 hlt htk
      go_wp2_with fail
      refine (HG.out _).mono ?_
      rintro e W2 ⟨⟨s2, rfl, ho2⟩, hb2⟩
      have HO2 := Lib.hid ho2
      have HB2 := Lib.hid hb2
      clear ho2 hb2 hge
      go_wp2_with fail
      go_loopw [6, 27] (fun o i w3 => JoinC rows W o i w3) (fun _ i _ => len - (intOf i).toNat)
      case atStart => exact ⟨0, rfl, by omega, HO2.out, HB2.out⟩
      case round =>
        obtain ⟨j, rfl, hi1, hown, HB⟩ := hrel
        by_cases hlt : j < len
        · obtain ⟨r, hr⟩ : ∃ r, rows[j]? = some r := ⟨_, List.getElem?_eq_getElem (by have := HE.out; omega)⟩
          obtain ⟨c0, hzi⟩ := (HN.out.keep HB.out) j r hr
          have hlt' : (j : Int) < len := by omega
          have hil : (j : Int) ≤ 2097152 := by omega
          have HLT := Lib.hid hlt
          have HFN := Lib.hid (allC_next hr)
          have hf1 := allC_le rows (j + 1)
          rw [HFN.out, List.length_append] at hf1
          have HF1 := Lib.hid hf1
          have HZI := Lib.hid hzi
          have HO := Lib.hid hown
          have hlt0 := HO.out.lt
          clear hlt hi1 hr hzi hf1 hown
          go_wp2_with (at_builtin; refine wpList_append_cmds rfl _ _ rfl W.heap.size _ _ rfl HO.out _ _ _ _ rfl HZI.out (by have := HF1.out; have := HT.out; omega) HB.out.size ?_; intro v5 w5 ho5 hg5)
          have B5 : Below W.heap.size W w5 := HB.out.grown hg5 HB.out.size (fun g e => (hlt0 g e).1)
          go_roundw
          case rel => exact ⟨j + 1, by push_cast; rfl, by have := HE.out; have := HLT.out; omega, by rw [HFN.out]; exact ho5, B5⟩
          case measure => have := HLT.out; simp [intOf]; omega
        · have hge : (len : Int) ≤ j := by omega
          have htk : rows.take j = rows := List.take_of_length_le (by have := HE.out; omega)
          rw [htk] at hown
          have HO := Lib.hid hown
          clear hi1 hlt htk hown
          go_wp2
          refine bodyPost_ret (v := u6) (by simp [results, Try.f38, go_sem]) rfl ⟨⟨_, rfl, HO.out⟩, HB.out⟩

theorem rowsC_two {a1 a2 : Option Addr} {l1 l2 c1 c2 : Nat} {cs ds : List Cmd} (W : World) (h1 : CmdsAt W a1 l1 cs) (h2 : CmdsAt W a2 l2 ds) (t : TypeId) :
    RowsCAt (W.alloc (.cells #[.slice a1 l1 c1, .slice a2 l2 c2] t)) W.heap.size 0 [⟨a1, l1, c1, cs⟩, ⟨a2, l2, c2, ds⟩] := by
  intro i r hr
  match i, hr with
  | 0, hr =>
    simp at hr; subst hr
    exact ⟨by rw [World.cell?_alloc_new]; rfl, h1.keep (below_box _ _)⟩
  | 1, hr =>
    simp at hr; subst hr
    exact ⟨by rw [World.cell?_alloc_new]; rfl, h2.keep (below_box _ _)⟩
  | i + 2, hr => simp at hr

end Go.Proofs.Ytnboodcllmdjeaa

/-
  WALKS: slices.Equal of commands; impl.CanonValid, CanonJoin.
-/
namespace Go.Proofs.Ytnboodcllmdjeaa
open Go.RowKit
set_option linter.unusedVariables false

theorem cmdNeO (c d : Cmd) (h : c ≠ d) (w : World) : (binOp .neq 36 (.agg #[.string c.p, .int .i64 c.fk, .int .i64 c.fv, .int .i64 c.tk, .int .i64 c.tv]) (.agg #[.string d.p, .int .i64 d.fk, .int .i64 d.fv, .int .i64 d.tk, .int .i64 d.tv])).run Try.prog w = .ok (.bool true) w := by
  obtain ⟨p, fk, fv, tk, tv⟩ := c
  obtain ⟨p', fk', fv', tk', tv'⟩ := d
  simp only
  by_cases hp : p = p'
  · subst hp
    by_cases h1 : fk = fk'
    · subst h1
      by_cases h2 : fv = fv'
      · subst h2
        by_cases h3 : tk = tk'
        · subst h3
          by_cases h4 : tv = tv'
          · subst h4
            exact absurd rfl h
          · simp [binOp, go_sem, Op.equal, Op.maxDepth, h4]
        · have : (tk == tk') = false := beq_eq_false_iff_ne.2 h3
          simp [binOp, go_sem, Op.equal, Op.maxDepth, this]
      · have : (fv == fv') = false := beq_eq_false_iff_ne.2 h2
        simp [binOp, go_sem, Op.equal, Op.maxDepth, this]
    · have : (fk == fk') = false := beq_eq_false_iff_ne.2 h1
      simp [binOp, go_sem, Op.equal, Op.maxDepth, this]
  · have : (p.toList == p'.toList) = false := toList_ne hp
    simp [binOp, go_sem, Op.equal, Op.maxDepth, this]

theorem all_two (r s : CRow) : allC [r, s] = r.cs ++ s.cs := by unfold allC; simp

/-- Do two lists have the same commands? -/
def EqPost (cs ds : List Cmd) (W : World) (e : Ending) (w' : World) : Prop := ∃ b, e = .returned (.bool b) ∧ (b = true ↔ cs = ds) ∧ Below W.heap.size W w'

set_option maxHeartbeats 1000000 in
set_option maxRecDepth 100000 in
theorem equalC_c (a1 a2 : Option Addr) (len1 cap1 len2 cap2 : Nat) (cs ds : List Cmd) (hl : len1 ≤ 2097152) (hl2 : len2 ≤ 2097152) (W : World) (h1 : CmdsAt W a1 len1 cs) (h2 : CmdsAt W a2 len2 ds) :
    Calls Try.prog 33 #[.slice a1 len1 cap1, .slice a2 len2 cap2] W (EqPost cs ds W) := by
  have H1 := Lib.hid h1
  have H2 := Lib.hid h2
  have hl' : (len1 : Int) ≤ 2097152 := by omega
  clear h1 h2
  by_cases hne : len1 = len2
  · subst hne
    have HE := Lib.hid (And.intro H1.out.1 H2.out.1)
    go_enter Try.func33, Try.ntmps33
    go_wp2
    go_loopw [13] (fun i wr => ∃ n : Nat, i = .int .i64 n ∧ n ≤ len1 ∧ Hid (cs.take n = ds.take n) ∧ Hid (Below W.heap.size W wr)) (fun i _ => len1 - (intOf i).toNat)
    case atStart => exact ⟨0, rfl, Nat.zero_le _, rfl, Below.refl _ _⟩
    case round =>
      obtain ⟨n, rfl, hn, HT, HB⟩ := hrel
      by_cases hlt : n < len1
      · have hlt' : (n : Int) < len1 := by omega
        obtain ⟨b, off, c, rfl, hc, c0, c1, c2, c3, c4⟩ := (H1.out.keep HB.out).node hlt
        obtain ⟨b', off', d, rfl, hd, d0, d1, d2, d3, d4⟩ := (H2.out.keep HB.out).node hlt
        have HLT := Lib.hid hlt
        have HC := Lib.hid (And.intro hc hd)
        clear hn hlt hc hd
        by_cases hcd : c = d
        · subst hcd
          obtain ⟨p, fk, fv, tk, tv⟩ := c
          simp only at c0 c1 c2 c3 c4 d0 d1 d2 d3 d4
          have ce := fun w => cmdNeS p fk fv tk tv w
          go_upto_region 6 with (fail)
          go_quiet (fail)
          go_wp2
          go_roundw
          case rel => exact ⟨n + 1, by go_num, HLT.out, by rw [take_push HC.out.1, take_push HC.out.2, HT.out]; exact rfl, below_drewN HB.out _⟩
          case measure => have := HLT.out; simp [intOf]; omega
        · have ce := fun w => cmdNeO c d hcd w
          have HCD := Lib.hid hcd
          clear hcd
          obtain ⟨p, fk, fv, tk, tv⟩ := c
          obtain ⟨p', fk', fv', tk', tv'⟩ := d
          simp only at c0 c1 c2 c3 c4 d0 d1 d2 d3 d4 ce
          go_upto_region 6 with (fail)
          go_quiet (fail)
          go_wp2
          go_ret
          refine ⟨false, rfl, ⟨fun h => (by cases h), fun h => ?_⟩, below_drewN HB.out _⟩
          have h3 := HC.out.1
          rw [h, HC.out.2] at h3
          exact absurd (Option.some.inj h3).symm HCD.out
      · have hnl : n = len1 := by omega
        subst hnl
        go_wp2
        go_ret
        refine ⟨true, rfl, ⟨fun _ => ?_, fun _ => rfl⟩, HB.out⟩
        have h3 := HT.out
        rwa [List.take_of_length_le (by rw [HE.out.1]; exact Nat.le_refl _), List.take_of_length_le (by rw [HE.out.2]; exact Nat.le_refl _)] at h3
  · have hn1 : ((len1 : Int) == len2) = false := beq_eq_false_iff_ne.2 (by omega)
    go_enter Try.func33, Try.ntmps33
    go_wp2
    go_ret
    exact ⟨false, rfl, ⟨fun h => (by cases h), fun h => by subst h; exact absurd (H1.out.1.symm.trans H2.out.1) hne⟩, Below.refl _ _⟩

set_option maxHeartbeats 1000000 in
set_option maxRecDepth 100000 in
theorem implCanonValid_c (a : Option Addr) (len cap : Nat) (cs : List Cmd) (hl : len ≤ 2097152) (hs : ShortC 2097152 cs) (W : World) (hN : CmdsAt W a len cs) :
    Calls Try.prog 14 #[.slice a len cap] W (BoolPost (canonV cs) W) := by
  have HL := Lib.hid (logCanon_c a len cap cs hl hs W hN)
  have HN := Lib.hid hN
  have HLN := Lib.hid hl
  clear hN hs hl
  go_enter Try.func14, Try.ntmps14
  go_wp2_with fail
  refine HL.out.mono ?_
  rintro e W1 ⟨sl, rfl, ho, hb⟩
  have B1 := Lib.hid hb
  have HSELF := Lib.hid (canonV_self cs)
  cases hr : logCanon cs with
  | mk out ok =>
    rw [hr] at ho HSELF
    cases ok with
    | false =>
      have HV : Hid (canonV cs = false) := by
        cases hv : canonV cs with
        | false => exact rfl
        | true => have := HSELF.out.1 hv; cases this
      clear ho hb hr
      go_wp2
      go_ret
      exact ⟨ret_bool HV.out.symm, B1.out⟩
    | true =>
      obtain ⟨a', cap', rfl, hA⟩ := cmds_of_own ho
      have HLO := Lib.hid (canon_some hr)
      have HEQ := Lib.hid (equalC_c a' a out.length cap' len cap out cs (by have h1 := HLO.out; have h2 := ((validL_iff cs).1 h1.1).2; have h3 := h1.2.2.2.2.2; omega) HLN.out W1 hA (HN.out.keep hb))
      clear ho hb hr
      go_wp2_with fail
      refine HEQ.out.mono ?_
      rintro e W2 ⟨b, rfl, hbe, hb2⟩
      have HV : Hid (b = canonV cs) := by
        rw [show b = canonV cs ↔ (b = true ↔ canonV cs = true) from by cases b <;> cases canonV cs <;> simp]
        rw [hbe, HSELF.out]
        exact ⟨fun h => by rw [h], fun h => by injection h⟩
      have B2 := Lib.hid (below_next B1.out hb2)
      clear hbe hb2
      go_wp2
      go_ret
      exact ⟨ret_bool HV.out, B2.out⟩

set_option maxHeartbeats 1000000 in
set_option maxRecDepth 100000 in
theorem implCanonJoin_c (a1 : Option Addr) (len1 cap1 : Nat) (cs : List Cmd) (a2 : Option Addr) (len2 cap2 : Nat) (ds : List Cmd) (hl : len1 + len2 ≤ 2097152) (hs1 : ShortC 2097152 cs) (hs2 : ShortC 2097152 ds) (W : World) (h1 : CmdsAt W a1 len1 cs) (h2 : CmdsAt W a2 len2 ds) :
    Calls Try.prog 16 #[.slice a1 len1 cap1, .slice a2 len2 cap2] W (MovePost (logCanon (cs ++ ds)) W) := by
  have HLN := Lib.hid (show cs.length = len1 ∧ ds.length = len2 from ⟨h1.1, h2.1⟩)
  have HC := Lib.hid (concatC_c W.heap.size 0 2 [⟨a1, len1, cap1, cs⟩, ⟨a2, len2, cap2, ds⟩] (by simp) (by rw [all_two, List.length_append, HLN.out.1, HLN.out.2]; exact hl) (W.alloc (.cells #[.slice a1 len1 cap1, .slice a2 len2 cap2] 23)) (rowsC_two W h1 h2 _))
  have HS := Lib.hid (show ShortC 2097152 (cs ++ ds) from fun c hc => (List.mem_append.1 hc).elim (hs1 c) (hs2 c))
  have HL := Lib.hid hl
  clear h1 h2 hs1 hs2 hl
  obtain ⟨out, ok, hr⟩ : ∃ out ok, logCanon (cs ++ ds) = (out, ok) := ⟨_, _, rfl⟩
  have HR := Lib.hid hr
  rw [hr]
  clear hr
  go_enter Try.func16, Try.ntmps16
  go_wp2_with fail
  refine HC.out.mono ?_
  rintro e W1 ⟨⟨sl, rfl, ho⟩, hb⟩
  rw [all_two] at ho
  obtain ⟨xs, hxs⟩ : ∃ xs, cs ++ ds = xs := ⟨_, rfl⟩
  rw [hxs] at ho
  obtain ⟨a, cap, rfl, hA⟩ := cmds_of_own ho
  have HLC := Lib.hid (show Calls Try.prog 11 #[.slice a xs.length cap] W1 (MovePost (out, ok) W1) by
    have := logCanon_c a xs.length cap xs (by rw [← hxs, List.length_append, HLN.out.1, HLN.out.2]; exact HL.out) (by rw [← hxs]; exact HS.out) W1 hA
    rw [← hxs, HR.out, hxs] at this
    exact this)
  clear hxs
  have B1 := Lib.hid (below_next (below_box W _) hb)
  clear ho hb hA
  go_wp2_with fail
  refine HLC.out.mono ?_
  rintro e W2 ⟨sl, rfl, ho, hb⟩
  have HO := Lib.hid ho
  have HB := Lib.hid (And.intro (below_next B1.out hb) B1.out.size)
  clear ho hb
  go_wp2
  go_ret2
  exact move_end rfl (own_lower HO.out HB.out.2) HB.out.1

end Go.Proofs.Ytnboodcllmdjeaa

/-
  WALKS: laws.sameNodes, laws.sameTexts at equal lists.
-/
namespace Go.Proofs.Ytnboodcllmdjeaa
open Go.RowKit
set_option linter.unusedVariables false

/-- A list of texts in memory. -/
def TextsAt (W : World) (a : Option Addr) (len : Nat) (xs : List ByteArray) : Prop :=
  xs.length = len ∧ (len = 0 ∨ ∃ b off, a = some ⟨b, off, none⟩ ∧ ∀ i x, xs[i]? = some x → W.cell? ⟨b, off + i, none⟩ = some (.string x))

theorem TextsAt.keep {W W' : World} {a : Option Addr} {len : Nat} {xs : List ByteArray} (h : TextsAt W a len xs) (hb : Below W.heap.size W W') : TextsAt W' a len xs := by
  obtain ⟨h1, h0 | ⟨b, off, ha, hc⟩⟩ := h
  · exact ⟨h1, .inl h0⟩
  · exact ⟨h1, .inr ⟨b, off, ha, fun i x hx => cell_kept hb (hc i x hx)⟩⟩

theorem texts_of_own {W : World} {base : Nat} {e : TypeId} {v : Value} {xs : List ByteArray} (h : W.ownsRow base e 1 v xs.length (xs.map Value.string)) :
    ∃ a cap, v = .slice a xs.length cap ∧ TextsAt W a xs.length xs := by
  rcases h.2 with ⟨rfl, h0⟩ | ⟨g, cap, cur, rfl, h1, h2, h3, h4, h5, h6⟩
  · exact ⟨none, 0, by rw [h0], rfl, .inl h0⟩
  · refine ⟨some ⟨g, 0, none⟩, cap, rfl, rfl, .inr ⟨g, 0, rfl, fun i x hx => ?_⟩⟩
    have hi := (List.getElem?_eq_some_iff.1 hx).1
    rw [Nat.zero_add, h.cellAt i (by omega), List.getElem?_map, hx]
    rfl

theorem below_drewN {n : Nat} {W W' : World} (h : Below n W W') (k : Nat) : Below n W (W'.drewN k) := by
  have e := (drewN_cell W' k ⟨0, 0, none⟩).2.2
  exact ⟨h.os, h.tape, h.output, by rw [e]; exact h.size, fun j hj => by rw [e]; exact h.block j hj⟩

theorem TextsAt.node {W : World} {a : Option Addr} {len : Nat} {xs : List ByteArray} (h : TextsAt W a len xs) {i : Nat} (hi : i < len) :
    ∃ b off x, a = some ⟨b, off, none⟩ ∧ xs[i]? = some x ∧ W.cell? ⟨b, off + i, none⟩ = some (.string x) := by
  obtain ⟨h1, h0 | ⟨b, off, ha, hc⟩⟩ := h
  · omega
  · obtain ⟨x, hx⟩ : ∃ x, xs[i]? = some x := ⟨_, List.getElem?_eq_getElem (by omega)⟩
    exact ⟨b, off, x, ha, hx, hc i x hx⟩

end Go.Proofs.Ytnboodcllmdjeaa

/-
  WALKS: laws.toNode, laws.toNodeS, laws.szNodeS: lists of nodes that come from outside.
-/
namespace Go.Proofs.Ytnboodcllmdjeaa
open Go.RowKit
set_option linter.unusedVariables false

/-- A node as a value. -/
abbrev nodeV (n : Nd) : Value := .agg #[.string n.p, .int .i64 n.k, .int .i64 n.v]

def NodeRet (n : Nd) (w : World) (e : Ending) (w' : World) : Prop := e = .returned (nodeV n) ∧ Below w.heap.size w w'

theorem node_results (s : Nat) (fn : Func) (hf : fn.results = #[.cell s 112]) (W : World) (g : Nat) (n : Nd) (tmps : Array Value) (ht : tmps[s]? = some (.pointer (some ⟨g, 0, none⟩)))
    (h : W.cell? ⟨g, 0, none⟩ = some (.string n.p) ∧ W.cell? ⟨g, 1, none⟩ = some (.int .i64 n.k) ∧ W.cell? ⟨g, 2, none⟩ = some (.int .i64 n.v)) : (results fn tmps).run Try.prog W = .ok (nodeV n) W := by
  obtain ⟨c0, c1, c2⟩ := h
  simp [results, hf, go_sem, ht, c0, c1, c2]

/-- A block of cells of the call's own. -/
def Blk (W : World) (g : Nat) (cs : Array Value) (t : TypeId) : Prop := W.heap[g]? = some (.cells cs t (0, 0))

theorem blk_new (W : World) (cs : Array Value) (t : TypeId) : Blk (W.alloc (.cells cs t)) W.heap.size cs t := World.alloc_heap_new _ _
theorem Blk.lt {W : World} {g : Nat} {cs : Array Value} {t : TypeId} (h : Blk W g cs t) : g < W.heap.size := by
  unfold Blk at h
  exact (Array.getElem?_eq_some_iff.1 h).1
theorem Blk.below {W W' : World} {g : Nat} {cs : Array Value} {t : TypeId} (h : Blk W g cs t) (hb : Below W.heap.size W W') : Blk W' g cs t := (hb.block g h.lt).trans h
theorem Blk.cell {W : World} {g : Nat} {cs : Array Value} {t : TypeId} (h : Blk W g cs t) (i : Nat) : W.cell? ⟨g, i, none⟩ = cs[i]? := cell_of_row W g i cs t (0, 0) h
theorem Blk.frozen {W : World} {g : Nat} {cs : Array Value} {t : TypeId} (h : Blk W g cs t) (i : Nat) : W.frozen? ⟨g, i, none⟩ = false := frozen_of_row W g i cs t h
theorem Blk.set {W : World} {g : Nat} {cs : Array Value} {t : TypeId} (h : Blk W g cs t) (i : Nat) (u : Value) : Blk (W.setCell ⟨g, i, none⟩ u) g (cs.setIfInBounds i u) t := heap_setCell_same W g i cs t u h
theorem Blk.setOther {W : World} {g : Nat} {cs : Array Value} {t : TypeId} (h : Blk W g cs t) (a : Addr) (u : Value) (ha : g ≠ a.block) : Blk (W.setCell a u) g cs t := (heap_setCell_other W a g u ha).trans h

theorem flatN_take_set : ∀ (ns : List Nd) (i : Nat) (n : Nd) (zs : List Value), ns[i]? = some n → 3 ≤ zs.length →
    (((flatN (ns.take i) ++ zs).set (i * 3) (.string n.p)).set (i * 3 + 1) (.int .i64 n.k)).set (i * 3 + 2) (.int .i64 n.v) = flatN (ns.take (i + 1)) ++ zs.drop 3 := by
  intro ns i n zs hn hz
  have hi := (List.getElem?_eq_some_iff.1 hn).1
  have hl : (flatN (ns.take i)).length = i * 3 := by rw [flatN_length, List.length_take]; omega
  rw [List.take_add_one, hn, flatN_append]
  match zs, hz with
  | a :: b :: c :: r, _ =>
    show _ = (flatN (ns.take i) ++ [.string n.p, .int .i64 n.k, .int .i64 n.v]) ++ r
    rw [List.set_append_right _ _ (by omega), hl, show i * 3 - i * 3 = 0 by omega]
    rw [List.set_append_right _ _ (by omega), hl, show i * 3 + 1 - i * 3 = 1 by omega]
    rw [List.set_append_right _ _ (by omega), hl, show i * 3 + 2 - i * 3 = 2 by omega]
    simp

theorem below_of_none {W w : World} (h : W.grownBy w none) : Below W.heap.size W w := ⟨h.os, h.tape, h.output, h.size, fun k hk => h.block k hk (by simp)⟩

theorem stored3 {W : World} {base : Nat} {e : TypeId} {g cap n : Nat} {xs : List Value} (h : W.ownsRow base e 3 (.slice (some ⟨g, 0, none⟩) n cap) n xs) (j : Nat) (u v x : Value) :
    (((W.setCell ⟨g, j, none⟩ u).setCell ⟨g, j + 1, none⟩ v).setCell ⟨g, j + 2, none⟩ x).ownsRow base e 3 (.slice (some ⟨g, 0, none⟩) n cap) n (((xs.set j u).set (j + 1) v).set (j + 2) x) :=
  ((((h.stored j u).1.stored (j + 1) v).1).stored (j + 2) x).1

def ToRel (ns : List Nd) (len : Nat) (W : World) (i : Value) (wr : World) : Prop :=
  ∃ (n : Nat) (zs : List Value), i = .int .i64 n ∧ n ≤ len ∧ zs.length = (len - n) * 3 ∧ wr.ownsRow W.heap.size 112 3 (.slice (some ⟨W.heap.size, 0, none⟩) len len) len (flatN (ns.take n) ++ zs) ∧ Hid (Below W.heap.size W wr)

end Go.Proofs.Ytnboodcllmdjeaa

/-
  WALKS: lists of commands in the laws: laws.toCommandS, szCommandS, eqCommandS, sameLog.
-/
namespace Go.Proofs.Ytnboodcllmdjeaa
open Go.RowKit
set_option linter.unusedVariables false

theorem flatC_take_set : ∀ (cs : List Cmd) (i : Nat) (c : Cmd) (zs : List Value), cs[i]? = some c → 5 ≤ zs.length →
    (((((flatC (cs.take i) ++ zs).set (i * 5) (.string c.p)).set (i * 5 + 1) (.int .i64 c.fk)).set (i * 5 + 2) (.int .i64 c.fv)).set (i * 5 + 3) (.int .i64 c.tk)).set (i * 5 + 4) (.int .i64 c.tv) = flatC (cs.take (i + 1)) ++ zs.drop 5 := by
  intro cs i c zs hn hz
  have hi := (List.getElem?_eq_some_iff.1 hn).1
  have hl : (flatC (cs.take i)).length = i * 5 := by rw [flatC_length, List.length_take]; omega
  rw [List.take_add_one, hn, flatC_append]
  match zs, hz with
  | a :: b :: c' :: d :: e :: r, _ =>
    show _ = (flatC (cs.take i) ++ [.string c.p, .int .i64 c.fk, .int .i64 c.fv, .int .i64 c.tk, .int .i64 c.tv]) ++ r
    rw [List.set_append_right _ _ (by omega), hl, show i * 5 - i * 5 = 0 by omega]
    rw [List.set_append_right _ _ (by omega), hl, show i * 5 + 1 - i * 5 = 1 by omega]
    rw [List.set_append_right _ _ (by omega), hl, show i * 5 + 2 - i * 5 = 2 by omega]
    rw [List.set_append_right _ _ (by omega), hl, show i * 5 + 3 - i * 5 = 3 by omega]
    rw [List.set_append_right _ _ (by omega), hl, show i * 5 + 4 - i * 5 = 4 by omega]
    simp

theorem stored5 {W : World} {base : Nat} {e : TypeId} {g cap n : Nat} {xs : List Value} (h : W.ownsRow base e 5 (.slice (some ⟨g, 0, none⟩) n cap) n xs) (j : Nat) (u v x y z : Value) :
    (((((W.setCell ⟨g, j, none⟩ u).setCell ⟨g, j + 1, none⟩ v).setCell ⟨g, j + 2, none⟩ x).setCell ⟨g, j + 3, none⟩ y).setCell ⟨g, j + 4, none⟩ z).ownsRow base e 5 (.slice (some ⟨g, 0, none⟩) n cap) n (((((xs.set j u).set (j + 1) v).set (j + 2) x).set (j + 3) y).set (j + 4) z) :=
  ((((((h.stored j u).1.stored (j + 1) v).1).stored (j + 2) x).1.stored (j + 3) y).1.stored (j + 4) z).1

def ToRelC (cs : List Cmd) (len : Nat) (W : World) (i : Value) (wr : World) : Prop :=
  ∃ (n : Nat) (zs : List Value), i = .int .i64 n ∧ n ≤ len ∧ zs.length = (len - n) * 5 ∧ wr.ownsRow W.heap.size 36 5 (.slice (some ⟨W.heap.size, 0, none⟩) len len) len (flatC (cs.take n) ++ zs) ∧ Hid (Below W.heap.size W wr)

set_option maxHeartbeats 2000000 in
set_option maxRecDepth 100000 in
theorem toCommandS_c (a : Option Addr) (len cap : Nat) (cs : List Cmd) (hl : len ≤ 2097152) (W : World) (hN : CmdsAt W a len cs) :
    Calls Try.prog 21 #[.slice a len cap] W (CmdsPost cs W) := by
  obtain ⟨i0, hi, hz0, hz1, hz2⟩ := info_parts infoCmd
  have HN := Lib.hid hN
  have HE := Lib.hid hN.1
  have HT := Lib.hid (fun c w => toCommand_c c w)
  have HL := Lib.hid hl
  clear hN
  go_enter Try.func21, Try.ntmps21
  go_wp2_with (refine wpList_make_full _ rfl _ _ 23 rfl W.heap.size 36 i0 (.agg #[.string ⟨#[]⟩, .int .i64 0, .int .i64 0, .int .i64 0, .int .i64 0]) 5 Try.underlying23 hi hz0 hz1 .i64 .i64 _ _ len rfl rfl rfl rfl (by rw [hz2]; omega) (by unfold maxLen; omega) (Nat.le_refl _) ?_; intro w1 hown1 hg1)
  have hb1 := below_of_none hg1
  clear hg1
  go_loopw [4] (fun i wr => ToRelC cs len W i wr) (fun i _ => len - (intOf i).toNat)
  case atStart =>
    refine ⟨0, _, rfl, by omega, ?_, (by simpa [flatC_nil] using hown1), hb1⟩
    have := hown1.1
    omega
  case round =>
    obtain ⟨i, zs, rfl, hi1, hzl, hown, HB⟩ := hrel
    by_cases hlt : i < len
    · obtain ⟨b, off, n, rfl, hn, c0, c1, c2, c3, c4⟩ := (HN.out.keep HB.out).node hlt
      have hlt' : (i : Int) < len := by omega
      have HLT := Lib.hid hlt
      have HNN := Lib.hid hn
      have hz3 : 5 ≤ zs.length := by omega
      have HZ := Lib.hid (And.intro hzl hz3)
      obtain ⟨p, fk, fv, tk, tv⟩ := n
      have HTN := Lib.hid (fun w => HT.out ⟨p, fk, fv, tk, tv⟩ w)
      unfold CmdPost cmdV at HTN
      simp only at c0 c1 c2 c3 c4 HTN
      clear hi1 hlt hn hzl hz3 hown1
      go_wp2_with fail
      refine (HTN.out _).mono ?_; rintro e W2 ⟨rfl, hb2⟩
      have HO2 := Lib.hid (own_below hown hb2)
      have HB2 := Lib.hid (below_next HB.out hb2)
      clear hown hb2 c0 c1 c2 c3 c4
      have hll : (flatC (cs.take i)).length = i * 5 := by rw [flatC_length, List.length_take]; have := HE.out; have := HLT.out; omega
      have cell : ∀ j, j < 5 → ∃ u, W2.cell? ⟨W.heap.size, i * 5 + j, none⟩ = some u := by
        intro j hj
        have hx := HZ.out.1
        have hy := HLT.out
        rw [HO2.out.cellAt _ (by omega)]
        exact ⟨_, List.getElem?_eq_getElem (by rw [List.length_append, hll]; omega)⟩
      obtain ⟨u0, e0⟩ := cell 0 (by omega)
      replace e0 : W2.cell? ⟨W.heap.size, i * 5, none⟩ = some u0 := e0
      obtain ⟨u1, e1⟩ := cell 1 (by omega)
      obtain ⟨u2, e2⟩ := cell 2 (by omega)
      obtain ⟨u3, e3⟩ := cell 3 (by omega)
      obtain ⟨u4, e4⟩ := cell 4 (by omega)
      have y0 := HO2.out.frozenAt (i * 5)
      have y1 := HO2.out.frozenAt (i * 5 + 1)
      have y2 := HO2.out.frozenAt (i * 5 + 2)
      have y3 := HO2.out.frozenAt (i * 5 + 3)
      have y4 := HO2.out.frozenAt (i * 5 + 4)
      clear cell hll
      go_wp2
      have HS3 := stored5 HO2.out (i * 5) (.string p) (.int .i64 fk) (.int .i64 fv) (.int .i64 tk) (.int .i64 tv)
      rw [flatC_take_set cs i ⟨p, fk, fv, tk, tv⟩ zs HNN.out HZ.out.2] at HS3
      go_roundw
      case rel => exact ⟨i + 1, zs.drop 5, by go_num, by have := HLT.out; omega, by rw [List.length_drop]; have h1 := HZ.out.1; have h2 := HZ.out.2; have h3 := HLT.out; omega, HS3, below_setCell (below_setCell (below_setCell (below_setCell (below_setCell HB2.out _ _ (Nat.le_refl _)) _ _ (Nat.le_refl _)) _ _ (Nat.le_refl _)) _ _ (Nat.le_refl _)) _ _ (Nat.le_refl _)⟩
      case measure => have := HLT.out; simp [intOf]; omega
    · have hge : (len : Int) ≤ i := by omega
      have hz0' : zs = [] := List.eq_nil_of_length_eq_zero (by omega)
      subst hz0'
      rw [List.append_nil, List.take_of_length_le (by have := HE.out; omega)] at hown
      clear hi1 hlt
      go_wp2
      go_ret
      exact ⟨⟨_, rfl, by have h := HE.out; rw [h]; exact hown⟩, HB.out⟩

/-- What is left; if anything is, the list and its texts are of modest length. -/
def SzCmds (len : Nat) (cs : List Cmd) (w : World) (e : Ending) (w' : World) : Prop := ∃ z : Int, e = .returned (.int .i64 z) ∧ z ≤ 1048576 ∧ (0 ≤ z → len ≤ 1048576 ∧ ShortC 1048576 cs) ∧ Below w.heap.size w w'

def SzRelC (len : Nat) (cs : List Cmd) (w : World) (l i : Value) (wr : World) : Prop :=
  ∃ (n : Nat) (z : Int), i = .int .i64 n ∧ n ≤ len ∧ l = .int .i64 z ∧ Hid (0 ≤ z ∧ z ≤ 1048576) ∧ Hid (∀ j m, j < n → cs[j]? = some m → m.p.size ≤ 1048576) ∧ Hid (Below w.heap.size w wr)

set_option maxHeartbeats 1000000 in
theorem szCommandS_c (l0 : Int) (hl0 : 0 ≤ l0) (hl1 : l0 ≤ 1048576) (a : Option Addr) (len cap : Nat) (cs : List Cmd) (hlen : len ≤ maxLen) (hm : ShortC maxLen cs) (w : World) (hN : CmdsAt w a len cs) :
    Calls Try.prog 20 #[.slice a len cap, .int .i64 l0] w (SzCmds len cs w) := by
  have HN := Lib.hid hN
  have HE := Lib.hid hN.1
  have HM := Lib.hid hm
  have hl : len ≤ 9223372036854775807 := Nat.le_trans hlen (by unfold maxLen; omega)
  have hw0 : IntKind.i64.wrap (l0 - (len : Int)) = l0 - len := IntWalk.i64_in _ (by omega)
  clear hN hm hlen
  by_cases h : (len : Int) ≤ l0
  · obtain ⟨z, hz⟩ : ∃ z, l0 - len = z := ⟨_, rfl⟩
    have hzp : 0 ≤ z := by omega
    have HZ := Lib.hid (show 0 ≤ z ∧ z ≤ 1048576 by omega)
    have hw := hw0.trans hz
    have HL := Lib.hid (show len ≤ 1048576 by omega)
    have hl2 : (len : Int) ≤ 1048576 := by omega
    clear hz hl h hw0
    go_enter Try.func20, Try.ntmps20
    go_wp2
    clear hzp hw
    go_loopw [1, 5] (fun l i wr => SzRelC len cs w l i wr) (fun _ i _ => len - (intOf i).toNat)
    case atStart => exact ⟨0, z, rfl, by omega, rfl, HZ, Lib.hid (fun j m h _ => absurd h (by omega)), Below.refl _ _⟩
    case round =>
      obtain ⟨i, l, rfl, hi, rfl, HLL, HP, HB⟩ := hrel
      by_cases hlt : i < len
      · obtain ⟨b, off, n, rfl, hn, c0, c1, c2, c3, c4⟩ := (HN.out.keep HB.out).node hlt
        have hlt' : (i : Int) < len := by omega
        have HO := Lib.hid (fun w => szCommand_c n l HLL.out.1 HLL.out.2 (HM.out n (List.mem_of_getElem? hn)) w)
        have HNN := Lib.hid hn
        have HLT := Lib.hid hlt
        obtain ⟨p, fk, fv, tk, tv⟩ := n
        unfold SzCmd cmdV at HO
        simp only at c0 c1 c2 c3 c4 HO
        clear hi hlt hn
        go_wp2_with fail
        refine (HO.out _).mono ?_; rintro e W2 ⟨z2, rfl, hz0, hz1, hz2, hb2⟩
        have HB2 := Lib.hid (below_next HB.out hb2)
        clear c0 c1 c2 c3 c4 hb2
        by_cases hneg : z2 < 0
        · clear hz0 hz1 hz2
          go_wp2
          go_ret
          exact ⟨-1, rfl, by omega, fun h => absurd h (by omega), HB2.out⟩
        · have hpos : 0 ≤ z2 := by omega
          have HZ2 := Lib.hid (And.intro hpos (And.intro hz1 (hz2 hpos)))
          clear hz0 hz1 hz2 hneg
          go_wp2
          go_roundw
          case rel =>
            refine ⟨i + 1, z2, by go_num, by have := HLT.out; omega, rfl, ⟨HZ2.out.1, HZ2.out.2.1⟩, ?_, HB2⟩
            intro j m hj hm
            by_cases hji : j < i
            · exact HP.out j m hji hm
            · have : j = i := by omega
              subst this
              rw [HNN.out] at hm
              obtain rfl := Option.some.inj hm
              exact HZ2.out.2.2
          case measure => have := HLT.out; simp [intOf]; omega
      · have hge : (len : Int) ≤ i := by omega
        have HQ := Lib.hid (show len ≤ i by omega)
        clear hi hlt
        go_wp2
        go_ret
        exact ⟨l, rfl, HLL.out.2, fun _ => ⟨HL.out, fun n hn => by
          obtain ⟨j, hj⟩ := List.getElem?_of_mem hn
          exact HP.out j n (by have h1 := (List.getElem?_eq_some_iff.1 hj).1; have h2 := HE.out; have h3 := HQ.out; omega) hj⟩, HB.out⟩
  · have hz : l0 - len < 0 := by omega
    obtain ⟨z, hz'⟩ : ∃ z, l0 - len = z := ⟨_, rfl⟩
    have hw := hw0.trans hz'
    rw [hz'] at hz
    clear hz' hl h hw0
    go_enter Try.func20, Try.ntmps20
    go_wp2
    go_ret
    exact ⟨-1, rfl, by omega, fun h => absurd h (by omega), Below.refl _ _⟩

/-- Two lists of commands that read alike. -/
def EqRelC (len : Nat) (W : World) (i : Value) (wr : World) : Prop := ∃ n : Nat, i = .int .i64 n ∧ n ≤ len ∧ Hid (Below W.heap.size W wr)

set_option maxHeartbeats 2000000 in
set_option maxRecDepth 100000 in
theorem eqCommandS_c (a1 a2 : Option Addr) (len c1 c2 : Nat) (cs : List Cmd) (hl : len ≤ 2097152) (W : World) (h1 : CmdsAt W a1 len cs) (h2 : CmdsAt W a2 len cs) :
    Calls Try.prog 22 #[.slice a1 len c1, .slice a2 len c2] W (BoolPost true W) := by
  have H1 := Lib.hid h1
  have H2 := Lib.hid h2
  have HC := Lib.hid (fun c w => eqCommand_c c w)
  unfold cmdV at HC
  have hl' : (len : Int) ≤ 2097152 := by omega
  clear h1 h2
  go_enter Try.func22, Try.ntmps22
  go_wp2
  go_loopw [5] (fun i wr => EqRelC len W i wr) (fun i _ => len - (intOf i).toNat)
  case atStart => exact ⟨0, rfl, by omega, Below.refl _ _⟩
  case round =>
    obtain ⟨i, rfl, hi, HB⟩ := hrel
    by_cases hlt : i < len
    · obtain ⟨b, off, n, HA1, hn1, c0, c1, c2, c3, c4⟩ := (H1.out.keep HB.out).node hlt
      obtain ⟨b', off', n', HA2, hn2, d0, d1, d2, d3, d4⟩ := (H2.out.keep HB.out).node hlt
      obtain rfl : n' = n := by rw [hn1] at hn2; exact (Option.some.inj hn2).symm
      have hlt' : (i : Int) < len := by omega
      have hil : (i : Int) ≤ 2097152 := by omega
      have HLT := Lib.hid hlt
      obtain rfl := HA1
      obtain rfl := HA2
      obtain ⟨p, fk, fv, tk, tv⟩ := n'
      simp only at c0 c1 c2 c3 c4 d0 d1 d2 d3 d4
      have HS0 := Lib.hid (show wr.drew.cell? ⟨b, off + i * 5, none⟩ = some (.string p) ∧ wr.drew.cell? ⟨b, off + i * 5 + 1, none⟩ = some (.int .i64 fk) ∧ wr.drew.cell? ⟨b, off + i * 5 + 2, none⟩ = some (.int .i64 fv) ∧ wr.drew.cell? ⟨b, off + i * 5 + 3, none⟩ = some (.int .i64 tk) ∧ wr.drew.cell? ⟨b, off + i * 5 + 4, none⟩ = some (.int .i64 tv) ∧ wr.drew.cell? ⟨b', off' + i * 5, none⟩ = some (.string p) ∧ wr.drew.cell? ⟨b', off' + i * 5 + 1, none⟩ = some (.int .i64 fk) ∧ wr.drew.cell? ⟨b', off' + i * 5 + 2, none⟩ = some (.int .i64 fv) ∧ wr.drew.cell? ⟨b', off' + i * 5 + 3, none⟩ = some (.int .i64 tk) ∧ wr.drew.cell? ⟨b', off' + i * 5 + 4, none⟩ = some (.int .i64 tv) ∧ Below W.heap.size W wr.drew from ⟨c0, c1, c2, c3, c4, d0, d1, d2, d3, d4, HB.out.drew⟩)
      have HCX := Lib.hid (HC.out ⟨p, fk, fv, tk, tv⟩ wr.drew)
      simp only at HCX
      have HKP := Lib.hid (fun (u1 u2 : World) (h : u1.cell? ⟨b, off + i * 5, none⟩ = some (.string p) ∧ u1.cell? ⟨b, off + i * 5 + 1, none⟩ = some (.int .i64 fk) ∧ u1.cell? ⟨b, off + i * 5 + 2, none⟩ = some (.int .i64 fv) ∧ u1.cell? ⟨b, off + i * 5 + 3, none⟩ = some (.int .i64 tk) ∧ u1.cell? ⟨b, off + i * 5 + 4, none⟩ = some (.int .i64 tv) ∧ u1.cell? ⟨b', off' + i * 5, none⟩ = some (.string p) ∧ u1.cell? ⟨b', off' + i * 5 + 1, none⟩ = some (.int .i64 fk) ∧ u1.cell? ⟨b', off' + i * 5 + 2, none⟩ = some (.int .i64 fv) ∧ u1.cell? ⟨b', off' + i * 5 + 3, none⟩ = some (.int .i64 tk) ∧ u1.cell? ⟨b', off' + i * 5 + 4, none⟩ = some (.int .i64 tv) ∧ Below W.heap.size W u1) (hb : Below u1.heap.size u1 u2) => show u2.cell? ⟨b, off + i * 5, none⟩ = some (.string p) ∧ u2.cell? ⟨b, off + i * 5 + 1, none⟩ = some (.int .i64 fk) ∧ u2.cell? ⟨b, off + i * 5 + 2, none⟩ = some (.int .i64 fv) ∧ u2.cell? ⟨b, off + i * 5 + 3, none⟩ = some (.int .i64 tk) ∧ u2.cell? ⟨b, off + i * 5 + 4, none⟩ = some (.int .i64 tv) ∧ u2.cell? ⟨b', off' + i * 5, none⟩ = some (.string p) ∧ u2.cell? ⟨b', off' + i * 5 + 1, none⟩ = some (.int .i64 fk) ∧ u2.cell? ⟨b', off' + i * 5 + 2, none⟩ = some (.int .i64 fv) ∧ u2.cell? ⟨b', off' + i * 5 + 3, none⟩ = some (.int .i64 tk) ∧ u2.cell? ⟨b', off' + i * 5 + 4, none⟩ = some (.int .i64 tv) ∧ Below W.heap.size W u2 from ⟨cell_kept hb h.1, cell_kept hb h.2.1, cell_kept hb h.2.2.1, cell_kept hb h.2.2.2.1, cell_kept hb h.2.2.2.2.1, cell_kept hb h.2.2.2.2.2.1, cell_kept hb h.2.2.2.2.2.2.1, cell_kept hb h.2.2.2.2.2.2.2.1, cell_kept hb h.2.2.2.2.2.2.2.2.1, cell_kept hb h.2.2.2.2.2.2.2.2.2.1, below_next h.2.2.2.2.2.2.2.2.2.2 hb⟩)
      clear hlt hi hn1 hn2 c0 c1 c2 c3 c4 d0 d1 d2 d3 d4
      go_upto_region 6 with (fail)
      go_region_held3 (fun w' => w'.cell? ⟨b, off + i * 5, none⟩ = some (.string p) ∧ w'.cell? ⟨b, off + i * 5 + 1, none⟩ = some (.int .i64 fk) ∧ w'.cell? ⟨b, off + i * 5 + 2, none⟩ = some (.int .i64 fv) ∧ w'.cell? ⟨b, off + i * 5 + 3, none⟩ = some (.int .i64 tk) ∧ w'.cell? ⟨b, off + i * 5 + 4, none⟩ = some (.int .i64 tv) ∧ w'.cell? ⟨b', off' + i * 5, none⟩ = some (.string p) ∧ w'.cell? ⟨b', off' + i * 5 + 1, none⟩ = some (.int .i64 fk) ∧ w'.cell? ⟨b', off' + i * 5 + 2, none⟩ = some (.int .i64 fv) ∧ w'.cell? ⟨b', off' + i * 5 + 3, none⟩ = some (.int .i64 tk) ∧ w'.cell? ⟨b', off' + i * 5 + 4, none⟩ = some (.int .i64 tv) ∧ Below W.heap.size W w')
        (first | exact HS0.out | exact HKP.out _ _ HS0.out hb7)
        (first | (go_at_call 43; (with_reducible refine (HCX.out).mono ?_); rintro e W7 ⟨rfl, hb7⟩))
      rename_i hS
      have HB7 := Lib.hid hS.2.2.2.2.2.2.2.2.2.2
      clear hS
      go_wp2
      go_roundw
      case rel => exact ⟨i + 1, by go_num, by have := HLT.out; omega, HB7.out⟩
      case measure => have := HLT.out; simp [intOf]; omega
    · have hge : (len : Int) ≤ i := by omega
      clear hi hlt
      go_wp2
      go_ret
      exact ⟨rfl, HB.out⟩

set_option maxHeartbeats 2000000 in
set_option maxRecDepth 100000 in
theorem sameLog_c (a1 a2 : Option Addr) (len c1 c2 : Nat) (cs : List Cmd) (hl : len ≤ 2097152) (W : World) (h1 : CmdsAt W a1 len cs) (h2 : CmdsAt W a2 len cs) :
    Calls Try.prog 13 #[.slice a1 len c1, .slice a2 len c2] W (BoolPost true W) := by
  have H1 := Lib.hid h1
  have H2 := Lib.hid h2
  clear h1 h2
  go_enter Try.func13, Try.ntmps13
  go_wp2
  go_loopw [5] (fun i wr => ∃ n : Nat, i = .int .i64 n ∧ n ≤ len ∧ Hid (Below W.heap.size W wr)) (fun i _ => len - (intOf i).toNat)
  case atStart => exact ⟨0, rfl, by omega, Below.refl _ _⟩
  case round =>
    obtain ⟨i, rfl, hi, HB⟩ := hrel
    by_cases hlt : i < len
    · obtain ⟨b, off, n, rfl, hn, c0, c1, c2, c3, c4⟩ := (H1.out.keep HB.out).node hlt
      obtain ⟨b', off', n', rfl, hn', d0, d1, d2, d3, d4⟩ := (H2.out.keep HB.out).node hlt
      obtain rfl : n = n' := Option.some.inj (hn.symm.trans hn')
      have hlt' : (i : Int) < len := by omega
      have hi0 : (0 : Int) ≤ i := by omega
      have HLT := Lib.hid hlt
      obtain ⟨p, fk, fv, tk, tv⟩ := n
      simp only at c0 c1 c2 c3 c4 d0 d1 d2 d3 d4
      have hne := fun w => cmdNeS p fk fv tk tv w
      clear hi hlt hn hn'
      go_wp2
      go_quiet (fail)
      have HB2 := Lib.hid (below_drewN HB.out nq)
      clear c0 c1 c2 c3 c4 d0 d1 d2 d3 d4
      go_wp2
      go_roundw
      case rel => exact ⟨i + 1, by go_num, by have := HLT.out; omega, HB2⟩
      case measure => have := HLT.out; simp [intOf]; omega
    · have hge : (len : Int) ≤ i := by omega
      clear hi hlt
      go_wp2
      go_ret
      exact ⟨rfl, HB.out⟩

end Go.Proofs.Ytnboodcllmdjeaa

/-
  WALKS: laws.eqNode, laws.eqNodeS, at equal lists.
-/
namespace Go.Proofs.Ytnboodcllmdjeaa
open Go.RowKit
def EqRel (len : Nat) (W : World) (i : Value) (wr : World) : Prop := ∃ n : Nat, i = .int .i64 n ∧ n ≤ len ∧ Hid (Below W.heap.size W wr)

end Go.Proofs.Ytnboodcllmdjeaa

/-
  TEXTS OF PLACES: what stands ahead of a name (strings.TrimSuffix of a slash, and a slash).
-/
namespace Go.Proofs.Ytnboodcllmdjeaa
open Go.RowKit

def begB (v : List UInt8) : ByteArray := if v = [] then ⟨#[47]⟩ else pB v ++ ⟨#[47]⟩

theorem begB_name (v : List UInt8) (c : UInt8) : begB v ++ ⟨#[c]⟩ = pB (v ++ [c]) := by
  unfold begB
  by_cases h : v = []
  · rw [if_pos h, h]; rfl
  · rw [if_neg h]
    apply ByteArray.ext
    apply Array.ext'
    simp only [ByteArray.data_append, Array.toList_append]
    rw [pB_list, pB_list]
    unfold Pm.pathOf
    rw [if_neg h, if_neg (by simp), Pm.flat_append, List.append_assoc]
    rfl

theorem pB_last {v : List UInt8} (hv : Wrd v) (hn : v ≠ []) : ∃ m c, (pB v).size = m + 1 ∧ ((pB v).extract m (m + 1)).toList = [c] ∧ c ≠ 47 := by
  have e := Pm.flat_last v hn
  have hs : (pB v).data.toList = Pm.flat v.dropLast ++ [47, v.getLast hn] := by
    rw [pB_list]; unfold Pm.pathOf; rw [if_neg hn]; exact e
  have hz : (pB v).size = (Pm.flat v.dropLast ++ [47, v.getLast hn]).length := by rw [← hs]; rfl
  refine ⟨(Pm.flat v.dropLast).length + 1, v.getLast hn, by rw [hz]; simp, ?_, Pm.letter_not_47 (hv.2 _ (List.getLast_mem hn))⟩
  rw [Lib.toList_data, ByteArray.data_extract, Array.toList_extract, hs]
  simp [List.extract_eq_take_drop]

theorem beg_eq (v : List UInt8) : (if v = [] then (⟨#[]⟩ : ByteArray) else pB v) ++ ⟨#[47]⟩ = begB v := by
  unfold begB; split <;> rfl

end Go.Proofs.Ytnboodcllmdjeaa

/-
  WALKS: the nodes behind a place (impl.place.nodes).
-/
namespace Go.Proofs.Ytnboodcllmdjeaa
open Go.RowKit
set_option linter.unusedVariables false

/-- What is behind one letter. -/
def part (F : List UInt8 → Int × Int) (d : Nat) (w : List UInt8) (c : UInt8) : List Nd := oneAt F (w ++ [c]) ++ lst F d (w ++ [c])
def accN (F : List UInt8 → Int × Int) (d : Nat) (w : List UInt8) (n : Nat) : List Nd := (letters.take n).flatMap (part F d w)

theorem accN_four (F : List UInt8 → Int × Int) (d : Nat) (w : List UInt8) : accN F d w 4 = lst F (d + 1) w := rfl

theorem lst_len (F : List UInt8 → Int × Int) : ∀ (d : Nat) (w : List UInt8), (lst F d w).length + 1 ≤ 8 ^ d
  | 0, _ => by simp [lst]
  | d + 1, w => by
    have ho : ∀ u, (oneAt F u).length ≤ 1 := fun u => by unfold oneAt; split <;> simp
    have h1 := lst_len F d (w ++ [97])
    have h2 := lst_len F d (w ++ [98])
    have h3 := lst_len F d (w ++ [99])
    have h4 := lst_len F d (w ++ [100])
    have o1 := ho (w ++ [97])
    have o2 := ho (w ++ [98])
    have o3 := ho (w ++ [99])
    have o4 := ho (w ++ [100])
    have e : (lst F (d + 1) w).length = ((oneAt F (w ++ [97])).length + (lst F d (w ++ [97])).length) + (((oneAt F (w ++ [98])).length + (lst F d (w ++ [98])).length) + (((oneAt F (w ++ [99])).length + (lst F d (w ++ [99])).length) + ((oneAt F (w ++ [100])).length + (lst F d (w ++ [100])).length))) := by
      rw [show lst F (d + 1) w = letters.flatMap (part F d w) from rfl]
      unfold letters
      simp only [List.flatMap_cons, List.flatMap_nil, List.length_append, List.length_nil, Nat.add_zero]
      unfold part
      simp only [List.length_append]
    rw [e, Nat.pow_succ]
    have : 1 ≤ 8 ^ d := Nat.one_le_pow _ _ (by omega)
    omega

theorem lst_le {F : List UInt8 → Int × Int} {d : Nat} (hd : d ≤ 4) (w : List UInt8) : (lst F d w).length ≤ 4096 := by
  have h := lst_len F d w
  have : 8 ^ d ≤ 8 ^ 4 := Nat.pow_le_pow_right (by omega) hd
  omega

theorem accN_le {F : List UInt8 → Int × Int} {d : Nat} (hd : d < 4) (w : List UInt8) (n : Nat) : (accN F d w n).length ≤ 4096 := by
  have h : (accN F d w n).length ≤ (lst F (d + 1) w).length := by
    unfold accN
    rw [show lst F (d + 1) w = (letters.take n ++ letters.drop n).flatMap (part F d w) by rw [List.take_append_drop]; rfl, List.flatMap_append, List.length_append]
    omega
  have := lst_le (F := F) (show d + 1 ≤ 4 by omega) w
  omega

theorem accN_next (F : List UInt8 → Int × Int) (d : Nat) (w : List UInt8) {n : Nat} (hn : n < 4) : accN F d w (n + 1) = accN F d w n ++ part F d w (UInt8.ofNat (97 + n)) := by
  rcases (by omega : n = 0 ∨ n = 1 ∨ n = 2 ∨ n = 3) with rfl | rfl | rfl | rfl <;> simp [accN, letters] <;> rfl

theorem oneAt_zero {F : List UInt8 → Int × Int} {u : List UInt8} (h : (F u).1 = 0) : oneAt F u = [] := if_pos h
theorem oneAt_some {F : List UInt8 → Int × Int} {u : List UInt8} (h : (F u).1 ≠ 0) : oneAt F u = [ndAt F u] := if_neg h

theorem letter_nth {n : Nat} (hn : n < 4) : Pm.letter (UInt8.ofNat (97 + n)) = true := by
  rcases (by omega : n = 0 ∨ n = 1 ∨ n = 2 ∨ n = 3) with rfl | rfl | rfl | rfl <;> decide

theorem encode_nth {n : Nat} (hn : n < 4) : Utf8.encode (97 + (n : Int)) = ⟨#[UInt8.ofNat (97 + n)]⟩ := by
  rcases (by omega : n = 0 ∨ n = 1 ∨ n = 2 ∨ n = 3) with rfl | rfl | rfl | rfl <;> rfl

theorem flatN_one_cell (ns : List Nd) : ∀ u ∈ flatN ns, u.oneCell' = true := by
  intro u hu
  unfold flatN at hu
  obtain ⟨n, _, hn⟩ := List.mem_flatMap.1 hu
  simp at hn
  rcases hn with rfl | rfl | rfl <;> rfl

theorem own_cells {W : World} {base : Nat} {e : TypeId} {ns : List Nd} {g cap : Nat} (h : W.ownsRow base e 3 (.slice (some ⟨g, 0, none⟩) ns.length cap) ns.length (flatN ns)) :
    ∀ j u, (flatN ns)[j]? = some u → W.cell? ((⟨g, 0, none⟩ : Addr).add j) = some u := by
  intro j u hj
  have hl := flatN_length ns
  have hj' := (List.getElem?_eq_some_iff.1 hj).1
  have := h.cellAt j (by omega)
  have e2 : ((⟨g, 0, none⟩ : Addr).add j) = ⟨g, j, none⟩ := by
    unfold Addr.add
    split
    · rename_i h0; rw [h0]
    · simp
  rw [e2]
  exact this.trans hj

theorem own_join {W : World} {b : Nat} {e : TypeId} {v : Value} {acc more : List Nd} (h : W.ownsRow b e 3 v (acc.length + more.length) (flatN acc ++ flatN more)) : W.ownsRow b e 3 v (acc ++ more).length (flatN (acc ++ more)) := by
  rw [flatN_append, List.length_append]; exact h

theorem own_cases {W : World} {base : Nat} {e : TypeId} {size n : Nat} {v : Value} {xs : List Value} (h : W.ownsRow base e size v n xs) : (v = .slice none 0 0 ∧ n = 0) ∨ ∃ g cap, v = .slice (some ⟨g, 0, none⟩) n cap := by
  rcases h.2 with h | ⟨g, cap, _, h, _⟩
  · exact .inl h
  · exact .inr ⟨g, cap, h⟩

/-- What nodes returns. -/
def NodesPost (F : List UInt8 → Int × Int) (d : Nat) (w : List UInt8) (W : World) (e : Ending) (W' : World) : Prop := OwnsNodes W.heap.size (lst F d w) e W' ∧ Below W.heap.size W W'

def NodesRel (F : List UInt8 → Int × Int) (d : Nat) (w : List UInt8) (W : World) (o i : Value) (wr : World) : Prop :=
  ∃ n : Nat, i = .int .i64 n ∧ n ≤ 4 ∧ wr.ownsRow W.heap.size 112 3 o (accN F d w n).length (flatN (accN F d w n)) ∧ Hid (Below W.heap.size W wr)

end Go.Proofs.Ytnboodcllmdjeaa

/-
  WALKS: laws.markText, markNodeS, markStringS, heldNodeS, heldStringS, eqStringS: what a test writes into memory of the program's, and finds again.
-/
namespace Go.Proofs.Ytnboodcllmdjeaa
open Go.RowKit
set_option linter.unusedVariables false

/-- The digits of a number, ahead of a text. -/
def digs : Nat → Nat → ByteArray → ByteArray
  | 0, _, out => out
  | f + 1, k, out => if k = 0 then out else digs f (k / 10) (⟨#[UInt8.ofNat (48 + k % 10)]⟩ ++ out)

/-- The text of a mark. -/
def mtext (k : Nat) : ByteArray := ⟨#[109]⟩ ++ digs k k ⟨#[]⟩

theorem digs_zero (f : Nat) (out : ByteArray) : digs f 0 out = out := by cases f <;> simp [digs]
theorem digs_more : ∀ (f g k : Nat) (out : ByteArray), k ≤ f → k ≤ g → digs f k out = digs g k out
  | 0, g, k, out, h, _ => by rw [show k = 0 by omega, digs_zero, digs_zero]
  | f + 1, 0, k, out, _, h => by rw [show k = 0 by omega, digs_zero, digs_zero]
  | f + 1, g + 1, k, out, h1, h2 => by
    unfold digs
    split
    · rfl
    · exact digs_more f g _ _ (by omega) (by omega)
theorem digs_step {k : Nat} (out : ByteArray) (hk : 0 < k) : digs k k out = digs (k / 10) (k / 10) (⟨#[UInt8.ofNat (48 + k % 10)]⟩ ++ out) := by
  obtain ⟨f, rfl⟩ : ∃ f, k = f + 1 := ⟨k - 1, by omega⟩
  conv => lhs; unfold digs
  rw [if_neg (by omega)]
  exact digs_more _ _ _ _ (by omega) (by omega)

theorem convByte (w : World) (r : Nat) (hr : r ≤ 9) : (convert 22 9 (.slice (some ⟨w.heap.size, 0, none⟩) 1 1)).run Try.prog (w.alloc (.cells #[.int .u8 (48 + (r : Int))] 5)) =
    .ok (.string ⟨#[UInt8.ofNat (48 + r)]⟩) (w.alloc (.cells #[.int .u8 (48 + (r : Int))] 5)) := by
  rw [run_convert_bytes_string _ _ _ _ _ _ _ Try.underlying22 Try.underlying5 Try.underlying9, run_bytesToString _ _ _ _ [48 + (r : Int)] ?_]
  · simp only [List.foldl_cons, List.foldl_nil]
    have : (48 + (r : Int)).toNat = 48 + r := by omega
    rw [this]; rfl
  · simp [loadCells, go_sem, Addr.add]

def MarkRel (k0 : Nat) (W : World) (kv o : Value) (wr : World) : Prop :=
  ∃ (k : Nat) (out : ByteArray), kv = .int .i64 k ∧ o = .string out ∧ out.size + k ≤ k0 ∧ Hid (digs k k out = digs k0 k0 ⟨#[]⟩) ∧ Hid (Below W.heap.size W wr)

set_option maxHeartbeats 2000000 in
set_option maxRecDepth 100000 in
theorem markText_c (k0 : Nat) (h1 : 1 ≤ k0) (h2 : k0 ≤ 1099511627776) (W : World) :
    Calls Try.prog 44 #[.int .i64 k0] W fun e W' => e = .returned (.string (mtext k0)) ∧ Below W.heap.size W W' := by
  have hp : (0 : Int) < k0 := by omega
  go_enter Try.func44, Try.ntmps44
  go_wp2
  go_loopw [0, 3] (fun kv o wr => MarkRel k0 W kv o wr) (fun kv _ _ => (intOf kv).toNat)
  case atStart => exact ⟨k0, ⟨#[]⟩, rfl, rfl, by show 0 + k0 ≤ k0; omega, rfl, Below.refl _ _⟩
  case round =>
    obtain ⟨k, out, rfl, rfl, hsz, HD, HB⟩ := hrel
    by_cases hk : 0 < k
    · have hk' : (0 : Int) < k := by omega
      have hkm : (k : Int) ≤ 1099511627776 := by omega
      obtain ⟨r, hr⟩ : ∃ r, r = k % 10 := ⟨_, rfl⟩
      obtain ⟨q, hq⟩ : ∃ q, q = k / 10 := ⟨_, rfl⟩
      have hr0 : (k : Int).tmod 10 = (r : Int) := by rw [hr]; rfl
      have hq0 : (k : Int).tdiv 10 = (q : Int) := by rw [hq]; rfl
      have hr9 : (r : Int) ≤ 9 := by omega
      have hqk : q < k := by omega
      have hqm : (q : Int) ≤ 1099511627776 := by omega
      have HSZ := Lib.hid hsz
      have HQK := Lib.hid hqk
      have HDS := Lib.hid (show digs k k out = digs q q (⟨#[UInt8.ofNat (48 + r)]⟩ ++ out) by rw [hr, hq]; exact digs_step out hk)
      have hos : out.size ≤ 1099511627776 := by omega
      have hcv := convByte wr r (by omega)
      clear hk hsz hr hq hqk
      go_wp2
      have he : (48 + UInt8.ofNat r) = UInt8.ofNat (48 + r) := by rw [UInt8.ofNat_add]; rfl
      rw [he]
      go_roundw
      case rel =>
        refine ⟨q, ⟨#[UInt8.ofNat (48 + r)]⟩ ++ out, rfl, rfl, ?_, ?_, below_next HB.out (below_box _ _)⟩
        · rw [ByteArray.size_append]
          have h5 := HSZ.out
          have h6 := HQK.out
          show 1 + out.size + q ≤ k0
          omega
        · show _ = _
          rw [← HDS.out]; exact HD.out
      case measure => have := HQK.out; simp [intOf]; omega
    · have hk0 : k = 0 := by omega
      subst hk0
      have hos : out.size ≤ 1099511627776 := by omega
      have HE := Lib.hid (show ⟨#[109]⟩ ++ out = mtext k0 by unfold mtext; rw [← HD.out, digs_zero])
      clear hsz hk
      go_wp2
      refine bodyPost_ret (v := .string (⟨#[109]⟩ ++ out)) (by simp [results, Try.f44, go_sem]) rfl ⟨by rw [HE.out], HB.out⟩

/-! ## Lists of nodes -/

/-- The nodes that a test writes. -/
def markN (n : Nat) : List Nd := (List.range n).map (fun i => ⟨mtext (1 + 3 * i), 1 + 3 * (i : Int) + 1, 1 + 3 * (i : Int) + 1 + 1⟩)
theorem markN_len (n : Nat) : (markN n).length = n := by simp [markN]
theorem markN_get {n i : Nat} (h : i < n) : (markN n)[i]? = some ⟨mtext (1 + 3 * i), 1 + 3 * (i : Int) + 1, 1 + 3 * (i : Int) + 1 + 1⟩ := by
  unfold markN; rw [List.getElem?_map, List.getElem?_range h]; rfl

def MarkedRel (len base : Nat) (v : Value) (W : World) (kv i : Value) (wr : World) : Prop :=
  ∃ (n : Nat) (zs : List Value), i = .int .i64 n ∧ kv = .int .i64 (1 + 3 * (n : Int)) ∧ n ≤ len ∧ zs.length = (len - n) * 3 ∧ wr.ownsRow base 112 3 v len (flatN ((markN len).take n) ++ zs) ∧ Hid (W.grownBy wr v.ownBlock)

theorem _root_.Go.World.grownBy.set {A B : World} {g : Nat} {n cap : Nat} (h : A.grownBy B (Value.slice (some ⟨g, 0, none⟩) n cap).ownBlock) (g' i : Nat) (hg : g' = g) (u : Value) : A.grownBy (B.setCell ⟨g', i, none⟩ u) (Value.slice (some ⟨g, 0, none⟩) n cap).ownBlock := by
  subst hg
  exact ⟨h.os, h.tape, h.output, by (have hz : (B.setCell ⟨g', i, none⟩ u).heap.size = B.heap.size := by simp [World.setCell]); (rw [hz]); exact h.size, fun k hk hr => (Below.heap_setCell _ _ _ _ (fun e => hr (by rw [e]; rfl))).trans (h.block k hk hr)⟩

theorem grown_next {A B C : World} {row : Option Nat} (h : A.grownBy B row) (k : Below B.heap.size B C) : A.grownBy C row :=
  ⟨k.os.trans h.os, k.tape.trans h.tape, k.output.trans h.output, Nat.le_trans h.size k.size, fun i hi hr => (k.block i (by have := h.size; omega)).trans (h.block i hi hr)⟩

def HeldRel (len st : Nat) (W : World) (kv i : Value) (wr : World) : Prop :=
  ∃ n : Nat, i = .int .i64 n ∧ kv = .int .i64 (1 + (st : Int) * (n : Int)) ∧ n ≤ len ∧ Hid (Below W.heap.size W wr)

def markS (n : Nat) : List ByteArray := (List.range n).map (fun i => mtext (1 + i))
theorem markS_len (n : Nat) : (markS n).length = n := by simp [markS]
theorem markS_get {n i : Nat} (h : i < n) : (markS n)[i]? = some (mtext (1 + i)) := by
  unfold markS; rw [List.getElem?_map, List.getElem?_range h]; rfl

def MarkedSRel (len base : Nat) (v : Value) (W : World) (kv i : Value) (wr : World) : Prop :=
  ∃ (n : Nat) (zs : List Value), i = .int .i64 n ∧ kv = .int .i64 (1 + (n : Int)) ∧ n ≤ len ∧ zs.length = len - n ∧ wr.ownsRow base 9 1 v len (((markS len).take n).map Value.string ++ zs) ∧ Hid (W.grownBy wr v.ownBlock)

theorem take_set_one {α : Type} (l : List α) (i : Nat) (x : α) (zs : List α) (h : l.length = i) (hz : 1 ≤ zs.length) : (l ++ zs).set i x = (l ++ [x]) ++ zs.drop 1 := by
  match zs, hz with
  | a :: r, _ =>
    rw [List.set_append_right _ _ (by omega), h, Nat.sub_self]
    simp

def HeldSRel (len : Nat) (W : World) (kv i : Value) (wr : World) : Prop :=
  ∃ n : Nat, i = .int .i64 n ∧ kv = .int .i64 (1 + (n : Int)) ∧ n ≤ len ∧ Hid (Below W.heap.size W wr)

end Go.Proofs.Ytnboodcllmdjeaa

/-
  WALKS: laws.markCommandS (from any number on), laws.heldCommandS.
-/
namespace Go.Proofs.Ytnboodcllmdjeaa
open Go.RowKit
set_option linter.unusedVariables false

/-- The commands that a test writes. -/
def markCK (k0 n : Nat) : List Cmd := (List.range n).map (fun i => ⟨mtext (k0 + 5 * i), (k0 : Int) + 5 * (i : Int) + 1, (k0 : Int) + 5 * (i : Int) + 1 + 1, (k0 : Int) + 5 * (i : Int) + 1 + 1 + 1, (k0 : Int) + 5 * (i : Int) + 1 + 1 + 1 + 1⟩)
theorem markCK_len (k0 n : Nat) : (markCK k0 n).length = n := by simp [markCK]
theorem markCK_get {k0 n i : Nat} (h : i < n) : (markCK k0 n)[i]? = some ⟨mtext (k0 + 5 * i), (k0 : Int) + 5 * (i : Int) + 1, (k0 : Int) + 5 * (i : Int) + 1 + 1, (k0 : Int) + 5 * (i : Int) + 1 + 1 + 1, (k0 : Int) + 5 * (i : Int) + 1 + 1 + 1 + 1⟩ := by
  unfold markCK; rw [List.getElem?_map, List.getElem?_range h]; rfl

def MarkedCRel (k0 len base : Nat) (v : Value) (W : World) (kv i : Value) (wr : World) : Prop :=
  ∃ (n : Nat) (zs : List Value), i = .int .i64 n ∧ kv = .int .i64 ((k0 : Int) + 5 * (n : Int)) ∧ n ≤ len ∧ zs.length = (len - n) * 5 ∧ wr.ownsRow base 36 5 v len (flatC ((markCK k0 len).take n) ++ zs) ∧ Hid (W.grownBy wr v.ownBlock)

set_option maxHeartbeats 4000000 in
set_option maxRecDepth 100000 in
theorem markCommandS_c (v : Value) (base len k0 : Nat) (hk1 : 1 ≤ k0) (hk2 : k0 ≤ 1000000000) (xs : List Value) (hl : len ≤ 2097152) (W : World) (h : W.ownsRow base 36 5 v len xs) :
    Calls Try.prog 23 #[v, .int .i64 k0] W fun e W' => e = .returned (.int .i64 ((k0 : Int) + 5 * (len : Int))) ∧ W.grownBy W' v.ownBlock ∧ W'.ownsRow base 36 5 v len (flatC (markCK k0 len)) := by
  have HX := Lib.hid h
  have hxl := h.1
  have HMT := Lib.hid (fun k (h1 : 1 ≤ k) (h2 : k ≤ 1099511627776) w => markText_c k h1 h2 w)
  obtain ⟨a, cap, hv⟩ : ∃ a cap, v = .slice a len cap := by
    rcases own_cases h with ⟨h1, h2⟩ | ⟨g, cap, h1⟩
    · exact ⟨none, 0, by rw [h1, h2]⟩
    · exact ⟨_, cap, h1⟩
  have hl' : (len : Int) ≤ 2097152 := by omega
  have hk2' : (k0 : Int) ≤ 1000000000 := by omega
  have hk1' : (1 : Int) ≤ k0 := by omega
  clear h
  subst hv
  go_enter Try.func23, Try.ntmps23
  go_wp2
  go_loopw [1, 5] (fun kv i wr => MarkedCRel k0 len base (.slice a len cap) W kv i wr) (fun _ i _ => len - (intOf i).toNat)
  case atStart => exact ⟨0, xs, rfl, by simp, by omega, by rw [hxl]; rfl, HX.out, ⟨rfl, rfl, rfl, Nat.le_refl _, fun _ _ _ => rfl⟩⟩
  case round =>
    obtain ⟨i, zs, rfl, rfl, hi, hzl, hown, HG⟩ := hrel
    by_cases hlt : i < len
    · have hlt' : (i : Int) < len := by omega
      have hil : (i : Int) ≤ 2097152 := by omega
      have HLT := Lib.hid hlt
      have HZ := Lib.hid (And.intro hzl (show 5 ≤ zs.length by omega))
      rcases own_cases hown with ⟨_, h2⟩ | ⟨g, cap', h2⟩
      · omega
      simp at h2
      obtain ⟨rfl, rfl⟩ := h2
      have HO := Lib.hid hown
      have HM := Lib.hid (show Calls Try.prog 44 #[.int .i64 ((k0 : Int) + 5 * (i : Int))] wr (fun e W' => e = .returned (.string (mtext (k0 + 5 * i))) ∧ Below wr.heap.size wr W') by have := HMT.out (k0 + 5 * i) (by omega) (by omega) wr; rwa [show ((k0 + 5 * i : Nat) : Int) = (k0 : Int) + 5 * (i : Int) by push_cast; rfl] at this)
      clear hi hlt hzl hown
      go_wp2_with fail
      refine HM.out.mono ?_
      rintro e W2 ⟨rfl, hb2⟩
      have HO2 := Lib.hid (own_below HO.out hb2)
      have HG2 := Lib.hid (grown_next HG.out hb2)
      have hll : (flatC ((markCK k0 len).take i)).length = i * 5 := by rw [flatC_length, List.length_take, markCK_len]; have := HLT.out; omega
      have cell : ∀ j, j < 5 → ∃ u, W2.cell? ⟨g, i * 5 + j, none⟩ = some u := by
        intro j hj
        have hx := HZ.out.1
        have hy := HLT.out
        rw [HO2.out.cellAt _ (by omega)]
        exact ⟨_, List.getElem?_eq_getElem (by rw [List.length_append, hll]; omega)⟩
      obtain ⟨u0, e0⟩ := cell 0 (by omega)
      replace e0 : W2.cell? ⟨g, i * 5, none⟩ = some u0 := e0
      obtain ⟨u1, e1⟩ := cell 1 (by omega)
      obtain ⟨u2, e2⟩ := cell 2 (by omega)
      obtain ⟨u3, e3⟩ := cell 3 (by omega)
      obtain ⟨u4, e4⟩ := cell 4 (by omega)
      have y0 := HO2.out.frozenAt (i * 5)
      have y1 := HO2.out.frozenAt (i * 5 + 1)
      have y2 := HO2.out.frozenAt (i * 5 + 2)
      have y3 := HO2.out.frozenAt (i * 5 + 3)
      have y4 := HO2.out.frozenAt (i * 5 + 4)
      generalize hmt : mtext (k0 + 5 * i) = mt
      have HMTX := Lib.hid hmt
      clear cell hll hb2 hmt
      go_wp2
      have HS3 := stored5 HO2.out (i * 5) (.string mt) (.int .i64 ((k0 : Int) + 5 * (i : Int) + 1)) (.int .i64 ((k0 : Int) + 5 * (i : Int) + 1 + 1)) (.int .i64 ((k0 : Int) + 5 * (i : Int) + 1 + 1 + 1)) (.int .i64 ((k0 : Int) + 5 * (i : Int) + 1 + 1 + 1 + 1))
      rw [← HMTX.out, flatC_take_set (markCK k0 len) i _ zs (markCK_get HLT.out) HZ.out.2] at HS3
      go_roundw
      case rel =>
        refine ⟨i + 1, zs.drop 5, by push_cast; rfl, by rw [show (k0 : Int) + 5 * ((i + 1 : Nat) : Int) = (k0 : Int) + 5 * (i : Int) + 1 + 1 + 1 + 1 + 1 by omega], by have := HLT.out; omega, by rw [List.length_drop]; have h1 := HZ.out.1; have h2 := HZ.out.2; have h3 := HLT.out; omega, ?_, ?_⟩
        · rw [← HMTX.out]; exact HS3
        · exact ((((HG2.out.set _ _ rfl _).set _ _ rfl _).set _ _ rfl _).set _ _ rfl _).set _ _ rfl _
      case measure => have := HLT.out; simp [intOf]; omega
    · have hge : (len : Int) ≤ i := by omega
      have hie : i = len := by omega
      have hz0' : zs = [] := List.eq_nil_of_length_eq_zero (by omega)
      subst hz0'
      subst hie
      rw [List.append_nil, List.take_of_length_le (by rw [markCK_len]; omega)] at hown
      clear hi hlt
      go_wp2
      refine bodyPost_ret (v := .int .i64 ((k0 : Int) + 5 * (i : Int))) (by simp [results, Try.f23, go_sem]) rfl ⟨rfl, HG.out, hown⟩

def HeldCRel (len : Nat) (W : World) (kv i : Value) (wr : World) : Prop :=
  ∃ n : Nat, i = .int .i64 n ∧ kv = .int .i64 (1 + 5 * (n : Int)) ∧ n ≤ len ∧ Hid (Below W.heap.size W wr)

set_option maxHeartbeats 4000000 in
set_option maxRecDepth 100000 in
theorem heldCommandS_c (a : Option Addr) (len cap : Nat) (hl : len ≤ 2097152) (W : World) (hN : CmdsAt W a len (markCK 1 len)) :
    Calls Try.prog 24 #[.slice a len cap, .int .i64 1] W fun e W' => e = .returned (.int .i64 (1 + 5 * (len : Int))) ∧ Below W.heap.size W W' := by
  have HN := Lib.hid hN
  have HMT := Lib.hid (fun k (h1 : 1 ≤ k) (h2 : k ≤ 1099511627776) w => markText_c k h1 h2 w)
  have hl' : (len : Int) ≤ 2097152 := by omega
  clear hN
  go_enter Try.func24, Try.ntmps24
  go_wp2
  go_loopw [1, 5] (fun kv i wr => HeldCRel len W kv i wr) (fun _ i _ => len - (intOf i).toNat)
  case atStart => exact ⟨0, rfl, rfl, by omega, Below.refl _ _⟩
  case round =>
    obtain ⟨i, rfl, rfl, hi, HB⟩ := hrel
    by_cases hlt : i < len
    · obtain ⟨b, off, n, rfl, hn, c0, c1, c2, c3, c4⟩ := (HN.out.keep HB.out).node hlt
      have hlt' : (i : Int) < len := by omega
      have hil : (i : Int) ≤ 2097152 := by omega
      have HLT := Lib.hid hlt
      rw [markCK_get hlt] at hn
      obtain rfl := Option.some.inj hn
      have HM := Lib.hid (show Calls Try.prog 44 #[.int .i64 (1 + 5 * (i : Int))] wr.drew (fun e W' => e = .returned (.string (mtext (1 + 5 * i))) ∧ Below wr.drew.heap.size wr.drew W') by have := HMT.out (1 + 5 * i) (by omega) (by omega) wr.drew; rwa [show ((1 + 5 * i : Nat) : Int) = 1 + 5 * (i : Int) by push_cast; rfl] at this)
      rw [show (((1 : Nat) : Int)) = 1 from rfl] at c1 c2 c3 c4
      simp only at c0 c1 c2 c3 c4
      generalize hmt : mtext (1 + 5 * i) = mt at HM c0
      have HS0 := Lib.hid (show wr.drew.cell? ⟨b, off + i * 5, none⟩ = some (.string mt) ∧ wr.drew.cell? ⟨b, off + i * 5 + 1, none⟩ = some (.int .i64 (1 + 5 * (i : Int) + 1)) ∧ wr.drew.cell? ⟨b, off + i * 5 + 2, none⟩ = some (.int .i64 (1 + 5 * (i : Int) + 1 + 1)) ∧ wr.drew.cell? ⟨b, off + i * 5 + 3, none⟩ = some (.int .i64 (1 + 5 * (i : Int) + 1 + 1 + 1)) ∧ wr.drew.cell? ⟨b, off + i * 5 + 4, none⟩ = some (.int .i64 (1 + 5 * (i : Int) + 1 + 1 + 1 + 1)) ∧ Below W.heap.size W wr.drew from ⟨c0, c1, c2, c3, c4, HB.out.drew⟩)
      have HKP := Lib.hid (fun (u1 u2 : World) (h : u1.cell? ⟨b, off + i * 5, none⟩ = some (.string mt) ∧ u1.cell? ⟨b, off + i * 5 + 1, none⟩ = some (.int .i64 (1 + 5 * (i : Int) + 1)) ∧ u1.cell? ⟨b, off + i * 5 + 2, none⟩ = some (.int .i64 (1 + 5 * (i : Int) + 1 + 1)) ∧ u1.cell? ⟨b, off + i * 5 + 3, none⟩ = some (.int .i64 (1 + 5 * (i : Int) + 1 + 1 + 1)) ∧ u1.cell? ⟨b, off + i * 5 + 4, none⟩ = some (.int .i64 (1 + 5 * (i : Int) + 1 + 1 + 1 + 1)) ∧ Below W.heap.size W u1) (hb : Below u1.heap.size u1 u2) => show u2.cell? ⟨b, off + i * 5, none⟩ = some (.string mt) ∧ u2.cell? ⟨b, off + i * 5 + 1, none⟩ = some (.int .i64 (1 + 5 * (i : Int) + 1)) ∧ u2.cell? ⟨b, off + i * 5 + 2, none⟩ = some (.int .i64 (1 + 5 * (i : Int) + 1 + 1)) ∧ u2.cell? ⟨b, off + i * 5 + 3, none⟩ = some (.int .i64 (1 + 5 * (i : Int) + 1 + 1 + 1)) ∧ u2.cell? ⟨b, off + i * 5 + 4, none⟩ = some (.int .i64 (1 + 5 * (i : Int) + 1 + 1 + 1 + 1)) ∧ Below W.heap.size W u2 from ⟨cell_kept hb h.1, cell_kept hb h.2.1, cell_kept hb h.2.2.1, cell_kept hb h.2.2.2.1, cell_kept hb h.2.2.2.2.1, below_next h.2.2.2.2.2 hb⟩)
      clear hlt hi hn hmt c0 c1 c2 c3 c4
      go_upto_region 4 with (fail)
      go_region_held3 (fun w' => w'.cell? ⟨b, off + i * 5, none⟩ = some (.string mt) ∧ w'.cell? ⟨b, off + i * 5 + 1, none⟩ = some (.int .i64 (1 + 5 * (i : Int) + 1)) ∧ w'.cell? ⟨b, off + i * 5 + 2, none⟩ = some (.int .i64 (1 + 5 * (i : Int) + 1 + 1)) ∧ w'.cell? ⟨b, off + i * 5 + 3, none⟩ = some (.int .i64 (1 + 5 * (i : Int) + 1 + 1 + 1)) ∧ w'.cell? ⟨b, off + i * 5 + 4, none⟩ = some (.int .i64 (1 + 5 * (i : Int) + 1 + 1 + 1 + 1)) ∧ Below W.heap.size W w')
        (first | exact HS0.out | exact HKP.out _ _ HS0.out hb7)
        (first | (go_at_call 44; (with_reducible refine (HM.out).mono ?_); rintro e W7 ⟨rfl, hb7⟩))
      rename_i hS
      obtain ⟨v0, v1, v2, v3, v4, hB7⟩ := hS
      have H7 := Lib.hid hB7
      clear hB7
      go_wp2
      go_roundw
      case rel => exact ⟨i + 1, by push_cast; rfl, by rw [show 1 + 5 * ((i + 1 : Nat) : Int) = 1 + 5 * (i : Int) + 1 + 1 + 1 + 1 + 1 by omega], by have := HLT.out; omega, H7.out⟩
      case measure => have := HLT.out; simp [intOf]; omega
    · have hge : (len : Int) ≤ i := by omega
      have hie : i = len := by omega
      subst hie
      clear hi hlt
      go_wp2
      refine bodyPost_ret (v := .int .i64 (1 + 5 * (i : Int))) (by simp [results, Try.f24, go_sem]) rfl ⟨rfl, HB.out⟩

end Go.Proofs.Ytnboodcllmdjeaa
