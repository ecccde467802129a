/-
  Texts of this proof, one behind the other: Hg, Eu, Tc, Eq, Cb, Lu, Il, Hh, Kc, Hj, Rp, Rq, Rm, Zc, Zb, Sm, To, Le, En, Tx, No, Mk, Lm.
-/
import Derived.Maps.Own
import Derived.Maps.OwnSet
import Derived.Laws.Cover1
import Derived.StillTailTactics
import Derived.WalkSmall
import Derived.Maps.RangeWalk
import Derived.Sort.OwnSorted
import Derived.Sort.KeysCollected
import Derived.Lib.AppendZerosOnto
import Derived.Lib.Walk
import Derived.Laws.StructEq
import Derived.Deep.QuietTactic
import Derived.Deep.RegionHeld3
import Derived.Laws.EntriesVeiled
import Derived.Shelf.Abstract
import Derived.Shelf.Strings.BuilderK
import Derived.Deep.Cut
import Derived.Laws.AppendOwnNone
import Derived.Laws.Concat
import Derived.Laws.Runes
import Derived.Laws.BytesString
import Derived.Test.YtohdpbalajjjiaaGreatHb
import Derived.Test.YtohdpbalajjjiaaGreatQ1
import Derived.Test.YtohdpbalajjjiaaGreatQ8
import Derived.Test.YtohdpbalajjjiaaGreatQ3
import Derived.Test.YtohdpbalajjjiaaGreatCv
import Derived.Test.YtohdpbalajjjiaaGreatQ6
import Derived.Test.YtohdpbalajjjiaaGreatCkq
import Derived.Test.YtohdpbalajjjiaaGreatQ7
import Derived.Test.YtohdpbalajjjiaaGreatQ11
import Derived.Test.YtohdpbalajjjiaaGreatQ5
import Derived.Test.YtohdpbalajjjiaaGreatTl
import Derived.Test.YtohdpbalajjjiaaGreatSa
import Derived.Test.YtohdpbalajjjiaaGreatWd
/-
  WALKS: impl.wholesOf: a map of commands by their paths.
-/
namespace Go.Proofs.YtohdpbalajjjiaaGreat
open Go.RowKit
open Go.Maps (IsMap has)
set_option linter.unusedVariables false

theorem keyLaw : Maps.Keyed Tryz.prog 9 := Maps.string_keyed Tryz.underlying9
theorem zeroCmd (w : World) : (zeroValue 33).run Tryz.prog w = .ok (.agg #[.string ⟨#[]⟩, .int .i64 0, .int .i64 0, .int .i64 0, .int .i64 0]) w := by kernel_rfl

theorem keyOf_path {p : ByteArray} (h : p.size ≤ maxLen) : keyOf Tryz.prog 9 (.string p) = some (keyL p) := WideMaps.keyOf_string_mk Tryz.underlying9 h

/-- 'whole, more := wholes[path]'. -/
theorem wpList_lookup_cmd (w : World) {ops : Array Oper} {rest : List Oper} {o : Oper} {a : Act} {Q : Exit → Act → World → Prop} (hg : o.guard = none) (m x : Operand) (hop : o.op = Op.lookup 108 m x true) (b n : Nat) (D : DataW Unit)
    (hm : a.eval m = .map (some b)) (hown : w.ownsMap Tryz.prog 9 cmdElem b n D) (p : ByteArray) (hx : a.eval x = .string p) (hp : p.size ≤ maxLen)
    (hK : ∀ (q : ByteArray) (fk fv tk tv : Int), D.atKey (keyL p) (encD dC) = encD ⟨q, fk, fv, tk, tv⟩ → wpList Tryz.prog ops Q rest (a.put o.dst (.tuple #[.agg #[.string q, .int .i64 fk, .int .i64 fv, .int .i64 tk, .int .i64 tv], .bool (has D (keyL p))])) w) :
    wpList Tryz.prog ops Q (o :: rest) a w :=
  wpList_lookup_own_ok w hg m x _ hop _ _ keyLaw Tryz.underlying108 cmdElem (zeroCmd w) (encD dC) [] (cmdElem_mk dC) b n D hm hown _ _ hx (keyOf_path hp) (fun v ps hv => by
    obtain ⟨c, rfl, hc⟩ := cmdElem_inv hv
    obtain ⟨q, fk, fv, tk, tv⟩ := c
    injection hc with hc _
    exact hK q fk fv tk tv hc)

/-- 'wholes[path] = c'. -/
theorem wpList_store_cmd (w : World) {ops : Array Oper} {rest : List Oper} {o : Oper} {a : Act} {Q : Exit → Act → World → Prop} (hg : o.guard = none) (m x v : Operand) (hop : o.op = Op.mapUpdate 108 m x v) (b n : Nat) (D : DataW Unit)
    (hm : a.eval m = .map (some b)) (hown : w.ownsMap Tryz.prog 9 cmdElem b n D) (hn : n < maxLen) (p : ByteArray) (hx : a.eval x = .string p) (hp : p.size ≤ maxLen) (c : Cmd) (hv : a.eval v = .agg #[.string c.p, .int .i64 c.fk, .int .i64 c.fv, .int .i64 c.tk, .int .i64 c.tv])
    (hK : ∀ w', w'.ownsMap Tryz.prog 9 cmdElem b (n + 1) (D.put (keyL p) (encD c)) → w.grownBy w' (some b) → wpList Tryz.prog ops Q rest (a.put o.dst undef) w') :
    wpList Tryz.prog ops Q (o :: rest) a w :=
  wpList_mapUpdate_own w hg m x v _ hop _ _ keyLaw Tryz.underlying108 cmdElem b n D hm hown hn _ _ _ hx hv (keyOf_path hp) _ _ (cmdElem_mk c) hK

/-- What wholesOf leaves. -/
def WholePost (cs : List Cmd) (W : World) (e : Ending) (w' : World) : Prop :=
  ((∃ D : DataW Unit, e = .returned (.tuple #[.map (some W.heap.size), .bool true]) ∧ w'.ownsMap Tryz.prog 9 cmdElem W.heap.size cs.length D ∧ WholeK cs cs.length D) ∨ (e = .returned (.tuple #[.map none, .bool false]) ∧ ∃ p, foldP p none cs = none)) ∧ Below W.heap.size W w'

def WholeRel (cs : List Cmd) (W : World) (i : Value) (wr : World) : Prop :=
  ∃ (n : Nat) (D : DataW Unit), i = .int .i64 n ∧ n ≤ cs.length ∧ Hid (wr.ownsMap Tryz.prog 9 cmdElem W.heap.size n D) ∧ Hid (WholeK cs n D) ∧ Hid (Below W.heap.size W wr)

theorem whole_below {W wr w1 : World} {o1 o2 : Obj} (hB : Below W.heap.size W wr) (hg : ((wr.alloc o1).alloc o2).grownBy w1 (some W.heap.size)) : Below W.heap.size W w1 :=
  ((hB.alloc hB.size o1).alloc (by have := hB.size; rw [World.size_alloc]; omega) o2).grown hg (by have := hB.size; rw [World.size_alloc, World.size_alloc]; omega) (fun k e => by cases e; exact Nat.le_refl _)

set_option maxHeartbeats 1000000 in
set_option maxRecDepth 100000 in
theorem wholesOf_c (a : Option Addr) (len cap : Nat) (cs : List Cmd) (hl : len ≤ 2097152) (hs : ShortC 2097152 cs) (W : World) (hN : CmdsAt W a len cs) :
    Calls Tryz.prog 71 #[.slice a len cap] W (WholePost cs W) := by
  have HN := Lib.hid hN
  have HE := Lib.hid hN.1
  have HS := Lib.hid hs
  have hl' : (len : Int) ≤ 2097152 := by omega
  have hmm := @run_makeMap Tryz.prog
  clear hN hs
  go_enter Tryz.func71, Tryz.ntmps71
  go_wp2
  clear hmm
  go_loopw [12] (fun i wr => WholeRel cs W i wr) (fun i _ => len - (intOf i).toNat)
  case atStart => exact ⟨0, .map [], rfl, Nat.zero_le _, World.ownsMap_made _ _ _ _, whole_start cs, below_box _ _⟩
  case round =>
    obtain ⟨n, D, rfl, hn, HM, HW, HB⟩ := hrel
    by_cases hlt : n < len
    · have hlt' : (n : Int) < len := by omega
      obtain ⟨b, off, c, rfl, hc, d0, d1, d2, d3, d4⟩ := HN.out.node hlt
      have c0 := cell_kept HB.out d0
      have c1 := cell_kept HB.out d1
      have c2 := cell_kept HB.out d2
      have c3 := cell_kept HB.out d3
      have c4 := cell_kept HB.out d4
      have HX := Lib.hid hc
      have HLT := Lib.hid (And.intro hlt hn)
      have HPS := Lib.hid (show c.p.size ≤ maxLen from Nat.le_trans (HS.out.at hc) (by unfold maxLen; omega))
      obtain ⟨p, fk, fv, tk, tv⟩ := c
      simp only at c0 c1 c2 c3 c4
      clear hc hlt hn d0 d1 d2 d3 d4
      have hn7 : n < maxLen := by unfold maxLen; omega
      cases hb : has D (keyL p) with
      | false =>
        have HBV := Lib.hid hb
        go_wp2_with (first | (at_lookup; refine wpList_lookup_cmd _ rfl _ _ rfl _ n D rfl (HM.out.alloc _) p rfl HPS.out ?_; intro q gk gv uk uv hat; have HAT := Lib.hid hat; clear hat) | (at_mapUpdate; refine wpList_store_cmd _ rfl _ _ _ rfl _ n D rfl ((HM.out.alloc _).alloc _) hn7 p rfl HPS.out ⟨p, fk, fv, tk, tv⟩ rfl ?_; intro w1 hown1 hgrow1))
        go_roundw
        case rel => exact ⟨n + 1, D.put (keyL p) (encD ⟨p, fk, fv, tk, tv⟩), by go_num, by have := HLT.out; have := HE.out; omega, hown1, whole_new HW.out HX.out HBV.out, whole_below HB.out hgrow1⟩
        case measure => have := HLT.out; simp [intOf]; omega
      | true =>
        have HBV := Lib.hid hb
        go_wp2_with (first | (at_lookup; refine wpList_lookup_cmd _ rfl _ _ rfl _ n D rfl (HM.out.alloc _) p rfl HPS.out ?_; intro q gk gv uk uv hat; have HAT := Lib.hid hat; clear hat) | (at_mapUpdate; refine wpList_store_cmd _ rfl _ _ _ rfl _ n D rfl ((HM.out.alloc _).alloc _) hn7 p rfl HPS.out ⟨p, gk, gv, tk, tv⟩ rfl ?_; intro w1 hown1 hgrow1))
        · rename_i e1 e2
          go_roundw
          case rel => exact ⟨n + 1, D.put (keyL p) (encD ⟨p, gk, gv, tk, tv⟩), by go_num, by have := HLT.out; have := HE.out; omega, hown1, whole_on (x := ⟨q, gk, gv, uk, uv⟩) HW.out HX.out HBV.out HAT.out (by rw [e1, e2]), whole_below HB.out hgrow1⟩
          case measure => have := HLT.out; simp [intOf]; omega
        · rename_i e1 e2
          go_ret2
          exact ⟨.inr ⟨rfl, p, whole_bad (x := ⟨q, gk, gv, uk, uv⟩) HW.out HX.out HBV.out HAT.out (fun e => e2 (congrArg Prod.snd e))⟩, (HB.out.alloc HB.out.size _).alloc (by have := HB.out.size; rw [World.size_alloc]; omega) _⟩
        · rename_i e1
          go_ret2
          exact ⟨.inr ⟨rfl, p, whole_bad (x := ⟨q, gk, gv, uk, uv⟩) HW.out HX.out HBV.out HAT.out (fun e => e1 (congrArg Prod.fst e))⟩, (HB.out.alloc HB.out.size _).alloc (by have := HB.out.size; rw [World.size_alloc]; omega) _⟩
    · have hnl : n = len := by have := HE.out; omega
      subst hnl
      go_wp2
      go_ret2
      exact ⟨.inl ⟨D, rfl, by rw [HE.out]; exact HM.out, by rw [HE.out]; exact HW.out⟩, HB.out⟩

end Go.Proofs.YtohdpbalajjjiaaGreat

/-
  WALKS: impl.entry's undone and commands.
-/
namespace Go.Proofs.YtohdpbalajjjiaaGreat
open Go.RowKit
set_option linter.unusedVariables false

def UndoneRel (B : Nat) (cs : List Cmd) (W : World) (e f : Value) (wr : World) : Prop :=
  ∃ (n : Nat) (x y : Option Addr), e = .pointer x ∧ f = .pointer y ∧ n ≤ cs.length ∧ Hid (EntAt B wr x (cs.drop n)) ∧ Hid (EntAt W.heap.size wr y ((cs.take n).reverse.map undoC)) ∧ Hid (Below W.heap.size W wr)

theorem undone_step {cs : List Cmd} {n : Nat} {c : Cmd} (hc : cs[n]? = some c) : (cs.take (n + 1)).reverse.map undoC = undoC c :: (cs.take n).reverse.map undoC := by
  rw [List.take_add_one, hc]
  simp

def CommandsRel (B : Nat) (cs : List Cmd) (W : World) (e l : Value) (wr : World) : Prop :=
  ∃ (n : Nat) (x : Option Addr), e = .pointer x ∧ n ≤ cs.length ∧ Hid (EntAt B W x (cs.drop n)) ∧ wr.ownsRow W.heap.size 33 5 l (cs.take n).length (flatC (cs.take n)) ∧ Hid (Below W.heap.size W wr)

end Go.Proofs.YtohdpbalajjjiaaGreat

/-
  WALKS: laws.toContent.
-/
namespace Go.Proofs.YtohdpbalajjjiaaGreat
open Go.RowKit

set_option maxHeartbeats 400000 in
theorem toContent_c (k v : Int) (w : World) : Calls Tryz.prog 38 #[con k v] w (ConRet k v w) := by
  unfold con ConRet
  go_enter Tryz.func38, Tryz.ntmps38
  go_wp2
  refine bodyPost_ret (v := con k v) ?_ rfl ⟨rfl, ((below_box _ _).alloc (by simp) _).alloc (by simp; omega) _⟩
  simp [results, Tryz.f38, go_sem]

end Go.Proofs.YtohdpbalajjjiaaGreat

/-
  WALKS: laws.eqContent at equal contents.
-/
namespace Go.Proofs.YtohdpbalajjjiaaGreat
open Go.RowKit

set_option maxHeartbeats 400000 in
theorem eqContent_c (k v : Int) (w : World) : Calls Tryz.prog 39 #[.agg #[.int .i64 k, .int .i64 v], .agg #[.int .i64 k, .int .i64 v]] w (BoolPost true w) := by
  go_enter Tryz.func39, Tryz.ntmps39
  go_wp2
  go_ret
  exact ⟨rfl, (below_box _ _).alloc (by simp) _⟩

end Go.Proofs.YtohdpbalajjjiaaGreat

/-
  WALKS: commands in the exact laws: laws.toCommand, szCommand, eqCommand; spec.CommandUndo.
-/
namespace Go.Proofs.YtohdpbalajjjiaaGreat
open Go.RowKit
set_option linter.unusedVariables false

/-- What is left; if anything is, the text is of modest length. -/
def SzCmd (c : Cmd) (w : World) (e : Ending) (w' : World) : Prop := ∃ z : Int, e = .returned (.int .i64 z) ∧ -1 ≤ z ∧ z ≤ 1048576 ∧ (0 ≤ z → c.p.size ≤ 1048576) ∧ Below w.heap.size w w'

set_option maxHeartbeats 1000000 in
theorem szCommand_c (c : Cmd) (l : Int) (h0 : 0 ≤ l) (h1 : l ≤ 1048576) (hm : c.p.size ≤ maxLen) (w : World) : Calls Tryz.prog 22 #[cmdV c, .int .i64 l] w (SzCmd c w) := by
  obtain ⟨p, fk, fv, tk, tv⟩ := c
  unfold cmdV
  have hm' : p.size ≤ 9223372036854775807 := Nat.le_trans (show p.size ≤ maxLen from hm) (by unfold maxLen; omega)
  obtain ⟨z, hz⟩ : ∃ z, l - (p.size : Int) = z := ⟨_, rfl⟩
  have hw : IntKind.i64.wrap (l - (p.size : Int)) = z := (IntWalk.i64_in _ (by omega)).trans hz
  by_cases hneg : z < 0
  · clear h0 h1 hm hm' hz
    go_enter Tryz.func22, Tryz.ntmps22
    go_wp2
    go_ret
    exact ⟨-1, rfl, by omega, by omega, fun h => absurd h (by omega), below_box _ _⟩
  · have hpos : 0 ≤ z := by omega
    have HF := Lib.hid (show z ≤ 1048576 ∧ p.size ≤ 1048576 by omega)
    clear h0 h1 hm hm' hz hneg
    go_enter Tryz.func22, Tryz.ntmps22
    go_wp2
    go_ret
    exact ⟨z, rfl, by omega, HF.out.1, fun _ => HF.out.2, below_box _ _⟩

set_option maxHeartbeats 1000000 in
theorem eqCommand_c (c : Cmd) (w : World) : Calls Tryz.prog 24 #[cmdV c, cmdV c] w (BoolPost true w) := by
  obtain ⟨p, fk, fv, tk, tv⟩ := c
  have HE := Lib.hid (fun k v w => eqContent_c k v w)
  unfold cmdV
  go_enter Tryz.func24, Tryz.ntmps24
  go_wp2_with fail
  refine (HE.out _ _ _).mono ?_
  rintro e W1 ⟨rfl, hb1⟩
  have hbb := below_next (below_box (w.alloc (.cells #[.string p, .int .i64 fk, .int .i64 fv, .int .i64 tk, .int .i64 tv] 33)) _) hb1
  have q3 := box_cell hbb 3
  have q4 := box_cell hbb 4
  have r3 := box_cell hb1 3
  have r4 := box_cell hb1 4
  simp at q3 q4 r3 r4
  have B1 := Lib.hid (below_next (below_box w _) hbb)
  clear hb1 hbb
  go_wp2_with fail
  refine (HE.out _ _ _).mono ?_
  rintro e W2 ⟨rfl, hb2⟩
  have B2 := Lib.hid (below_next B1.out hb2)
  clear hb2 q3 q4 r3 r4
  go_wp2
  go_ret
  exact ⟨rfl, B2.out⟩

theorem five_at {W : World} {n : Nat} (hn : n = W.heap.size) (a b c d e : Value) (t : TypeId) : Five (W.alloc (.cells #[a, b, c, d, e] t)) n a b c d e := by subst hn; exact five_new W a b c d e t

set_option maxHeartbeats 1000000 in
theorem toCommand_c (c : Cmd) (W : World) : Calls Tryz.prog 23 #[cmdV c] W (CmdPost c W) := by
  obtain ⟨p, fk, fv, tk, tv⟩ := c
  have HT := Lib.hid (fun k v w => toContent_c k v w)
  have HA := Lib.hid (((five_at (W := W) rfl (.string p) (.int .i64 fk) (.int .i64 fv) (.int .i64 tk) (.int .i64 tv) 57).alloc (.cells #[.string ⟨#[]⟩, .int .i64 0, .int .i64 0, .int .i64 0, .int .i64 0] 33)).alloc (.cells #[.string p, .int .i64 0, .int .i64 0, .int .i64 0, .int .i64 0] 33))
  have HB := Lib.hid ((five_at (W := W.alloc (.cells #[.string p, .int .i64 fk, .int .i64 fv, .int .i64 tk, .int .i64 tv] 57)) (n := W.heap.size + 1) (by simp) (.string ⟨#[]⟩) (.int .i64 0) (.int .i64 0) (.int .i64 0) (.int .i64 0) 33).alloc (.cells #[.string p, .int .i64 0, .int .i64 0, .int .i64 0, .int .i64 0] 33))
  have HC := Lib.hid (five_at (W := (W.alloc (.cells #[.string p, .int .i64 fk, .int .i64 fv, .int .i64 tk, .int .i64 tv] 57)).alloc (.cells #[.string ⟨#[]⟩, .int .i64 0, .int .i64 0, .int .i64 0, .int .i64 0] 33)) (n := W.heap.size + 1 + 1) (by simp) (.string p) (.int .i64 0) (.int .i64 0) (.int .i64 0) (.int .i64 0) 33)
  have HD := Lib.hid (below_next (below_next (below_box W (.cells #[.string p, .int .i64 fk, .int .i64 fv, .int .i64 tk, .int .i64 tv] 57)) (below_box _ (.cells #[.string ⟨#[]⟩, .int .i64 0, .int .i64 0, .int .i64 0, .int .i64 0] 33))) (below_box _ (.cells #[.string p, .int .i64 0, .int .i64 0, .int .i64 0, .int .i64 0] 33)))
  unfold cmdV
  unfold con at HT
  go_enter Tryz.func23, Tryz.ntmps23
  go_wp2_with fail
  refine (HT.out _ _ _).mono ?_
  rintro e W1 ⟨rfl, hb1⟩
  have A1 := Lib.hid (HA.out.below hb1)
  have R1 := Lib.hid (HB.out.below hb1)
  have O1 := Lib.hid (HC.out.below hb1)
  have B1 := Lib.hid (below_next HD.out hb1)
  clear HA HB HC HD hb1
  have A2 := Lib.hid ((A1.out.setOther (x := ⟨W.heap.size + 1 + 1, 1, none⟩) (v := .int .i64 fk) (by show W.heap.size + 1 + 1 ≠ _; omega)).setOther (x := ⟨W.heap.size + 1 + 1, 2, none⟩) (v := .int .i64 fv) (by show W.heap.size + 1 + 1 ≠ _; omega))
  have R2 := Lib.hid ((R1.out.setOther (x := ⟨W.heap.size + 1 + 1, 1, none⟩) (v := .int .i64 fk) (by show W.heap.size + 1 + 1 ≠ _; omega)).setOther (x := ⟨W.heap.size + 1 + 1, 2, none⟩) (v := .int .i64 fv) (by show W.heap.size + 1 + 1 ≠ _; omega))
  have O2 := Lib.hid ((O1.out.set1 (x := .int .i64 fk)).set2 (x := .int .i64 fv))
  have B2 := Lib.hid (below_setCell (below_setCell B1.out ⟨W.heap.size + 1 + 1, 1, none⟩ (.int .i64 fk) (by simp; omega)) ⟨W.heap.size + 1 + 1, 2, none⟩ (.int .i64 fv) (by simp; omega))
  obtain ⟨c0, c1, c2, c3, c4, f0, f1, f2, f3, f4, -⟩ := O1.out
  unfold con
  go_upto_region 4 with (fail)
  clear c0 c1 c2 c3 c4 f0 f1 f2 f3 f4 A1 R1 O1 B1
  generalize (W1.setCell ⟨W.heap.size + 1 + 1, 1, none⟩ (.int .i64 fk)).setCell ⟨W.heap.size + 1 + 1, 2, none⟩ (.int .i64 fv) = W2 at A2 R2 O2 B2 ⊢
  obtain ⟨-, -, -, a3, a4, -⟩ := A2.out
  go_wp2_with fail
  refine (HT.out _ _ _).mono ?_
  rintro e W3 ⟨rfl, hb3⟩
  have R3 := Lib.hid (R2.out.below hb3)
  have O3 := Lib.hid (O2.out.below hb3)
  have B3 := Lib.hid (below_next B2.out hb3)
  clear hb3 a3 a4 A2 R2 O2 B2
  have R4 := Lib.hid ((R3.out.setOther (x := ⟨W.heap.size + 1 + 1, 3, none⟩) (v := .int .i64 tk) (by show W.heap.size + 1 + 1 ≠ _; omega)).setOther (x := ⟨W.heap.size + 1 + 1, 4, none⟩) (v := .int .i64 tv) (by show W.heap.size + 1 + 1 ≠ _; omega))
  have O4 := Lib.hid ((O3.out.set3 (x := .int .i64 tk)).set4 (x := .int .i64 tv))
  have B4 := Lib.hid (below_setCell (below_setCell B3.out ⟨W.heap.size + 1 + 1, 3, none⟩ (.int .i64 tk) (by simp; omega)) ⟨W.heap.size + 1 + 1, 4, none⟩ (.int .i64 tv) (by simp; omega))
  obtain ⟨c0, c1, c2, c3, c4, f0, f1, f2, f3, f4, -⟩ := O3.out
  unfold con
  go_upto_region 5 with (fail)
  clear c0 c1 c2 c3 c4 f0 f1 f2 f3 f4 R3 O3 B3
  generalize (W3.setCell ⟨W.heap.size + 1 + 1, 3, none⟩ (.int .i64 tk)).setCell ⟨W.heap.size + 1 + 1, 4, none⟩ (.int .i64 tv) = W4 at R4 O4 B4 ⊢
  obtain ⟨c0, c1, c2, c3, c4, -⟩ := O4.out
  obtain ⟨r0, r1, r2, r3, r4, f0, f1, f2, f3, f4, -⟩ := R4.out
  go_wp2
  exact bodyPost_ret (cmd_results _ rfl _ (W.heap.size + 1) ⟨p, fk, fv, tk, tv⟩ _ rfl R4.out.setAll) rfl ⟨rfl, below_set5 B4.out (Nat.le_succ _)⟩

theorem undo_yes {c : Cmd} {vc : Bool} (h : validC c = vc) : undoC c = if vc = true then ⟨c.p, c.tk, c.tv, c.fk, c.fv⟩ else zeroC := by subst h; rfl

end Go.Proofs.YtohdpbalajjjiaaGreat

/-
  WALK: spec.LogUndo.
-/
namespace Go.Proofs.YtohdpbalajjjiaaGreat
open Go.RowKit
set_option linter.unusedVariables false

def UndoRelL (cs : List Cmd) (vl : Bool) (len : Nat) (W : World) (o i : Value) (wr : World) : Prop :=
  ∃ (n : Nat) (z : Int) (acc : List Cmd), i = .int .i64 z ∧ z = (n : Int) - 1 ∧ n ≤ len ∧ wr.ownsRow W.heap.size 33 5 o acc.length (flatC acc) ∧ Hid (acc = (cs.drop n).reverse.map undoC) ∧ Hid (vl = false → n = len) ∧ Hid (Below W.heap.size W wr)

theorem undo_out {cs acc : List Cmd} {vl : Bool} {n len : Nat} (hl : cs.length = len) (hv : validL cs = vl) (ha : acc = (cs.drop n).reverse.map undoC) (hn : vl = false → n = len) (h : vl = false ∨ n = 0) : undoL cs = acc := by
  subst ha
  cases vl with
  | false =>
    rw [undoL_bad hv, hn rfl, ← hl, List.drop_length]
    rfl
  | true =>
    rcases h with h | rfl
    · cases h
    · rw [undoL_ok hv, List.drop_zero]

end Go.Proofs.YtohdpbalajjjiaaGreat

/-
  WALKS: impl.LogValid, LogUndo, LogApply, LogFits.
-/
namespace Go.Proofs.YtohdpbalajjjiaaGreat
open Go.RowKit
set_option linter.unusedVariables false

/-- Between two rounds of LogApply. -/
def DoneRel (ns : List Nd) (cs : List Cmd) (W : World) (l k o i : Value) (wr : World) : Prop :=
  ∃ (n : Nat) (acc : List Nd) (x : Option Addr), l = .pointer x ∧ k = .bool true ∧ i = .int .i64 n ∧ n ≤ cs.length ∧ wr.ownsRow W.heap.size 125 3 o acc.length (flatN acc) ∧ Hid (EntAt W.heap.size wr x (cs.drop n)) ∧ Hid (acc.length ≤ 10) ∧ Hid (Short 2097152 acc) ∧ Hid (runL ns (cs.take n) = (acc, n)) ∧ Hid (Below W.heap.size W wr)

set_option maxHeartbeats 1000000 in
set_option maxRecDepth 100000 in
theorem implLogValid_c (a : Option Addr) (len cap : Nat) (cs : List Cmd) (hl : len ≤ 2097152) (hs : ShortC 2097152 cs) (W : World) (hN : CmdsAt W a len cs) :
    Calls Tryz.prog 70 #[.slice a len cap] W (BoolPost (validL cs) W) := by
  have HEn := Lib.hid (entriesOf_c a len cap cs hs W hN)
  clear hN hs hl
  go_enter Tryz.func70, Tryz.ntmps70
  go_wp2_with fail
  refine HEn.out.mono ?_
  rintro e W1 ⟨hb, ⟨hv, rfl⟩ | ⟨hv, x, rfl, -⟩⟩
  · have HB := Lib.hid hb
    have HV := Lib.hid hv
    clear hb hv
    go_wp2
    go_ret
    exact ⟨ret_bool HV.out.symm, HB.out⟩
  · have HB := Lib.hid hb
    have HV := Lib.hid hv
    clear hb hv
    go_wp2
    go_ret
    exact ⟨ret_bool HV.out.symm, HB.out⟩

end Go.Proofs.YtohdpbalajjjiaaGreat

/-
  WALKS: impl.LogCanon.
-/
namespace Go.Proofs.YtohdpbalajjjiaaGreat
open Go.RowKit
open Go.Maps (IsMap has)
set_option linter.unusedVariables false

theorem own_lower {W : World} {base base' : Nat} {e : TypeId} {size n : Nat} {v : Value} {xs : List Value} (h : W.ownsRow base e size v n xs) (hb : base' ≤ base) : W.ownsRow base' e size v n xs := by
  obtain ⟨h1, h2⟩ := h
  refine ⟨h1, ?_⟩
  rcases h2 with h3 | ⟨x, cap, cur, rfl, h4, h5⟩
  · exact .inl h3
  · exact .inr ⟨x, cap, cur, rfl, Nat.le_trans hb h4, h5⟩

abbrev RangesC (wr : World) (b r n : Nat) (D : DataW Unit) (left : Lit → Bool) (cnt : Nat) : Prop := wr.ranges Tryz.prog 9 cmdElem b r n D left cnt

theorem ranges_keptM {w w' : World} {b r n : Nat} {D : DataW Unit} {left : Lit → Bool} {cnt : Nat} (h : RangesC w b r n D left cnt) (hk : KeptM w w') : RangesC w' b r n D left cnt := by
  obtain ⟨es, clock, since, seen, c0, hb, F, hs, hD, hr, rest⟩ := h
  exact ⟨es, clock, since, seen, c0, hk b _ hb rfl, F, hs, hD, hk r _ hr rfl, rest⟩

/-- The step of 'for _, c := range wholes'. -/
theorem wpList_next_cmd (w : World) {ops : Array Oper} {rest : List Oper} {o : Oper} {a : Act} {Q : Exit → Act → World → Prop} (hg : o.guard = none) (it : Operand) (hop : o.op = Op.next it false) (b r n : Nat) (D : DataW Unit) (left : Lit → Bool) (cnt : Nat)
    (hit : a.eval it = .pointer (some ⟨r, 0, none⟩)) (h : RangesC w b r n D left cnt)
    (hDone : (∀ kl, left kl = false) → wpList Tryz.prog ops Q rest (a.put o.dst (.tuple #[.bool false])) w)
    (hMore : ∀ (p q : ByteArray) (fk fv tk tv : Int) (w' : World) (cnt' : Nat), left (keyL p) = true → (∀ zd, D.atKey (keyL p) zd = encD ⟨q, fk, fv, tk, tv⟩) → RangesC w' b r n D (fun z => left z && !z.sameKey (keyL p)) cnt' → cnt' < cnt →
      w.grownBy w' (some r) → (Instr.entry (.pointer (some ⟨r, 0, none⟩))).run Tryz.prog w' = .ok (.tuple #[.string p, .agg #[.string q, .int .i64 fk, .int .i64 fv, .int .i64 tk, .int .i64 tv]]) w' →
      wpList Tryz.prog ops Q rest (a.put o.dst (.tuple #[.bool true, .string p, .agg #[.string q, .int .i64 fk, .int .i64 fv, .int .i64 tk, .int .i64 tv]])) w') :
    wpList Tryz.prog ops Q (o :: rest) a w :=
  wpList_next_ranges w hg it hop 9 keyLaw cmdElem (fun p : ByteArray => Value.string p) (fun c : Cmd => .agg #[.string c.p, .int .i64 c.fk, .int .i64 c.fv, .int .i64 c.tk, .int .i64 c.tv])
    (fun key kl hk => by obtain ⟨x, hx, _⟩ := Maps.keyOf_str Tryz.underlying9 hk; exact ⟨_, hx⟩)
    (fun v y hv => by obtain ⟨c, hc, _⟩ := cmdElem_inv hv; exact ⟨c, hc⟩) b r n D left cnt hit h (fun _ hl => hDone hl)
    (fun p c kl y w' cnt' hkey hlk hv hat hrg hlt hgr hsz hen => by
      obtain ⟨x, ex, rfl, _⟩ := Maps.keyOf_str Tryz.underlying9 hkey
      have hp : p = ⟨x.toArray⟩ := by
        have : (Value.string p) = encStr x := ex
        unfold encStr at this
        injection this
      have hkl : (Lit.string x) = keyL p := by rw [hp]; unfold keyL; simp
      rw [hkl] at hlk hat hrg
      obtain ⟨c', ec, rfl⟩ := cmdElem_inv hv
      rw [cmdElem_mk] at hv
      injection hv with hv
      injection hv with hv _
      obtain ⟨q, fk, fv, tk, tv⟩ := c
      exact hMore p q fk fv tk tv w' cnt' hlk (fun zd => (hat zd).trans hv.symm) hrg hlt hgr hen)

def CanonRel (cs : List Cmd) (D : DataW Unit) (b r B : Nat) (W : World) (wr : World) : Prop :=
  ∃ (left : Lit → Bool) (cnt : Nat) (v : Value) (zs : List Cmd), RangesC wr b r cs.length D left cnt ∧ Hid (HpAt wr B (B + 1) v zs) ∧ Hid (HeapK zs zs.length) ∧ Hid (PushK cs left zs) ∧ Hid (Below W.heap.size W wr)

theorem push_round {cs zs ys : List Cmd} {D : DataW Unit} {b r B : Nat} {W wr w2 W4 : World} {left : Lit → Bool} {cnt cnt2 : Nat} {v4 : Value} {p : ByteArray} {c : Cmd} {o : Obj} (hw : WholeK cs cs.length D) (hh : has D (keyL p) = true) (hat : ∀ z, D.atKey (keyL p) z = encD c) (hpk : PushK cs left zs) (hl : left (keyL p) = true)
    (hne : (c.fk, c.fv) ≠ (c.tk, c.tv)) (hq : c.p = p) (hr2 : RangesC w2 b r cs.length D (fun z => left z && !z.sameKey (keyL p)) cnt2) (hrg : RangesC wr b r cs.length D left cnt) (hlt : cnt2 < cnt) (hb2 : Below W.heap.size W w2) (hws : W.heap.size ≤ B)
    (hA4 : HpAt W4 B (B + 1) v4 ys) (hp4 : ys.Perm (zs ++ [c])) (hh4 : HeapK ys ys.length) (hb4 : Below B (w2.alloc o) W4) (hk4 : KeptM (w2.alloc o) W4) : CanonRel cs D b r B W W4 ∧ W4.rangeLeft b r < wr.rangeLeft b r := by
  subst hq
  have hr4 : RangesC W4 b r cs.length D (fun z => left z && !z.sameKey (keyL c.p)) cnt2 := ranges_keptM (ranges_keptM hr2 (KeptM.below (below_box w2 o))) hk4
  exact ⟨⟨_, cnt2, v4, ys, hr4, hA4, hh4, push_one hw hh hat hpk hl hne hp4, (hb2.alloc hb2.size o).trans (hb4.mono hws)⟩, by rw [hr4.left_eq, hrg.left_eq]; exact hlt⟩

theorem skip_round {cs zs : List Cmd} {D : DataW Unit} {b r B : Nat} {W wr w2 : World} {left : Lit → Bool} {cnt cnt2 : Nat} {v : Value} {p : ByteArray} {c : Cmd} {o : Obj} (hw : WholeK cs cs.length D) (hh : has D (keyL p) = true) (hat : ∀ z, D.atKey (keyL p) z = encD c) (hpk : PushK cs left zs)
    (he : (c.fk, c.fv) = (c.tk, c.tv)) (hq : c.p = p) (hr2 : RangesC w2 b r cs.length D (fun z => left z && !z.sameKey (keyL p)) cnt2) (hrg : RangesC wr b r cs.length D left cnt) (hlt : cnt2 < cnt) (hb2 : Below W.heap.size W w2)
    (hA2 : HpAt w2 B (B + 1) v zs) (hhk : HeapK zs zs.length) : CanonRel cs D b r B W (w2.alloc o) ∧ (w2.alloc o).rangeLeft b r < wr.rangeLeft b r := by
  subst hq
  have hr4 : RangesC (w2.alloc o) b r cs.length D (fun z => left z && !z.sameKey (keyL c.p)) cnt2 := ranges_keptM hr2 (KeptM.below (below_box w2 o))
  exact ⟨⟨_, cnt2, v, zs, hr4, hA2.keep (below_box w2 o), hhk, push_skip hw hh hat hpk he, hb2.alloc hb2.size o⟩, by rw [hr4.left_eq, hrg.left_eq]; exact hlt⟩

set_option maxHeartbeats 1000000 in
set_option maxRecDepth 100000 in
theorem logCanon_c (a : Option Addr) (len cap : Nat) (cs : List Cmd) (hl : len ≤ 2097152) (hs : ShortC 2097152 cs) (W : World) (hN : CmdsAt W a len cs) :
    Calls Tryz.prog 52 #[.slice a len cap] W (MovePost (logCanon cs) W) := by
  obtain ⟨vl, hvl⟩ : ∃ v, validL cs = v := ⟨_, rfl⟩
  have HV := Lib.hid (show Calls Tryz.prog 70 #[.slice a len cap] W (BoolPost vl W) by rw [← hvl]; exact implLogValid_c a len cap cs hl hs W hN)
  have HVT := Lib.hid hvl
  have HWH := Lib.hid (fun W' (hb : Below W.heap.size W W') => wholesOf_c a len cap cs hl hs W' (hN.keep hb))
  clear hN hs hl hvl
  go_enter Tryz.func52, Tryz.ntmps52
  go_wp2_with fail
  refine HV.out.mono ?_
  rintro e W1 ⟨rfl, hb1⟩
  have B1 := Lib.hid hb1
  clear hb1
  cases vl with
  | false =>
    go_wp2
    go_ret2
    exact move_end (logCanon_bad HVT.out) (World.ownsRow_nil _ _ _ _) B1.out
  | true =>
    go_wp2_with fail
    refine (HWH.out W1 B1.out).mono ?_
    rintro e W2 ⟨hor, hb2⟩
    have B2 := Lib.hid (below_next B1.out hb2)
    have HB2 := Lib.hid hb2.size
    clear hb2
    rcases hor with ⟨D, rfl, hM, hW⟩ | ⟨rfl, p, hp⟩
    · have HM := Lib.hid hM
      have HW := Lib.hid hW
      have HC20 := Lib.hid (show cs.length ≤ 20 from ((validL_iff cs).1 HVT.out).2)
      clear hM hW
      go_wp2_with (at_range; refine wpList_range_own _ rfl _ _ rfl _ _ keyLaw Tryz.underlying108 cmdElem _ _ D rfl (HM.out.alloc _) ?_; intro w0 hrg0 hg0 hs0)
      simp only [World.size_alloc] at hrg0 hs0 ⊢
      go_frame
      have HX0 := Lib.hid ((Boxed.new W2 111 (.slice none 0 0)).kept hg0 (by simp))
      have HBW := Lib.hid (show Below W.heap.size W w0 from (B2.out.alloc B2.out.size _).grown hg0 (by have := B2.out.size; rw [World.size_alloc]; omega) (by simp))
      have HWS := Lib.hid (show W.heap.size ≤ W2.heap.size from B2.out.size)
      clear hg0 hs0
      go_loopw [8] (fun _ wr => CanonRel cs D W1.heap.size (W2.heap.size + 1) W2.heap.size W wr) (fun _ wr => wr.rangeLeft W1.heap.size (W2.heap.size + 1))
      case atStart => exact ⟨has D, Maps.size D, .slice none 0 0, [], hrg0, ⟨HX0.out, World.ownsRow_nil _ _ _ _, by omega⟩, fun k k0 kn => absurd kn (by simp), push_start HW.out, HBW.out⟩
      case round =>
        clear hrg0
        obtain ⟨left, cnt, v, zs, hrg, HA, HHK, HPK, HB⟩ := hrel
        have HRG := Lib.hid hrg
        go_wp2_with (at_next; refine wpList_next_cmd _ rfl _ rfl _ _ _ _ _ _ rfl hrg ?_ ?_)
        · intro hl0
          have HTA := Lib.hid (takeAll_c W2.heap.size (W2.heap.size + 1) v zs (by have := push_len HPK.out; have := HC20.out; omega) wr HA.out.box.lt HA.out HHK.out)
          have HL0 := Lib.hid hl0
          clear hrg hl0
          go_wp2_with fail
          refine HTA.out.mono ?_
          rintro e W5 ⟨sl, acc, rfl, ho, ht, hb⟩
          go_wp2
          go_ret2
          exact move_end (push_end HVT.out HW.out HPK.out HL0.out ht) (own_lower ho HB.out.size) (HB.out.trans (hb.mono HWS.out))
        · intro p q fk fv tk tv w2 cnt2 hlk hat hrg2 hlt hg2 hen
          have HA2 := Lib.hid (HA.out.grown hg2 (fun e => by injection e with e; omega) (fun k hk e => row_ne_iter HA.out.row HRG.out (e.trans hk.symm)))
          have HB2w := Lib.hid (show Below W.heap.size W w2 from HB.out.grown hg2 (by have := HWS.out; have := HA.out.box.lt; omega) (fun k e => by injection e with e; have := HWS.out; omega))
          have HLK := Lib.hid (And.intro hlk hat)
          have HR2 := Lib.hid hrg2
          have HLT := Lib.hid (show cnt2 < cnt from hlt)
          have HH := Lib.hid (Maps.has_true_of_atKey hat)
          have HQP := Lib.hid (whole_at (c := ⟨q, fk, fv, tk, tv⟩) HW.out (Maps.has_true_of_atKey hat) hat).1
          have HPU := Lib.hid (heapPush_c W2.heap.size (W2.heap.size + 1) v zs ⟨q, fk, fv, tk, tv⟩ (by have := push_len HPK.out; have := HC20.out; omega) (w2.alloc (.cells #[.string q, .int .i64 fk, .int .i64 fv, .int .i64 tk, .int .i64 tv] 33)) (by have := HA2.out.box.lt; rw [World.size_alloc]; omega) (HA2.out.keep (below_box _ _)) HHK.out)
          unfold cmdV at HPU
          simp only at HPU
          clear hrg hlk hat hrg2 hlt hg2
          by_cases e1 : fk = tk
          · by_cases e2 : fv = tv
            · subst e1; subst e2
              clear HPU
              go_wp2
              exact skip_round HW.out HH.out HLK.out.2 HPK.out rfl HQP.out HR2.out HRG.out HLT.out HB2w.out HA2.out HHK.out
            · subst e1
              go_wp2_with (go_at_call 72; (with_reducible refine (HPU.out).mono ?_); rintro e W4 ⟨rfl, v4, ys, hA4, hp4, hh4, hb4, hk4⟩)
              exact push_round HW.out HH.out HLK.out.2 HPK.out HLK.out.1 (fun e => e2 (congrArg Prod.snd e)) HQP.out HR2.out HRG.out HLT.out (hb2 := HB2w.out) HWS.out hA4 hp4 hh4 hb4 hk4
          · go_wp2_with (go_at_call 72; (with_reducible refine (HPU.out).mono ?_); rintro e W4 ⟨rfl, v4, ys, hA4, hp4, hh4, hb4, hk4⟩)
            exact push_round HW.out HH.out HLK.out.2 HPK.out HLK.out.1 (fun e => e1 (congrArg Prod.fst e)) HQP.out HR2.out HRG.out HLT.out (hb2 := HB2w.out) HWS.out hA4 hp4 hh4 hb4 hk4
    · go_wp2
      go_ret2
      exact move_end (logCanon_fail hp) (World.ownsRow_nil _ _ _ _) B2.out

end Go.Proofs.YtohdpbalajjjiaaGreat

/-
  WALKS: slices.Grow and slices.Concat of lists of commands, empty ones and nil too.
-/
namespace Go.Proofs.YtohdpbalajjjiaaGreat
open Go.RowKit
/-- A list of commands among the arguments of slices.Concat. -/
structure CRow where
  a : Option Addr
  len : Nat
  cap : Nat
  cs : List Cmd

/-- A slice of lists of commands in memory. -/
def RowsCAt (W : World) (g off : Nat) (rows : List CRow) : Prop := ∀ i r, rows[i]? = some r → W.cell? ⟨g, off + i, none⟩ = some (.slice r.a r.len r.cap) ∧ CmdsAt W r.a r.len r.cs

theorem RowsCAt.keep {W W' : World} {g off : Nat} {rows : List CRow} (h : RowsCAt W g off rows) (hb : Below W.heap.size W W') : RowsCAt W' g off rows := fun i r hr =>
  ⟨cell_kept hb (h i r hr).1, (h i r hr).2.keep hb⟩

def allC (rows : List CRow) : List Cmd := rows.flatMap CRow.cs

theorem allC_next {rows : List CRow} {i : Nat} {r : CRow} (h : rows[i]? = some r) : allC (rows.take (i + 1)) = allC (rows.take i) ++ r.cs := by
  unfold allC
  rw [List.take_add_one, h, List.flatMap_append]
  simp

theorem allC_le (rows : List CRow) (i : Nat) : (allC (rows.take i)).length ≤ (allC rows).length := by
  conv => rhs; rw [← List.take_append_drop i rows]
  unfold allC
  rw [List.flatMap_append, List.length_append]
  omega

def SizeC (rows : List CRow) (W : World) (s i : Value) (wr : World) : Prop :=
  ∃ n : Nat, i = .int .i64 n ∧ n ≤ rows.length ∧ s = .int .i64 ((allC (rows.take n)).length : Nat) ∧ W = wr

def JoinC (rows : List CRow) (W : World) (o i : Value) (wr : World) : Prop :=
  ∃ n : Nat, i = .int .i64 n ∧ n ≤ rows.length ∧ wr.ownsRow W.heap.size 33 5 o (allC (rows.take n)).length (flatC (allC (rows.take n))) ∧ Hid (Below W.heap.size W wr)

theorem rowsC_two {a1 a2 : Option Addr} {l1 l2 c1 c2 : Nat} {cs ds : List Cmd} (W : World) (h1 : CmdsAt W a1 l1 cs) (h2 : CmdsAt W a2 l2 ds) (t : TypeId) :
    RowsCAt (W.alloc (.cells #[.slice a1 l1 c1, .slice a2 l2 c2] t)) W.heap.size 0 [⟨a1, l1, c1, cs⟩, ⟨a2, l2, c2, ds⟩] := by
  intro i r hr
  match i, hr with
  | 0, hr =>
    simp at hr; subst hr
    exact ⟨by rw [World.cell?_alloc_new]; rfl, h1.keep (below_box _ _)⟩
  | 1, hr =>
    simp at hr; subst hr
    exact ⟨by rw [World.cell?_alloc_new]; rfl, h2.keep (below_box _ _)⟩
  | i + 2, hr => simp at hr

end Go.Proofs.YtohdpbalajjjiaaGreat

/-
  WALKS: slices.Equal of commands; impl.CanonValid, CanonJoin.
-/
namespace Go.Proofs.YtohdpbalajjjiaaGreat
open Go.RowKit
set_option linter.unusedVariables false

theorem cmdNeO (c d : Cmd) (h : c ≠ d) (w : World) : (binOp .neq 33 (.agg #[.string c.p, .int .i64 c.fk, .int .i64 c.fv, .int .i64 c.tk, .int .i64 c.tv]) (.agg #[.string d.p, .int .i64 d.fk, .int .i64 d.fv, .int .i64 d.tk, .int .i64 d.tv])).run Tryz.prog w = .ok (.bool true) w := by
  obtain ⟨p, fk, fv, tk, tv⟩ := c
  obtain ⟨p', fk', fv', tk', tv'⟩ := d
  simp only
  by_cases hp : p = p'
  · subst hp
    by_cases h1 : fk = fk'
    · subst h1
      by_cases h2 : fv = fv'
      · subst h2
        by_cases h3 : tk = tk'
        · subst h3
          by_cases h4 : tv = tv'
          · subst h4
            exact absurd rfl h
          · simp [binOp, go_sem, Op.equal, Op.maxDepth, h4]
        · have : (tk == tk') = false := beq_eq_false_iff_ne.2 h3
          simp [binOp, go_sem, Op.equal, Op.maxDepth, this]
      · have : (fv == fv') = false := beq_eq_false_iff_ne.2 h2
        simp [binOp, go_sem, Op.equal, Op.maxDepth, this]
    · have : (fk == fk') = false := beq_eq_false_iff_ne.2 h1
      simp [binOp, go_sem, Op.equal, Op.maxDepth, this]
  · have : (p.toList == p'.toList) = false := toList_ne hp
    simp [binOp, go_sem, Op.equal, Op.maxDepth, this]

theorem all_two (r s : CRow) : allC [r, s] = r.cs ++ s.cs := by unfold allC; simp

/-- Do two lists have the same commands? -/
def EqPost (cs ds : List Cmd) (W : World) (e : Ending) (w' : World) : Prop := ∃ b, e = .returned (.bool b) ∧ (b = true ↔ cs = ds) ∧ Below W.heap.size W w'

set_option maxHeartbeats 1000000 in
set_option maxRecDepth 100000 in
theorem equalC_c (a1 a2 : Option Addr) (len1 cap1 len2 cap2 : Nat) (cs ds : List Cmd) (hl : len1 ≤ 2097152) (hl2 : len2 ≤ 2097152) (W : World) (h1 : CmdsAt W a1 len1 cs) (h2 : CmdsAt W a2 len2 ds) :
    Calls Tryz.prog 53 #[.slice a1 len1 cap1, .slice a2 len2 cap2] W (EqPost cs ds W) := by
  have H1 := Lib.hid h1
  have H2 := Lib.hid h2
  have hl' : (len1 : Int) ≤ 2097152 := by omega
  clear h1 h2
  by_cases hne : len1 = len2
  · subst hne
    have HE := Lib.hid (And.intro H1.out.1 H2.out.1)
    go_enter Tryz.func53, Tryz.ntmps53
    go_wp2
    go_loopw [13] (fun i wr => ∃ n : Nat, i = .int .i64 n ∧ n ≤ len1 ∧ Hid (cs.take n = ds.take n) ∧ Hid (Below W.heap.size W wr)) (fun i _ => len1 - (intOf i).toNat)
    case atStart => exact ⟨0, rfl, Nat.zero_le _, rfl, Below.refl _ _⟩
    case round =>
      obtain ⟨n, rfl, hn, HT, HB⟩ := hrel
      by_cases hlt : n < len1
      · have hlt' : (n : Int) < len1 := by omega
        obtain ⟨b, off, c, rfl, hc, c0, c1, c2, c3, c4⟩ := (H1.out.keep HB.out).node hlt
        obtain ⟨b', off', d, rfl, hd, d0, d1, d2, d3, d4⟩ := (H2.out.keep HB.out).node hlt
        have HLT := Lib.hid hlt
        have HC := Lib.hid (And.intro hc hd)
        clear hn hlt hc hd
        by_cases hcd : c = d
        · subst hcd
          obtain ⟨p, fk, fv, tk, tv⟩ := c
          simp only at c0 c1 c2 c3 c4 d0 d1 d2 d3 d4
          have ce := fun w => cmdNeS p fk fv tk tv w
          go_upto_region 6 with (fail)
          go_quiet (fail)
          go_wp2
          go_roundw
          case rel => exact ⟨n + 1, by go_num, HLT.out, by rw [take_push HC.out.1, take_push HC.out.2, HT.out]; exact rfl, below_drewN HB.out _⟩
          case measure => have := HLT.out; simp [intOf]; omega
        · have ce := fun w => cmdNeO c d hcd w
          have HCD := Lib.hid hcd
          clear hcd
          obtain ⟨p, fk, fv, tk, tv⟩ := c
          obtain ⟨p', fk', fv', tk', tv'⟩ := d
          simp only at c0 c1 c2 c3 c4 d0 d1 d2 d3 d4 ce
          go_upto_region 6 with (fail)
          go_quiet (fail)
          go_wp2
          go_ret
          refine ⟨false, rfl, ⟨fun h => (by cases h), fun h => ?_⟩, below_drewN HB.out _⟩
          have h3 := HC.out.1
          rw [h, HC.out.2] at h3
          exact absurd (Option.some.inj h3).symm HCD.out
      · have hnl : n = len1 := by omega
        subst hnl
        go_wp2
        go_ret
        refine ⟨true, rfl, ⟨fun _ => ?_, fun _ => rfl⟩, HB.out⟩
        have h3 := HT.out
        rwa [List.take_of_length_le (by rw [HE.out.1]; exact Nat.le_refl _), List.take_of_length_le (by rw [HE.out.2]; exact Nat.le_refl _)] at h3
  · have hn1 : ((len1 : Int) == len2) = false := beq_eq_false_iff_ne.2 (by omega)
    go_enter Tryz.func53, Tryz.ntmps53
    go_wp2
    go_ret
    exact ⟨false, rfl, ⟨fun h => (by cases h), fun h => by subst h; exact absurd (H1.out.1.symm.trans H2.out.1) hne⟩, Below.refl _ _⟩

set_option maxHeartbeats 1000000 in
set_option maxRecDepth 100000 in
theorem implCanonValid_c (a : Option Addr) (len cap : Nat) (cs : List Cmd) (hl : len ≤ 2097152) (hs : ShortC 2097152 cs) (W : World) (hN : CmdsAt W a len cs) :
    Calls Tryz.prog 32 #[.slice a len cap] W (BoolPost (canonV cs) W) := by
  have HL := Lib.hid (logCanon_c a len cap cs hl hs W hN)
  have HN := Lib.hid hN
  have HLN := Lib.hid hl
  clear hN hs hl
  go_enter Tryz.func32, Tryz.ntmps32
  go_wp2_with fail
  refine HL.out.mono ?_
  rintro e W1 ⟨sl, rfl, ho, hb⟩
  have B1 := Lib.hid hb
  have HSELF := Lib.hid (canonV_self cs)
  cases hr : logCanon cs with
  | mk out ok =>
    rw [hr] at ho HSELF
    cases ok with
    | false =>
      have HV : Hid (canonV cs = false) := by
        cases hv : canonV cs with
        | false => exact rfl
        | true => have := HSELF.out.1 hv; cases this
      clear ho hb hr
      go_wp2
      go_ret
      exact ⟨ret_bool HV.out.symm, B1.out⟩
    | true =>
      obtain ⟨a', cap', rfl, hA⟩ := cmds_of_own ho
      have HLO := Lib.hid (canon_some hr)
      have HEQ := Lib.hid (equalC_c a' a out.length cap' len cap out cs (by have h1 := HLO.out; have h2 := ((validL_iff cs).1 h1.1).2; have h3 := h1.2.2.2.2.2; omega) HLN.out W1 hA (HN.out.keep hb))
      clear ho hb hr
      go_wp2_with fail
      refine HEQ.out.mono ?_
      rintro e W2 ⟨b, rfl, hbe, hb2⟩
      have HV : Hid (b = canonV cs) := by
        rw [show b = canonV cs ↔ (b = true ↔ canonV cs = true) from by cases b <;> cases canonV cs <;> simp]
        rw [hbe, HSELF.out]
        exact ⟨fun h => by rw [h], fun h => by injection h⟩
      have B2 := Lib.hid (below_next B1.out hb2)
      clear hbe hb2
      go_wp2
      go_ret
      exact ⟨ret_bool HV.out, B2.out⟩

end Go.Proofs.YtohdpbalajjjiaaGreat

/-
  WALKS: the program's conflicts: impl.bars, CommandsClash, bothCanonical.
-/
namespace Go.Proofs.YtohdpbalajjjiaaGreat
open Go.RowKit
set_option linter.unusedVariables false

theorem rp_first : (0 : Nat) ≤ 0 := Nat.le_refl 0

/-- impl.bars. -/
def overU (c d : Cmd) : Bool := undB c.p d.p && !(c.tk == 1) && !(d.tk == 0)
theorem clash_overU {c d : Cmd} (hc : validC c = true) (hd : validC d = true) : clashP c d = ((decide (c.p = d.p) && !(c.tk == d.tk && c.tv == d.tv)) || overU c d || overU d c) := clash_when hc hd

set_option maxHeartbeats 2000000 in
set_option maxRecDepth 100000 in
theorem implBars_c (c d : Cmd) (hc : c.p.size ≤ 2097152) (hd : d.p.size ≤ 2097152) (W : World) : Calls Tryz.prog 54 #[cmdV c, cmdV d] W (BoolPost (overU c d) W) := by
  obtain ⟨u, hu⟩ : ∃ u, undB c.p d.p = u := ⟨_, rfl⟩
  obtain ⟨x, hx⟩ : ∃ x, (c.tk == 1) = x := ⟨_, rfl⟩
  obtain ⟨y, hy⟩ : ∃ y, (d.tk == 0) = y := ⟨_, rfl⟩
  have HU := Lib.hid (fun w => show Calls Tryz.prog 74 #[.string c.p, .string d.p] w (fun e w' => e = .returned (.bool u) ∧ Below w.heap.size w w') by rw [← hu]; exact pathUnder_c c.p d.p (by omega) (by omega) w)
  have HR := Lib.hid (show overU c d = (u && !x && !y) by unfold overU; rw [hu, hx, hy])
  have T0 := Lib.hid (twoC_new W c d)
  have B0 := Lib.hid (below_next (below_box W (.cells #[.string c.p, .int .i64 c.fk, .int .i64 c.fv, .int .i64 c.tk, .int .i64 c.tv] 33)) (below_box _ (.cells #[.string d.p, .int .i64 d.fk, .int .i64 d.fv, .int .i64 d.tk, .int .i64 d.tv] 33)))
  clear hu hc hd
  obtain ⟨p, fk, fv, tk, tv⟩ := c
  obtain ⟨p', fk', fv', tk', tv'⟩ := d
  unfold cmdV
  simp only at HU T0 B0 HR hx hy ⊢
  have hxn : (tk != 1) = !x := by rw [bne, hx]
  have hyn : (tk' != 0) = !y := by rw [bne, hy]
  obtain ⟨a0, a1, a2, a3, a4, b0, b1, b2, b3, b4⟩ := T0.out
  simp only at a0 a1 a2 a3 a4 b0 b1 b2 b3 b4
  go_enter Tryz.func54, Tryz.ntmps54
  go_wp2_with fail
  refine (HU.out _).mono ?_
  rintro e W1 ⟨rfl, hb1⟩
  have T1 := Lib.hid (T0.out.keep hb1)
  have HB := Lib.hid (below_next B0.out hb1)
  clear a0 a1 a2 a3 a4 b0 b1 b2 b3 b4 hb1
  obtain ⟨a0, a1, a2, a3, a4, b0, b1, b2, b3, b4⟩ := T1.out
  cases u with
  | false =>
    go_wp2
    go_ret
    exact ⟨ret_bool (by rw [HR.out]; rfl), HB.out⟩
  | true =>
    cases x with
    | true =>
      go_wp2
      go_ret
      exact ⟨ret_bool (by rw [HR.out]; rfl), HB.out⟩
    | false =>
      cases y with
      | true =>
        go_wp2
        go_ret
        exact ⟨ret_bool (by rw [HR.out]; rfl), HB.out⟩
      | false =>
        go_wp2
        go_ret
        exact ⟨ret_bool (by rw [HR.out]; rfl), HB.out⟩

set_option maxHeartbeats 2000000 in
set_option maxRecDepth 100000 in
theorem implCommandsClash_c (c d : Cmd) (hc : c.p.size ≤ 2097152) (hd : d.p.size ≤ 2097152) (W : World) : Calls Tryz.prog 34 #[cmdV c, cmdV d] W (BoolPost (clashP c d) W) := by
  obtain ⟨u, hu⟩ : ∃ u, validC c = u := ⟨_, rfl⟩
  obtain ⟨v, hv⟩ : ∃ v, validC d = v := ⟨_, rfl⟩
  have HC := Lib.hid (fun w => show Calls Tryz.prog 20 #[cmdV c] w (BoolPost u w) by rw [← hu]; exact implCmdValid_c c hc w)
  have HD := Lib.hid (fun w => show Calls Tryz.prog 20 #[cmdV d] w (BoolPost v w) by rw [← hv]; exact implCmdValid_c d hd w)
  obtain ⟨x, hx⟩ : ∃ x, (c.tk == d.tk && c.tv == d.tv) = x := ⟨_, rfl⟩
  obtain ⟨y, hy⟩ : ∃ y, (c.p.toList == d.p.toList) = y := ⟨_, rfl⟩
  obtain ⟨r, hr⟩ : ∃ r, overU c d = r := ⟨_, rfl⟩
  obtain ⟨s, hs⟩ : ∃ s, overU d c = s := ⟨_, rfl⟩
  have HU := Lib.hid (fun w => show Calls Tryz.prog 54 #[cmdV c, cmdV d] w (BoolPost r w) by rw [← hr]; exact implBars_c c d hc hd w)
  have HV := Lib.hid (fun w => show Calls Tryz.prog 54 #[cmdV d, cmdV c] w (BoolPost s w) by rw [← hs]; exact implBars_c d c hd hc w)
  have hyd : decide (c.p = d.p) = y := by
    rw [← hy]
    by_cases h : c.p = d.p
    · rw [h]; simp
    · rw [toList_ne h]; exact decide_eq_false h
  have HRF := Lib.hid (show (u && v) = false → clashP c d = false by intro h; unfold clashP; rw [hu, hv, h]; rfl)
  have HR := Lib.hid (show u = true → v = true → clashP c d = ((y && !x) || r || s) by intro h1 h2; rw [← hr, ← hs, ← hyd, ← hx]; exact clash_overU (hu.trans h1) (hv.trans h2))
  have HT := Lib.hid (twoC_new W c d)
  have HB := Lib.hid (below_next (below_box W (.cells #[.string c.p, .int .i64 c.fk, .int .i64 c.fv, .int .i64 c.tk, .int .i64 c.tv] 33)) (below_box _ (.cells #[.string d.p, .int .i64 d.fk, .int .i64 d.fv, .int .i64 d.tk, .int .i64 d.tv] 33)))
  clear hu hv hc hd hr hs hyd
  obtain ⟨p, fk, fv, tk, tv⟩ := c
  obtain ⟨p', fk', fv', tk', tv'⟩ := d
  unfold cmdV at HC HD HU HV ⊢
  simp only at HC HD HU HV HT HB HR HRF hx hy ⊢
  have hne := fun w => (conNeQ tk tv tk' tv' w).trans (show _ = Result.ok (Value.bool (!x)) w by rw [hx])
  clear hx
  obtain ⟨a0, a1, a2, a3, a4, b0, b1, b2, b3, b4⟩ := HT.out
  simp only at a0 a1 a2 a3 a4 b0 b1 b2 b3 b4
  have T0 := HT
  have B0 := HB
  go_enter Tryz.func34, Tryz.ntmps34
  go_wp2_with fail
  refine (HC.out _).mono ?_
  rintro e W1 ⟨rfl, hb1⟩
  have T1 := Lib.hid (T0.out.keep hb1)
  have B1 := Lib.hid (below_next B0.out hb1)
  clear a0 a1 a2 a3 a4 b0 b1 b2 b3 b4 hb1
  obtain ⟨a0, a1, a2, a3, a4, b0, b1, b2, b3, b4⟩ := T1.out
  cases u with
  | false =>
    go_wp2
    go_ret
    exact ⟨ret_bool (HRF.out (by first | rfl | trivial)).symm, B1.out⟩
  | true =>
    go_wp2_with fail
    refine (HD.out _).mono ?_
    rintro e W2 ⟨rfl, hb2⟩
    have T2 := Lib.hid (T1.out.keep hb2)
    have B2 := Lib.hid (below_next B1.out hb2)
    clear a0 a1 a2 a3 a4 b0 b1 b2 b3 b4 hb2
    obtain ⟨a0, a1, a2, a3, a4, b0, b1, b2, b3, b4⟩ := T2.out
    cases v with
    | false =>
      go_wp2
      go_ret
      exact ⟨ret_bool (HRF.out (by first | rfl | trivial)).symm, B2.out⟩
    | true =>
      have HRT := Lib.hid (HR.out (by first | rfl | trivial) (by first | rfl | trivial))
      clear HR HRF
      cases y with
      | true =>
        cases x with
        | false =>
          go_wp2
          go_ret
          exact ⟨ret_bool (by rw [HRT.out]; simp), B2.out⟩
        | true =>
          go_wp2_with fail
          refine (HU.out _).mono ?_
          rintro e W3 ⟨rfl, hb3⟩
          have T3 := Lib.hid (T2.out.keep hb3)
          have B3 := Lib.hid (below_next B2.out hb3)
          clear a0 a1 a2 a3 a4 b0 b1 b2 b3 b4 hb3
          obtain ⟨a0, a1, a2, a3, a4, b0, b1, b2, b3, b4⟩ := T3.out
          cases r with
          | true =>
            go_wp2
            go_ret
            exact ⟨ret_bool (by rw [HRT.out]; simp), B3.out⟩
          | false =>
            go_wp2_with fail
            refine (HV.out _).mono ?_
            rintro e W4 ⟨rfl, hb4⟩
            have B4 := Lib.hid (below_next B3.out hb4)
            clear a0 a1 a2 a3 a4 b0 b1 b2 b3 b4 hb4
            go_wp2
            go_ret
            exact ⟨ret_bool (by rw [HRT.out]; simp), B4.out⟩
      | false =>
        go_wp2_with fail
        refine (HU.out _).mono ?_
        rintro e W3 ⟨rfl, hb3⟩
        have T3 := Lib.hid (T2.out.keep hb3)
        have B3 := Lib.hid (below_next B2.out hb3)
        clear a0 a1 a2 a3 a4 b0 b1 b2 b3 b4 hb3
        obtain ⟨a0, a1, a2, a3, a4, b0, b1, b2, b3, b4⟩ := T3.out
        cases r with
        | true =>
          go_wp2
          go_ret
          exact ⟨ret_bool (by rw [HRT.out]; simp), B3.out⟩
        | false =>
          go_wp2_with fail
          refine (HV.out _).mono ?_
          rintro e W4 ⟨rfl, hb4⟩
          have B4 := Lib.hid (below_next B3.out hb4)
          clear a0 a1 a2 a3 a4 b0 b1 b2 b3 b4 hb4
          go_wp2
          go_ret
          exact ⟨ret_bool (by rw [HRT.out]; simp), B4.out⟩

set_option maxHeartbeats 2000000 in
set_option maxRecDepth 100000 in
theorem implOk_c (a1 : Option Addr) (len1 cap1 : Nat) (cs : List Cmd) (a2 : Option Addr) (len2 cap2 : Nat) (ds : List Cmd) (hl1 : len1 ≤ 2000000) (hl2 : len2 ≤ 2000000) (hs1 : ShortC 2097152 cs) (hs2 : ShortC 2097152 ds) (W : World) (h1 : CmdsAt W a1 len1 cs) (h2 : CmdsAt W a2 len2 ds) :
    Calls Tryz.prog 18 #[.slice a1 len1 cap1, .slice a2 len2 cap2] W (BoolPost (okL cs ds) W) := by
  obtain ⟨u, hu⟩ : ∃ u, canonV cs = u := ⟨_, rfl⟩
  obtain ⟨v, hv⟩ : ∃ v, canonV ds = v := ⟨_, rfl⟩
  have HU := Lib.hid (show Calls Tryz.prog 32 #[.slice a1 len1 cap1] W (BoolPost u W) by rw [← hu]; exact implCanonValid_c a1 len1 cap1 cs (by omega) hs1 W h1)
  have HV := Lib.hid (fun W' (hb : Below W.heap.size W W') => show Calls Tryz.prog 32 #[.slice a2 len2 cap2] W' (BoolPost v W') by rw [← hv]; exact implCanonValid_c a2 len2 cap2 ds (by omega) hs2 W' (h2.keep hb))
  have HR := Lib.hid (show okL cs ds = (u && v) by unfold okL; rw [hu, hv])
  clear hu hv h1 h2 hs1 hs2
  go_enter Tryz.func18, Tryz.ntmps18
  go_wp2_with fail
  refine HU.out.mono ?_
  rintro e W1 ⟨rfl, hb1⟩
  have B1 := Lib.hid hb1
  clear hb1
  cases u with
  | false =>
    go_wp2
    go_ret
    exact ⟨ret_bool HR.out.symm, B1.out⟩
  | true =>
    go_wp2_with fail
    refine (HV.out _ B1.out).mono ?_
    rintro e W2 ⟨rfl, hb2⟩
    have B2 := Lib.hid (below_next B1.out hb2)
    clear hb2
    go_wp2
    go_ret
    exact ⟨ret_bool (by rw [HR.out]; rfl), B2.out⟩

end Go.Proofs.YtohdpbalajjjiaaGreat

/-
  WALKS: rules that are closures: impl.isIn, clashesWith, clashesIn, not, both, rule.of; slices.Contains, slices.ContainsFunc at commands.
-/
namespace Go.Proofs.YtohdpbalajjjiaaGreat
open Go.RowKit
set_option linter.unusedVariables false

theorem rq_first : (0 : Nat) ≤ 0 := Nat.le_refl 0

/-- A rule in memory: a function value that answers f of each command, in this world and in each that grows from it. -/
def RuleAt (w : World) (v : Value) (f : Cmd → Bool) : Prop :=
  ∃ (g : Nat) (lb : Array Value), v = .func (.func g) #[] lb ∧ (∀ args w', (callFunc g args).run Tryz.prog w' = .ok (.enter g args) w') ∧
    ∀ (c : Cmd) (W : World), c.p.size ≤ 2097152 → Below w.heap.size w W → Calls Tryz.prog g (#[cmdV c] ++ lb) W (BoolPost (f c) W)
theorem RuleAt.keep {w w' : World} {v : Value} {f : Cmd → Bool} (h : RuleAt w v f) (hb : Below w.heap.size w w') : RuleAt w' v f := by
  obtain ⟨g, lb, h1, h2, h3⟩ := h
  exact ⟨g, lb, h1, h2, fun c W hc hW => h3 c W hc (below_next hb hW)⟩
/-- What a function that makes a rule tells. -/
def RulePost (f : Cmd → Bool) (W : World) (e : Ending) (w' : World) : Prop := ∃ v, e = .returned v ∧ RuleAt w' v f ∧ Below W.heap.size W w'

theorem any_at {f : Cmd → Bool} {cs : List Cmd} {n : Nat} {d : Cmd} (h : cs[n]? = some d) (hf : f d = true) : cs.any f = true :=
  List.any_eq_true.2 ⟨d, List.mem_of_getElem? h, hf⟩
theorem any_none {f : Cmd → Bool} {cs : List Cmd} (h : ∀ (j : Nat) (d : Cmd), cs[j]? = some d → f d = false) : cs.any f = false := by
  rw [Bool.eq_false_iff]
  intro hs
  obtain ⟨d, hd, hf⟩ := List.any_eq_true.1 hs
  obtain ⟨j, hj⟩ := List.getElem?_of_mem hd
  rw [h j d hj] at hf
  cases hf

/-- What a search tells: a place that is no place if there is none. -/
def IndexPost (b : Bool) (W : World) (e : Ending) (w' : World) : Prop := ∃ i : Int, e = .returned (.int .i64 i) ∧ decide (0 ≤ i) = b ∧ Below W.heap.size W w'

/-- A cell of a block of one cell. -/
theorem one_cell (W : World) (v : Value) (t : TypeId) : (W.alloc (.cells #[v] t)).cell? ⟨W.heap.size, 0, none⟩ = some v := by rw [World.cell?_alloc_new]; rfl

set_option maxHeartbeats 1000000 in
set_option maxRecDepth 100000 in
theorem clashesWith1_call (c d : Cmd) (W : World) (B : Nat) (hc : c.p.size ≤ 2097152) (hd : d.p.size ≤ 2097152) (h0 : W.cell? ⟨B, 0, none⟩ = some (.string d.p)) (h1 : W.cell? ⟨B, 1, none⟩ = some (.int .i64 d.fk)) (h2 : W.cell? ⟨B, 2, none⟩ = some (.int .i64 d.fv)) (h3 : W.cell? ⟨B, 3, none⟩ = some (.int .i64 d.tk)) (h4 : W.cell? ⟨B, 4, none⟩ = some (.int .i64 d.tv)) :
    Calls Tryz.prog 33 #[cmdV c, .pointer (some ⟨B, 0, none⟩)] W (BoolPost (clashP c d) W) := by
  have HM := Lib.hid (fun w => implCommandsClash_c c d hc hd w)
  have HB := Lib.hid (below_box W (.cells #[.string c.p, .int .i64 c.fk, .int .i64 c.fv, .int .i64 c.tk, .int .i64 c.tv] 33))
  have e0 := cell_kept HB.out h0
  have e1 := cell_kept HB.out h1
  have e2 := cell_kept HB.out h2
  have e3 := cell_kept HB.out h3
  have e4 := cell_kept HB.out h4
  clear h0 h1 h2 h3 h4 hc hd
  obtain ⟨mm, hmm⟩ : ∃ mm, clashP c d = mm := ⟨_, rfl⟩
  rw [hmm] at HM ⊢
  clear hmm
  obtain ⟨p, fk, fv, tk, tv⟩ := c
  obtain ⟨p', fk', fv', tk', tv'⟩ := d
  unfold cmdV at HM ⊢
  simp only at HM HB e0 e1 e2 e3 e4 ⊢
  go_enter Tryz.func33, Tryz.ntmps33
  go_wp2_with fail
  refine (HM.out _).mono ?_
  rintro e W1 ⟨rfl, hb1⟩
  have B1 := Lib.hid (below_next HB.out hb1)
  clear hb1 e0 e1 e2 e3 e4
  go_wp2
  go_ret
  exact ⟨rfl, B1.out⟩

theorem clashesWith1_c (W0 : World) (B : Nat) (d : Cmd) (hd : d.p.size ≤ 2097152) (h0 : W0.cell? ⟨B, 0, none⟩ = some (.string d.p)) (h1 : W0.cell? ⟨B, 1, none⟩ = some (.int .i64 d.fk)) (h2 : W0.cell? ⟨B, 2, none⟩ = some (.int .i64 d.fv)) (h3 : W0.cell? ⟨B, 3, none⟩ = some (.int .i64 d.tk)) (h4 : W0.cell? ⟨B, 4, none⟩ = some (.int .i64 d.tv)) :
    RuleAt W0 (.func (.func 33) #[] #[.pointer (some ⟨B, 0, none⟩)]) (fun c => clashP c d) :=
  ⟨_, _, rfl, enters_of Tryz.func33 (by kernel_rfl) rfl, fun c W hc hW => clashesWith1_call c d W B hc hd (cell_kept hW h0) (cell_kept hW h1) (cell_kept hW h2) (cell_kept hW h3) (cell_kept hW h4)⟩

/-- A box of a command, as a row of one. -/
def BoxC (W : World) (B : Nat) (d : Cmd) : Prop := W.ownsRow 0 33 5 (.slice (some ⟨B, 0, none⟩) 1 1) 1 (flatC [d])
theorem boxC_cells {W : World} {B : Nat} {d : Cmd} (h : BoxC W B d) : W.cell? ⟨B, 0, none⟩ = some (.string d.p) ∧ W.cell? ⟨B, 1, none⟩ = some (.int .i64 d.fk) ∧ W.cell? ⟨B, 2, none⟩ = some (.int .i64 d.fv) ∧ W.cell? ⟨B, 3, none⟩ = some (.int .i64 d.tk) ∧ W.cell? ⟨B, 4, none⟩ = some (.int .i64 d.tv) := by
  unfold BoxC at h
  refine ⟨?_, ?_, ?_, ?_, ?_⟩
  · rw [h.cellAt 0 (by omega)]; rfl
  · rw [h.cellAt 1 (by omega)]; rfl
  · rw [h.cellAt 2 (by omega)]; rfl
  · rw [h.cellAt 3 (by omega)]; rfl
  · rw [h.cellAt 4 (by omega)]; rfl
theorem boxC_new (W : World) (d : Cmd) : BoxC (W.alloc (.cells #[.string d.p, .int .i64 d.fk, .int .i64 d.fv, .int .i64 d.tk, .int .i64 d.tv] 33)) W.heap.size d :=
  World.ownsRow_lit (e := 33) (size := 5) W #[.string d.p, .int .i64 d.fk, .int .i64 d.fv, .int .i64 d.tk, .int .i64 d.tv] 1 (Nat.zero_le _) (by simp [maxLen]) rfl
theorem BoxC.keep {W W' : World} {B : Nat} {d : Cmd} (h : BoxC W B d) (hb : Below W.heap.size W W') : BoxC W' B d := own_below h hb
theorem boxC_call (c d : Cmd) (W : World) (B : Nat) (hc : c.p.size ≤ 2097152) (hd : d.p.size ≤ 2097152) (h : BoxC W B d) :
    Calls Tryz.prog 33 #[cmdV c, .pointer (some ⟨B, 0, none⟩)] W (BoolPost (clashP c d) W) := by
  obtain ⟨h0, h1, h2, h3, h4⟩ := boxC_cells h
  exact clashesWith1_call c d W B hc hd h0 h1 h2 h3 h4

/-- What clashesWith tells: its closure, and the box that it has captured. -/
def BoxPost (d : Cmd) (W : World) (e : Ending) (w' : World) : Prop :=
  ∃ B : Nat, e = .returned (.func (.func 33) #[] #[.pointer (some ⟨B, 0, none⟩)]) ∧ BoxC w' B d ∧ Below W.heap.size W w'
set_option maxHeartbeats 1000000 in
set_option maxRecDepth 100000 in
theorem clashesWith_box (d : Cmd) (W : World) : Calls Tryz.prog 19 #[cmdV d] W (BoxPost d W) := by
  have HB := Lib.hid (below_box W (.cells #[.string d.p, .int .i64 d.fk, .int .i64 d.fv, .int .i64 d.tk, .int .i64 d.tv] 33))
  have HR := Lib.hid (boxC_new W d)
  obtain ⟨dd, hdd⟩ : ∃ x, d = x := ⟨_, rfl⟩
  rw [show BoxPost d W = BoxPost dd W by rw [hdd]]
  have HDD := Lib.hid hdd
  clear hdd
  obtain ⟨p', fk', fv', tk', tv'⟩ := d
  unfold cmdV
  simp only at HR HB ⊢
  go_enter Tryz.func19, Tryz.ntmps19
  go_wp2
  go_ret
  exact ⟨_, rfl, by rw [← HDD.out]; exact HR.out, HB.out⟩

set_option maxHeartbeats 1000000 in
set_option maxRecDepth 100000 in
theorem clashesWith_c (d : Cmd) (hd : d.p.size ≤ 2097152) (W : World) : Calls Tryz.prog 19 #[cmdV d] W (RulePost (fun c => clashP c d) W) := by
  have HB := Lib.hid (below_box W (.cells #[.string d.p, .int .i64 d.fk, .int .i64 d.fv, .int .i64 d.tk, .int .i64 d.tv] 33))
  have HR := Lib.hid (by
    obtain ⟨e0, e1, e2, e3, e4, -⟩ := five_new W (.string d.p) (.int .i64 d.fk) (.int .i64 d.fv) (.int .i64 d.tk) (.int .i64 d.tv) 33
    exact clashesWith1_c _ W.heap.size d hd e0 e1 e2 e3 e4)
  clear hd
  obtain ⟨f, hf⟩ : ∃ f : Cmd → Bool, (fun c => clashP c d) = f := ⟨_, rfl⟩
  rw [hf] at HR ⊢
  clear hf
  obtain ⟨p', fk', fv', tk', tv'⟩ := d
  unfold cmdV
  simp only at HR HB ⊢
  go_enter Tryz.func19, Tryz.ntmps19
  go_wp2
  go_ret
  exact ⟨_, rfl, HR.out, HB.out⟩

end Go.Proofs.YtohdpbalajjjiaaGreat

/-
  WALKS: the program's conflicts, second part: impl.SafeOf, AgreedOf, LeftOf, ClashesOf.
-/
namespace Go.Proofs.YtohdpbalajjjiaaGreat
open Go.RowKit
set_option linter.unusedVariables false

theorem rm_first : (0 : Nat) ≤ 0 := Nat.le_refl 0

theorem ok_valid {cs ds : List Cmd} (h : okL cs ds = true) : (∀ c ∈ cs, validC c = true) ∧ (∀ d ∈ ds, validC d = true) := by
  unfold okL at h
  rw [Bool.and_eq_true] at h
  exact ⟨((validL_iff cs).1 (canonV_iff.1 h.1).2.2).1, ((validL_iff ds).1 (canonV_iff.1 h.2).2.2).1⟩
theorem clash_p {c d : Cmd} (hc : validC c = true) (hd : validC d = true) : clashP c d = clashC c d := by unfold clashP; rw [hc, hd]; rfl
theorem any_congr {f g : Cmd → Bool} {cs : List Cmd} (h : ∀ c ∈ cs, f c = g c) : cs.any f = cs.any g := by
  rw [Bool.eq_iff_iff, List.any_eq_true, List.any_eq_true]
  exact ⟨fun ⟨c, hc, hf⟩ => ⟨c, hc, (h c hc) ▸ hf⟩, fun ⟨c, hc, hf⟩ => ⟨c, hc, (h c hc).symm ▸ hf⟩⟩
theorem some_p {cs : List Cmd} {d : Cmd} (h : ∀ c ∈ cs, validC c = true) (hd : validC d = true) : cs.any (fun c => clashP c d) = someC cs d :=
  any_congr (fun c hc => clash_p (h c hc) hd)
theorem safe_rule {cs ds : List Cmd} (h : okL cs ds = true) : ds.filter (fun c => !hasC cs c && !cs.any (fun d => clashP d c)) = safeL cs ds := by
  unfold safeL
  rw [if_pos h]
  refine List.filter_congr fun d hd => ?_
  rw [some_p (ok_valid h).1 ((ok_valid h).2 d hd), Bool.and_comm]
theorem agreed_rule {cs ds : List Cmd} (h : okL cs ds = true) : ds.filter (fun c => hasC cs c && !cs.any (fun d => clashP d c)) = agreedL cs ds := by
  unfold agreedL
  rw [if_pos h]
  refine List.filter_congr fun d hd => ?_
  rw [some_p (ok_valid h).1 ((ok_valid h).2 d hd)]
theorem left_rule {cs ds : List Cmd} (h : okL cs ds = true) : cs.filter (fun c => ds.any (fun d => clashP d c)) = leftL cs ds := by
  unfold leftL
  rw [if_pos h]
  exact List.filter_congr fun c hc => some_p (ok_valid h).2 ((ok_valid h).1 c hc)
theorem bad_nil {cs ds : List Cmd} (h : okL cs ds = false) : safeL cs ds = [] ∧ agreedL cs ds = [] ∧ leftL cs ds = [] ∧ clashesL cs ds = [] := by
  unfold safeL agreedL leftL clashesL
  rw [h]
  exact ⟨rfl, rfl, rfl, rfl⟩
/-- The row of a command: where the program's rule says yes. -/
theorem row_rule {f : Cmd → Bool} {c : Cmd} : ∀ (ds : List Cmd), (∀ d ∈ ds, f d = clashC c d) → ∀ (m : Nat) (d : Cmd), ds[m]? = some d → f d = clashC c d := fun ds h m d hd => h d (List.mem_of_getElem? hd)

set_option maxHeartbeats 4000000 in
set_option maxRecDepth 100000 in
theorem implClashes_c (a1 : Option Addr) (len1 cap1 : Nat) (cs : List Cmd) (a2 : Option Addr) (len2 cap2 : Nat) (ds : List Cmd) (hl1 : len1 ≤ 2000000) (hl2 : len2 ≤ 2000000) (hs1 : ShortC 2097152 cs) (hs2 : ShortC 2097152 ds) (W : World) (h1 : CmdsAt W a1 len1 cs) (h2 : CmdsAt W a2 len2 ds) :
    Calls Tryz.prog 8 #[.slice a1 len1 cap1, .slice a2 len2 cap2] W (ClashPost (clashesL cs ds) W) := by
  obtain ⟨ok, hok⟩ : ∃ x, okL cs ds = x := ⟨_, rfl⟩
  have HOK := Lib.hid (show Calls Tryz.prog 18 #[.slice a1 len1 cap1, .slice a2 len2 cap2] W (BoolPost ok W) by rw [← hok]; exact implOk_c a1 len1 cap1 cs a2 len2 cap2 ds hl1 hl2 hs1 hs2 W h1 h2)
  have HBAD := Lib.hid (fun (h : ok = false) => bad_nil (hok.trans h))
  have HEB := Lib.hid (fun (h : ok = true) => ok_len (hok.trans h))
  have HVD := Lib.hid (fun (h : ok = true) => ok_valid (hok.trans h))
  have HR := Lib.hid (show clashesL cs ds = if ok = true then rowsL ds cs 0 else [] by unfold clashesL; rw [hok])
  have HN1 := Lib.hid h1
  have HN2 := Lib.hid h2
  have HS1 := Lib.hid hs1
  have HS2 := Lib.hid hs2
  have HE := Lib.hid (show cs.length = len1 ∧ ds.length = len2 from ⟨h1.1, h2.1⟩)
  have hl1' : (len1 : Int) ≤ 2000000 := by omega
  have hl2' : (len2 : Int) ≤ 2000000 := by omega
  clear hok h1 h2 hs1 hs2
  go_enter Tryz.func8, Tryz.ntmps8
  go_wp2_with fail
  refine HOK.out.mono ?_
  rintro e W1 ⟨rfl, hb1⟩
  have B1 := Lib.hid hb1
  clear hb1
  cases ok with
  | false =>
    have HX := Lib.hid (HBAD.out rfl).2.2.2
    go_wp2
    go_ret
    exact ⟨⟨_, rfl, by rw [HX.out]; exact World.ownsRow_nil _ _ _ _⟩, B1.out⟩
  | true =>
    replace HEB := Lib.hid (HEB.out rfl)
    replace HVD := Lib.hid (HVD.out rfl)
    have HR2 := Lib.hid (HR.out.trans (if_pos rfl))
    clear HBAD HR
    go_wp2_with fail
    go_loopw [5, 6, 7, 8, 9, 10, 17] (fun o _ _ _ _ _ i wr => ClashOut true cs ds W o i wr) (fun _ _ _ _ _ _ i _ => len1 - (intOf i).toNat)
    case atStart => exact ⟨0, rfl, Nat.zero_le _, .inr rfl, World.ownsRow_nil _ _ _ _, B1⟩
    case round =>
      obtain ⟨n, rfl, hn, HZ, hown, HB⟩ := hrel
      have HO := Lib.hid hown
      clear hown
      by_cases hlt : n < len1
      · have hlt' : (n : Int) < len1 := by omega
        have hw1 : IntKind.i64.wrap ((n : Int) + 1) = (n : Int) + 1 := IntWalk.i64_in _ (by omega)
        have HW := Lib.hid hw1
        have HLT := Lib.hid hlt
        obtain ⟨b, off, c, rfl, hc, d0, d1, d2, d3, d4⟩ := (HN1.out.keep HB.out).node hlt
        have HC := Lib.hid hc
        have HFD := Lib.hid (show ∀ d ∈ ds, clashP d c = clashC c d from fun d hd => by rw [clash_p (HVD.out.2 d hd) (HVD.out.1 c (List.mem_of_getElem? hc)), clash_turn])
        have HCS := Lib.hid (HS1.out.at hc)
        have HFX := Lib.hid (five_new wr (.string c.p) (.int .i64 c.fk) (.int .i64 c.fv) (.int .i64 c.tk) (.int .i64 c.tv) 33)
        have HBX := Lib.hid (below_box wr (.cells #[.string c.p, .int .i64 c.fk, .int .i64 c.fv, .int .i64 c.tk, .int .i64 c.tv] 33))
        obtain ⟨cc, hcc⟩ : ∃ x, c = x := ⟨_, rfl⟩
        have HCC := Lib.hid hcc
        have HCW := Lib.hid (fun w => show Calls Tryz.prog 19 #[cmdV c] w (BoxPost cc w) by rw [← hcc]; exact clashesWith_box c w)
        rw [hcc] at HFD HCS
        obtain ⟨p, fk, fv, tk, tv⟩ := c
        unfold cmdV at HCW
        simp only at d0 d1 d2 d3 d4 HCW HFX HBX
        obtain ⟨f0, f1, f2, f3, f4, -⟩ := HFX.out
        clear hn hlt hc hcc
        go_wp2_with fail
        refine (HCW.out _).mono ?_
        rintro e W2 ⟨BB, rfl, hx2, hb2⟩
        have B2 := Lib.hid (below_next (below_next HB.out HBX.out) hb2)
        have HO2 := Lib.hid (own_below (HO.out.alloc _) hb2)
        have HX2 := Lib.hid hx2
        clear d0 d1 d2 d3 d4 f0 f1 f2 f3 f4 hb2 hx2
        go_wp2_with fail
        go_loopw [5, 9, 10, 26] (fun o _ _ k wr => ClashIn cc n cs ds W o k wr ∧ Hid (BoxC wr BB cc)) (fun _ _ _ k _ => len2 - (intOf k).toNat)
        case atStart => exact ⟨⟨0, rfl, Nat.zero_le _, by have := HO2.out; rwa [List.take_zero, show rowL cc n [] 0 = [] from rfl, List.append_nil], B2⟩, HX2⟩
        case round =>
          obtain ⟨⟨m, rfl, hm, hown2, HBI⟩, HXI⟩ := hrel
          have HO3 := Lib.hid hown2
          clear hown2
          by_cases hmt : m < len2
          · have hmt' : (m : Int) < len2 := by omega
            have hwm : IntKind.i64.wrap ((m : Int) + 1) = (m : Int) + 1 := IntWalk.i64_in _ (by omega)
            have HMT := Lib.hid hmt
            obtain ⟨b', off', d, rfl, hd, e0, e1, e2, e3, e4⟩ := (HN2.out.keep HBI.out).node (i := m) hmt
            obtain ⟨mm, hmm⟩ : ∃ mm, clashP d cc = mm := ⟨_, rfl⟩
            have HCD := Lib.hid (fun w (hb : Below wr.heap.size wr w) => show Calls Tryz.prog 33 #[cmdV d, .pointer (some ⟨BB, 0, none⟩)] w (BoolPost mm w) by rw [← hmm]; exact boxC_call d cc w BB (HS2.out.at hd) HCS.out (HXI.out.keep hb))
            have HXS := Lib.hid (clash_bound (cs := cs) (ds := ds) (c := cc) (n := n) (m := m) HEB.out.1 HEB.out.2)
            have HRS := Lib.hid (show rowsL ds (cs.take n) 0 ++ rowL cc n (ds.take (m + 1)) 0 = (rowsL ds (cs.take n) 0 ++ rowL cc n (ds.take m) 0) ++ (if mm = true then [(n, m)] else []) by rw [row_take hd, ← hmm, HFD.out d (List.mem_of_getElem? hd), List.append_assoc])
            have HF := Lib.hid (five_new wr (.string d.p) (.int .i64 d.fk) (.int .i64 d.fv) (.int .i64 d.tk) (.int .i64 d.tv) 33)
            have HBX := Lib.hid (below_box wr (.cells #[.string d.p, .int .i64 d.fk, .int .i64 d.fv, .int .i64 d.tk, .int .i64 d.tv] 33))
            obtain ⟨q, fk', fv', tk', tv'⟩ := d
            unfold cmdV at HCD
            simp only at e0 e1 e2 e3 e4 HCD HF HBX
            clear hm hmt hd hmm
            obtain ⟨f0, f1, f2, f3, f4, -⟩ := HF.out
            go_wp2_with fail
            refine (HCD.out _ HBX.out).mono ?_
            rintro e W3 ⟨rfl, hb3⟩
            have B3 := Lib.hid (below_next (below_next HBI.out HBX.out) hb3)
            have X3 := Lib.hid (HXI.out.keep (below_next HBX.out hb3))
            have HO4 := Lib.hid (own_below (HO3.out.alloc _) hb3)
            clear hb3 e0 e1 e2 e3 e4 f0 f1 f2 f3 f4
            cases mm
            · have HRS2 := Lib.hid (HRS.out.trans (by rw [if_neg Bool.false_ne_true, List.append_nil]))
              go_wp2
              go_roundw
              case rel => exact ⟨⟨m + 1, by go_num, by have := HMT.out; have := HE.out; omega, by rw [HRS2.out]; exact HO4.out, B3⟩, X3⟩
              case measure => have := HMT.out; simp [intOf]; omega
            · have HRS2 := Lib.hid (HRS.out.trans (by rw [if_pos rfl]))
              go_wp2_with (at_builtin; refine wpList_append_clash rfl _ _ rfl W.heap.size _ _ rfl (HO4.out.alloc _) _ _ (n, m) rfl (clash_lit _ (n, m)) (by have := HXS.out; omega) (by have := B3.out.size; simp; omega) ?_; intro v4 w4 ho4 hg4; have HB9 := Lib.hid ((B3.out.alloc B3.out.size _).grown hg4 (by have := B3.out.size; simp; omega) (fun k e => (HO4.out.lt k e).1)); have HX9 := Lib.hid (show BoxC w4 BB cc from apart_type (X3.out.keep (below_box _ _)) (HO4.out.alloc _) (by decide) hg4); clear hg4)
              go_roundw
              case rel => exact ⟨⟨m + 1, by go_num, by have := HMT.out; have := HE.out; omega, by rw [HRS2.out]; exact ho4, HB9⟩, HX9⟩
              case measure => have := HMT.out; simp [intOf]; omega
          · have hge : (len2 : Int) ≤ m := by omega
            have HL := Lib.hid (show rowsL ds (cs.take (n + 1)) 0 = rowsL ds (cs.take n) 0 ++ rowL cc n (ds.take m) 0 by rw [← HCC.out, rows_take HC.out, show ds.take m = ds from List.take_of_length_le (by have := HE.out; omega)])
            clear hm hmt
            have hw1 := HW.out
            go_wp2
            go_roundw
            case rel => exact ⟨n + 1, by go_num, by have := HLT.out; have := HE.out; omega, .inr rfl, by rw [HL.out]; exact HO3.out, HBI⟩
            case measure => have := HLT.out; simp [intOf]; omega
      · have hge : (len1 : Int) ≤ n := by omega
        have HX := Lib.hid (HR2.out.trans (show rowsL ds cs 0 = rowsL ds (cs.take n) 0 by rw [List.take_of_length_le (by have := HE.out; omega)]))
        clear hn hlt
        go_wp2
        go_ret
        rw [HX.out]
        exact ⟨⟨_, rfl, HO.out⟩, HB.out⟩

end Go.Proofs.YtohdpbalajjjiaaGreat

/-
  PLAIN MATHEMATICS OF LINES: as many lines as conflicts; the first line.
-/
namespace Go.Proofs.YtohdpbalajjjiaaGreat
set_option linter.unusedVariables false

theorem zbytes_app (x y : ByteArray) : (x ++ y).data.toList = x.data.toList ++ y.data.toList := by simp [ByteArray.data_append]

theorem blen (s : ByteArray) : s.data.toList.length = s.size := Array.length_toList

theorem path_nonl {p : ByteArray} (h : vpB p = true) : ∀ x ∈ p.data.toList, x ≠ 10 := by
  obtain ⟨w, hw, rfl⟩ := vpB_word h
  rw [pB_list]
  intro x hx e
  subst e
  unfold Pm.pathOf at hx
  split at hx
  · simp at hx
  · have hf : ∀ (w : List UInt8), (∀ x ∈ w, Pm.letter x = true) → (10 : UInt8) ∉ Pm.flat w := by
      intro w
      induction w with
      | nil => intro _; simp [Pm.flat]
      | cons c r ih =>
        intro hl hc
        simp only [Pm.flat, List.mem_cons] at hc
        rcases hc with hc | hc | hc
        · exact absurd hc (by decide)
        · have := hl c (by simp)
          rw [← hc] at this
          exact absurd this (by decide)
        · exact ih (fun x hx => hl x (List.mem_cons_of_mem _ hx)) hc
    exact hf w hw.2 hx

theorem dec_nonl {n : Nat} (h : n < 100) : ∀ x ∈ (decB n).data.toList, x ≠ 10 := by
  have e : (decB n).data.toList = Lib.decDigits n := rfl
  rw [e]
  by_cases h1 : n < 10
  · rw [Lib.decDigits_one h1]
    intro x hx e
    rw [List.mem_singleton.1 hx] at e
    have := congrArg UInt8.toNat e
    simp at this
    omega
  · rw [Lib.decDigits_two h1 h]
    intro x hx e
    subst e
    simp at hx
    rcases hx with hx | hx <;>
    · have := congrArg UInt8.toNat hx
      simp at this
      omega

theorem con_nonl (k v : Int) : ∀ x ∈ (conText k v).data.toList, x ≠ 10 := by
  unfold conText
  split
  · rename_i h
    split
    · intro x hx; simp at hx; subst hx; decide
    · split
      · intro x hx; simp at hx; subst hx; decide
      · rename_i h0 h1
        have h' := h
        unfold validB at h'
        simp [h0, h1] at h'
        rw [zbytes_app]
        intro x hx
        rcases List.mem_append.1 hx with hx | hx
        · simp at hx; subst hx; decide
        · exact dec_nonl (by omega) x hx
  · intro x hx; simp at hx

theorem text_nonl {c : Cmd} (h : validC c = true) : ∀ x ∈ (textC c).data.toList, x ≠ 10 := by
  rw [textC_ok h]
  simp only [zbytes_app]
  intro x hx
  simp only [List.mem_append] at hx
  rcases hx with (((hx | hx) | hx) | hx) | hx
  · exact path_nonl (vp_of_depth ((validC_iff c).1 h).1) x hx
  · simp at hx; subst hx; decide
  · exact con_nonl _ _ x hx
  · simp at hx; subst hx; decide
  · exact con_nonl _ _ x hx

/-- How many newlines there are in the first n bytes. -/
def nlTo (s : ByteArray) (n : Nat) : Nat := (s.data.toList.take n).count 10

theorem count_none {l : List UInt8} (h : ∀ x ∈ l, x ≠ 10) : l.count 10 = 0 := List.count_eq_zero.2 fun hm => h 10 hm rfl

theorem line_count {c d : Cmd} (hc : validC c = true) (hd : validC d = true) : (lineC c d).data.toList.count 10 = 1 := by
  unfold lineC
  simp only [zbytes_app, List.count_append, count_none (text_nonl hc), count_none (text_nonl hd)]
  decide

theorem lines_foldl (a b : List Cmd) : ∀ (xs : List (Nat × Nat)) (s : ByteArray), (xs.foldl (fun s x => s ++ lineAt a b x) s).data.toList = s.data.toList ++ (linesL a b xs).data.toList := by
  intro xs
  induction xs with
  | nil => intro s; simp [linesL]
  | cons x r ih =>
    intro s
    unfold linesL
    rw [List.foldl_cons, List.foldl_cons, ih (s ++ lineAt a b x), ih (⟨#[]⟩ ++ lineAt a b x), zbytes_app, zbytes_app]
    simp

theorem lines_cons (a b : List Cmd) (x : Nat × Nat) (r : List (Nat × Nat)) : (linesL a b (x :: r)).data.toList = (lineAt a b x).data.toList ++ (linesL a b r).data.toList := by
  have := lines_foldl a b r (⟨#[]⟩ ++ lineAt a b x)
  unfold linesL
  rw [List.foldl_cons, this, zbytes_app]
  simp [linesL]

theorem lines_count {a b : List Cmd} : ∀ (xs : List (Nat × Nat)), (∀ x ∈ xs, ∃ c d, a[x.1]? = some c ∧ b[x.2]? = some d ∧ validC c = true ∧ validC d = true) → (linesL a b xs).data.toList.count 10 = xs.length
  | [], _ => rfl
  | x :: r, h => by
    obtain ⟨c, d, h1, h2, h3, h4⟩ := h x (by simp)
    rw [lines_cons, List.count_append, lines_count r (fun y hy => h y (List.mem_cons_of_mem _ hy)), lineAt_eq h1 h2, line_count h3 h4, List.length_cons]
    omega

theorem clash_all {a b : List Cmd} : ∀ x ∈ clashesL a b, ∃ c d, a[x.1]? = some c ∧ b[x.2]? = some d ∧ validC c = true ∧ validC d = true := by
  intro x hx
  obtain ⟨n, hn⟩ := List.mem_iff_getElem?.1 hx
  obtain ⟨c, d, h1, h2, _, hok⟩ := clash_mem hn
  exact ⟨c, d, h1, h2, (ok_valid hok).1 c (List.mem_of_getElem? h1), (ok_valid hok).2 d (List.mem_of_getElem? h2)⟩

/-- P103: as many lines as conflicts. -/
theorem clashText_count (a b : List Cmd) : nlTo (clashText a b) (clashText a b).size = (clashesL a b).length := by
  unfold nlTo
  rw [List.take_of_length_le (Nat.le_of_eq (blen _)), clashText, lines_count _ clash_all]

theorem nlTo_step {s : ByteArray} {n : Nat} (h : n < s.size) : nlTo s (n + 1) = nlTo s n + (if s.data.toList[n]'(by rw [blen]; exact h) = 10 then 1 else 0) := by
  have hn : n < s.data.toList.length := by rw [blen]; exact h
  unfold nlTo
  rw [List.take_succ_eq_append_getElem hn, List.count_append, List.count_singleton]
  simp only [beq_iff_eq]
theorem nlTo_le (s : ByteArray) (n : Nat) : nlTo s n ≤ n := by
  unfold nlTo
  exact Nat.le_trans List.count_le_length (by rw [List.length_take]; omega)

/-- P103: the first one. -/
theorem clashText_first {a b : List Cmd} {x : Nat × Nat} {c d : Cmd} (h : (clashesL a b)[0]? = some x) (h1 : a[x.1]? = some c) (h2 : b[x.2]? = some d) :
    (lineC c d).size ≤ (clashText a b).size ∧ (clashText a b).extract 0 (lineC c d).size = lineC c d := by
  cases hxs : clashesL a b with
  | nil => rw [hxs] at h; simp at h
  | cons y r =>
    rw [hxs] at h
    simp at h
    subst h
    have e : (clashText a b).data.toList = (lineC c d).data.toList ++ (linesL a b r).data.toList := by
      unfold clashText
      rw [hxs, lines_cons, lineAt_eq h1 h2]
    have hl : (clashText a b).size = (lineC c d).size + (linesL a b r).size := by
      have := congrArg List.length e
      rwa [List.length_append, blen, blen, blen] at this
    refine ⟨by omega, ?_⟩
    apply ByteArray.ext
    apply Array.toList_inj.1
    rw [ByteArray.data_extract, Array.toList_extract, e]
    rw [← blen]
    simp

theorem clashText_nil {a b : List Cmd} (h : (clashesL a b).length = 0) : clashText a b = ⟨#[]⟩ := by
  unfold clashText
  rw [List.length_eq_zero_iff.1 h]
  rfl

end Go.Proofs.YtohdpbalajjjiaaGreat

/-
  WALK: impl.ClashText (a strings.Builder written for each conflict); strings.Builder's contracts, by the library's, at this program's numbers.
-/
namespace Go.Proofs.YtohdpbalajjjiaaGreat
open Go.Shelf Go.RowKit
set_option linter.unusedVariables false

def Bld.lays166_ren : Go.Shelf.Ren := ⟨fun | 166 => 14 | 240 => 27 | 276 => 46 | n => n, fun | 0 => 0 | 3 => 3 | 4 => 4 | 5 => 5 | 9 => 9 | 20 => 20 | 37 => 22 | 70 => 42 | 72 => 44 | 75 => 46 | 80 => 49 | 164 => 85 | n => n, fun | n => n⟩
theorem Bld.lays166 : Go.Proofs.Lays.n166 Tryz.prog Bld.lays166_ren := {
  mixed := by kernel_rfl
  f166 := Tryz.func14.trans (congrArg some (by kernel_rfl))
  f240 := Tryz.func27.trans (congrArg some (by kernel_rfl))
  f276 := Tryz.func46.trans (congrArg some (by kernel_rfl))
  t0 := Tryz.underlying0
  a0 := Tryz.isAgg0
  z0 := Tryz.sizeOf0
  v0 := Tryz.zeroValue0
  t3 := Tryz.underlying3
  a3 := Tryz.isAgg3
  z3 := Tryz.sizeOf3
  v3 := Tryz.zeroValue3
  t4 := Tryz.underlying4
  a4 := Tryz.isAgg4
  z4 := Tryz.sizeOf4
  v4 := Tryz.zeroValue4
  t9 := Tryz.underlying9
  a9 := Tryz.isAgg9
  z9 := Tryz.sizeOf9
  v9 := Tryz.zeroValue9
  t20 := Tryz.underlying20
  a20 := Tryz.isAgg20
  z20 := Tryz.sizeOf20
  v20 := Tryz.zeroValue20
  t37 := Tryz.underlying22
  a37 := Tryz.isAgg22
  z37 := Tryz.sizeOf22
  v37 := Tryz.zeroValue22
  t70 := Tryz.underlying42
  a70 := Tryz.isAgg42
  z70 := Tryz.sizeOf42
  v70 := Tryz.zeroValue42
  t72 := Tryz.underlying44
  a72 := Tryz.isAgg44
  z72 := Tryz.sizeOf44
  v72 := Tryz.zeroValue44
  t75 := Tryz.underlying46
  a75 := Tryz.isAgg46
  z75 := Tryz.sizeOf46
  v75 := Tryz.zeroValue46
  t164 := Tryz.underlying85
  a164 := Tryz.isAgg85
  z164 := Tryz.sizeOf85
  v164 := Tryz.zeroValue85 }
def Bld.lays169_ren : Go.Shelf.Ren := ⟨fun | 169 => 15 | n => n, fun | 0 => 0 | 3 => 3 | 5 => 5 | 9 => 9 | 37 => 22 | 70 => 42 | 72 => 44 | 127 => 65 | n => n, fun | n => n⟩
theorem Bld.lays169 : Go.Proofs.Lays.n169 Tryz.prog Bld.lays169_ren := {
  mixed := by kernel_rfl
  f169 := Tryz.func15.trans (congrArg some (by kernel_rfl))
  t0 := Tryz.underlying0
  a0 := Tryz.isAgg0
  z0 := Tryz.sizeOf0
  v0 := Tryz.zeroValue0
  t3 := Tryz.underlying3
  a3 := Tryz.isAgg3
  z3 := Tryz.sizeOf3
  v3 := Tryz.zeroValue3
  t9 := Tryz.underlying9
  a9 := Tryz.isAgg9
  z9 := Tryz.sizeOf9
  v9 := Tryz.zeroValue9
  t37 := Tryz.underlying22
  a37 := Tryz.isAgg22
  z37 := Tryz.sizeOf22
  v37 := Tryz.zeroValue22
  t70 := Tryz.underlying42
  a70 := Tryz.isAgg42
  z70 := Tryz.sizeOf42
  v70 := Tryz.zeroValue42
  t72 := Tryz.underlying44
  a72 := Tryz.isAgg44
  z72 := Tryz.sizeOf44
  v72 := Tryz.zeroValue44
  t127 := Tryz.underlying65
  a127 := Tryz.isAgg65
  z127 := Tryz.sizeOf65
  v127 := Tryz.zeroValue65 }
theorem Bld.x166 : Builder.Extra Tryz.prog Bld.lays166_ren := {
  sizeBuilder := by kernel_rfl
  liesBuilder := by kernel_rfl
  t5 := Tryz.underlying5
  a5 := Tryz.isAgg5
  z5 := Tryz.sizeOf5
  v5 := Tryz.zeroValue5
  infoByte := by kernel_rfl
  cellsByte := by kernel_rfl
  sizeByte := by kernel_rfl
  neB5 := by decide }
theorem Bld.x169 : Builder.Extra Tryz.prog Bld.lays169_ren := {
  sizeBuilder := by kernel_rfl
  liesBuilder := by kernel_rfl
  t5 := Tryz.underlying5
  a5 := Tryz.isAgg5
  z5 := Tryz.sizeOf5
  v5 := Tryz.zeroValue5
  infoByte := by kernel_rfl
  cellsByte := by kernel_rfl
  sizeByte := by kernel_rfl
  neB5 := by decide }
/-- A builder in block b that holds these bytes. -/
def BldAt (b : Nat) (s : ByteArray) (w : World) : Prop := Lib.IsBuilderF 44 5 b b (Lib.byteCells s.data.toList) w
abbrev BldKept (b : Nat) (w w' : World) : Prop := Lib.OthersKept 5 (some b) w w'
theorem BldAt.keep {b : Nat} {s : ByteArray} {w w' : World} (h : BldAt b s w) (hb : Below w.heap.size w w') : BldAt b s w' := by
  have hk : ∀ {p : Value}, Lib.BuilderAtF 44 5 b b p (Lib.byteCells s.data.toList) w → Lib.BuilderAtF 44 5 b b p (Lib.byteCells s.data.toList) w' := by
    rintro p ⟨h1, v, h2, ⟨h3, h4⟩, h5⟩
    have ho : ∀ k o, w.heap[k]? = some o → w'.heap[k]? = some o := fun k o hk => (hb.block k (Array.getElem?_eq_some_iff.1 hk).1).trans hk
    refine ⟨h1, v, ho _ _ h2, ⟨h3, ?_⟩, h5⟩
    rcases h4 with h4 | ⟨g, cap, cur, fz, e1, e2, e3, e4⟩
    · exact .inl h4
    · exact .inr ⟨g, cap, cur, fz, e1, e2, ho _ _ e3, e4⟩
  exact h.imp hk hk
theorem kept_below {b : Nat} {w w' : World} (hb : Below w.heap.size w w') : BldKept b w w' := fun k o hk _ _ => (hb.block k (Array.getElem?_eq_some_iff.1 hk).1).trans hk
theorem write_c (b : Nat) (s t : ByteArray) (w : World) (h : BldAt b s w) (hs : s.size + t.size ≤ 100000000) (hw : b ≤ w.heap.size) :
    Calls Tryz.prog 14 #[.pointer (some ⟨b, 0, none⟩), .string t] w fun e w' => e = .returned (.tuple #[.int .i64 t.size, .nilIface]) ∧ BldAt b (s ++ t) w' ∧ Below b w w' ∧ BldKept b w w' := by
  refine (Any.Builder_WriteString_k Bld.lays166 Bld.x166 b b _ t w h (by rw [Lib.byteCells_length, Array.length_toList]; show s.size + _ ≤ _; omega) hw).mono ?_
  rintro e w' ⟨rfl, h1, h2, h3⟩
  refine ⟨rfl, .inr ?_, h2, h3⟩
  have e : (s ++ t).data.toList = s.data.toList ++ t.data.toList := by rw [ByteArray.data_append, Array.toList_append]
  rw [e, Lib.byteCells_append, ← Lib.strCells_eq t]
  exact h1
theorem told_c (b : Nat) (s : ByteArray) (w : World) (h : BldAt b s w) (hw : b ≤ w.heap.size) :
    Calls Tryz.prog 15 #[.pointer (some ⟨b, 0, none⟩)] w fun e w' => e = .returned (.string s) ∧ Below b w w' := by
  refine (Any.Builder_String_any_k Bld.lays169 Bld.x169 b b _ w h hw).mono ?_
  rintro e w' ⟨rfl, _, h2, _⟩
  exact ⟨rfl, h2⟩

theorem clash_lt {b : Nat} {s : ByteArray} {w : World} (h : BldAt b s w) : b < w.heap.size := h.elim (fun h => h.lt) (fun h => h.lt)

/-- The list of conflicts lies in a block that the builder leaves alone. -/
def ClashRow (W : World) (b : Nat) (x : Option Addr) (len : Nat) (xs : List Pr2) : Prop :=
  xs.length = len ∧ (len = 0 ∨ ∃ g cur, x = some ⟨g, 0, none⟩ ∧ g ≠ b ∧ W.heap[g]? = some (.cells cur 35 (0, 0)) ∧ cur.toList.take (len * 2) = flatX xs)
theorem ClashRow.of_own {W : World} {b base : Nat} {v : Value} {xs : List Pr2} (h : W.ownsRow base 35 2 v xs.length (flatX xs)) (hb : b < base) : ∃ x cap, v = .slice x xs.length cap ∧ ClashRow W b x xs.length xs := by
  rcases h.2 with ⟨rfl, h0⟩ | ⟨g, cap, cur, rfl, h1, h2, h3, h4, h5, h6⟩
  · exact ⟨none, 0, by rw [h0], rfl, .inl h0⟩
  · exact ⟨some ⟨g, 0, none⟩, cap, rfl, rfl, .inr ⟨g, cur, rfl, by omega, h2, h6⟩⟩
theorem ClashRow.keep {W W' : World} {b len : Nat} {x : Option Addr} {xs : List Pr2} (h : ClashRow W b x len xs) (hk : BldKept b W W') : ClashRow W' b x len xs := by
  obtain ⟨h1, h0 | ⟨g, cur, rfl, h2, h3, h4⟩⟩ := h
  · exact ⟨h1, .inl h0⟩
  · exact ⟨h1, .inr ⟨g, cur, rfl, h2, hk g _ h3 (fun e => h2 (Option.some.inj e)) (fun c fz e => by injection e with _ e2; exact absurd e2 (by decide)), h4⟩⟩
theorem ClashRow.node {W : World} {b len : Nat} {x : Option Addr} {xs : List Pr2} (h : ClashRow W b x len xs) {i : Nat} (hi : i < len) :
    ∃ g y, x = some ⟨g, 0, none⟩ ∧ xs[i]? = some y ∧ W.cell? ⟨g, i * 2, none⟩ = some (.int .i64 (y.1 : Nat)) ∧ W.cell? ⟨g, i * 2 + 1, none⟩ = some (.int .i64 (y.2 : Nat)) := by
  obtain ⟨h1, h0 | ⟨g, cur, rfl, h2, h3, h4⟩⟩ := h
  · omega
  · obtain ⟨y, hy⟩ : ∃ y, xs[i]? = some y := ⟨_, List.getElem?_eq_getElem (by omega)⟩
    obtain ⟨f0, f1⟩ := flatX_get xs i y hy
    have hc : ∀ j v, j < len * 2 → (flatX xs)[j]? = some v → W.cell? ⟨g, j, none⟩ = some v := by
      intro j v hj hv
      rw [← h4, List.getElem?_take, if_pos hj] at hv
      simpa [World.cell?, h3] using hv
    exact ⟨g, y, rfl, hy, hc _ _ (by omega) f0, hc _ _ (by omega) f1⟩

def ClashTextRel (cs ds : List Cmd) (W W1 : World) (i : Value) (wr : World) : Prop :=
  ∃ n : Nat, i = .int .i64 n ∧ n ≤ (clashesL cs ds).length ∧ Hid (BldAt W.heap.size (linesL cs ds ((clashesL cs ds).take n)) wr) ∧ Hid (BldKept W.heap.size W1 wr) ∧ Hid (Below W.heap.size W wr)

set_option maxHeartbeats 4000000 in
set_option maxRecDepth 100000 in
theorem implClashText_c (a1 : Option Addr) (len1 cap1 : Nat) (cs : List Cmd) (a2 : Option Addr) (len2 cap2 : Nat) (ds : List Cmd) (hl1 : len1 ≤ 2000000) (hl2 : len2 ≤ 2000000) (hs1 : ShortC 2097152 cs) (hs2 : ShortC 2097152 ds) (W : World) (h1 : CmdsAt W a1 len1 cs) (h2 : CmdsAt W a2 len2 ds) :
    Calls Tryz.prog 6 #[.slice a1 len1 cap1, .slice a2 len2 cap2] W (TextPost (clashText cs ds) W) := by
  obtain ⟨xs, hxs⟩ : ∃ xs, clashesL cs ds = xs := ⟨_, rfl⟩
  have HCL := Lib.hid (fun w (hb : Below W.heap.size W w) => show Calls Tryz.prog 8 #[.slice a1 len1 cap1, .slice a2 len2 cap2] w (ClashPost xs w) by rw [← hxs]; exact implClashes_c a1 len1 cap1 cs a2 len2 cap2 ds hl1 hl2 hs1 hs2 w (h1.keep hb) (h2.keep hb))
  have HXL := Lib.hid (show xs.length ≤ 1000000 by rw [← hxs]; exact clash_small cs ds)
  have HXM := Lib.hid (show ∀ (n : Nat) (x : Nat × Nat), xs[n]? = some x → ∃ c d, cs[x.1]? = some c ∧ ds[x.2]? = some d from fun n x h => by rw [← hxs] at h; obtain ⟨c, d, e1, e2, _⟩ := clash_mem h; exact ⟨c, d, e1, e2⟩)
  have HN1 := Lib.hid h1
  have HN2 := Lib.hid h2
  have HS1 := Lib.hid hs1
  have HS2 := Lib.hid hs2
  have HE := Lib.hid (show cs.length = len1 ∧ ds.length = len2 from ⟨h1.1, h2.1⟩)
  have HRS := Lib.hid (show clashText cs ds = linesL cs ds xs by rw [← hxs]; rfl)
  have HB0 := Lib.hid (below_box W (.cells #[.pointer none, .slice none 0 0] 44))
  have HBD := Lib.hid (show BldAt W.heap.size ⟨#[]⟩ (W.alloc (.cells #[.pointer none, .slice none 0 0] 44)) from Lib.IsBuilderF.of (Lib.fresh_isBuilder 44 5 W))
  have hl1' : (len1 : Int) ≤ 2000000 := by omega
  have hl2' : (len2 : Int) ≤ 2000000 := by omega
  clear h1 h2 hs1 hs2
  go_enter Tryz.func6, Tryz.ntmps6
  go_wp2_with fail
  refine (HCL.out _ HB0.out).mono ?_
  rintro e W1 ⟨⟨sl, rfl, ho1⟩, hb1⟩
  obtain ⟨x0, xcap, rfl, hrow⟩ := ClashRow.of_own (b := W.heap.size) ho1 (by simp)
  obtain ⟨nx, hnx⟩ : ∃ n, xs.length = n := ⟨_, rfl⟩
  rw [hnx] at hrow
  rw [hnx]
  have HNX := Lib.hid hnx
  have hnx' : (nx : Int) ≤ 1000000 := by have := HXL.out; omega
  have HROW := Lib.hid hrow
  have B1 := Lib.hid (below_next HB0.out hb1)
  have HBD1 := Lib.hid (HBD.out.keep hb1)
  clear ho1 hrow hb1 hnx
  go_wp2_with fail
  go_loopw [12] (fun i wr => ClashTextRel cs ds W W1 i wr) (fun i _ => nx - (intOf i).toNat)
  case atStart => exact ⟨0, rfl, Nat.zero_le _, by rw [List.take_zero]; exact HBD1, Lib.hid (Lib.OthersKept.refl _ _ _), B1⟩
  case round =>
    obtain ⟨n, rfl, hn, HBL, HKE, HBE⟩ := hrel
    rw [hxs] at hn HBL
    by_cases hlt : n < nx
    · have hlt' : (n : Int) < nx := by omega
      have hw1 : IntKind.i64.wrap ((n : Int) + 1) = (n : Int) + 1 := IntWalk.i64_in _ (by omega)
      have HLT := Lib.hid hlt
      obtain ⟨g, y, rfl, hy, y1, y2⟩ := (HROW.out.keep HKE.out).node hlt
      obtain ⟨c, d, hc, hd⟩ := HXM.out n y hy
      obtain ⟨i1, i2⟩ := y
      simp only at hc hd y1 y2
      have hi1 : i1 < len1 := by have := (List.getElem?_eq_some_iff.1 hc).1; have := HE.out; omega
      have hi2 : i2 < len2 := by have := (List.getElem?_eq_some_iff.1 hd).1; have := HE.out; omega
      obtain ⟨b, off, c', rfl, hc', d0, d1, d2, d3, d4⟩ := HN1.out.node (i := i1) hi1
      obtain ⟨b', off', d', rfl, hd', e0, e1, e2, e3, e4⟩ := HN2.out.node (i := i2) hi2
      obtain rfl := Option.some.inj (hc.symm.trans hc')
      obtain rfl := Option.some.inj (hd.symm.trans hd')
      have HT1 := Lib.hid (fun w => implCmdText_c c (HS1.out.at hc) w)
      have HT2 := Lib.hid (fun w => implCmdText_c d (HS2.out.at hd) w)
      have HLN := Lib.hid (linesL_take (a := cs) (b := ds) hy hc hd)
      have z1 := textC_size c
      have z2 := textC_size d
      have z3 : (linesL cs ds (xs.take n)).size ≤ 36000000 := by have := linesL_size cs ds (xs.take n); have := HXL.out; rw [List.length_take] at *; omega
      obtain ⟨p, fk, fv, tk, tv⟩ := c
      obtain ⟨q, fk', fv', tk', tv'⟩ := d
      unfold cmdV at HT1 HT2
      simp only at d0 d1 d2 d3 d4 e0 e1 e2 e3 e4 HT1 HT2
      generalize textC ⟨p, fk, fv, tk, tv⟩ = tA at HT1 HLN z1
      generalize textC ⟨q, fk', fv', tk', tv'⟩ = tB at HT2 HLN z2
      generalize linesL cs ds (xs.take n) = sN at HBL HLN z3
      have HZ := Lib.hid (show sN.size + (tA ++ ⟨#[32, 124, 32]⟩ ++ tB ++ ⟨#[10]⟩ : ByteArray).size ≤ 100000000 by simp only [ByteArray.size_append]; have e1 : (⟨#[32, 124, 32]⟩ : ByteArray).size = 3 := rfl; have e2 : (⟨#[10]⟩ : ByteArray).size = 1 := rfl; rw [e1, e2]; omega)
      have y3 : ¬ 9223372036854775807 < tA.size + 3 := by omega
      have y4 : ¬ 9223372036854775807 < tA.size + 3 + tB.size := by omega
      have y5 : ¬ 9223372036854775807 < tA.size + 3 + tB.size + 1 := by omega
      have q1 : (i1 : Int) < len1 := by omega
      have q2 : (i2 : Int) < len2 := by omega
      clear z1 z2 z3 hi1 hi2 hc hd hc' hd' hy hn hlt
      have HBX := Lib.hid (below_box wr (.cells #[.int .i64 i1, .int .i64 i2] 35))
      have HXW := Lib.hid (show wr.heap.size ≠ W.heap.size from fun e => by have := clash_lt HBL.out; omega)
      have HSX := Lib.hid (fun (u : World) (hk : BldKept W.heap.size (wr.alloc (.cells #[.int .i64 i1, .int .i64 i2] 35)).drew u) (hb : Below W.heap.size W u) => show u.cell? ⟨wr.heap.size, 0, none⟩ = some (.int .i64 i1) ∧ u.cell? ⟨wr.heap.size, 1, none⟩ = some (.int .i64 i2) ∧ u.cell? ⟨b, off + i1 * 5, none⟩ = some (.string p) ∧ u.cell? ⟨b, off + i1 * 5 + 1, none⟩ = some (.int .i64 fk) ∧ u.cell? ⟨b, off + i1 * 5 + 2, none⟩ = some (.int .i64 fv) ∧ u.cell? ⟨b, off + i1 * 5 + 3, none⟩ = some (.int .i64 tk) ∧ u.cell? ⟨b, off + i1 * 5 + 4, none⟩ = some (.int .i64 tv) ∧ u.cell? ⟨b', off' + i2 * 5, none⟩ = some (.string q) ∧ u.cell? ⟨b', off' + i2 * 5 + 1, none⟩ = some (.int .i64 fk') ∧ u.cell? ⟨b', off' + i2 * 5 + 2, none⟩ = some (.int .i64 fv') ∧ u.cell? ⟨b', off' + i2 * 5 + 3, none⟩ = some (.int .i64 tk') ∧ u.cell? ⟨b', off' + i2 * 5 + 4, none⟩ = some (.int .i64 tv') ∧ Below W.heap.size W u from
        have hx : u.heap[wr.heap.size]? = some (.cells #[.int .i64 i1, .int .i64 i2] 35) := hk _ _ (show (wr.alloc (.cells #[.int .i64 i1, .int .i64 i2] 35)).heap[wr.heap.size]? = _ from World.alloc_heap_new _ _) (fun e => HXW.out (Option.some.inj e)) (fun c fz e => by injection e with _ e2; exact absurd e2 (by decide))
        ⟨by simp [World.cell?, hx], by simp [World.cell?, hx], cell_kept hb d0, cell_kept hb d1, cell_kept hb d2, cell_kept hb d3, cell_kept hb d4, cell_kept hb e0, cell_kept hb e1, cell_kept hb e2, cell_kept hb e3, cell_kept hb e4, hb⟩)
      have HBS := Lib.hid (show Below W.heap.size W (wr.alloc (.cells #[.int .i64 i1, .int .i64 i2] 35)).drew from (below_next HBE.out HBX.out).drew)
      have HSA := Lib.hid (HSX.out _ (Lib.OthersKept.refl _ _ _) HBS.out)
      have HB1 := Lib.hid (HBL.out.keep HBX.out.drew)
      have HK1 := Lib.hid (HKE.out.trans (kept_below HBX.out.drew))
      have HSZ := Lib.hid (fun (u : World) (hb : Below W.heap.size W u) => show W.heap.size ≤ u.heap.size from hb.size)
      clear d0 d1 d2 d3 d4 e0 e1 e2 e3 e4
      go_upto_region 5 with (fail)
      clear y1 y2
      go_region_held3 (fun w' => w'.cell? ⟨wr.heap.size, 0, none⟩ = some (.int .i64 i1) ∧ w'.cell? ⟨wr.heap.size, 1, none⟩ = some (.int .i64 i2) ∧ w'.cell? ⟨b, off + i1 * 5, none⟩ = some (.string p) ∧ w'.cell? ⟨b, off + i1 * 5 + 1, none⟩ = some (.int .i64 fk) ∧ w'.cell? ⟨b, off + i1 * 5 + 2, none⟩ = some (.int .i64 fv) ∧ w'.cell? ⟨b, off + i1 * 5 + 3, none⟩ = some (.int .i64 tk) ∧ w'.cell? ⟨b, off + i1 * 5 + 4, none⟩ = some (.int .i64 tv) ∧ w'.cell? ⟨b', off' + i2 * 5, none⟩ = some (.string q) ∧ w'.cell? ⟨b', off' + i2 * 5 + 1, none⟩ = some (.int .i64 fk') ∧ w'.cell? ⟨b', off' + i2 * 5 + 2, none⟩ = some (.int .i64 fv') ∧ w'.cell? ⟨b', off' + i2 * 5 + 3, none⟩ = some (.int .i64 tk') ∧ w'.cell? ⟨b', off' + i2 * 5 + 4, none⟩ = some (.int .i64 tv') ∧ Below W.heap.size W w')
        (first | exact HSA.out | exact HS5.out | exact HS6.out | exact HS7.out)
        (first
          | (go_at_call 9; (with_reducible refine (HT1.out _).mono ?_); rintro e W5 ⟨rfl, hb5⟩; have HY5 := Lib.hid (kept_below (b := W.heap.size) hb5); have HE5 := Lib.hid (below_next HBS.out hb5); have HS5 := Lib.hid (HSX.out _ HY5.out HE5.out); have HB5 := Lib.hid (HB1.out.keep hb5); clear hb5)
          | (go_at_call 9; (with_reducible refine (HT2.out _).mono ?_); rintro e W6 ⟨rfl, hb6⟩; have HY6 := Lib.hid (HY5.out.trans (kept_below hb6)); have HE6 := Lib.hid (below_next HE5.out hb6); have HS6 := Lib.hid (HSX.out _ HY6.out HE6.out); have HB6 := Lib.hid (HB5.out.keep hb6); clear hb6)
          | (go_at_call 14; refine (write_c _ _ _ _ HB6.out HZ.out (HSZ.out _ HE6.out)).mono ?_; rintro e W7 ⟨rfl, h7, hb7, hk7⟩; have HY7 := Lib.hid (HY6.out.trans hk7); have HE7 := Lib.hid (HE6.out.trans hb7); have HS7 := Lib.hid (HSX.out _ HY7.out HE7.out); have HB7 := Lib.hid h7; clear h7 hb7 hk7))
      have HK7 := Lib.hid (HK1.out.trans HY7.out)
      clear HSA HS5 HS6 HS7 HSX HB1 HB5 HB6 HY5 HY6 HY7 HE5 HE6 HBS HSZ
      go_wp2
      go_roundw
      case rel => exact ⟨n + 1, by go_num, by rw [hxs]; have := HLT.out; have := HNX.out; omega, by rw [hxs, HLN.out]; have h7 := HB7.out; simp only [← ByteArray.append_assoc] at h7; exact h7, HK7, HE7⟩
      case measure => have := HLT.out; simp [intOf]; omega
    · have hge : (nx : Int) ≤ n := by omega
      have HX := Lib.hid (show linesL cs ds xs = linesL cs ds (xs.take n) by rw [List.take_of_length_le (by have := HNX.out; omega)])
      clear hn hlt
      go_wp2_with fail
      refine (told_c _ _ _ HBL.out (by have := HBE.out.size; omega)).mono ?_
      rintro e W3 ⟨rfl, hb3⟩
      have B3 := Lib.hid (HBE.out.trans hb3)
      go_wp2
      go_ret
      exact ⟨ret_str (by rw [HRS.out, HX.out]), B3.out⟩

end Go.Proofs.YtohdpbalajjjiaaGreat

/-
  WALKS: laws.sameNodes, laws.sameTexts at equal lists.
-/
namespace Go.Proofs.YtohdpbalajjjiaaGreat
open Go.RowKit
set_option linter.unusedVariables false

/-- A list of texts in memory. -/
def TextsAt (W : World) (a : Option Addr) (len : Nat) (xs : List ByteArray) : Prop :=
  xs.length = len ∧ (len = 0 ∨ ∃ b off, a = some ⟨b, off, none⟩ ∧ ∀ i x, xs[i]? = some x → W.cell? ⟨b, off + i, none⟩ = some (.string x))

theorem TextsAt.keep {W W' : World} {a : Option Addr} {len : Nat} {xs : List ByteArray} (h : TextsAt W a len xs) (hb : Below W.heap.size W W') : TextsAt W' a len xs := by
  obtain ⟨h1, h0 | ⟨b, off, ha, hc⟩⟩ := h
  · exact ⟨h1, .inl h0⟩
  · exact ⟨h1, .inr ⟨b, off, ha, fun i x hx => cell_kept hb (hc i x hx)⟩⟩

theorem texts_of_own {W : World} {base : Nat} {e : TypeId} {v : Value} {xs : List ByteArray} (h : W.ownsRow base e 1 v xs.length (xs.map Value.string)) :
    ∃ a cap, v = .slice a xs.length cap ∧ TextsAt W a xs.length xs := by
  rcases h.2 with ⟨rfl, h0⟩ | ⟨g, cap, cur, rfl, h1, h2, h3, h4, h5, h6⟩
  · exact ⟨none, 0, by rw [h0], rfl, .inl h0⟩
  · refine ⟨some ⟨g, 0, none⟩, cap, rfl, rfl, .inr ⟨g, 0, rfl, fun i x hx => ?_⟩⟩
    have hi := (List.getElem?_eq_some_iff.1 hx).1
    rw [Nat.zero_add, h.cellAt i (by omega), List.getElem?_map, hx]
    rfl

theorem below_drewN {n : Nat} {W W' : World} (h : Below n W W') (k : Nat) : Below n W (W'.drewN k) := by
  have e := (drewN_cell W' k ⟨0, 0, none⟩).2.2
  exact ⟨h.os, h.tape, h.output, by rw [e]; exact h.size, fun j hj => by rw [e]; exact h.block j hj⟩

theorem TextsAt.node {W : World} {a : Option Addr} {len : Nat} {xs : List ByteArray} (h : TextsAt W a len xs) {i : Nat} (hi : i < len) :
    ∃ b off x, a = some ⟨b, off, none⟩ ∧ xs[i]? = some x ∧ W.cell? ⟨b, off + i, none⟩ = some (.string x) := by
  obtain ⟨h1, h0 | ⟨b, off, ha, hc⟩⟩ := h
  · omega
  · obtain ⟨x, hx⟩ : ∃ x, xs[i]? = some x := ⟨_, List.getElem?_eq_getElem (by omega)⟩
    exact ⟨b, off, x, ha, hx, hc i x hx⟩

end Go.Proofs.YtohdpbalajjjiaaGreat

/-
  WALKS: laws.toNode, laws.toNodeS, laws.szNodeS: lists of nodes that come from outside.
-/
namespace Go.Proofs.YtohdpbalajjjiaaGreat
open Go.RowKit
set_option linter.unusedVariables false

/-- A node as a value. -/
abbrev nodeV (n : Nd) : Value := .agg #[.string n.p, .int .i64 n.k, .int .i64 n.v]

def NodeRet (n : Nd) (w : World) (e : Ending) (w' : World) : Prop := e = .returned (nodeV n) ∧ Below w.heap.size w w'

theorem node_results (s : Nat) (fn : Func) (hf : fn.results = #[.cell s 125]) (W : World) (g : Nat) (n : Nd) (tmps : Array Value) (ht : tmps[s]? = some (.pointer (some ⟨g, 0, none⟩)))
    (h : W.cell? ⟨g, 0, none⟩ = some (.string n.p) ∧ W.cell? ⟨g, 1, none⟩ = some (.int .i64 n.k) ∧ W.cell? ⟨g, 2, none⟩ = some (.int .i64 n.v)) : (results fn tmps).run Tryz.prog W = .ok (nodeV n) W := by
  obtain ⟨c0, c1, c2⟩ := h
  simp [results, hf, go_sem, ht, c0, c1, c2]

/-- A block of cells of the call's own. -/
def Blk (W : World) (g : Nat) (cs : Array Value) (t : TypeId) : Prop := W.heap[g]? = some (.cells cs t (0, 0))

theorem blk_new (W : World) (cs : Array Value) (t : TypeId) : Blk (W.alloc (.cells cs t)) W.heap.size cs t := World.alloc_heap_new _ _
theorem Blk.lt {W : World} {g : Nat} {cs : Array Value} {t : TypeId} (h : Blk W g cs t) : g < W.heap.size := by
  unfold Blk at h
  exact (Array.getElem?_eq_some_iff.1 h).1
theorem Blk.below {W W' : World} {g : Nat} {cs : Array Value} {t : TypeId} (h : Blk W g cs t) (hb : Below W.heap.size W W') : Blk W' g cs t := (hb.block g h.lt).trans h
theorem Blk.cell {W : World} {g : Nat} {cs : Array Value} {t : TypeId} (h : Blk W g cs t) (i : Nat) : W.cell? ⟨g, i, none⟩ = cs[i]? := cell_of_row W g i cs t (0, 0) h
theorem Blk.frozen {W : World} {g : Nat} {cs : Array Value} {t : TypeId} (h : Blk W g cs t) (i : Nat) : W.frozen? ⟨g, i, none⟩ = false := frozen_of_row W g i cs t h
theorem Blk.set {W : World} {g : Nat} {cs : Array Value} {t : TypeId} (h : Blk W g cs t) (i : Nat) (u : Value) : Blk (W.setCell ⟨g, i, none⟩ u) g (cs.setIfInBounds i u) t := heap_setCell_same W g i cs t u h
theorem Blk.setOther {W : World} {g : Nat} {cs : Array Value} {t : TypeId} (h : Blk W g cs t) (a : Addr) (u : Value) (ha : g ≠ a.block) : Blk (W.setCell a u) g cs t := (heap_setCell_other W a g u ha).trans h

theorem flatN_take_set : ∀ (ns : List Nd) (i : Nat) (n : Nd) (zs : List Value), ns[i]? = some n → 3 ≤ zs.length →
    (((flatN (ns.take i) ++ zs).set (i * 3) (.string n.p)).set (i * 3 + 1) (.int .i64 n.k)).set (i * 3 + 2) (.int .i64 n.v) = flatN (ns.take (i + 1)) ++ zs.drop 3 := by
  intro ns i n zs hn hz
  have hi := (List.getElem?_eq_some_iff.1 hn).1
  have hl : (flatN (ns.take i)).length = i * 3 := by rw [flatN_length, List.length_take]; omega
  rw [List.take_add_one, hn, flatN_append]
  match zs, hz with
  | a :: b :: c :: r, _ =>
    show _ = (flatN (ns.take i) ++ [.string n.p, .int .i64 n.k, .int .i64 n.v]) ++ r
    rw [List.set_append_right _ _ (by omega), hl, show i * 3 - i * 3 = 0 by omega]
    rw [List.set_append_right _ _ (by omega), hl, show i * 3 + 1 - i * 3 = 1 by omega]
    rw [List.set_append_right _ _ (by omega), hl, show i * 3 + 2 - i * 3 = 2 by omega]
    simp

theorem below_of_none {W w : World} (h : W.grownBy w none) : Below W.heap.size W w := ⟨h.os, h.tape, h.output, h.size, fun k hk => h.block k hk (by simp)⟩

theorem stored3 {W : World} {base : Nat} {e : TypeId} {g cap n : Nat} {xs : List Value} (h : W.ownsRow base e 3 (.slice (some ⟨g, 0, none⟩) n cap) n xs) (j : Nat) (u v x : Value) :
    (((W.setCell ⟨g, j, none⟩ u).setCell ⟨g, j + 1, none⟩ v).setCell ⟨g, j + 2, none⟩ x).ownsRow base e 3 (.slice (some ⟨g, 0, none⟩) n cap) n (((xs.set j u).set (j + 1) v).set (j + 2) x) :=
  ((((h.stored j u).1.stored (j + 1) v).1).stored (j + 2) x).1

def ToRel (ns : List Nd) (len : Nat) (W : World) (i : Value) (wr : World) : Prop :=
  ∃ (n : Nat) (zs : List Value), i = .int .i64 n ∧ n ≤ len ∧ zs.length = (len - n) * 3 ∧ wr.ownsRow W.heap.size 125 3 (.slice (some ⟨W.heap.size, 0, none⟩) len len) len (flatN (ns.take n) ++ zs) ∧ Hid (Below W.heap.size W wr)

end Go.Proofs.YtohdpbalajjjiaaGreat

/-
  WALKS: lists of commands in the laws: laws.toCommandS, szCommandS, eqCommandS, sameLog.
-/
namespace Go.Proofs.YtohdpbalajjjiaaGreat
open Go.RowKit
set_option linter.unusedVariables false

theorem flatC_take_set : ∀ (cs : List Cmd) (i : Nat) (c : Cmd) (zs : List Value), cs[i]? = some c → 5 ≤ zs.length →
    (((((flatC (cs.take i) ++ zs).set (i * 5) (.string c.p)).set (i * 5 + 1) (.int .i64 c.fk)).set (i * 5 + 2) (.int .i64 c.fv)).set (i * 5 + 3) (.int .i64 c.tk)).set (i * 5 + 4) (.int .i64 c.tv) = flatC (cs.take (i + 1)) ++ zs.drop 5 := by
  intro cs i c zs hn hz
  have hi := (List.getElem?_eq_some_iff.1 hn).1
  have hl : (flatC (cs.take i)).length = i * 5 := by rw [flatC_length, List.length_take]; omega
  rw [List.take_add_one, hn, flatC_append]
  match zs, hz with
  | a :: b :: c' :: d :: e :: r, _ =>
    show _ = (flatC (cs.take i) ++ [.string c.p, .int .i64 c.fk, .int .i64 c.fv, .int .i64 c.tk, .int .i64 c.tv]) ++ r
    rw [List.set_append_right _ _ (by omega), hl, show i * 5 - i * 5 = 0 by omega]
    rw [List.set_append_right _ _ (by omega), hl, show i * 5 + 1 - i * 5 = 1 by omega]
    rw [List.set_append_right _ _ (by omega), hl, show i * 5 + 2 - i * 5 = 2 by omega]
    rw [List.set_append_right _ _ (by omega), hl, show i * 5 + 3 - i * 5 = 3 by omega]
    rw [List.set_append_right _ _ (by omega), hl, show i * 5 + 4 - i * 5 = 4 by omega]
    simp

theorem stored5 {W : World} {base : Nat} {e : TypeId} {g cap n : Nat} {xs : List Value} (h : W.ownsRow base e 5 (.slice (some ⟨g, 0, none⟩) n cap) n xs) (j : Nat) (u v x y z : Value) :
    (((((W.setCell ⟨g, j, none⟩ u).setCell ⟨g, j + 1, none⟩ v).setCell ⟨g, j + 2, none⟩ x).setCell ⟨g, j + 3, none⟩ y).setCell ⟨g, j + 4, none⟩ z).ownsRow base e 5 (.slice (some ⟨g, 0, none⟩) n cap) n (((((xs.set j u).set (j + 1) v).set (j + 2) x).set (j + 3) y).set (j + 4) z) :=
  ((((((h.stored j u).1.stored (j + 1) v).1).stored (j + 2) x).1.stored (j + 3) y).1.stored (j + 4) z).1

def ToRelC (cs : List Cmd) (len : Nat) (W : World) (i : Value) (wr : World) : Prop :=
  ∃ (n : Nat) (zs : List Value), i = .int .i64 n ∧ n ≤ len ∧ zs.length = (len - n) * 5 ∧ wr.ownsRow W.heap.size 33 5 (.slice (some ⟨W.heap.size, 0, none⟩) len len) len (flatC (cs.take n) ++ zs) ∧ Hid (Below W.heap.size W wr)

set_option maxHeartbeats 2000000 in
set_option maxRecDepth 100000 in
theorem toCommandS_c (a : Option Addr) (len cap : Nat) (cs : List Cmd) (hl : len ≤ 2097152) (W : World) (hN : CmdsAt W a len cs) :
    Calls Tryz.prog 11 #[.slice a len cap] W (CmdsPost cs W) := by
  obtain ⟨i0, hi, hz0, hz1, hz2⟩ := info_parts infoCmd
  have HN := Lib.hid hN
  have HE := Lib.hid hN.1
  have HT := Lib.hid (fun c w => toCommand_c c w)
  have HL := Lib.hid hl
  clear hN
  go_enter Tryz.func11, Tryz.ntmps11
  go_wp2_with (refine wpList_make_full _ rfl _ _ 23 rfl W.heap.size 33 i0 (.agg #[.string ⟨#[]⟩, .int .i64 0, .int .i64 0, .int .i64 0, .int .i64 0]) 5 Tryz.underlying23 hi hz0 hz1 .i64 .i64 _ _ len rfl rfl rfl rfl (by rw [hz2]; omega) (by unfold maxLen; omega) (Nat.le_refl _) ?_; intro w1 hown1 hg1)
  have hb1 := below_of_none hg1
  clear hg1
  go_loopw [4] (fun i wr => ToRelC cs len W i wr) (fun i _ => len - (intOf i).toNat)
  case atStart =>
    refine ⟨0, _, rfl, by omega, ?_, (by simpa [flatC_nil] using hown1), hb1⟩
    have := hown1.1
    omega
  case round =>
    obtain ⟨i, zs, rfl, hi1, hzl, hown, HB⟩ := hrel
    by_cases hlt : i < len
    · obtain ⟨b, off, n, rfl, hn, c0, c1, c2, c3, c4⟩ := (HN.out.keep HB.out).node hlt
      have hlt' : (i : Int) < len := by omega
      have HLT := Lib.hid hlt
      have HNN := Lib.hid hn
      have hz3 : 5 ≤ zs.length := by omega
      have HZ := Lib.hid (And.intro hzl hz3)
      obtain ⟨p, fk, fv, tk, tv⟩ := n
      have HTN := Lib.hid (fun w => HT.out ⟨p, fk, fv, tk, tv⟩ w)
      unfold CmdPost cmdV at HTN
      simp only at c0 c1 c2 c3 c4 HTN
      clear hi1 hlt hn hzl hz3 hown1
      go_wp2_with fail
      refine (HTN.out _).mono ?_; rintro e W2 ⟨rfl, hb2⟩
      have HO2 := Lib.hid (own_below hown hb2)
      have HB2 := Lib.hid (below_next HB.out hb2)
      clear hown hb2 c0 c1 c2 c3 c4
      have hll : (flatC (cs.take i)).length = i * 5 := by rw [flatC_length, List.length_take]; have := HE.out; have := HLT.out; omega
      have cell : ∀ j, j < 5 → ∃ u, W2.cell? ⟨W.heap.size, i * 5 + j, none⟩ = some u := by
        intro j hj
        have hx := HZ.out.1
        have hy := HLT.out
        rw [HO2.out.cellAt _ (by omega)]
        exact ⟨_, List.getElem?_eq_getElem (by rw [List.length_append, hll]; omega)⟩
      obtain ⟨u0, e0⟩ := cell 0 (by omega)
      replace e0 : W2.cell? ⟨W.heap.size, i * 5, none⟩ = some u0 := e0
      obtain ⟨u1, e1⟩ := cell 1 (by omega)
      obtain ⟨u2, e2⟩ := cell 2 (by omega)
      obtain ⟨u3, e3⟩ := cell 3 (by omega)
      obtain ⟨u4, e4⟩ := cell 4 (by omega)
      have y0 := HO2.out.frozenAt (i * 5)
      have y1 := HO2.out.frozenAt (i * 5 + 1)
      have y2 := HO2.out.frozenAt (i * 5 + 2)
      have y3 := HO2.out.frozenAt (i * 5 + 3)
      have y4 := HO2.out.frozenAt (i * 5 + 4)
      clear cell hll
      go_wp2
      have HS3 := stored5 HO2.out (i * 5) (.string p) (.int .i64 fk) (.int .i64 fv) (.int .i64 tk) (.int .i64 tv)
      rw [flatC_take_set cs i ⟨p, fk, fv, tk, tv⟩ zs HNN.out HZ.out.2] at HS3
      go_roundw
      case rel => exact ⟨i + 1, zs.drop 5, by go_num, by have := HLT.out; omega, by rw [List.length_drop]; have h1 := HZ.out.1; have h2 := HZ.out.2; have h3 := HLT.out; omega, HS3, below_setCell (below_setCell (below_setCell (below_setCell (below_setCell HB2.out _ _ (Nat.le_refl _)) _ _ (Nat.le_refl _)) _ _ (Nat.le_refl _)) _ _ (Nat.le_refl _)) _ _ (Nat.le_refl _)⟩
      case measure => have := HLT.out; simp [intOf]; omega
    · have hge : (len : Int) ≤ i := by omega
      have hz0' : zs = [] := List.eq_nil_of_length_eq_zero (by omega)
      subst hz0'
      rw [List.append_nil, List.take_of_length_le (by have := HE.out; omega)] at hown
      clear hi1 hlt
      go_wp2
      go_ret
      exact ⟨⟨_, rfl, by have h := HE.out; rw [h]; exact hown⟩, HB.out⟩

/-- What is left; if anything is, the list and its texts are of modest length. -/
def SzCmds (len : Nat) (cs : List Cmd) (w : World) (e : Ending) (w' : World) : Prop := ∃ z : Int, e = .returned (.int .i64 z) ∧ z ≤ 1048576 ∧ (0 ≤ z → len ≤ 1048576 ∧ ShortC 1048576 cs) ∧ Below w.heap.size w w'

def SzRelC (len : Nat) (cs : List Cmd) (w : World) (l i : Value) (wr : World) : Prop :=
  ∃ (n : Nat) (z : Int), i = .int .i64 n ∧ n ≤ len ∧ l = .int .i64 z ∧ Hid (0 ≤ z ∧ z ≤ 1048576) ∧ Hid (∀ j m, j < n → cs[j]? = some m → m.p.size ≤ 1048576) ∧ Hid (Below w.heap.size w wr)

set_option maxHeartbeats 1000000 in
theorem szCommandS_c (l0 : Int) (hl0 : 0 ≤ l0) (hl1 : l0 ≤ 1048576) (a : Option Addr) (len cap : Nat) (cs : List Cmd) (hlen : len ≤ maxLen) (hm : ShortC maxLen cs) (w : World) (hN : CmdsAt w a len cs) :
    Calls Tryz.prog 10 #[.slice a len cap, .int .i64 l0] w (SzCmds len cs w) := by
  have HN := Lib.hid hN
  have HE := Lib.hid hN.1
  have HM := Lib.hid hm
  have hl : len ≤ 9223372036854775807 := Nat.le_trans hlen (by unfold maxLen; omega)
  have hw0 : IntKind.i64.wrap (l0 - (len : Int)) = l0 - len := IntWalk.i64_in _ (by omega)
  clear hN hm hlen
  by_cases h : (len : Int) ≤ l0
  · obtain ⟨z, hz⟩ : ∃ z, l0 - len = z := ⟨_, rfl⟩
    have hzp : 0 ≤ z := by omega
    have HZ := Lib.hid (show 0 ≤ z ∧ z ≤ 1048576 by omega)
    have hw := hw0.trans hz
    have HL := Lib.hid (show len ≤ 1048576 by omega)
    have hl2 : (len : Int) ≤ 1048576 := by omega
    clear hz hl h hw0
    go_enter Tryz.func10, Tryz.ntmps10
    go_wp2
    clear hzp hw
    go_loopw [1, 5] (fun l i wr => SzRelC len cs w l i wr) (fun _ i _ => len - (intOf i).toNat)
    case atStart => exact ⟨0, z, rfl, by omega, rfl, HZ, Lib.hid (fun j m h _ => absurd h (by omega)), Below.refl _ _⟩
    case round =>
      obtain ⟨i, l, rfl, hi, rfl, HLL, HP, HB⟩ := hrel
      by_cases hlt : i < len
      · obtain ⟨b, off, n, rfl, hn, c0, c1, c2, c3, c4⟩ := (HN.out.keep HB.out).node hlt
        have hlt' : (i : Int) < len := by omega
        have HO := Lib.hid (fun w => szCommand_c n l HLL.out.1 HLL.out.2 (HM.out n (List.mem_of_getElem? hn)) w)
        have HNN := Lib.hid hn
        have HLT := Lib.hid hlt
        obtain ⟨p, fk, fv, tk, tv⟩ := n
        unfold SzCmd cmdV at HO
        simp only at c0 c1 c2 c3 c4 HO
        clear hi hlt hn
        go_wp2_with fail
        refine (HO.out _).mono ?_; rintro e W2 ⟨z2, rfl, hz0, hz1, hz2, hb2⟩
        have HB2 := Lib.hid (below_next HB.out hb2)
        clear c0 c1 c2 c3 c4 hb2
        by_cases hneg : z2 < 0
        · clear hz0 hz1 hz2
          go_wp2
          go_ret
          exact ⟨-1, rfl, by omega, fun h => absurd h (by omega), HB2.out⟩
        · have hpos : 0 ≤ z2 := by omega
          have HZ2 := Lib.hid (And.intro hpos (And.intro hz1 (hz2 hpos)))
          clear hz0 hz1 hz2 hneg
          go_wp2
          go_roundw
          case rel =>
            refine ⟨i + 1, z2, by go_num, by have := HLT.out; omega, rfl, ⟨HZ2.out.1, HZ2.out.2.1⟩, ?_, HB2⟩
            intro j m hj hm
            by_cases hji : j < i
            · exact HP.out j m hji hm
            · have : j = i := by omega
              subst this
              rw [HNN.out] at hm
              obtain rfl := Option.some.inj hm
              exact HZ2.out.2.2
          case measure => have := HLT.out; simp [intOf]; omega
      · have hge : (len : Int) ≤ i := by omega
        have HQ := Lib.hid (show len ≤ i by omega)
        clear hi hlt
        go_wp2
        go_ret
        exact ⟨l, rfl, HLL.out.2, fun _ => ⟨HL.out, fun n hn => by
          obtain ⟨j, hj⟩ := List.getElem?_of_mem hn
          exact HP.out j n (by have h1 := (List.getElem?_eq_some_iff.1 hj).1; have h2 := HE.out; have h3 := HQ.out; omega) hj⟩, HB.out⟩
  · have hz : l0 - len < 0 := by omega
    obtain ⟨z, hz'⟩ : ∃ z, l0 - len = z := ⟨_, rfl⟩
    have hw := hw0.trans hz'
    rw [hz'] at hz
    clear hz' hl h hw0
    go_enter Tryz.func10, Tryz.ntmps10
    go_wp2
    go_ret
    exact ⟨-1, rfl, by omega, fun h => absurd h (by omega), Below.refl _ _⟩

/-- Two lists of commands that read alike. -/
def EqRelC (len : Nat) (W : World) (i : Value) (wr : World) : Prop := ∃ n : Nat, i = .int .i64 n ∧ n ≤ len ∧ Hid (Below W.heap.size W wr)

set_option maxHeartbeats 2000000 in
set_option maxRecDepth 100000 in
theorem eqCommandS_c (a1 a2 : Option Addr) (len c1 c2 : Nat) (cs : List Cmd) (hl : len ≤ 2097152) (W : World) (h1 : CmdsAt W a1 len cs) (h2 : CmdsAt W a2 len cs) :
    Calls Tryz.prog 12 #[.slice a1 len c1, .slice a2 len c2] W (BoolPost true W) := by
  have H1 := Lib.hid h1
  have H2 := Lib.hid h2
  have HC := Lib.hid (fun c w => eqCommand_c c w)
  unfold cmdV at HC
  have hl' : (len : Int) ≤ 2097152 := by omega
  clear h1 h2
  go_enter Tryz.func12, Tryz.ntmps12
  go_wp2
  go_loopw [5] (fun i wr => EqRelC len W i wr) (fun i _ => len - (intOf i).toNat)
  case atStart => exact ⟨0, rfl, by omega, Below.refl _ _⟩
  case round =>
    obtain ⟨i, rfl, hi, HB⟩ := hrel
    by_cases hlt : i < len
    · obtain ⟨b, off, n, HA1, hn1, c0, c1, c2, c3, c4⟩ := (H1.out.keep HB.out).node hlt
      obtain ⟨b', off', n', HA2, hn2, d0, d1, d2, d3, d4⟩ := (H2.out.keep HB.out).node hlt
      obtain rfl : n' = n := by rw [hn1] at hn2; exact (Option.some.inj hn2).symm
      have hlt' : (i : Int) < len := by omega
      have hil : (i : Int) ≤ 2097152 := by omega
      have HLT := Lib.hid hlt
      obtain rfl := HA1
      obtain rfl := HA2
      obtain ⟨p, fk, fv, tk, tv⟩ := n'
      simp only at c0 c1 c2 c3 c4 d0 d1 d2 d3 d4
      have HS0 := Lib.hid (show wr.drew.cell? ⟨b, off + i * 5, none⟩ = some (.string p) ∧ wr.drew.cell? ⟨b, off + i * 5 + 1, none⟩ = some (.int .i64 fk) ∧ wr.drew.cell? ⟨b, off + i * 5 + 2, none⟩ = some (.int .i64 fv) ∧ wr.drew.cell? ⟨b, off + i * 5 + 3, none⟩ = some (.int .i64 tk) ∧ wr.drew.cell? ⟨b, off + i * 5 + 4, none⟩ = some (.int .i64 tv) ∧ wr.drew.cell? ⟨b', off' + i * 5, none⟩ = some (.string p) ∧ wr.drew.cell? ⟨b', off' + i * 5 + 1, none⟩ = some (.int .i64 fk) ∧ wr.drew.cell? ⟨b', off' + i * 5 + 2, none⟩ = some (.int .i64 fv) ∧ wr.drew.cell? ⟨b', off' + i * 5 + 3, none⟩ = some (.int .i64 tk) ∧ wr.drew.cell? ⟨b', off' + i * 5 + 4, none⟩ = some (.int .i64 tv) ∧ Below W.heap.size W wr.drew from ⟨c0, c1, c2, c3, c4, d0, d1, d2, d3, d4, HB.out.drew⟩)
      have HCX := Lib.hid (HC.out ⟨p, fk, fv, tk, tv⟩ wr.drew)
      simp only at HCX
      have HKP := Lib.hid (fun (u1 u2 : World) (h : u1.cell? ⟨b, off + i * 5, none⟩ = some (.string p) ∧ u1.cell? ⟨b, off + i * 5 + 1, none⟩ = some (.int .i64 fk) ∧ u1.cell? ⟨b, off + i * 5 + 2, none⟩ = some (.int .i64 fv) ∧ u1.cell? ⟨b, off + i * 5 + 3, none⟩ = some (.int .i64 tk) ∧ u1.cell? ⟨b, off + i * 5 + 4, none⟩ = some (.int .i64 tv) ∧ u1.cell? ⟨b', off' + i * 5, none⟩ = some (.string p) ∧ u1.cell? ⟨b', off' + i * 5 + 1, none⟩ = some (.int .i64 fk) ∧ u1.cell? ⟨b', off' + i * 5 + 2, none⟩ = some (.int .i64 fv) ∧ u1.cell? ⟨b', off' + i * 5 + 3, none⟩ = some (.int .i64 tk) ∧ u1.cell? ⟨b', off' + i * 5 + 4, none⟩ = some (.int .i64 tv) ∧ Below W.heap.size W u1) (hb : Below u1.heap.size u1 u2) => show u2.cell? ⟨b, off + i * 5, none⟩ = some (.string p) ∧ u2.cell? ⟨b, off + i * 5 + 1, none⟩ = some (.int .i64 fk) ∧ u2.cell? ⟨b, off + i * 5 + 2, none⟩ = some (.int .i64 fv) ∧ u2.cell? ⟨b, off + i * 5 + 3, none⟩ = some (.int .i64 tk) ∧ u2.cell? ⟨b, off + i * 5 + 4, none⟩ = some (.int .i64 tv) ∧ u2.cell? ⟨b', off' + i * 5, none⟩ = some (.string p) ∧ u2.cell? ⟨b', off' + i * 5 + 1, none⟩ = some (.int .i64 fk) ∧ u2.cell? ⟨b', off' + i * 5 + 2, none⟩ = some (.int .i64 fv) ∧ u2.cell? ⟨b', off' + i * 5 + 3, none⟩ = some (.int .i64 tk) ∧ u2.cell? ⟨b', off' + i * 5 + 4, none⟩ = some (.int .i64 tv) ∧ Below W.heap.size W u2 from ⟨cell_kept hb h.1, cell_kept hb h.2.1, cell_kept hb h.2.2.1, cell_kept hb h.2.2.2.1, cell_kept hb h.2.2.2.2.1, cell_kept hb h.2.2.2.2.2.1, cell_kept hb h.2.2.2.2.2.2.1, cell_kept hb h.2.2.2.2.2.2.2.1, cell_kept hb h.2.2.2.2.2.2.2.2.1, cell_kept hb h.2.2.2.2.2.2.2.2.2.1, below_next h.2.2.2.2.2.2.2.2.2.2 hb⟩)
      clear hlt hi hn1 hn2 c0 c1 c2 c3 c4 d0 d1 d2 d3 d4
      go_upto_region 6 with (fail)
      go_region_held3 (fun w' => w'.cell? ⟨b, off + i * 5, none⟩ = some (.string p) ∧ w'.cell? ⟨b, off + i * 5 + 1, none⟩ = some (.int .i64 fk) ∧ w'.cell? ⟨b, off + i * 5 + 2, none⟩ = some (.int .i64 fv) ∧ w'.cell? ⟨b, off + i * 5 + 3, none⟩ = some (.int .i64 tk) ∧ w'.cell? ⟨b, off + i * 5 + 4, none⟩ = some (.int .i64 tv) ∧ w'.cell? ⟨b', off' + i * 5, none⟩ = some (.string p) ∧ w'.cell? ⟨b', off' + i * 5 + 1, none⟩ = some (.int .i64 fk) ∧ w'.cell? ⟨b', off' + i * 5 + 2, none⟩ = some (.int .i64 fv) ∧ w'.cell? ⟨b', off' + i * 5 + 3, none⟩ = some (.int .i64 tk) ∧ w'.cell? ⟨b', off' + i * 5 + 4, none⟩ = some (.int .i64 tv) ∧ Below W.heap.size W w')
        (first | exact HS0.out | exact HKP.out _ _ HS0.out hb7)
        (first | (go_at_call 24; (with_reducible refine (HCX.out).mono ?_); rintro e W7 ⟨rfl, hb7⟩))
      rename_i hS
      have HB7 := Lib.hid hS.2.2.2.2.2.2.2.2.2.2
      clear hS
      go_wp2
      go_roundw
      case rel => exact ⟨i + 1, by go_num, by have := HLT.out; omega, HB7.out⟩
      case measure => have := HLT.out; simp [intOf]; omega
    · have hge : (len : Int) ≤ i := by omega
      clear hi hlt
      go_wp2
      go_ret
      exact ⟨rfl, HB.out⟩

end Go.Proofs.YtohdpbalajjjiaaGreat

/-
  WALKS: laws.eqNode, laws.eqNodeS, at equal lists.
-/
namespace Go.Proofs.YtohdpbalajjjiaaGreat
open Go.RowKit
def EqRel (len : Nat) (W : World) (i : Value) (wr : World) : Prop := ∃ n : Nat, i = .int .i64 n ∧ n ≤ len ∧ Hid (Below W.heap.size W wr)

end Go.Proofs.YtohdpbalajjjiaaGreat

/-
  TEXTS OF PLACES: what stands ahead of a name (strings.TrimSuffix of a slash, and a slash).
-/
namespace Go.Proofs.YtohdpbalajjjiaaGreat
open Go.RowKit

def begB (v : List UInt8) : ByteArray := if v = [] then ⟨#[47]⟩ else pB v ++ ⟨#[47]⟩

theorem begB_name (v : List UInt8) (c : UInt8) : begB v ++ ⟨#[c]⟩ = pB (v ++ [c]) := by
  unfold begB
  by_cases h : v = []
  · rw [if_pos h, h]; rfl
  · rw [if_neg h]
    apply ByteArray.ext
    apply Array.ext'
    simp only [ByteArray.data_append, Array.toList_append]
    rw [pB_list, pB_list]
    unfold Pm.pathOf
    rw [if_neg h, if_neg (by simp), Pm.flat_append, List.append_assoc]
    rfl

theorem pB_last {v : List UInt8} (hv : Wrd v) (hn : v ≠ []) : ∃ m c, (pB v).size = m + 1 ∧ ((pB v).extract m (m + 1)).toList = [c] ∧ c ≠ 47 := by
  have e := Pm.flat_last v hn
  have hs : (pB v).data.toList = Pm.flat v.dropLast ++ [47, v.getLast hn] := by
    rw [pB_list]; unfold Pm.pathOf; rw [if_neg hn]; exact e
  have hz : (pB v).size = (Pm.flat v.dropLast ++ [47, v.getLast hn]).length := by rw [← hs]; rfl
  refine ⟨(Pm.flat v.dropLast).length + 1, v.getLast hn, by rw [hz]; simp, ?_, Pm.letter_not_47 (hv.2 _ (List.getLast_mem hn))⟩
  rw [Lib.toList_data, ByteArray.data_extract, Array.toList_extract, hs]
  simp [List.extract_eq_take_drop]

theorem beg_eq (v : List UInt8) : (if v = [] then (⟨#[]⟩ : ByteArray) else pB v) ++ ⟨#[47]⟩ = begB v := by
  unfold begB; split <;> rfl

end Go.Proofs.YtohdpbalajjjiaaGreat

/-
  WALKS: the nodes behind a place (impl.place.nodes).
-/
namespace Go.Proofs.YtohdpbalajjjiaaGreat
open Go.RowKit
set_option linter.unusedVariables false

/-- What is behind one letter. -/
def part (F : List UInt8 → Int × Int) (d : Nat) (w : List UInt8) (c : UInt8) : List Nd := oneAt F (w ++ [c]) ++ lst F d (w ++ [c])
def accN (F : List UInt8 → Int × Int) (d : Nat) (w : List UInt8) (n : Nat) : List Nd := (letters.take n).flatMap (part F d w)

theorem accN_four (F : List UInt8 → Int × Int) (d : Nat) (w : List UInt8) : accN F d w 4 = lst F (d + 1) w := rfl

theorem lst_len (F : List UInt8 → Int × Int) : ∀ (d : Nat) (w : List UInt8), (lst F d w).length + 1 ≤ 8 ^ d
  | 0, _ => by simp [lst]
  | d + 1, w => by
    have ho : ∀ u, (oneAt F u).length ≤ 1 := fun u => by unfold oneAt; split <;> simp
    have h1 := lst_len F d (w ++ [97])
    have h2 := lst_len F d (w ++ [98])
    have h3 := lst_len F d (w ++ [99])
    have h4 := lst_len F d (w ++ [100])
    have o1 := ho (w ++ [97])
    have o2 := ho (w ++ [98])
    have o3 := ho (w ++ [99])
    have o4 := ho (w ++ [100])
    have e : (lst F (d + 1) w).length = ((oneAt F (w ++ [97])).length + (lst F d (w ++ [97])).length) + (((oneAt F (w ++ [98])).length + (lst F d (w ++ [98])).length) + (((oneAt F (w ++ [99])).length + (lst F d (w ++ [99])).length) + ((oneAt F (w ++ [100])).length + (lst F d (w ++ [100])).length))) := by
      rw [show lst F (d + 1) w = letters.flatMap (part F d w) from rfl]
      unfold letters
      simp only [List.flatMap_cons, List.flatMap_nil, List.length_append, List.length_nil, Nat.add_zero]
      unfold part
      simp only [List.length_append]
    rw [e, Nat.pow_succ]
    have : 1 ≤ 8 ^ d := Nat.one_le_pow _ _ (by omega)
    omega

theorem lst_le {F : List UInt8 → Int × Int} {d : Nat} (hd : d ≤ 4) (w : List UInt8) : (lst F d w).length ≤ 4096 := by
  have h := lst_len F d w
  have : 8 ^ d ≤ 8 ^ 4 := Nat.pow_le_pow_right (by omega) hd
  omega

theorem accN_le {F : List UInt8 → Int × Int} {d : Nat} (hd : d < 4) (w : List UInt8) (n : Nat) : (accN F d w n).length ≤ 4096 := by
  have h : (accN F d w n).length ≤ (lst F (d + 1) w).length := by
    unfold accN
    rw [show lst F (d + 1) w = (letters.take n ++ letters.drop n).flatMap (part F d w) by rw [List.take_append_drop]; rfl, List.flatMap_append, List.length_append]
    omega
  have := lst_le (F := F) (show d + 1 ≤ 4 by omega) w
  omega

theorem accN_next (F : List UInt8 → Int × Int) (d : Nat) (w : List UInt8) {n : Nat} (hn : n < 4) : accN F d w (n + 1) = accN F d w n ++ part F d w (UInt8.ofNat (97 + n)) := by
  rcases (by omega : n = 0 ∨ n = 1 ∨ n = 2 ∨ n = 3) with rfl | rfl | rfl | rfl <;> simp [accN, letters] <;> rfl

theorem oneAt_zero {F : List UInt8 → Int × Int} {u : List UInt8} (h : (F u).1 = 0) : oneAt F u = [] := if_pos h
theorem oneAt_some {F : List UInt8 → Int × Int} {u : List UInt8} (h : (F u).1 ≠ 0) : oneAt F u = [ndAt F u] := if_neg h

theorem letter_nth {n : Nat} (hn : n < 4) : Pm.letter (UInt8.ofNat (97 + n)) = true := by
  rcases (by omega : n = 0 ∨ n = 1 ∨ n = 2 ∨ n = 3) with rfl | rfl | rfl | rfl <;> decide

theorem encode_nth {n : Nat} (hn : n < 4) : Utf8.encode (97 + (n : Int)) = ⟨#[UInt8.ofNat (97 + n)]⟩ := by
  rcases (by omega : n = 0 ∨ n = 1 ∨ n = 2 ∨ n = 3) with rfl | rfl | rfl | rfl <;> rfl

theorem flatN_one_cell (ns : List Nd) : ∀ u ∈ flatN ns, u.oneCell' = true := by
  intro u hu
  unfold flatN at hu
  obtain ⟨n, _, hn⟩ := List.mem_flatMap.1 hu
  simp at hn
  rcases hn with rfl | rfl | rfl <;> rfl

theorem own_cells {W : World} {base : Nat} {e : TypeId} {ns : List Nd} {g cap : Nat} (h : W.ownsRow base e 3 (.slice (some ⟨g, 0, none⟩) ns.length cap) ns.length (flatN ns)) :
    ∀ j u, (flatN ns)[j]? = some u → W.cell? ((⟨g, 0, none⟩ : Addr).add j) = some u := by
  intro j u hj
  have hl := flatN_length ns
  have hj' := (List.getElem?_eq_some_iff.1 hj).1
  have := h.cellAt j (by omega)
  have e2 : ((⟨g, 0, none⟩ : Addr).add j) = ⟨g, j, none⟩ := by
    unfold Addr.add
    split
    · rename_i h0; rw [h0]
    · simp
  rw [e2]
  exact this.trans hj

theorem own_join {W : World} {b : Nat} {e : TypeId} {v : Value} {acc more : List Nd} (h : W.ownsRow b e 3 v (acc.length + more.length) (flatN acc ++ flatN more)) : W.ownsRow b e 3 v (acc ++ more).length (flatN (acc ++ more)) := by
  rw [flatN_append, List.length_append]; exact h

theorem own_cases {W : World} {base : Nat} {e : TypeId} {size n : Nat} {v : Value} {xs : List Value} (h : W.ownsRow base e size v n xs) : (v = .slice none 0 0 ∧ n = 0) ∨ ∃ g cap, v = .slice (some ⟨g, 0, none⟩) n cap := by
  rcases h.2 with h | ⟨g, cap, _, h, _⟩
  · exact .inl h
  · exact .inr ⟨g, cap, h⟩

/-- What nodes returns. -/
def NodesPost (F : List UInt8 → Int × Int) (d : Nat) (w : List UInt8) (W : World) (e : Ending) (W' : World) : Prop := OwnsNodes W.heap.size (lst F d w) e W' ∧ Below W.heap.size W W'

def NodesRel (F : List UInt8 → Int × Int) (d : Nat) (w : List UInt8) (W : World) (o i : Value) (wr : World) : Prop :=
  ∃ n : Nat, i = .int .i64 n ∧ n ≤ 4 ∧ wr.ownsRow W.heap.size 125 3 o (accN F d w n).length (flatN (accN F d w n)) ∧ Hid (Below W.heap.size W wr)

end Go.Proofs.YtohdpbalajjjiaaGreat

/-
  WALKS: laws.markText, markNodeS, markStringS, heldNodeS, heldStringS, eqStringS: what a test writes into memory of the program's, and finds again.
-/
namespace Go.Proofs.YtohdpbalajjjiaaGreat
open Go.RowKit
set_option linter.unusedVariables false

/-- The digits of a number, ahead of a text. -/
def digs : Nat → Nat → ByteArray → ByteArray
  | 0, _, out => out
  | f + 1, k, out => if k = 0 then out else digs f (k / 10) (⟨#[UInt8.ofNat (48 + k % 10)]⟩ ++ out)

/-- The text of a mark. -/
def mtext (k : Nat) : ByteArray := ⟨#[109]⟩ ++ digs k k ⟨#[]⟩

theorem digs_zero (f : Nat) (out : ByteArray) : digs f 0 out = out := by cases f <;> simp [digs]
theorem digs_more : ∀ (f g k : Nat) (out : ByteArray), k ≤ f → k ≤ g → digs f k out = digs g k out
  | 0, g, k, out, h, _ => by rw [show k = 0 by omega, digs_zero, digs_zero]
  | f + 1, 0, k, out, _, h => by rw [show k = 0 by omega, digs_zero, digs_zero]
  | f + 1, g + 1, k, out, h1, h2 => by
    unfold digs
    split
    · rfl
    · exact digs_more f g _ _ (by omega) (by omega)
theorem digs_step {k : Nat} (out : ByteArray) (hk : 0 < k) : digs k k out = digs (k / 10) (k / 10) (⟨#[UInt8.ofNat (48 + k % 10)]⟩ ++ out) := by
  obtain ⟨f, rfl⟩ : ∃ f, k = f + 1 := ⟨k - 1, by omega⟩
  conv => lhs; unfold digs
  rw [if_neg (by omega)]
  exact digs_more _ _ _ _ (by omega) (by omega)

theorem convByte (w : World) (r : Nat) (hr : r ≤ 9) : (convert 22 9 (.slice (some ⟨w.heap.size, 0, none⟩) 1 1)).run Tryz.prog (w.alloc (.cells #[.int .u8 (48 + (r : Int))] 5)) =
    .ok (.string ⟨#[UInt8.ofNat (48 + r)]⟩) (w.alloc (.cells #[.int .u8 (48 + (r : Int))] 5)) := by
  rw [run_convert_bytes_string _ _ _ _ _ _ _ Tryz.underlying22 Tryz.underlying5 Tryz.underlying9, run_bytesToString _ _ _ _ [48 + (r : Int)] ?_]
  · simp only [List.foldl_cons, List.foldl_nil]
    have : (48 + (r : Int)).toNat = 48 + r := by omega
    rw [this]; rfl
  · simp [loadCells, go_sem, Addr.add]

def MarkRel (k0 : Nat) (W : World) (kv o : Value) (wr : World) : Prop :=
  ∃ (k : Nat) (out : ByteArray), kv = .int .i64 k ∧ o = .string out ∧ out.size + k ≤ k0 ∧ Hid (digs k k out = digs k0 k0 ⟨#[]⟩) ∧ Hid (Below W.heap.size W wr)

/-- The nodes that a test writes. -/
def markN (n : Nat) : List Nd := (List.range n).map (fun i => ⟨mtext (1 + 3 * i), 1 + 3 * (i : Int) + 1, 1 + 3 * (i : Int) + 1 + 1⟩)
theorem markN_len (n : Nat) : (markN n).length = n := by simp [markN]
theorem markN_get {n i : Nat} (h : i < n) : (markN n)[i]? = some ⟨mtext (1 + 3 * i), 1 + 3 * (i : Int) + 1, 1 + 3 * (i : Int) + 1 + 1⟩ := by
  unfold markN; rw [List.getElem?_map, List.getElem?_range h]; rfl

def MarkedRel (len base : Nat) (v : Value) (W : World) (kv i : Value) (wr : World) : Prop :=
  ∃ (n : Nat) (zs : List Value), i = .int .i64 n ∧ kv = .int .i64 (1 + 3 * (n : Int)) ∧ n ≤ len ∧ zs.length = (len - n) * 3 ∧ wr.ownsRow base 125 3 v len (flatN ((markN len).take n) ++ zs) ∧ Hid (W.grownBy wr v.ownBlock)

theorem _root_.Go.World.grownBy.set {A B : World} {g : Nat} {n cap : Nat} (h : A.grownBy B (Value.slice (some ⟨g, 0, none⟩) n cap).ownBlock) (g' i : Nat) (hg : g' = g) (u : Value) : A.grownBy (B.setCell ⟨g', i, none⟩ u) (Value.slice (some ⟨g, 0, none⟩) n cap).ownBlock := by
  subst hg
  exact ⟨h.os, h.tape, h.output, by (have hz : (B.setCell ⟨g', i, none⟩ u).heap.size = B.heap.size := by simp [World.setCell]); (rw [hz]); exact h.size, fun k hk hr => (Below.heap_setCell _ _ _ _ (fun e => hr (by rw [e]; rfl))).trans (h.block k hk hr)⟩

theorem grown_next {A B C : World} {row : Option Nat} (h : A.grownBy B row) (k : Below B.heap.size B C) : A.grownBy C row :=
  ⟨k.os.trans h.os, k.tape.trans h.tape, k.output.trans h.output, Nat.le_trans h.size k.size, fun i hi hr => (k.block i (by have := h.size; omega)).trans (h.block i hi hr)⟩

def HeldRel (len st : Nat) (W : World) (kv i : Value) (wr : World) : Prop :=
  ∃ n : Nat, i = .int .i64 n ∧ kv = .int .i64 (1 + (st : Int) * (n : Int)) ∧ n ≤ len ∧ Hid (Below W.heap.size W wr)

def markS (n : Nat) : List ByteArray := (List.range n).map (fun i => mtext (1 + i))
theorem markS_len (n : Nat) : (markS n).length = n := by simp [markS]
theorem markS_get {n i : Nat} (h : i < n) : (markS n)[i]? = some (mtext (1 + i)) := by
  unfold markS; rw [List.getElem?_map, List.getElem?_range h]; rfl

def MarkedSRel (len base : Nat) (v : Value) (W : World) (kv i : Value) (wr : World) : Prop :=
  ∃ (n : Nat) (zs : List Value), i = .int .i64 n ∧ kv = .int .i64 (1 + (n : Int)) ∧ n ≤ len ∧ zs.length = len - n ∧ wr.ownsRow base 9 1 v len (((markS len).take n).map Value.string ++ zs) ∧ Hid (W.grownBy wr v.ownBlock)

theorem take_set_one {α : Type} (l : List α) (i : Nat) (x : α) (zs : List α) (h : l.length = i) (hz : 1 ≤ zs.length) : (l ++ zs).set i x = (l ++ [x]) ++ zs.drop 1 := by
  match zs, hz with
  | a :: r, _ =>
    rw [List.set_append_right _ _ (by omega), h, Nat.sub_self]
    simp

def HeldSRel (len : Nat) (W : World) (kv i : Value) (wr : World) : Prop :=
  ∃ n : Nat, i = .int .i64 n ∧ kv = .int .i64 (1 + (n : Int)) ∧ n ≤ len ∧ Hid (Below W.heap.size W wr)

end Go.Proofs.YtohdpbalajjjiaaGreat

/-
  WALKS: laws.markCommandS (from any number on), laws.heldCommandS.
-/
namespace Go.Proofs.YtohdpbalajjjiaaGreat
open Go.RowKit
set_option linter.unusedVariables false

/-- The commands that a test writes. -/
def markCK (k0 n : Nat) : List Cmd := (List.range n).map (fun i => ⟨mtext (k0 + 5 * i), (k0 : Int) + 5 * (i : Int) + 1, (k0 : Int) + 5 * (i : Int) + 1 + 1, (k0 : Int) + 5 * (i : Int) + 1 + 1 + 1, (k0 : Int) + 5 * (i : Int) + 1 + 1 + 1 + 1⟩)
theorem markCK_len (k0 n : Nat) : (markCK k0 n).length = n := by simp [markCK]
theorem markCK_get {k0 n i : Nat} (h : i < n) : (markCK k0 n)[i]? = some ⟨mtext (k0 + 5 * i), (k0 : Int) + 5 * (i : Int) + 1, (k0 : Int) + 5 * (i : Int) + 1 + 1, (k0 : Int) + 5 * (i : Int) + 1 + 1 + 1, (k0 : Int) + 5 * (i : Int) + 1 + 1 + 1 + 1⟩ := by
  unfold markCK; rw [List.getElem?_map, List.getElem?_range h]; rfl

def MarkedCRel (k0 len base : Nat) (v : Value) (W : World) (kv i : Value) (wr : World) : Prop :=
  ∃ (n : Nat) (zs : List Value), i = .int .i64 n ∧ kv = .int .i64 ((k0 : Int) + 5 * (n : Int)) ∧ n ≤ len ∧ zs.length = (len - n) * 5 ∧ wr.ownsRow base 33 5 v len (flatC ((markCK k0 len).take n) ++ zs) ∧ Hid (W.grownBy wr v.ownBlock)

def HeldCRel (len : Nat) (W : World) (kv i : Value) (wr : World) : Prop :=
  ∃ n : Nat, i = .int .i64 n ∧ kv = .int .i64 (1 + 5 * (n : Int)) ∧ n ≤ len ∧ Hid (Below W.heap.size W wr)

end Go.Proofs.YtohdpbalajjjiaaGreat
