/-
  Texts of this proof, one behind the other: Bc, Eo.
-/
import Derived.RangeFuncNested
import Derived.RangeFuncBound
import Derived.RangeFuncCalls
import Derived.RangeFuncLeaves
import Derived.OwnWalkIn
import Derived.TacticsInMore
import Derived.LoopNIn
import Derived.LoopIn
import Derived.Lib.HexFns2
import Derived.Test.YtpjoahddbdmbpaaDoorLcq
import Derived.Test.YtpjoahddbdmbpaaDoorQ5
import Derived.Test.YtpjoahddbdmbpaaDoorQ3
/-
  WALKS: slices.Backward over a list of commands.
-/
namespace Go.Proofs.YtpjoahddbdmbpaaDoor
open Go.RowKit
set_option linter.unusedVariables false

attribute [local go_sem] Oper.semAt_some

/-- A command of a list, with its place. -/
structure EltC (ns : List Cmd) where
  i : Nat
  n : Cmd
  at_ : ns[i]? = some n

/-- The commands ahead of a place, the last one first. -/
def backEC (ns : List Cmd) : (j : Nat) → j ≤ ns.length → List (EltC ns)
  | 0, _ => []
  | j + 1, h => ⟨j, ns[j], by simp⟩ :: backEC ns j (by omega)

theorem backEC_length (ns : List Cmd) : ∀ (j : Nat) (h : j ≤ ns.length), (backEC ns j h).length = j
  | 0, _ => rfl
  | j + 1, h => by show (backEC ns j _).length + 1 = _; rw [backEC_length ns j]

set_option maxRecDepth 100000 in
set_option maxHeartbeats 2000000 in
/-- The closure's walk, for whatever loop body. -/
theorem back1C_in (n : Nat) (hn : 1 ≤ n) (l Bn : Nat) (a : Option Addr) (len cap : Nat) (ns : List Cmd) (hl : len ≤ 2097152) (Kp : World → World → Prop)
    (hKc : ∀ W W', Kp W W' → W.cell? ⟨Bn, 0, none⟩ = some (.slice a len cap) → W'.cell? ⟨Bn, 0, none⟩ = some (.slice a len cap)) (hKn : ∀ W W', Kp W W' → CmdsAt W a len ns → CmdsAt W' a len ns)
    (J Jx : List (EltC ns) → World → Prop)
    (hY : ∀ pre x W, J pre W → pre.length < ns.length → YieldAt Fence.wide (n - 1) Tryd.prog l #[.int .i64 x.i, cmdV x.n] W fun e W' =>
      (e = .returned (.bool true) ∧ J (pre ++ [x]) W' ∧ Kp W W') ∨ (e = .returned (.bool false) ∧ Jx (pre ++ [x]) W'))
    (W : World) (hBn : W.cell? ⟨Bn, 0, none⟩ = some (.slice a len cap)) (hN : CmdsAt W a len ns) (h0 : J [] W) :
    CallsIn Fence.wide n Tryd.prog 46 #[.func (.yield l) #[] #[], .pointer (some ⟨Bn, 0, none⟩)] W fun e W' => (∃ v, e = .returned v) ∧
      ((∃ ys, ys = backEC ns ns.length (Nat.le_refl _) ∧ J ys W') ∨ (∃ pre, pre <+: backEC ns ns.length (Nat.le_refl _) ∧ Jx pre W')) := by
  have hlen := hN.1
  have HN := Lib.hid hN
  have HLE := Lib.hid hlen
  have hl' : (len : Int) ≤ 2097152 := by omega
  have HKC := Lib.hid hKc
  have HKN := Lib.hid hKn
  have HY := Lib.hid hY
  clear hN hlen hKc hKn hY
  refine callsIn_of_wp Tryd.func46 rfl trivial ?_ rfl
  simp only [Tryd.ntmps46, List.size_toArray, List.length_cons, List.length_nil, Nat.reduceAdd, Nat.reduceSub, Array.replicate_succ, Array.replicate_zero, List.push_toArray, List.append_toArray, List.nil_append, List.cons_append]
  gi_wp2
  gi_loopw [3] (fun i wr => ∃ (pre : List (EltC ns)) (j : Nat) (hj : j ≤ ns.length), i = .int .i64 ((j : Int) - 1) ∧ Hid (backEC ns ns.length (Nat.le_refl _) = pre ++ backEC ns j hj) ∧ J pre wr ∧ wr.cell? ⟨Bn, 0, none⟩ = some (.slice a len cap) ∧ Hid (CmdsAt wr a len ns))
    (fun i _ => (intOf i + 1).toNat)
  case atStart =>
    exact ⟨[], ns.length, Nat.le_refl _, by rw [HLE.out], rfl, h0, hBn, HN.out⟩
  case round =>
    obtain ⟨pre, j, hj, rfl, HX, hJs, hc, HNr⟩ := hrel
    cases j with
    | zero =>
      gi_wp2
      go_end0
      exact ⟨⟨_, rfl⟩, .inl ⟨pre, by have := HX.out; simpa [backEC] using this.symm, hJs⟩⟩
    | succ j =>
      obtain ⟨b, off, nd, hab, hnd, c0, c1, c2, c3, c4⟩ := HNr.out.node (i := j) (by have := HLE.out; omega)
      have hlt : pre.length < ns.length := by
        have := congrArg List.length HX.out
        rw [List.length_append, backEC_length, backEC_length] at this
        omega
      obtain ⟨x, hxi, hxn⟩ : ∃ x : EltC ns, x.i = j ∧ x.n = nd := ⟨⟨j, nd, hnd⟩, rfl, rfl⟩
      have HX2 := Lib.hid (show backEC ns ns.length (Nat.le_refl _) = pre ++ [x] ++ backEC ns j (Nat.le_of_succ_le hj) by
        rw [HX.out, List.append_assoc]
        show pre ++ (⟨j, ns[j], _⟩ :: backEC ns j _) = pre ++ (x :: backEC ns j _)
        have e : ns[j] = nd := by have := List.getElem?_eq_some_iff.1 hnd; exact this.2
        obtain ⟨xi, xn, xa⟩ := x
        simp only at hxi hxn
        subst hxi; subst hxn
        congr 2
        congr 1)
      obtain ⟨fn, tmps, assign, body, hy, hR⟩ := HY.out pre x wr hJs hlt
      rw [hxi, hxn] at hy
      dsimp only [cmdV] at hy
      have hjl : (j : Int) < len := by have := HLE.out; omega
      have hjl2 : j < len := by have := HLE.out; omega
      subst hab
      have HJ := Lib.hid hj
      have HC := Lib.hid hc
      clear hnd hlt hxi hxn
      gi_wp2
      refine hR.mono ?_
      rintro e W3 (⟨rfl, hJ3, hk3⟩ | ⟨rfl, hJx3⟩)
      · have c3 := HKC.out _ _ hk3 HC.out
        have N3 := Lib.hid (HKN.out _ _ hk3 HNr.out)
        gi_wp2
        go_roundw
        case rel => exact ⟨pre ++ [x], j, by have := HJ.out; omega, by simp, HX2.out, hJ3, c3, N3.out⟩
        case measure => simp [intOf]
      · gi_wp2
        refine bodyPost_ret (results_none rfl _ _ _) rfl ?_
        exact ⟨⟨_, rfl⟩, .inr ⟨pre ++ [x], by rw [HX2.out]; exact List.prefix_append _ _, hJx3⟩⟩

set_option maxHeartbeats 1000000 in
set_option maxRecDepth 100000 in
/-- slices.Backward: the slice is boxed; the function value captures the box. -/
theorem backwardC_in (n : Nat) (a : Option Addr) (len cap : Nat) (w : World) :
    CallsIn Fence.wide n Tryd.prog 32 #[.slice a len cap] w fun e w' => e = .returned (.func (.func 46) #[] #[.pointer (some ⟨w.heap.size, 0, none⟩)]) ∧ w' = w.alloc (.cells #[.slice a len cap] 24) := by
  refine callsIn_of_wp Tryd.func32 rfl trivial ?_ rfl
  simp only [Tryd.ntmps32, List.size_toArray, List.length_cons, List.length_nil, Nat.reduceAdd, Nat.reduceSub, Array.replicate_succ, Array.replicate_zero, List.push_toArray, List.append_toArray, List.nil_append, List.cons_append]
  gi_wp2
  go_ret
  exact ⟨rfl, rfl⟩

/-- What a round keeps: what lay below, and the box of the list. -/
def BackKC (n₀ Bn : Nat) (W W' : World) : Prop := Below n₀ W W' ∧ W'.heap[Bn]? = W.heap[Bn]?

theorem cmds_below {n₀ : Nat} {W W' : World} {a : Option Addr} {len : Nat} {ns : List Cmd} (h : CmdsAt W a len ns) (hl : ∀ b off, a = some ⟨b, off, none⟩ → len ≠ 0 → b < n₀) (hb : Below n₀ W W') : CmdsAt W' a len ns := by
  obtain ⟨h1, h0 | ⟨b, off, ha, hc⟩⟩ := h
  · exact ⟨h1, .inl h0⟩
  · by_cases h0 : len = 0
    · exact ⟨h1, .inl h0⟩
    · have hbn := hl b off ha h0
      exact ⟨h1, .inr ⟨b, off, ha, fun i n hn => ⟨(hb.cell (p := ⟨b, _, none⟩) hbn).trans (hc i n hn).1, (hb.cell (p := ⟨b, _, none⟩) hbn).trans (hc i n hn).2.1, (hb.cell (p := ⟨b, _, none⟩) hbn).trans (hc i n hn).2.2.1, (hb.cell (p := ⟨b, _, none⟩) hbn).trans (hc i n hn).2.2.2.1, (hb.cell (p := ⟨b, _, none⟩) hbn).trans (hc i n hn).2.2.2.2⟩⟩⟩

theorem cmds_lt {W : World} {a : Option Addr} {len : Nat} {ns : List Cmd} (h : CmdsAt W a len ns) : ∀ b off, a = some ⟨b, off, none⟩ → len ≠ 0 → b < W.heap.size := by
  intro b off ha h0
  obtain ⟨b', off', n, ha', _, hc, _⟩ := h.node (i := 0) (by omega)
  rw [ha] at ha'
  cases ha'
  exact World.block_lt_of_cell? W _ hc

theorem backwardC_stops (n : Nat) (hn : 1 ≤ n) (Bn n₀ : Nat) (a : Option Addr) (len cap : Nat) (ns : List Cmd) (hl : len ≤ 2097152) (hlow : ∀ b off, a = some ⟨b, off, none⟩ → len ≠ 0 → b < n₀) (w : World) (hn₀ : n₀ ≤ w.heap.size) (hBn : Bn < w.heap.size)
    (hc : w.cell? ⟨Bn, 0, none⟩ = some (.slice a len cap)) (hN : CmdsAt w a len ns) :
    SeqStopsK Fence.wide n Tryd.prog 46 #[.pointer (some ⟨Bn, 0, none⟩)] (fun x : EltC ns => #[Value.int .i64 x.i, cmdV x.n]) (BackKC n₀ Bn) (fun ys => ys = backEC ns ns.length (Nat.le_refl _)) (fun pre => pre <+: backEC ns ns.length (Nat.le_refl _)) ns.length w := fun l J Jx W hW hJ _ hY h0 =>
  back1C_in n hn l Bn a len cap ns hl (BackKC n₀ Bn) (fun W W' hk h => (World.cell?_of_block (a := ⟨Bn, 0, none⟩) hk.2).trans h) (fun W W' hk h => cmds_below h hlow hk.1) J Jx hY W
    ((hW.cell (p := ⟨Bn, 0, none⟩) hBn).trans hc) (cmds_below hN hlow (hW.mono hn₀)) h0

end Go.Proofs.YtpjoahddbdmbpaaDoor

/-
  WALKS: impl.entriesOf.
-/
namespace Go.Proofs.YtpjoahddbdmbpaaDoor
open Go.RowKit
set_option linter.unusedVariables false

attribute [local go_sem] Oper.semAt_some

/-- What entriesOf tells. -/
def EntriesPost (cs : List Cmd) (W : World) (e : Ending) (w' : World) : Prop :=
  Below W.heap.size W w' ∧ ((validL cs = false ∧ e = .returned (.tuple #[.pointer none, .bool false])) ∨ (validL cs = true ∧ ∃ a, e = .returned (.tuple #[.pointer a, .bool true]) ∧ EntAt W.heap.size w' a cs))

theorem back_map (cs : List Cmd) : ∀ (j : Nat) (h : j ≤ cs.length), (backEC cs j h).map (fun x => x.n) = (cs.take j).reverse
  | 0, _ => rfl
  | j + 1, h => by
    show cs[j] :: (backEC cs j _).map (fun x => x.n) = _
    rw [back_map cs j, List.take_add_one, List.getElem?_eq_getElem (by omega), Option.toList_some, List.reverse_append]
    rfl

theorem back_all (cs : List Cmd) : ((backEC cs cs.length (Nat.le_refl _)).map (fun x => x.n)).reverse = cs := by
  rw [back_map, List.take_length, List.reverse_reverse]

/-- Between two rounds. -/
def EntI (cs : List Cmd) (X : Nat) (pre : List (EltC cs)) (W : World) : Prop :=
  ∃ p, Boxed W X 46 (.pointer none) ∧ Boxed W (X + 1) 4 (.bool false) ∧ Boxed W (X + 1 + 1) 46 (.pointer p) ∧ EntAt (X + 1 + 1 + 1) W p (pre.map (fun x => x.n)).reverse ∧ (∀ x ∈ pre, validC x.n = true) ∧ X + 1 + 1 + 1 < W.heap.size

def EntX (cs : List Cmd) (X : Nat) (c : Code) (pre : List (EltC cs)) (W : World) : Prop :=
  c = .ret ∧ (∃ x ∈ pre, validC x.n = false) ∧ Boxed W X 46 (.pointer none) ∧ Boxed W (X + 1) 4 (.bool false)

theorem box_own {A B : World} {row : Option Nat} {b : Nat} {t : TypeId} {v : Value} (h : Boxed A b t v) (hg : A.grownBy B row) (hr : ∀ r, row = some r → ∃ o : Obj, A.heap[r]? = some o ∧ o.isCells = false) : Boxed B b t v :=
  h.kept hg fun e => by
    obtain ⟨o, ho, hc⟩ := hr _ e.symm
    rw [show A.heap[b]? = _ from h] at ho; cases ho; cases hc

theorem box_keep {W W' : World} {b : Nat} {t : TypeId} {v : Value} (h : Boxed W b t v) (hb : Below W.heap.size W W') : Boxed W' b t v := (hb.block b h.lt).trans h

theorem EntI.own (cs : List Cmd) (X : Nat) : Own (EntI cs X) := by
  rintro pre A B row ⟨p, h1, h2, h3, h4, h5, h6⟩ hg hr
  exact ⟨p, box_own h1 hg hr, box_own h2 hg hr, box_own h3 hg hr, h4.own hg hr, h5, Nat.lt_of_lt_of_le h6 hg.size⟩

theorem EntX.own (cs : List Cmd) (X : Nat) (c : Code) : Own (EntX cs X c) := by
  rintro pre A B row ⟨h1, h2, h3, h4⟩ hg hr
  exact ⟨h1, h2, box_own h3 hg hr, box_own h4 hg hr⟩

/-- The loop's variable lies in a box of its own. -/
def CmBox {cs : List Cmd} (B0 : Nat) (tm : Nat → EltC cs → Array Value) (x : EltC cs) (a' : Act) (W : World) : Prop :=
  ∃ Bx, B0 ≤ Bx ∧ W.heap[Bx]? = some (.cells #[.string x.n.p, .int .i64 x.n.fk, .int .i64 x.n.fv, .int .i64 x.n.tk, .int .i64 x.n.tv] 31 (0, 0)) ∧ a' = { tmps := tm Bx x, defers := [] }

theorem CmBox.own {cs : List Cmd} (B0 : Nat) (tm : Nat → EltC cs → Array Value) (x : EltC cs) (a' : Act) : Own (fun (_ : Unit) W => CmBox B0 tm x a' W) := by
  rintro _ A B row ⟨Bx, h0, h1, h2⟩ hg hr
  refine ⟨Bx, h0, (hg.block Bx (Array.getElem?_eq_some_iff.1 h1).1 fun e => ?_).trans h1, h2⟩
  obtain ⟨o, ho, hc⟩ := hr _ e.symm
  rw [h1] at ho; cases ho; cases hc

theorem keeps_below {W W' : World} (h : Below W.heap.size W W') : KeepsOthers W W' := KeepsOthers.of_grownBy (below_grown h) (fun _ _ e => by cases e)

theorem ent_stop {cs : List Cmd} {B : Nat} {W W1 W2 : World} {pre : List (EltC cs)} {x : EltC cs} (hv : validC x.n = false) (h1 : Boxed W2 W.heap.size 46 (.pointer none)) (h2 : Boxed W2 (W.heap.size + 1) 4 (.bool false))
    (hb1 : Below W.heap.size W W1) (hb2 : Below W1.heap.size W1 W2) :
    KeepsFrom B W1 ((W2.setCell ⟨W.heap.size, 0, none⟩ (.pointer none)).setCell ⟨W.heap.size + 1, 0, none⟩ (.bool false)) ∧
    (EntX cs W.heap.size .ret (pre ++ [x]) ((W2.setCell ⟨W.heap.size, 0, none⟩ (.pointer none)).setCell ⟨W.heap.size + 1, 0, none⟩ (.bool false)) ∧ Below W.heap.size W ((W2.setCell ⟨W.heap.size, 0, none⟩ (.pointer none)).setCell ⟨W.heap.size + 1, 0, none⟩ (.bool false))) :=
  ⟨(((keeps_below hb2).trans (KeepsOthers.setCell _ _ _)).trans (KeepsOthers.setCell _ _ _)).from _,
    ⟨rfl, ⟨x, by simp, hv⟩, (h1.set _).other (by omega) _, (h2.other (by omega) _).set _⟩, below_setCell (below_setCell (below_next hb1 hb2) _ _ (Nat.le_refl _)) _ _ (Nat.le_succ _)⟩

theorem size_set (W : World) (a : Addr) (v : Value) : (W.setCell a v).heap.size = W.heap.size := by simp [World.setCell]

theorem ent_round {cs : List Cmd} {B : Nat} {W W1 W2 : World} {pre : List (EltC cs)} {x : EltC cs} {p : Option Addr} (hv : validC x.n = true) (h1 : Boxed W1 W.heap.size 46 (.pointer none)) (h2 : Boxed W1 (W.heap.size + 1) 4 (.bool false))
    (h3 : Boxed W1 (W.heap.size + 1 + 1) 46 (.pointer p)) (h4 : EntAt (W.heap.size + 1 + 1 + 1) W1 p (pre.map (fun x => x.n)).reverse) (h5 : ∀ x ∈ pre, validC x.n = true) (hlt : W.heap.size + 1 + 1 + 1 < W1.heap.size)
    (hb1 : Below W.heap.size W W1) (hb2 : Below W1.heap.size W1 W2) :
    KeepsFrom B W1 ((W2.setCell ⟨W.heap.size + 1 + 1, 0, none⟩ (.pointer (some ⟨W2.heap.size, 0, none⟩))).alloc (.cells (entC x.n p) 54)) ∧
    BackKC W.heap.size (W.heap.size + 1 + 1 + 1) W1 ((W2.setCell ⟨W.heap.size + 1 + 1, 0, none⟩ (.pointer (some ⟨W2.heap.size, 0, none⟩))).alloc (.cells (entC x.n p) 54)) ∧
    (EntI cs W.heap.size (pre ++ [x]) ((W2.setCell ⟨W.heap.size + 1 + 1, 0, none⟩ (.pointer (some ⟨W2.heap.size, 0, none⟩))).alloc (.cells (entC x.n p) 54)) ∧ Below W.heap.size W ((W2.setCell ⟨W.heap.size + 1 + 1, 0, none⟩ (.pointer (some ⟨W2.heap.size, 0, none⟩))).alloc (.cells (entC x.n p) 54))) := by
  have hs2 : W1.heap.size ≤ W2.heap.size := hb2.size
  have g1 := box_keep h1 hb2
  have g2 := box_keep h2 hb2
  have g3 := box_keep h3 hb2
  have hbl : Below W.heap.size W1 ((W2.setCell ⟨W.heap.size + 1 + 1, 0, none⟩ (.pointer (some ⟨W2.heap.size, 0, none⟩))).alloc (.cells (entC x.n p) 54)) :=
    (below_setCell (hb2.mono hb1.size) ⟨W.heap.size + 1 + 1, 0, none⟩ (.pointer (some ⟨W2.heap.size, 0, none⟩)) (by show W.heap.size ≤ W.heap.size + 1 + 1; omega)).alloc (by rw [size_set]; have := hb1.size; omega) _
  refine ⟨(((keeps_below hb2).trans (KeepsOthers.setCell _ _ _)).trans (KeepsOthers.alloc _ _)).from _, ⟨hbl, ?_⟩, ⟨some ⟨W2.heap.size, 0, none⟩, (g1.other (by omega) _).alloc _, (g2.other (by omega) _).alloc _, (g3.set _).alloc _, ?_, ?_, by rw [World.size_alloc, size_set]; omega⟩, hb1.trans hbl⟩
  · rw [Below.heap_alloc _ _ _ (by rw [size_set]; omega), Below.heap_setCell _ _ _ _ (by show W.heap.size + 1 + 1 + 1 ≠ W.heap.size + 1 + 1; omega)]
    exact hb2.block _ hlt
  · have := ((h4.keep hb2).set (p := ⟨W.heap.size + 1 + 1, 0, none⟩) (by show W.heap.size + 1 + 1 < _; omega) (.pointer (some ⟨W2.heap.size, 0, none⟩))).push (by rw [size_set]; omega) x.n
    rw [size_set] at this
    simpa using this
  · intro y hy
    rcases List.mem_append.1 hy with hy | hy
    · exact h5 y hy
    · rw [List.mem_singleton.1 hy]; exact hv

set_option maxHeartbeats 1000000 in
set_option maxRecDepth 100000 in
theorem entriesOf_long (a : Option Addr) (len cap : Nat) (cs : List Cmd) (hl : 20 < len) (W : World) (hN : CmdsAt W a len cs) :
    Calls Tryd.prog 18 #[.slice a len cap] W (EntriesPost cs W) := by
  have hv := Lib.hid (show validL cs = false by
    rw [Bool.eq_false_iff]
    intro h
    have := ((validL_iff cs).1 h).2
    have := hN.1
    omega)
  have hl' : (20 : Int) < len := by omega
  clear hN hl
  go_enter Tryd.func18, Tryd.ntmps18
  go_wp2
  refine bodyPost_ret (v := .tuple #[.pointer none, .bool false]) (by simp [results, Tryd.f18, go_sem]) rfl ⟨?_, .inl ⟨hv.out, rfl⟩⟩
  exact ((Below.refl _ _).alloc (Nat.le_refl _) _).alloc (by simp) _

set_option maxHeartbeats 2000000 in
set_option maxRecDepth 100000 in
theorem entriesOf_in (a : Option Addr) (len cap : Nat) (cs : List Cmd) (hl : len ≤ 20) (hs : ShortC 2097152 cs) (W : World) (hN : CmdsAt W a len cs) :
    CallsIn Fence.wide 6 Tryd.prog 18 #[.slice a len cap] W (EntriesPost cs W) := by
  have HN := Lib.hid hN
  have HE := Lib.hid hN.1
  have HS := Lib.hid hs
  have HL := Lib.hid hl
  have hl' : (len : Int) ≤ 20 := by omega
  clear hN hs hl
  refine callsIn_of_wp_marks Tryd.func18 rfl trivial ?_ rfl
  simp only [Tryd.ntmps18, List.size_toArray, List.length_cons, List.length_nil, Nat.reduceAdd, Nat.reduceSub, Array.replicate_succ, Array.replicate_zero, List.push_toArray, List.append_toArray, List.nil_append, List.cons_append]
  gi_wp2_with (refine ⟨trivial, ?_⟩; gi_at_call 32; refine (backwardC_in _ _ _ _ _).mono ?_; rintro e w' ⟨rfl, rfl⟩)
  have hlow := cmds_lt HN.out
  have hB0 : Below W.heap.size W ((((W.alloc (.cells #[.pointer none] 46)).alloc (.cells #[.bool false] 4)).alloc (.cells #[.pointer none] 46)).alloc (.cells #[.slice a len cap] 24)) :=
    ((((Below.refl _ W).alloc (Nat.le_refl _) _).alloc (by simp) _).alloc (by simp; omega) _).alloc (by simp; omega) _
  have hI0 : EntI cs W.heap.size [] ((((W.alloc (.cells #[.pointer none] 46)).alloc (.cells #[.bool false] 4)).alloc (.cells #[.pointer none] 46)).alloc (.cells #[.slice a len cap] 24)) := by
    have b0 := Boxed.new W 46 (.pointer none)
    have b1 := Boxed.new (W.alloc (.cells #[.pointer none] 46)) 4 (.bool false)
    have b2 := Boxed.new ((W.alloc (.cells #[.pointer none] 46)).alloc (.cells #[.bool false] 4)) 46 (.pointer none)
    simp only [World.size_alloc] at b1 b2
    exact ⟨none, ((b0.alloc _).alloc _).alloc _, (b1.alloc _).alloc _, b2.alloc _, rfl, fun x hx => (by cases hx), by simp⟩
  have hsz : ((((W.alloc (.cells #[.pointer none] 46)).alloc (.cells #[.bool false] 4)).alloc (.cells #[.pointer none] 46)).alloc (.cells #[.slice a len cap] 24)).heap.size = W.heap.size + 1 + 1 + 1 + 1 := by simp
  have hbk : ((((W.alloc (.cells #[.pointer none] 46)).alloc (.cells #[.bool false] 4)).alloc (.cells #[.pointer none] 46)).alloc (.cells #[.slice a len cap] 24)).cell? ⟨W.heap.size + 1 + 1 + 1, 0, none⟩ = some (.slice a len cap) := by
    have := (Boxed.new (((W.alloc (.cells #[.pointer none] 46)).alloc (.cells #[.bool false] 4)).alloc (.cells #[.pointer none] 46)) 24 (.slice a len cap)).cell
    simpa only [World.size_alloc] using this
  generalize ((((W.alloc (.cells #[.pointer none] 46)).alloc (.cells #[.bool false] 4)).alloc (.cells #[.pointer none] 46)).alloc (.cells #[.slice a len cap] 24)) = Wl at hB0 hI0 hsz hbk ⊢
  have HSZ := Lib.hid hsz
  refine wpIn_rangeFunc_ownH rfl (by omega) (gf := 46) (lb := #[.pointer (some ⟨W.heap.size + 1 + 1 + 1, 0, none⟩)]) rfl trivial (enters_of Tryd.func46 (by kernel_rfl) rfl)
    (backwardC_stops _ (by omega) (W.heap.size + 1 + 1 + 1) W.heap.size a len cap cs (by have := HL.out; omega) hlow Wl hB0.size (by rw [hsz]; omega) hbk (HN.out.keep hB0))
    (fun h k => ⟨h.1.trans k.1, k.2.trans h.2⟩)
    (fun W' l o o' hl _ _ _ => by
      rw [HSZ.out] at hl
      exact ⟨⟨rfl, rfl, rfl, by simp, fun k hk => World.putObj_heap_other (by omega)⟩, World.putObj_heap_other (by omega)⟩)
    (Below.refl _ _) (fun _ => rfl)
    (fun pre W' => EntI cs W.heap.size pre W' ∧ Below W.heap.size W W') (fun c pre W' => EntX cs W.heap.size c pre W' ∧ Below W.heap.size W W')
    (OwnFrom.and (Own.from (EntI.own cs W.heap.size) _) (ownFrom_below (Nat.le_refl _) hB0.size)) (fun c => OwnFrom.and (Own.from (EntX.own cs W.heap.size c) _) (ownFrom_below (Nat.le_refl _) hB0.size))
    ⟨hI0, hB0⟩
    (CmBox Wl.heap.size (fun Bx x => #[.slice a len cap, undef, .pointer (some ⟨W.heap.size, 0, none⟩), .pointer (some ⟨W.heap.size + 1, 0, none⟩), .pointer (some ⟨W.heap.size + 1 + 1, 0, none⟩), undef, .pointer (some ⟨Bx, 0, none⟩), .slice a len cap, .int .i64 len, .bool (decide ((20 : Int) < len)), .slice a len cap, .func (.func 46) #[] #[.pointer (some ⟨W.heap.size + 1 + 1 + 1, 0, none⟩)], .int .i64 x.i, cmdV x.n, undef, undef, undef, undef, undef, undef, undef, undef]))
    (fun x a' => Own.from (CmBox.own _ _ x a') _)
    ?assign ?body ?done ?stop
  case assign =>
    rintro l pre x W1 K ⟨hi1, hb1⟩ hK
    unfold cmdV
    gi_wp2
    obtain ⟨_, _, _, hb3, _, _, hle⟩ := id hi1
    exact hK _ _ ((KeepsOthers.alloc _ _).from _) ⟨(Below.refl _ _).alloc hb1.size _, Below.heap_alloc _ _ _ hle⟩ ⟨(EntI.own cs W.heap.size).alloc _ hi1, hb1.alloc hb1.size _⟩ ⟨W1.heap.size, by rw [HSZ.out]; exact hle, World.alloc_heap_new W1 _, rfl⟩
  case body =>
    rintro l pre x a' W1 hl ⟨r, hr⟩ ⟨hi1, hb1⟩ ⟨Bx, hBx, hbx, rfl⟩ hlt
    obtain ⟨p, g1, g2, g3, g4, g5, g6⟩ := hi1
    obtain ⟨i, c, hat⟩ := x
    obtain ⟨x, hx⟩ : ∃ x : EltC cs, x = ⟨i, c, hat⟩ := ⟨_, rfl⟩
    rw [← hx]
    have HX := Lib.hid (show x.i = i ∧ x.n = c by rw [hx]; exact ⟨rfl, rfl⟩)
    simp only at hbx
    dsimp only
    obtain ⟨vc, hvc⟩ : ∃ vc, validC c = vc := ⟨_, rfl⟩
    have HC := Lib.hid (fun W' => show Calls Tryd.prog 33 #[cmdV c] W' (BoolPost vc W') by rw [← hvc]; exact implCmdValid_c c (HS.out.at hat) W')
    have HVC := Lib.hid hvc
    have HBX := Lib.hid (And.intro hBx (Array.getElem?_eq_some_iff.1 hbx).1)
    have HG1 := Lib.hid g1
    have HG2 := Lib.hid g2
    have HG3 := Lib.hid g3
    have HG4 := Lib.hid g4
    have HG5 := Lib.hid g5
    have HB1 := Lib.hid hb1
    obtain ⟨hxi, hxn⟩ := HX.out
    simp only [hxi, hxn]
    obtain ⟨q, fk, fv, tk, tv⟩ := c
    have c0 : W1.cell? ⟨Bx, 0, none⟩ = some (.string q) := by simp [World.cell?, hbx]
    have c1 : W1.cell? ⟨Bx, 1, none⟩ = some (.int .i64 fk) := by simp [World.cell?, hbx]
    have c2 : W1.cell? ⟨Bx, 2, none⟩ = some (.int .i64 fv) := by simp [World.cell?, hbx]
    have c3 : W1.cell? ⟨Bx, 3, none⟩ = some (.int .i64 tk) := by simp [World.cell?, hbx]
    have c4 : W1.cell? ⟨Bx, 4, none⟩ = some (.int .i64 tv) := by simp [World.cell?, hbx]
    unfold cmdV at HC ⊢
    simp only at HC ⊢
    clear hx hbx hr g1 g2 g3 g4 g5 g6 hat hvc hb1 hlt hl hBx hbk hB0 hI0 hlow hxi hxn
    cases vc with
    | false =>
      gi_wp2_with (refine ⟨trivial, ?_⟩; gi_at_call 33; refine (CallsIn.inRound l (callsIn_wide.2 (HC.out _))).mono ?_; rintro e W2 ⟨rfl, hb2⟩; have G1 := box_keep HG1.out hb2; have G2 := box_keep HG2.out hb2; have s1 := G1.cell; have y1 := G1.frozen; have s2 := G2.cell; have y2 := G2.frozen; have HB2 := Lib.hid hb2; have HH1 := Lib.hid G1; have HH2 := Lib.hid G2; clear hb2 G1 G2)
      exact ent_stop (x := x) (by rw [HX.out.2]; exact HVC.out) HH1.out HH2.out HB1.out HB2.out
    | true =>
      gi_wp2_with (refine ⟨trivial, ?_⟩; gi_at_call 33; refine (CallsIn.inRound l (callsIn_wide.2 (HC.out _))).mono ?_; rintro e W2 ⟨rfl, hb2⟩; have G3 := box_keep HG3.out hb2; have s3 := G3.cell; have y3 := G3.frozen; have k0 := cell_kept hb2 c0; have k1 := cell_kept hb2 c1; have k2 := cell_kept hb2 c2; have k3 := cell_kept hb2 c3; have k4 := cell_kept hb2 c4; have z3 := G3.lt; have HB2 := Lib.hid hb2; have HH3 := Lib.hid G3; clear hb2 G3)
      have := ent_round (B := Wl.heap.size) (x := x) (by rw [HX.out.2]; exact HVC.out) HG1.out HG2.out HG3.out HG4.out HG5.out (by have h1 := HBX.out.1; have h2 := HBX.out.2; rw [HSZ.out] at h1; omega) HB1.out HB2.out
      rw [HX.out.2] at this
      exact this
  case done =>
    rintro D ys W' hD rfl ⟨⟨p, h1, h2, h3, h4, h5, h6⟩, hb⟩ hK
    have s1 := h1.cell
    have y1 := h1.frozen
    have s2 := h2.cell
    have y2 := h2.frozen
    have s3 := h3.cell
    have HV := Lib.hid (show validL cs = true by
      refine (validL_iff cs).2 ⟨fun c hc => ?_, by have := HE.out; have := HL.out; omega⟩
      have hm : c ∈ ((backEC cs cs.length (Nat.le_refl _)).map (fun x => x.n)).reverse := by rw [back_all]; exact hc
      obtain ⟨x, hx, rfl⟩ := List.mem_map.1 (List.mem_reverse.1 hm)
      exact h5 x hx)
    rw [back_all] at h4
    have H1 := Lib.hid h1
    have H2 := Lib.hid h2
    have H4 := Lib.hid h4
    have HB := Lib.hid hb
    clear h1 h2 h3 h4 h5 h6 hb hbk hB0 hI0 hlow
    gi_wp2
    have hK' := ((KeepsOthers.setCell W' ⟨W.heap.size, 0, none⟩ (.pointer p)).trans (KeepsOthers.setCell _ ⟨W.heap.size + 1, 0, none⟩ (.bool true))).same D _ hK rfl
    refine ⟨by simp, .inl ⟨_, _, rfl, run_takeDeferred hK', ?_⟩⟩
    have hD' : W.heap.size ≤ D := by rw [HSZ.out] at hD; omega
    have hx5 := _root_.Go.cell_kept ((H1.out.set (.pointer p)).other (B' := W.heap.size + 1) (by omega) (.bool true)).cell (grownBy_putObj' _ D (.deferred none)) (fun r e => by cases e; exact ⟨_, hK', rfl⟩)
    have hx6 := _root_.Go.cell_kept ((H2.out.other (B' := W.heap.size) (by omega) (.pointer p)).set (.bool true)).cell (grownBy_putObj' _ D (.deferred none)) (fun r e => by cases e; exact ⟨_, hK', rfl⟩)
    have hen := (((H4.out.set (p := ⟨W.heap.size, 0, none⟩) (by show W.heap.size < _; omega) (.pointer p)).set (p := ⟨W.heap.size + 1, 0, none⟩) (by show W.heap.size + 1 < _; omega) (.bool true)).own (grownBy_putObj' _ D (.deferred none)) (fun r e => by cases e; exact ⟨_, hK', rfl⟩)).low (C := W.heap.size) (by omega)
    refine ⟨.tuple #[.pointer p, .bool true], by simp [results, Tryd.f18, go_sem, hx5, hx6], ?_, .inr ⟨HV.out, p, rfl, hen⟩⟩
    exact (below_setCell (below_setCell HB.out _ _ (Nat.le_refl _)) _ _ (Nat.le_succ _)).trans ⟨rfl, rfl, rfl, by simp, fun k hk => World.putObj_heap_other (by omega)⟩
  case stop =>
    rintro D c pre W' hD hpre ⟨⟨rfl, ⟨x, hx, hvx⟩, q1, q2⟩, hb⟩ hK
    have HV := Lib.hid (validL_one x.at_ hvx)
    have hD' : W.heap.size ≤ D := by rw [HSZ.out] at hD; omega
    gi_wp2
    refine ⟨by simp, .inl ⟨_, _, rfl, run_takeDeferred hK, ?_⟩⟩
    have hx5 := _root_.Go.cell_kept q1.cell (grownBy_putObj' _ D (.deferred none)) (fun r e => by cases e; exact ⟨_, hK, rfl⟩)
    have hx6 := _root_.Go.cell_kept q2.cell (grownBy_putObj' _ D (.deferred none)) (fun r e => by cases e; exact ⟨_, hK, rfl⟩)
    refine ⟨.tuple #[.pointer none, .bool false], by simp [results, Tryd.f18, go_sem, hx5, hx6], ?_, .inl ⟨HV.out, rfl⟩⟩
    exact hb.trans ⟨rfl, rfl, rfl, by simp, fun k hk => World.putObj_heap_other (by omega)⟩

/-- impl.entriesOf, at every list. -/
theorem entriesOf_c (a : Option Addr) (len cap : Nat) (cs : List Cmd) (hs : ShortC 2097152 cs) (W : World) (hN : CmdsAt W a len cs) :
    Calls Tryd.prog 18 #[.slice a len cap] W (EntriesPost cs W) := by
  by_cases hl : len ≤ 20
  · exact callsIn_wide.1 (entriesOf_in a len cap cs hl hs W hN)
  · exact entriesOf_long a len cap cs (by omega) W hN

end Go.Proofs.YtpjoahddbdmbpaaDoor
