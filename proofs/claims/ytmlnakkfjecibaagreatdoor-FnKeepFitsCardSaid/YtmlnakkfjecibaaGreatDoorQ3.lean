/-
  Texts of this proof, one behind the other: Bc, Et, Tn, Ia, Ct, Cu, Iw, Eo, Eu.
-/
import Derived.RangeFuncNested
import Derived.RangeFuncBound
import Derived.RangeFuncCalls
import Derived.RangeFuncLeaves
import Derived.OwnWalkIn
import Derived.TacticsInMore
import Derived.LoopNIn
import Derived.LoopIn
import Derived.Lib.HexFns2
import Derived.RangeFuncBox
import Derived.RangeFuncFrom
import Derived.Shelf.LaysM
import Derived.Shelf.Strconv.Itoa3
import Derived.Test.YtmlnakkfjecibaaGreatDoorChecked
import Derived.Laws.Concat
import Derived.Laws.BytesString
import Derived.Laws.Cells
import Derived.Deep.RegionWith
import Derived.Test.YtmlnakkfjecibaaGreatDoorLc
import Derived.Test.YtmlnakkfjecibaaGreatDoorTl
import Derived.Test.YtmlnakkfjecibaaGreatDoorQ4
import Derived.Test.YtmlnakkfjecibaaGreatDoorCx
import Derived.Test.YtmlnakkfjecibaaGreatDoorCk
import Derived.Test.YtmlnakkfjecibaaGreatDoorPd
/-
  WALKS: slices.Backward over a list of commands.
-/
namespace Go.Proofs.YtmlnakkfjecibaaGreatDoor
open Go.RowKit
set_option linter.unusedVariables false

attribute [local go_sem] Oper.semAt_some

/-- A command of a list, with its place. -/
structure EltC (ns : List Cmd) where
  i : Nat
  n : Cmd
  at_ : ns[i]? = some n

/-- The commands ahead of a place, the last one first. -/
def backEC (ns : List Cmd) : (j : Nat) → j ≤ ns.length → List (EltC ns)
  | 0, _ => []
  | j + 1, h => ⟨j, ns[j], by simp⟩ :: backEC ns j (by omega)

theorem backEC_length (ns : List Cmd) : ∀ (j : Nat) (h : j ≤ ns.length), (backEC ns j h).length = j
  | 0, _ => rfl
  | j + 1, h => by show (backEC ns j _).length + 1 = _; rw [backEC_length ns j]

set_option maxRecDepth 100000 in
set_option maxHeartbeats 2000000 in
/-- The closure's walk, for whatever loop body. -/
theorem back1C_in (n : Nat) (hn : 1 ≤ n) (l Bn : Nat) (a : Option Addr) (len cap : Nat) (ns : List Cmd) (hl : len ≤ 2097152) (Kp : World → World → Prop)
    (hKc : ∀ W W', Kp W W' → W.cell? ⟨Bn, 0, none⟩ = some (.slice a len cap) → W'.cell? ⟨Bn, 0, none⟩ = some (.slice a len cap)) (hKn : ∀ W W', Kp W W' → CmdsAt W a len ns → CmdsAt W' a len ns)
    (J Jx : List (EltC ns) → World → Prop)
    (hY : ∀ pre x W, J pre W → pre.length < ns.length → YieldAt Fence.wide (n - 1) Tryz.prog l #[.int .i64 x.i, cmdV x.n] W fun e W' =>
      (e = .returned (.bool true) ∧ J (pre ++ [x]) W' ∧ Kp W W') ∨ (e = .returned (.bool false) ∧ Jx (pre ++ [x]) W'))
    (W : World) (hBn : W.cell? ⟨Bn, 0, none⟩ = some (.slice a len cap)) (hN : CmdsAt W a len ns) (h0 : J [] W) :
    CallsIn Fence.wide n Tryz.prog 66 #[.func (.yield l) #[] #[], .pointer (some ⟨Bn, 0, none⟩)] W fun e W' => (∃ v, e = .returned v) ∧
      ((∃ ys, ys = backEC ns ns.length (Nat.le_refl _) ∧ J ys W') ∨ (∃ pre, pre <+: backEC ns ns.length (Nat.le_refl _) ∧ Jx pre W')) := by
  have hlen := hN.1
  have HN := Lib.hid hN
  have HLE := Lib.hid hlen
  have hl' : (len : Int) ≤ 2097152 := by omega
  have HKC := Lib.hid hKc
  have HKN := Lib.hid hKn
  have HY := Lib.hid hY
  clear hN hlen hKc hKn hY
  refine callsIn_of_wp Tryz.func66 rfl trivial ?_ rfl
  simp only [Tryz.ntmps66, List.size_toArray, List.length_cons, List.length_nil, Nat.reduceAdd, Nat.reduceSub, Array.replicate_succ, Array.replicate_zero, List.push_toArray, List.append_toArray, List.nil_append, List.cons_append]
  gi_wp2
  gi_loopw [3] (fun i wr => ∃ (pre : List (EltC ns)) (j : Nat) (hj : j ≤ ns.length), i = .int .i64 ((j : Int) - 1) ∧ Hid (backEC ns ns.length (Nat.le_refl _) = pre ++ backEC ns j hj) ∧ J pre wr ∧ wr.cell? ⟨Bn, 0, none⟩ = some (.slice a len cap) ∧ Hid (CmdsAt wr a len ns))
    (fun i _ => (intOf i + 1).toNat)
  case atStart =>
    exact ⟨[], ns.length, Nat.le_refl _, by rw [HLE.out], rfl, h0, hBn, HN.out⟩
  case round =>
    obtain ⟨pre, j, hj, rfl, HX, hJs, hc, HNr⟩ := hrel
    cases j with
    | zero =>
      gi_wp2
      go_end0
      exact ⟨⟨_, rfl⟩, .inl ⟨pre, by have := HX.out; simpa [backEC] using this.symm, hJs⟩⟩
    | succ j =>
      obtain ⟨b, off, nd, hab, hnd, c0, c1, c2, c3, c4⟩ := HNr.out.node (i := j) (by have := HLE.out; omega)
      have hlt : pre.length < ns.length := by
        have := congrArg List.length HX.out
        rw [List.length_append, backEC_length, backEC_length] at this
        omega
      obtain ⟨x, hxi, hxn⟩ : ∃ x : EltC ns, x.i = j ∧ x.n = nd := ⟨⟨j, nd, hnd⟩, rfl, rfl⟩
      have HX2 := Lib.hid (show backEC ns ns.length (Nat.le_refl _) = pre ++ [x] ++ backEC ns j (Nat.le_of_succ_le hj) by
        rw [HX.out, List.append_assoc]
        show pre ++ (⟨j, ns[j], _⟩ :: backEC ns j _) = pre ++ (x :: backEC ns j _)
        have e : ns[j] = nd := by have := List.getElem?_eq_some_iff.1 hnd; exact this.2
        obtain ⟨xi, xn, xa⟩ := x
        simp only at hxi hxn
        subst hxi; subst hxn
        congr 2
        congr 1)
      obtain ⟨fn, tmps, assign, body, hy, hR⟩ := HY.out pre x wr hJs hlt
      rw [hxi, hxn] at hy
      dsimp only [cmdV] at hy
      have hjl : (j : Int) < len := by have := HLE.out; omega
      have hjl2 : j < len := by have := HLE.out; omega
      subst hab
      have HJ := Lib.hid hj
      have HC := Lib.hid hc
      clear hnd hlt hxi hxn
      gi_wp2
      refine hR.mono ?_
      rintro e W3 (⟨rfl, hJ3, hk3⟩ | ⟨rfl, hJx3⟩)
      · have c3 := HKC.out _ _ hk3 HC.out
        have N3 := Lib.hid (HKN.out _ _ hk3 HNr.out)
        gi_wp2
        go_roundw
        case rel => exact ⟨pre ++ [x], j, by have := HJ.out; omega, by simp, HX2.out, hJ3, c3, N3.out⟩
        case measure => simp [intOf]
      · gi_wp2
        refine bodyPost_ret (results_none rfl _ _ _) rfl ?_
        exact ⟨⟨_, rfl⟩, .inr ⟨pre ++ [x], by rw [HX2.out]; exact List.prefix_append _ _, hJx3⟩⟩

set_option maxHeartbeats 1000000 in
set_option maxRecDepth 100000 in
/-- slices.Backward: the slice is boxed; the function value captures the box. -/
theorem backwardC_in (n : Nat) (a : Option Addr) (len cap : Nat) (w : World) :
    CallsIn Fence.wide n Tryz.prog 39 #[.slice a len cap] w fun e w' => e = .returned (.func (.func 66) #[] #[.pointer (some ⟨w.heap.size, 0, none⟩)]) ∧ w' = w.alloc (.cells #[.slice a len cap] 24) := by
  refine callsIn_of_wp Tryz.func39 rfl trivial ?_ rfl
  simp only [Tryz.ntmps39, List.size_toArray, List.length_cons, List.length_nil, Nat.reduceAdd, Nat.reduceSub, Array.replicate_succ, Array.replicate_zero, List.push_toArray, List.append_toArray, List.nil_append, List.cons_append]
  gi_wp2
  go_ret
  exact ⟨rfl, rfl⟩

/-- What a round keeps: what lay below, and the box of the list. -/
def BackKC (n₀ Bn : Nat) (W W' : World) : Prop := Below n₀ W W' ∧ W'.heap[Bn]? = W.heap[Bn]?

theorem cmds_below {n₀ : Nat} {W W' : World} {a : Option Addr} {len : Nat} {ns : List Cmd} (h : CmdsAt W a len ns) (hl : ∀ b off, a = some ⟨b, off, none⟩ → len ≠ 0 → b < n₀) (hb : Below n₀ W W') : CmdsAt W' a len ns := by
  obtain ⟨h1, h0 | ⟨b, off, ha, hc⟩⟩ := h
  · exact ⟨h1, .inl h0⟩
  · by_cases h0 : len = 0
    · exact ⟨h1, .inl h0⟩
    · have hbn := hl b off ha h0
      exact ⟨h1, .inr ⟨b, off, ha, fun i n hn => ⟨(hb.cell (p := ⟨b, _, none⟩) hbn).trans (hc i n hn).1, (hb.cell (p := ⟨b, _, none⟩) hbn).trans (hc i n hn).2.1, (hb.cell (p := ⟨b, _, none⟩) hbn).trans (hc i n hn).2.2.1, (hb.cell (p := ⟨b, _, none⟩) hbn).trans (hc i n hn).2.2.2.1, (hb.cell (p := ⟨b, _, none⟩) hbn).trans (hc i n hn).2.2.2.2⟩⟩⟩

theorem cmds_lt {W : World} {a : Option Addr} {len : Nat} {ns : List Cmd} (h : CmdsAt W a len ns) : ∀ b off, a = some ⟨b, off, none⟩ → len ≠ 0 → b < W.heap.size := by
  intro b off ha h0
  obtain ⟨b', off', n, ha', _, hc, _⟩ := h.node (i := 0) (by omega)
  rw [ha] at ha'
  cases ha'
  exact World.block_lt_of_cell? W _ hc

theorem backwardC_stops (n : Nat) (hn : 1 ≤ n) (Bn n₀ : Nat) (a : Option Addr) (len cap : Nat) (ns : List Cmd) (hl : len ≤ 2097152) (hlow : ∀ b off, a = some ⟨b, off, none⟩ → len ≠ 0 → b < n₀) (w : World) (hn₀ : n₀ ≤ w.heap.size) (hBn : Bn < w.heap.size)
    (hc : w.cell? ⟨Bn, 0, none⟩ = some (.slice a len cap)) (hN : CmdsAt w a len ns) :
    SeqStopsK Fence.wide n Tryz.prog 66 #[.pointer (some ⟨Bn, 0, none⟩)] (fun x : EltC ns => #[Value.int .i64 x.i, cmdV x.n]) (BackKC n₀ Bn) (fun ys => ys = backEC ns ns.length (Nat.le_refl _)) (fun pre => pre <+: backEC ns ns.length (Nat.le_refl _)) ns.length w := fun l J Jx W hW hJ _ hY h0 =>
  back1C_in n hn l Bn a len cap ns hl (BackKC n₀ Bn) (fun W W' hk h => (World.cell?_of_block (a := ⟨Bn, 0, none⟩) hk.2).trans h) (fun W W' hk h => cmds_below h hlow hk.1) J Jx hY W
    ((hW.cell (p := ⟨Bn, 0, none⟩) hBn).trans hc) (cmds_below hN hlow (hW.mono hn₀)) h0

end Go.Proofs.YtmlnakkfjecibaaGreatDoor

/-
  LOGS OF THE PROGRAM IN MEMORY: an entry is a command and the entry behind it.
-/
namespace Go.Proofs.YtmlnakkfjecibaaGreatDoor
open Go.RowKit
set_option linter.unusedVariables false

/-- The cells of an entry. -/
def entC (c : Cmd) (nx : Option Addr) : Array Value := #[.string c.p, .int .i64 c.fk, .int .i64 c.fv, .int .i64 c.tk, .int .i64 c.tv, .pointer nx]

/-- The entries from a pointer on, each of them in a block of its own from B on. -/
def EntAt (B : Nat) (W : World) : Option Addr → List Cmd → Prop
  | a, [] => a = none
  | a, c :: cs => ∃ b nx, a = some ⟨b, 0, none⟩ ∧ B ≤ b ∧ W.heap[b]? = some (.cells (entC c nx) 59 (0, 0)) ∧ EntAt B W nx cs

theorem EntAt.kept {B : Nat} {W W' : World} : ∀ {cs : List Cmd} {a : Option Addr}, EntAt B W a cs → (∀ b, B ≤ b → ∀ c t f, W.heap[b]? = some (.cells c t f) → W'.heap[b]? = W.heap[b]?) → EntAt B W' a cs
  | [], _, h, _ => h
  | _ :: _, _, ⟨b, nx, h1, h2, h3, h4⟩, hk => ⟨b, nx, h1, h2, (hk b h2 _ _ _ h3).trans h3, EntAt.kept h4 hk⟩

theorem ent_lt {W : World} {b : Nat} {o : Obj} (h : W.heap[b]? = some o) : b < W.heap.size := (Array.getElem?_eq_some_iff.1 h).1

theorem EntAt.keep {B : Nat} {W W' : World} {cs : List Cmd} {a : Option Addr} (h : EntAt B W a cs) (hb : Below W.heap.size W W') : EntAt B W' a cs :=
  h.kept fun b _ _ _ _ e => hb.block b (ent_lt e)

/-- A turn of a block that holds no cells. -/
theorem EntAt.own {B : Nat} {W W' : World} {row : Option Nat} {cs : List Cmd} {a : Option Addr} (h : EntAt B W a cs) (hg : W.grownBy W' row) (hr : ∀ r, row = some r → ∃ o : Obj, W.heap[r]? = some o ∧ o.isCells = false) : EntAt B W' a cs :=
  h.kept fun b _ c t f e => hg.block b (ent_lt e) fun q => by
    obtain ⟨o, ho, hc⟩ := hr b q.symm
    rw [e] at ho; cases ho; cases hc

/-- A store below. -/
theorem EntAt.set {B : Nat} {W : World} {cs : List Cmd} {a : Option Addr} (h : EntAt B W a cs) {p : Addr} (hp : p.block < B) (v : Value) : EntAt B (W.setCell p v) a cs :=
  h.kept fun b hb _ _ _ e => Below.heap_setCell _ _ _ _ (by omega)

theorem EntAt.alloc {B : Nat} {W : World} {cs : List Cmd} {a : Option Addr} (h : EntAt B W a cs) (o : Obj) : EntAt B (W.alloc o) a cs := h.keep (below_box _ _)

/-- An entry more. -/
theorem EntAt.push {B : Nat} {W : World} {cs : List Cmd} {a : Option Addr} (h : EntAt B W a cs) (hB : B ≤ W.heap.size) (c : Cmd) : EntAt B (W.alloc (.cells (entC c a) 59)) (some ⟨W.heap.size, 0, none⟩) (c :: cs) :=
  ⟨W.heap.size, a, rfl, hB, World.alloc_heap_new W _, h.alloc _⟩

theorem EntAt.low {B C : Nat} {W : World} (hBC : C ≤ B) : ∀ {cs : List Cmd} {a : Option Addr}, EntAt B W a cs → EntAt C W a cs
  | [], _, h => h
  | _ :: _, _, ⟨b, nx, h1, h2, h3, h4⟩ => ⟨b, nx, h1, Nat.le_trans hBC h2, h3, EntAt.low hBC h4⟩

/-- The cells of the first entry. -/
theorem EntAt.first {B : Nat} {W : World} {c : Cmd} {cs : List Cmd} {a : Option Addr} (h : EntAt B W a (c :: cs)) :
    ∃ b nx, a = some ⟨b, 0, none⟩ ∧ B ≤ b ∧ EntAt B W nx cs ∧ W.cell? ⟨b, 0, none⟩ = some (.string c.p) ∧ W.cell? ⟨b, 1, none⟩ = some (.int .i64 c.fk) ∧ W.cell? ⟨b, 2, none⟩ = some (.int .i64 c.fv) ∧ W.cell? ⟨b, 3, none⟩ = some (.int .i64 c.tk) ∧ W.cell? ⟨b, 4, none⟩ = some (.int .i64 c.tv) ∧ W.cell? ⟨b, 5, none⟩ = some (.pointer nx) := by
  obtain ⟨b, nx, h1, h2, h3, h4⟩ := h
  refine ⟨b, nx, h1, h2, h4, ?_, ?_, ?_, ?_, ?_, ?_⟩ <;> simp [World.cell?, h3, entC]

theorem EntAt.len {B : Nat} {W : World} : ∀ {xs ys : List Cmd} {a : Option Addr}, EntAt B W a xs → EntAt B W a ys → xs.length = ys.length
  | [], [], _, _, _ => rfl
  | [], _ :: _, _, h, ⟨_, _, k, _⟩ => by rw [show _ = none from h] at k; cases k
  | _ :: _, [], _, ⟨_, _, k, _⟩, h => by rw [show _ = none from h] at k; cases k
  | _ :: _, _ :: _, _, ⟨b, nx, h1, _, h3, h4⟩, ⟨b', nx', k1, _, k3, k4⟩ => by
    rw [h1] at k1
    cases k1
    rw [h3] at k3
    have e : nx = nx' := by
      have := Option.some.inj k3
      simp [entC] at this
      exact this.2.2.2.2.2
    subst e
    rw [List.length_cons, List.length_cons, EntAt.len h4 k4]

/-- How many entries there are from a pointer on. -/
theorem ent_count (B : Nat) : ∃ f : World → Value → Nat, ∀ W a cs, EntAt B W a cs → f W (.pointer a) = cs.length := by
  classical
  refine ⟨fun W v => if h : ∃ n : Nat, ∃ a cs, v = .pointer a ∧ EntAt B W a cs ∧ cs.length = n then Classical.choose h else 0, fun W a cs h => ?_⟩
  have hx : ∃ n : Nat, ∃ a' cs', (Value.pointer a) = .pointer a' ∧ EntAt B W a' cs' ∧ cs'.length = n := ⟨_, a, cs, rfl, h, rfl⟩
  show (if h : _ then _ else _) = _
  rw [dif_pos hx]
  obtain ⟨a', cs', e, h', hl⟩ := Classical.choose_spec hx
  cases e
  exact hl.symm.trans (h'.len h)

/-- A log that the call has made. -/
def EntPost (cs : List Cmd) (W : World) (e : Ending) (w' : World) : Prop := ∃ a, e = .returned (.pointer a) ∧ EntAt W.heap.size w' a cs ∧ Below W.heap.size W w'

end Go.Proofs.YtmlnakkfjecibaaGreatDoor

/-
  WALKS: spec.TreeUnder.
-/
namespace Go.Proofs.YtmlnakkfjecibaaGreatDoor
open Go.RowKit
set_option linter.unusedVariables false

/-- A list of texts that the call has made, and nothing that was there has turned. -/
def TextsPost (xs : List ByteArray) (W : World) (e : Ending) (w' : World) : Prop :=
  (∃ sl, e = .returned sl ∧ w'.ownsRow W.heap.size 9 1 sl xs.length (xs.map Value.string)) ∧ Below W.heap.size W w'

def undAcc (ns : List Nd) (p : ByteArray) (i : Nat) : List ByteArray := ((ns.take i).filter (fun n => undB p n.p)).map Nd.p

theorem undAcc_yes {ns : List Nd} {p : ByteArray} {i : Nat} {n : Nd} (hn : ns[i]? = some n) (h : undB p n.p = true) : undAcc ns p (i + 1) = undAcc ns p i ++ [n.p] := by
  unfold undAcc
  rw [List.take_add_one, hn]
  simp [List.filter_append, h]

theorem undAcc_no {ns : List Nd} {p : ByteArray} {i : Nat} {n : Nd} (hn : ns[i]? = some n) (h : undB p n.p = false) : undAcc ns p (i + 1) = undAcc ns p i := by
  unfold undAcc
  rw [List.take_add_one, hn]
  simp [List.filter_append, h]

theorem undAcc_len (ns : List Nd) (p : ByteArray) (i : Nat) : (undAcc ns p i).length ≤ i := by
  unfold undAcc
  rw [List.length_map]
  exact Nat.le_trans (List.length_filter_le _ _) (by rw [List.length_take]; omega)

def UnderRel (ns : List Nd) (p : ByteArray) (W : World) (o i : Value) (wr : World) : Prop :=
  ∃ n : Nat, i = .int .i64 n ∧ n ≤ ns.length ∧ wr.ownsRow W.heap.size 9 1 o (undAcc ns p n).length ((undAcc ns p n).map Value.string) ∧ Hid (Below W.heap.size W wr)

theorem under_none {ns : List Nd} {p : ByteArray} (h : (validT ns && vpB p) = false) : treeUnder ns p = [] := by unfold treeUnder; rw [h]; rfl

end Go.Proofs.YtmlnakkfjecibaaGreatDoor

/-
  strconv.Itoa of a number below 100, by the library's contract, at this program's numbers.
-/
namespace Go.Proofs.YtmlnakkfjecibaaGreatDoor
open Go.Shelf
end Go.Proofs.YtmlnakkfjecibaaGreatDoor

/-
  WALKS: the texts of contents: impl.ContentText, spec.l6Dec, spec.ContentText.
-/
namespace Go.Proofs.YtmlnakkfjecibaaGreatDoor
open Go.RowKit
set_option linter.unusedVariables false

/-- The decimal of a number. -/
def decB (n : Nat) : ByteArray := ⟨(Lib.decDigits n).toArray⟩

theorem decB_small (n : Nat) (h : n < 10) : decB n = ⟨#[UInt8.ofNat (48 + n)]⟩ := by unfold decB; rw [Lib.decDigits_one h]
theorem decB_more (n : Nat) (h : ¬ n < 10) : decB n = decB (n / 10) ++ ⟨#[UInt8.ofNat (48 + n % 10)]⟩ := by
  unfold decB
  conv => lhs; rw [Lib.decDigits]
  rw [dif_neg h]
  apply ByteArray.ext
  simp [ByteArray.data_append]

theorem conv1 (W : World) (g : Nat) (x : Int) (h : W.cell? ⟨g, 0, none⟩ = some (.int .u8 x)) :
    (convert 22 9 (.slice (some ⟨g, 0, none⟩) 1 1)).run Tryz.prog W = .ok (.string ⟨#[UInt8.ofNat x.toNat]⟩) W := by
  rw [run_convert_bytes_string (e := 5) W _ _ _ _ _ Tryz.underlying22 Tryz.underlying5 Tryz.underlying9]
  refine (run_bytesToString W ⟨g, 0, none⟩ 1 1 [x] ?_).trans ?_
  · have hl := run_loadCells_list (P := Tryz.prog) (w := W) ⟨g, 0, none⟩ [.int .u8 x] (by
      intro j v hj
      match j, hj with
      | 0, hj => simp at hj; subst hj; simpa [Addr.add] using h)
    simpa using hl
  · rfl

theorem convN (W : World) (x : Int) (t : TypeId) :
    (convert 22 9 (.slice (some ⟨W.heap.size, 0, none⟩) 1 1)).run Tryz.prog (W.alloc (.cells #[.int .u8 x] t)) = .ok (.string ⟨#[UInt8.ofNat x.toNat]⟩) (W.alloc (.cells #[.int .u8 x] t)) :=
  conv1 _ _ _ (by rw [World.cell?_alloc_new]; rfl)

def decCell (n : Nat) : Obj := .cells #[.int .u8 (48 + (n : Int))] 5

def DecPost (n : Nat) (w : World) (e : Ending) (w' : World) : Prop := e = .returned (.string (decB n)) ∧ Below w.heap.size w w'

theorem dec_end {n : Nat} {s : ByteArray} {w w' : World} (h : decB n = s) (k : Below w.heap.size w w') : DecPost n w (.returned (.string s)) w' := ⟨by rw [h], k⟩

theorem below_two (w : World) (o1 o2 : Obj) : Below w.heap.size w ((w.drew.alloc o1).alloc o2) :=
  ((Below.refl w.heap.size w).drew.alloc (Nat.le_refl _) o1).alloc (by simp) o2

theorem decB_size (n : Nat) (hn : n < 100) : (decB n).size ≤ 2 := by
  unfold decB
  rw [Lib.size_eq]
  show (Lib.decDigits n).length ≤ 2
  by_cases h : n < 10
  · rw [Lib.decDigits_one h]; simp
  · rw [Lib.decDigits_two h hn]; simp

/-- A text, and nothing that was there has turned. -/
def TextPost (s : ByteArray) (w : World) (e : Ending) (w' : World) : Prop := e = .returned (.string s) ∧ Below w.heap.size w w'

/-- The text of a content; empty if it is none. -/
def conText (k v : Int) : ByteArray :=
  if validB k v = true then (if k = 0 then ⟨#[45]⟩ else if k = 1 then ⟨#[100]⟩ else ⟨#[102]⟩ ++ decB v.toNat) else ⟨#[]⟩

theorem text_end {s t : ByteArray} {w w' : World} (h : t = s) (k : Below w.heap.size w w') : TextPost s w (.returned (.string t)) w' := ⟨by rw [h], k⟩

theorem method_nothing (W : World) : (method 296 149 (.agg #[]) "loop.example/filereconciler/impl.text").run Tryz.prog W = .ok (133, .agg #[]) W := by kernel_rfl
theorem method_directory (W : World) : (method 296 150 (.agg #[]) "loop.example/filereconciler/impl.text").run Tryz.prog W = .ok (134, .agg #[]) W := by kernel_rfl
theorem method_file (v : Int) (W : World) : (method 296 152 (.agg #[.int .i64 v]) "loop.example/filereconciler/impl.text").run Tryz.prog W = .ok (135, .agg #[.int .i64 v]) W := by kernel_rfl

theorem conText_bad {k v : Int} (h : validB k v = false) : (⟨#[]⟩ : ByteArray) = conText k v := by unfold conText; rw [h]; rfl

theorem conText_empty (k v : Int) : (conText k v).toList.isEmpty = !validB k v := by
  unfold conText
  split
  · rename_i h
    rw [h]
    split
    · rw [Lib.toList_data]; rfl
    · split
      · rw [Lib.toList_data]; rfl
      · rw [Lib.toList_data, ByteArray.data_append]; simp
  · rename_i h
    have : validB k v = false := by simpa using h
    rw [this, Lib.toList_data]; rfl

end Go.Proofs.YtmlnakkfjecibaaGreatDoor

/-
  TEXTS OF COMMANDS; WALK: spec.CommandText.
-/
namespace Go.Proofs.YtmlnakkfjecibaaGreatDoor
open Go.RowKit
set_option linter.unusedVariables false

def blB : ByteArray := ⟨#[32]⟩

/-- spec.CommandText. -/
def textC (c : Cmd) : ByteArray := if validC c = true then c.p ++ blB ++ conText c.fk c.fv ++ blB ++ conText c.tk c.tv else ⟨#[]⟩

theorem conSize_le (k v : Int) : (conText k v).size ≤ 3 := by
  unfold conText
  split
  · rename_i h
    split
    · decide
    · split
      · decide
      · rename_i h0 h1
        have h' := h
        unfold validB at h'
        simp [h0, h1] at h'
        rw [ByteArray.size_append]
        have := decB_size v.toNat (by omega)
        show 1 + _ ≤ 3
        omega
  · decide

theorem textC_bad {c : Cmd} (h : validC c = false) : textC c = ⟨#[]⟩ := if_neg (by rw [h]; decide)
theorem textC_ok {c : Cmd} (h : validC c = true) : textC c = c.p ++ ⟨#[32]⟩ ++ conText c.fk c.fv ++ ⟨#[32]⟩ ++ conText c.tk c.tv := if_pos h

theorem pathB_size {p : ByteArray} (h : 1 ≤ depB p) : p.size ≤ 8 := by
  obtain ⟨w, hw, rfl⟩ := vpB_word (vp_of_depth h)
  show (Pm.pathOf w).length ≤ 8
  unfold Pm.pathOf
  split
  · simp
  · rw [Pm.flat_length]; have := hw.1; omega

theorem textC_size (c : Cmd) : (textC c).size ≤ 16 := by
  cases h : validC c with
  | false => rw [textC_bad h]; decide
  | true =>
    have h1 := pathB_size ((validC_iff c).1 h).1
    have h2 := conSize_le c.fk c.fv
    have h3 := conSize_le c.tk c.tv
    rw [textC_ok h]
    simp only [ByteArray.size_append]
    have e : (⟨#[32]⟩ : ByteArray).size = 1 := rfl
    rw [e]
    omega

end Go.Proofs.YtmlnakkfjecibaaGreatDoor

/-
  WALKS: commands of the program: impl.CommandValid, impl.CommandUndo, impl.CommandText.
-/
namespace Go.Proofs.YtmlnakkfjecibaaGreatDoor
open Go.RowKit
set_option linter.unusedVariables false

set_option maxHeartbeats 2000000 in
set_option maxRecDepth 100000 in
theorem implCmdValid_c (c : Cmd) (hp : c.p.size ≤ 2097152) (W : World) : Calls Tryz.prog 40 #[cmdV c] W (BoolPost (validC c) W) := by
  obtain ⟨dp, hdp⟩ : ∃ dp, depB c.p = dp := ⟨_, rfl⟩
  have HD := Lib.hid (fun w => show Calls Tryz.prog 45 #[.string c.p] w (fun e w' => e = .returned (.int .i64 dp) ∧ Below w.heap.size w w') by rw [← hdp]; exact pathDepth_c c.p (by omega) w)
  obtain ⟨b1, h1⟩ : ∃ b, validB c.fk c.fv = b := ⟨_, rfl⟩
  obtain ⟨b2, h2⟩ : ∃ b, validB c.tk c.tv = b := ⟨_, rfl⟩
  obtain ⟨dd, h3⟩ : ∃ b, (!sameFT c) = b := ⟨_, rfl⟩
  have HF := Lib.hid (fun w => show Calls Tryz.prog 43 #[con c.fk c.fv] w (BoolPost b1 w) by rw [← h1]; exact implValid_c _ _ w)
  have HT := Lib.hid (fun w => show Calls Tryz.prog 43 #[con c.tk c.tv] w (BoolPost b2 w) by rw [← h2]; exact implValid_c _ _ w)
  have hne := fun w' => (conNeQ c.fk c.fv c.tk c.tv w').trans (show _ = Result.ok (Value.bool dd) w' by rw [← h3]; rfl)
  have HV := Lib.hid (valid_parts (d := decide (1 ≤ dp)) (by rw [hdp]) h1 h2 h3)
  clear h1 h2 h3 hdp
  obtain ⟨p, fk, fv, tk, tv⟩ := c
  unfold cmdV
  unfold con at HF HT
  simp only at HD HF HT hne hp ⊢
  by_cases hd : 0 < dp
  · have hdd : decide (1 ≤ dp) = true := decide_eq_true (by omega)
    rw [hdd] at HV
    clear hdd
    go_enter Tryz.func40, Tryz.ntmps40
    go_wp2_with fail
    refine (HD.out _).mono ?_
    rintro e W1 ⟨rfl, hb1⟩
    have q1 := box_cell hb1 1
    have q2 := box_cell hb1 2
    have q3 := box_cell hb1 3
    have q4 := box_cell hb1 4
    simp at q1 q2 q3 q4
    have B1 := Lib.hid (below_next (below_box W _) hb1)
    clear hb1
    go_wp2_with fail
    refine (HF.out _).mono ?_
    rintro e W2 ⟨rfl, hb2⟩
    have r1 := cell_kept hb2 q1
    have r2 := cell_kept hb2 q2
    have r3 := cell_kept hb2 q3
    have r4 := cell_kept hb2 q4
    have B2 := Lib.hid (below_next B1.out hb2)
    clear hb2 q1 q2 q3 q4
    cases b1 with
    | false =>
      clear hne
      go_wp2
      go_ret
      exact ⟨ret_bool (by rw [HV.out]; rfl), B2.out⟩
    | true =>
      go_wp2_with fail
      refine (HT.out _).mono ?_
      rintro e W3 ⟨rfl, hb3⟩
      have s1 := cell_kept hb3 r1
      have s2 := cell_kept hb3 r2
      have s3 := cell_kept hb3 r3
      have s4 := cell_kept hb3 r4
      have B3 := Lib.hid (below_next B2.out hb3)
      clear hb3 r1 r2 r3 r4
      cases b2 with
      | false =>
        clear hne
        go_wp2
        go_ret
        exact ⟨ret_bool (by rw [HV.out]; rfl), B3.out⟩
      | true =>
        go_wp2
        go_ret
        exact ⟨ret_bool (by rw [HV.out]; rfl), B3.out⟩
  · have hdd : decide (1 ≤ dp) = false := decide_eq_false (by omega)
    rw [hdd] at HV
    clear hdd hne
    go_enter Tryz.func40, Tryz.ntmps40
    go_wp2_with fail
    refine (HD.out _).mono ?_
    rintro e W1 ⟨rfl, hb1⟩
    have B1 := Lib.hid (below_next (below_box W _) hb1)
    clear hb1
    go_wp2
    go_ret
    exact ⟨ret_bool (by rw [HV.out]; rfl), B1.out⟩

theorem five_atI {W : World} {n : Nat} (hn : n = W.heap.size) (a b c d e : Value) (t : TypeId) : Five (W.alloc (.cells #[a, b, c, d, e] t)) n a b c d e := by subst hn; exact five_new W a b c d e t

theorem undo_is {c : Cmd} {vc : Bool} (h : validC c = vc) : undoC c = if vc = true then ⟨c.p, c.tk, c.tv, c.fk, c.fv⟩ else zeroC := by subst h; rfl

end Go.Proofs.YtmlnakkfjecibaaGreatDoor

/-
  WALKS: impl.entriesOf.
-/
namespace Go.Proofs.YtmlnakkfjecibaaGreatDoor
open Go.RowKit
set_option linter.unusedVariables false

attribute [local go_sem] Oper.semAt_some

/-- What entriesOf tells. -/
def EntriesPost (cs : List Cmd) (W : World) (e : Ending) (w' : World) : Prop :=
  Below W.heap.size W w' ∧ ((validL cs = false ∧ e = .returned (.tuple #[.pointer none, .bool false])) ∨ (validL cs = true ∧ ∃ a, e = .returned (.tuple #[.pointer a, .bool true]) ∧ EntAt W.heap.size w' a cs))

theorem back_map (cs : List Cmd) : ∀ (j : Nat) (h : j ≤ cs.length), (backEC cs j h).map (fun x => x.n) = (cs.take j).reverse
  | 0, _ => rfl
  | j + 1, h => by
    show cs[j] :: (backEC cs j _).map (fun x => x.n) = _
    rw [back_map cs j, List.take_add_one, List.getElem?_eq_getElem (by omega), Option.toList_some, List.reverse_append]
    rfl

theorem back_all (cs : List Cmd) : ((backEC cs cs.length (Nat.le_refl _)).map (fun x => x.n)).reverse = cs := by
  rw [back_map, List.take_length, List.reverse_reverse]

/-- Between two rounds. -/
def EntI (cs : List Cmd) (X : Nat) (pre : List (EltC cs)) (W : World) : Prop :=
  ∃ p, Boxed W X 51 (.pointer none) ∧ Boxed W (X + 1) 4 (.bool false) ∧ Boxed W (X + 1 + 1) 51 (.pointer p) ∧ EntAt (X + 1 + 1 + 1) W p (pre.map (fun x => x.n)).reverse ∧ (∀ x ∈ pre, validC x.n = true) ∧ X + 1 + 1 + 1 < W.heap.size

def EntX (cs : List Cmd) (X : Nat) (c : Code) (pre : List (EltC cs)) (W : World) : Prop :=
  c = .ret ∧ (∃ x ∈ pre, validC x.n = false) ∧ Boxed W X 51 (.pointer none) ∧ Boxed W (X + 1) 4 (.bool false)

theorem box_own {A B : World} {row : Option Nat} {b : Nat} {t : TypeId} {v : Value} (h : Boxed A b t v) (hg : A.grownBy B row) (hr : ∀ r, row = some r → ∃ o : Obj, A.heap[r]? = some o ∧ o.isCells = false) : Boxed B b t v :=
  h.kept hg fun e => by
    obtain ⟨o, ho, hc⟩ := hr _ e.symm
    rw [show A.heap[b]? = _ from h] at ho; cases ho; cases hc

theorem box_keep {W W' : World} {b : Nat} {t : TypeId} {v : Value} (h : Boxed W b t v) (hb : Below W.heap.size W W') : Boxed W' b t v := (hb.block b h.lt).trans h

theorem EntI.own (cs : List Cmd) (X : Nat) : Own (EntI cs X) := by
  rintro pre A B row ⟨p, h1, h2, h3, h4, h5, h6⟩ hg hr
  exact ⟨p, box_own h1 hg hr, box_own h2 hg hr, box_own h3 hg hr, h4.own hg hr, h5, Nat.lt_of_lt_of_le h6 hg.size⟩

theorem EntX.own (cs : List Cmd) (X : Nat) (c : Code) : Own (EntX cs X c) := by
  rintro pre A B row ⟨h1, h2, h3, h4⟩ hg hr
  exact ⟨h1, h2, box_own h3 hg hr, box_own h4 hg hr⟩

/-- The loop's variable lies in a box of its own. -/
def CmBox {cs : List Cmd} (B0 : Nat) (tm : Nat → EltC cs → Array Value) (x : EltC cs) (a' : Act) (W : World) : Prop :=
  ∃ Bx, B0 ≤ Bx ∧ W.heap[Bx]? = some (.cells #[.string x.n.p, .int .i64 x.n.fk, .int .i64 x.n.fv, .int .i64 x.n.tk, .int .i64 x.n.tv] 45 (0, 0)) ∧ a' = { tmps := tm Bx x, defers := [] }

theorem CmBox.own {cs : List Cmd} (B0 : Nat) (tm : Nat → EltC cs → Array Value) (x : EltC cs) (a' : Act) : Own (fun (_ : Unit) W => CmBox B0 tm x a' W) := by
  rintro _ A B row ⟨Bx, h0, h1, h2⟩ hg hr
  refine ⟨Bx, h0, (hg.block Bx (Array.getElem?_eq_some_iff.1 h1).1 fun e => ?_).trans h1, h2⟩
  obtain ⟨o, ho, hc⟩ := hr _ e.symm
  rw [h1] at ho; cases ho; cases hc

theorem keeps_below {W W' : World} (h : Below W.heap.size W W') : KeepsOthers W W' := KeepsOthers.of_grownBy (below_grown h) (fun _ _ e => by cases e)

theorem ent_stop {cs : List Cmd} {B : Nat} {W W1 W2 : World} {pre : List (EltC cs)} {x : EltC cs} (hv : validC x.n = false) (h1 : Boxed W2 W.heap.size 51 (.pointer none)) (h2 : Boxed W2 (W.heap.size + 1) 4 (.bool false))
    (hb1 : Below W.heap.size W W1) (hb2 : Below W1.heap.size W1 W2) :
    KeepsFrom B W1 ((W2.setCell ⟨W.heap.size, 0, none⟩ (.pointer none)).setCell ⟨W.heap.size + 1, 0, none⟩ (.bool false)) ∧
    (EntX cs W.heap.size .ret (pre ++ [x]) ((W2.setCell ⟨W.heap.size, 0, none⟩ (.pointer none)).setCell ⟨W.heap.size + 1, 0, none⟩ (.bool false)) ∧ Below W.heap.size W ((W2.setCell ⟨W.heap.size, 0, none⟩ (.pointer none)).setCell ⟨W.heap.size + 1, 0, none⟩ (.bool false))) :=
  ⟨(((keeps_below hb2).trans (KeepsOthers.setCell _ _ _)).trans (KeepsOthers.setCell _ _ _)).from _,
    ⟨rfl, ⟨x, by simp, hv⟩, (h1.set _).other (by omega) _, (h2.other (by omega) _).set _⟩, below_setCell (below_setCell (below_next hb1 hb2) _ _ (Nat.le_refl _)) _ _ (Nat.le_succ _)⟩

theorem size_set (W : World) (a : Addr) (v : Value) : (W.setCell a v).heap.size = W.heap.size := by simp [World.setCell]

theorem ent_round {cs : List Cmd} {B : Nat} {W W1 W2 : World} {pre : List (EltC cs)} {x : EltC cs} {p : Option Addr} (hv : validC x.n = true) (h1 : Boxed W1 W.heap.size 51 (.pointer none)) (h2 : Boxed W1 (W.heap.size + 1) 4 (.bool false))
    (h3 : Boxed W1 (W.heap.size + 1 + 1) 51 (.pointer p)) (h4 : EntAt (W.heap.size + 1 + 1 + 1) W1 p (pre.map (fun x => x.n)).reverse) (h5 : ∀ x ∈ pre, validC x.n = true) (hlt : W.heap.size + 1 + 1 + 1 < W1.heap.size)
    (hb1 : Below W.heap.size W W1) (hb2 : Below W1.heap.size W1 W2) :
    KeepsFrom B W1 ((W2.setCell ⟨W.heap.size + 1 + 1, 0, none⟩ (.pointer (some ⟨W2.heap.size, 0, none⟩))).alloc (.cells (entC x.n p) 59)) ∧
    BackKC W.heap.size (W.heap.size + 1 + 1 + 1) W1 ((W2.setCell ⟨W.heap.size + 1 + 1, 0, none⟩ (.pointer (some ⟨W2.heap.size, 0, none⟩))).alloc (.cells (entC x.n p) 59)) ∧
    (EntI cs W.heap.size (pre ++ [x]) ((W2.setCell ⟨W.heap.size + 1 + 1, 0, none⟩ (.pointer (some ⟨W2.heap.size, 0, none⟩))).alloc (.cells (entC x.n p) 59)) ∧ Below W.heap.size W ((W2.setCell ⟨W.heap.size + 1 + 1, 0, none⟩ (.pointer (some ⟨W2.heap.size, 0, none⟩))).alloc (.cells (entC x.n p) 59))) := by
  have hs2 : W1.heap.size ≤ W2.heap.size := hb2.size
  have g1 := box_keep h1 hb2
  have g2 := box_keep h2 hb2
  have g3 := box_keep h3 hb2
  have hbl : Below W.heap.size W1 ((W2.setCell ⟨W.heap.size + 1 + 1, 0, none⟩ (.pointer (some ⟨W2.heap.size, 0, none⟩))).alloc (.cells (entC x.n p) 59)) :=
    (below_setCell (hb2.mono hb1.size) ⟨W.heap.size + 1 + 1, 0, none⟩ (.pointer (some ⟨W2.heap.size, 0, none⟩)) (by show W.heap.size ≤ W.heap.size + 1 + 1; omega)).alloc (by rw [size_set]; have := hb1.size; omega) _
  refine ⟨(((keeps_below hb2).trans (KeepsOthers.setCell _ _ _)).trans (KeepsOthers.alloc _ _)).from _, ⟨hbl, ?_⟩, ⟨some ⟨W2.heap.size, 0, none⟩, (g1.other (by omega) _).alloc _, (g2.other (by omega) _).alloc _, (g3.set _).alloc _, ?_, ?_, by rw [World.size_alloc, size_set]; omega⟩, hb1.trans hbl⟩
  · rw [Below.heap_alloc _ _ _ (by rw [size_set]; omega), Below.heap_setCell _ _ _ _ (by show W.heap.size + 1 + 1 + 1 ≠ W.heap.size + 1 + 1; omega)]
    exact hb2.block _ hlt
  · have := ((h4.keep hb2).set (p := ⟨W.heap.size + 1 + 1, 0, none⟩) (by show W.heap.size + 1 + 1 < _; omega) (.pointer (some ⟨W2.heap.size, 0, none⟩))).push (by rw [size_set]; omega) x.n
    rw [size_set] at this
    simpa using this
  · intro y hy
    rcases List.mem_append.1 hy with hy | hy
    · exact h5 y hy
    · rw [List.mem_singleton.1 hy]; exact hv

set_option maxHeartbeats 1000000 in
set_option maxRecDepth 100000 in
theorem entriesOf_long (a : Option Addr) (len cap : Nat) (cs : List Cmd) (hl : 20 < len) (W : World) (hN : CmdsAt W a len cs) :
    Calls Tryz.prog 19 #[.slice a len cap] W (EntriesPost cs W) := by
  have hv := Lib.hid (show validL cs = false by
    rw [Bool.eq_false_iff]
    intro h
    have := ((validL_iff cs).1 h).2
    have := hN.1
    omega)
  have hl' : (20 : Int) < len := by omega
  clear hN hl
  go_enter Tryz.func19, Tryz.ntmps19
  go_wp2
  refine bodyPost_ret (v := .tuple #[.pointer none, .bool false]) (by simp [results, Tryz.f19, go_sem]) rfl ⟨?_, .inl ⟨hv.out, rfl⟩⟩
  exact ((Below.refl _ _).alloc (Nat.le_refl _) _).alloc (by simp) _

set_option maxHeartbeats 2000000 in
set_option maxRecDepth 100000 in
theorem entriesOf_in (a : Option Addr) (len cap : Nat) (cs : List Cmd) (hl : len ≤ 20) (hs : ShortC 2097152 cs) (W : World) (hN : CmdsAt W a len cs) :
    CallsIn Fence.wide 6 Tryz.prog 19 #[.slice a len cap] W (EntriesPost cs W) := by
  have HN := Lib.hid hN
  have HE := Lib.hid hN.1
  have HS := Lib.hid hs
  have HL := Lib.hid hl
  have hl' : (len : Int) ≤ 20 := by omega
  clear hN hs hl
  refine callsIn_of_wp_marks Tryz.func19 rfl trivial ?_ rfl
  simp only [Tryz.ntmps19, List.size_toArray, List.length_cons, List.length_nil, Nat.reduceAdd, Nat.reduceSub, Array.replicate_succ, Array.replicate_zero, List.push_toArray, List.append_toArray, List.nil_append, List.cons_append]
  gi_wp2_with (refine ⟨trivial, ?_⟩; gi_at_call 39; refine (backwardC_in _ _ _ _ _).mono ?_; rintro e w' ⟨rfl, rfl⟩)
  have hlow := cmds_lt HN.out
  have hB0 : Below W.heap.size W ((((W.alloc (.cells #[.pointer none] 51)).alloc (.cells #[.bool false] 4)).alloc (.cells #[.pointer none] 51)).alloc (.cells #[.slice a len cap] 24)) :=
    ((((Below.refl _ W).alloc (Nat.le_refl _) _).alloc (by simp) _).alloc (by simp; omega) _).alloc (by simp; omega) _
  have hI0 : EntI cs W.heap.size [] ((((W.alloc (.cells #[.pointer none] 51)).alloc (.cells #[.bool false] 4)).alloc (.cells #[.pointer none] 51)).alloc (.cells #[.slice a len cap] 24)) := by
    have b0 := Boxed.new W 51 (.pointer none)
    have b1 := Boxed.new (W.alloc (.cells #[.pointer none] 51)) 4 (.bool false)
    have b2 := Boxed.new ((W.alloc (.cells #[.pointer none] 51)).alloc (.cells #[.bool false] 4)) 51 (.pointer none)
    simp only [World.size_alloc] at b1 b2
    exact ⟨none, ((b0.alloc _).alloc _).alloc _, (b1.alloc _).alloc _, b2.alloc _, rfl, fun x hx => (by cases hx), by simp⟩
  have hsz : ((((W.alloc (.cells #[.pointer none] 51)).alloc (.cells #[.bool false] 4)).alloc (.cells #[.pointer none] 51)).alloc (.cells #[.slice a len cap] 24)).heap.size = W.heap.size + 1 + 1 + 1 + 1 := by simp
  have hbk : ((((W.alloc (.cells #[.pointer none] 51)).alloc (.cells #[.bool false] 4)).alloc (.cells #[.pointer none] 51)).alloc (.cells #[.slice a len cap] 24)).cell? ⟨W.heap.size + 1 + 1 + 1, 0, none⟩ = some (.slice a len cap) := by
    have := (Boxed.new (((W.alloc (.cells #[.pointer none] 51)).alloc (.cells #[.bool false] 4)).alloc (.cells #[.pointer none] 51)) 24 (.slice a len cap)).cell
    simpa only [World.size_alloc] using this
  generalize ((((W.alloc (.cells #[.pointer none] 51)).alloc (.cells #[.bool false] 4)).alloc (.cells #[.pointer none] 51)).alloc (.cells #[.slice a len cap] 24)) = Wl at hB0 hI0 hsz hbk ⊢
  have HSZ := Lib.hid hsz
  refine wpIn_rangeFunc_ownH rfl (by omega) (gf := 66) (lb := #[.pointer (some ⟨W.heap.size + 1 + 1 + 1, 0, none⟩)]) rfl trivial (enters_of Tryz.func66 (by kernel_rfl) rfl)
    (backwardC_stops _ (by omega) (W.heap.size + 1 + 1 + 1) W.heap.size a len cap cs (by have := HL.out; omega) hlow Wl hB0.size (by rw [hsz]; omega) hbk (HN.out.keep hB0))
    (fun h k => ⟨h.1.trans k.1, k.2.trans h.2⟩)
    (fun W' l o o' hl _ _ _ => by
      rw [HSZ.out] at hl
      exact ⟨⟨rfl, rfl, rfl, by simp, fun k hk => World.putObj_heap_other (by omega)⟩, World.putObj_heap_other (by omega)⟩)
    (Below.refl _ _) (fun _ => rfl)
    (fun pre W' => EntI cs W.heap.size pre W' ∧ Below W.heap.size W W') (fun c pre W' => EntX cs W.heap.size c pre W' ∧ Below W.heap.size W W')
    (OwnFrom.and (Own.from (EntI.own cs W.heap.size) _) (ownFrom_below (Nat.le_refl _) hB0.size)) (fun c => OwnFrom.and (Own.from (EntX.own cs W.heap.size c) _) (ownFrom_below (Nat.le_refl _) hB0.size))
    ⟨hI0, hB0⟩
    (CmBox Wl.heap.size (fun Bx x => #[.slice a len cap, undef, .pointer (some ⟨W.heap.size, 0, none⟩), .pointer (some ⟨W.heap.size + 1, 0, none⟩), .pointer (some ⟨W.heap.size + 1 + 1, 0, none⟩), undef, .pointer (some ⟨Bx, 0, none⟩), .slice a len cap, .int .i64 len, .bool (decide ((20 : Int) < len)), .slice a len cap, .func (.func 66) #[] #[.pointer (some ⟨W.heap.size + 1 + 1 + 1, 0, none⟩)], .int .i64 x.i, cmdV x.n, undef, undef, undef, undef, undef, undef, undef, undef]))
    (fun x a' => Own.from (CmBox.own _ _ x a') _)
    ?assign ?body ?done ?stop
  case assign =>
    rintro l pre x W1 K ⟨hi1, hb1⟩ hK
    unfold cmdV
    gi_wp2
    obtain ⟨_, _, _, hb3, _, _, hle⟩ := id hi1
    exact hK _ _ ((KeepsOthers.alloc _ _).from _) ⟨(Below.refl _ _).alloc hb1.size _, Below.heap_alloc _ _ _ hle⟩ ⟨(EntI.own cs W.heap.size).alloc _ hi1, hb1.alloc hb1.size _⟩ ⟨W1.heap.size, by rw [HSZ.out]; exact hle, World.alloc_heap_new W1 _, rfl⟩
  case body =>
    rintro l pre x a' W1 hl ⟨r, hr⟩ ⟨hi1, hb1⟩ ⟨Bx, hBx, hbx, rfl⟩ hlt
    obtain ⟨p, g1, g2, g3, g4, g5, g6⟩ := hi1
    obtain ⟨i, c, hat⟩ := x
    obtain ⟨x, hx⟩ : ∃ x : EltC cs, x = ⟨i, c, hat⟩ := ⟨_, rfl⟩
    rw [← hx]
    have HX := Lib.hid (show x.i = i ∧ x.n = c by rw [hx]; exact ⟨rfl, rfl⟩)
    simp only at hbx
    dsimp only
    obtain ⟨vc, hvc⟩ : ∃ vc, validC c = vc := ⟨_, rfl⟩
    have HC := Lib.hid (fun W' => show Calls Tryz.prog 40 #[cmdV c] W' (BoolPost vc W') by rw [← hvc]; exact implCmdValid_c c (HS.out.at hat) W')
    have HVC := Lib.hid hvc
    have HBX := Lib.hid (And.intro hBx (Array.getElem?_eq_some_iff.1 hbx).1)
    have HG1 := Lib.hid g1
    have HG2 := Lib.hid g2
    have HG3 := Lib.hid g3
    have HG4 := Lib.hid g4
    have HG5 := Lib.hid g5
    have HB1 := Lib.hid hb1
    obtain ⟨hxi, hxn⟩ := HX.out
    simp only [hxi, hxn]
    obtain ⟨q, fk, fv, tk, tv⟩ := c
    have c0 : W1.cell? ⟨Bx, 0, none⟩ = some (.string q) := by simp [World.cell?, hbx]
    have c1 : W1.cell? ⟨Bx, 1, none⟩ = some (.int .i64 fk) := by simp [World.cell?, hbx]
    have c2 : W1.cell? ⟨Bx, 2, none⟩ = some (.int .i64 fv) := by simp [World.cell?, hbx]
    have c3 : W1.cell? ⟨Bx, 3, none⟩ = some (.int .i64 tk) := by simp [World.cell?, hbx]
    have c4 : W1.cell? ⟨Bx, 4, none⟩ = some (.int .i64 tv) := by simp [World.cell?, hbx]
    unfold cmdV at HC ⊢
    simp only at HC ⊢
    clear hx hbx hr g1 g2 g3 g4 g5 g6 hat hvc hb1 hlt hl hBx hbk hB0 hI0 hlow hxi hxn
    cases vc with
    | false =>
      gi_wp2_with (refine ⟨trivial, ?_⟩; gi_at_call 40; refine (CallsIn.inRound l (callsIn_wide.2 (HC.out _))).mono ?_; rintro e W2 ⟨rfl, hb2⟩; have G1 := box_keep HG1.out hb2; have G2 := box_keep HG2.out hb2; have s1 := G1.cell; have y1 := G1.frozen; have s2 := G2.cell; have y2 := G2.frozen; have HB2 := Lib.hid hb2; have HH1 := Lib.hid G1; have HH2 := Lib.hid G2; clear hb2 G1 G2)
      exact ent_stop (x := x) (by rw [HX.out.2]; exact HVC.out) HH1.out HH2.out HB1.out HB2.out
    | true =>
      gi_wp2_with (refine ⟨trivial, ?_⟩; gi_at_call 40; refine (CallsIn.inRound l (callsIn_wide.2 (HC.out _))).mono ?_; rintro e W2 ⟨rfl, hb2⟩; have G3 := box_keep HG3.out hb2; have s3 := G3.cell; have y3 := G3.frozen; have k0 := cell_kept hb2 c0; have k1 := cell_kept hb2 c1; have k2 := cell_kept hb2 c2; have k3 := cell_kept hb2 c3; have k4 := cell_kept hb2 c4; have z3 := G3.lt; have HB2 := Lib.hid hb2; have HH3 := Lib.hid G3; clear hb2 G3)
      have := ent_round (B := Wl.heap.size) (x := x) (by rw [HX.out.2]; exact HVC.out) HG1.out HG2.out HG3.out HG4.out HG5.out (by have h1 := HBX.out.1; have h2 := HBX.out.2; rw [HSZ.out] at h1; omega) HB1.out HB2.out
      rw [HX.out.2] at this
      exact this
  case done =>
    rintro D ys W' hD rfl ⟨⟨p, h1, h2, h3, h4, h5, h6⟩, hb⟩ hK
    have s1 := h1.cell
    have y1 := h1.frozen
    have s2 := h2.cell
    have y2 := h2.frozen
    have s3 := h3.cell
    have HV := Lib.hid (show validL cs = true by
      refine (validL_iff cs).2 ⟨fun c hc => ?_, by have := HE.out; have := HL.out; omega⟩
      have hm : c ∈ ((backEC cs cs.length (Nat.le_refl _)).map (fun x => x.n)).reverse := by rw [back_all]; exact hc
      obtain ⟨x, hx, rfl⟩ := List.mem_map.1 (List.mem_reverse.1 hm)
      exact h5 x hx)
    rw [back_all] at h4
    have H1 := Lib.hid h1
    have H2 := Lib.hid h2
    have H4 := Lib.hid h4
    have HB := Lib.hid hb
    clear h1 h2 h3 h4 h5 h6 hb hbk hB0 hI0 hlow
    gi_wp2
    have hK' := ((KeepsOthers.setCell W' ⟨W.heap.size, 0, none⟩ (.pointer p)).trans (KeepsOthers.setCell _ ⟨W.heap.size + 1, 0, none⟩ (.bool true))).same D _ hK rfl
    refine ⟨by simp, .inl ⟨_, _, rfl, run_takeDeferred hK', ?_⟩⟩
    have hD' : W.heap.size ≤ D := by rw [HSZ.out] at hD; omega
    have hx5 := _root_.Go.cell_kept ((H1.out.set (.pointer p)).other (B' := W.heap.size + 1) (by omega) (.bool true)).cell (grownBy_putObj' _ D (.deferred none)) (fun r e => by cases e; exact ⟨_, hK', rfl⟩)
    have hx6 := _root_.Go.cell_kept ((H2.out.other (B' := W.heap.size) (by omega) (.pointer p)).set (.bool true)).cell (grownBy_putObj' _ D (.deferred none)) (fun r e => by cases e; exact ⟨_, hK', rfl⟩)
    have hen := (((H4.out.set (p := ⟨W.heap.size, 0, none⟩) (by show W.heap.size < _; omega) (.pointer p)).set (p := ⟨W.heap.size + 1, 0, none⟩) (by show W.heap.size + 1 < _; omega) (.bool true)).own (grownBy_putObj' _ D (.deferred none)) (fun r e => by cases e; exact ⟨_, hK', rfl⟩)).low (C := W.heap.size) (by omega)
    refine ⟨.tuple #[.pointer p, .bool true], by simp [results, Tryz.f19, go_sem, hx5, hx6], ?_, .inr ⟨HV.out, p, rfl, hen⟩⟩
    exact (below_setCell (below_setCell HB.out _ _ (Nat.le_refl _)) _ _ (Nat.le_succ _)).trans ⟨rfl, rfl, rfl, by simp, fun k hk => World.putObj_heap_other (by omega)⟩
  case stop =>
    rintro D c pre W' hD hpre ⟨⟨rfl, ⟨x, hx, hvx⟩, q1, q2⟩, hb⟩ hK
    have HV := Lib.hid (validL_one x.at_ hvx)
    have hD' : W.heap.size ≤ D := by rw [HSZ.out] at hD; omega
    gi_wp2
    refine ⟨by simp, .inl ⟨_, _, rfl, run_takeDeferred hK, ?_⟩⟩
    have hx5 := _root_.Go.cell_kept q1.cell (grownBy_putObj' _ D (.deferred none)) (fun r e => by cases e; exact ⟨_, hK, rfl⟩)
    have hx6 := _root_.Go.cell_kept q2.cell (grownBy_putObj' _ D (.deferred none)) (fun r e => by cases e; exact ⟨_, hK, rfl⟩)
    refine ⟨.tuple #[.pointer none, .bool false], by simp [results, Tryz.f19, go_sem, hx5, hx6], ?_, .inl ⟨HV.out, rfl⟩⟩
    exact hb.trans ⟨rfl, rfl, rfl, by simp, fun k hk => World.putObj_heap_other (by omega)⟩

/-- impl.entriesOf, at every list. -/
theorem entriesOf_c (a : Option Addr) (len cap : Nat) (cs : List Cmd) (hs : ShortC 2097152 cs) (W : World) (hN : CmdsAt W a len cs) :
    Calls Tryz.prog 19 #[.slice a len cap] W (EntriesPost cs W) := by
  by_cases hl : len ≤ 20
  · exact callsIn_wide.1 (entriesOf_in a len cap cs hl hs W hN)
  · exact entriesOf_long a len cap cs (by omega) W hN

end Go.Proofs.YtmlnakkfjecibaaGreatDoor

/-
  WALKS: impl.entry's undone and commands.
-/
namespace Go.Proofs.YtmlnakkfjecibaaGreatDoor
open Go.RowKit
set_option linter.unusedVariables false

def UndoneRel (B : Nat) (cs : List Cmd) (W : World) (e f : Value) (wr : World) : Prop :=
  ∃ (n : Nat) (x y : Option Addr), e = .pointer x ∧ f = .pointer y ∧ n ≤ cs.length ∧ Hid (EntAt B wr x (cs.drop n)) ∧ Hid (EntAt W.heap.size wr y ((cs.take n).reverse.map undoC)) ∧ Hid (Below W.heap.size W wr)

theorem undone_step {cs : List Cmd} {n : Nat} {c : Cmd} (hc : cs[n]? = some c) : (cs.take (n + 1)).reverse.map undoC = undoC c :: (cs.take n).reverse.map undoC := by
  rw [List.take_add_one, hc]
  simp

def CommandsRel (B : Nat) (cs : List Cmd) (W : World) (e l : Value) (wr : World) : Prop :=
  ∃ (n : Nat) (x : Option Addr), e = .pointer x ∧ n ≤ cs.length ∧ Hid (EntAt B W x (cs.drop n)) ∧ wr.ownsRow W.heap.size 45 5 l (cs.take n).length (flatC (cs.take n)) ∧ Hid (Below W.heap.size W wr)

end Go.Proofs.YtmlnakkfjecibaaGreatDoor
