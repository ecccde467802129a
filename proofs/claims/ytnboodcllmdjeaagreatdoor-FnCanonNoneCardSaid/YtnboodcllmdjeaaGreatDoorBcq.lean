/-
  WALKS: slices.Backward over a list of commands.
-/
import Derived.RangeFuncNested
import Derived.RangeFuncBound
import Derived.RangeFuncCalls
import Derived.RangeFuncLeaves
import Derived.OwnWalkIn
import Derived.TacticsInMore
import Derived.LoopNIn
import Derived.LoopIn
import Derived.Lib.HexFns2
import Derived.Test.YtnboodcllmdjeaaGreatDoorQ3
namespace Go.Proofs.YtnboodcllmdjeaaGreatDoor
open Go.RowKit
set_option linter.unusedVariables false

attribute [local go_sem] Oper.semAt_some

/-- A command of a list, with its place. -/
structure EltC (ns : List Cmd) where
  i : Nat
  n : Cmd
  at_ : ns[i]? = some n

/-- The commands ahead of a place, the last one first. -/
def backEC (ns : List Cmd) : (j : Nat) → j ≤ ns.length → List (EltC ns)
  | 0, _ => []
  | j + 1, h => ⟨j, ns[j], by simp⟩ :: backEC ns j (by omega)

theorem backEC_length (ns : List Cmd) : ∀ (j : Nat) (h : j ≤ ns.length), (backEC ns j h).length = j
  | 0, _ => rfl
  | j + 1, h => by show (backEC ns j _).length + 1 = _; rw [backEC_length ns j]

set_option maxRecDepth 100000 in
set_option maxHeartbeats 2000000 in
/-- The closure's walk, for whatever loop body. -/
theorem back1C_in (n : Nat) (hn : 1 ≤ n) (l Bn : Nat) (a : Option Addr) (len cap : Nat) (ns : List Cmd) (hl : len ≤ 2097152) (Kp : World → World → Prop)
    (hKc : ∀ W W', Kp W W' → W.cell? ⟨Bn, 0, none⟩ = some (.slice a len cap) → W'.cell? ⟨Bn, 0, none⟩ = some (.slice a len cap)) (hKn : ∀ W W', Kp W W' → CmdsAt W a len ns → CmdsAt W' a len ns)
    (J Jx : List (EltC ns) → World → Prop)
    (hY : ∀ pre x W, J pre W → pre.length < ns.length → YieldAt Fence.wide (n - 1) Tryz.prog l #[.int .i64 x.i, cmdV x.n] W fun e W' =>
      (e = .returned (.bool true) ∧ J (pre ++ [x]) W' ∧ Kp W W') ∨ (e = .returned (.bool false) ∧ Jx (pre ++ [x]) W'))
    (W : World) (hBn : W.cell? ⟨Bn, 0, none⟩ = some (.slice a len cap)) (hN : CmdsAt W a len ns) (h0 : J [] W) :
    CallsIn Fence.wide n Tryz.prog 78 #[.func (.yield l) #[] #[], .pointer (some ⟨Bn, 0, none⟩)] W fun e W' => (∃ v, e = .returned v) ∧
      ((∃ ys, ys = backEC ns ns.length (Nat.le_refl _) ∧ J ys W') ∨ (∃ pre, pre <+: backEC ns ns.length (Nat.le_refl _) ∧ Jx pre W')) := by
  have hlen := hN.1
  have HN := Lib.hid hN
  have HLE := Lib.hid hlen
  have hl' : (len : Int) ≤ 2097152 := by omega
  have HKC := Lib.hid hKc
  have HKN := Lib.hid hKn
  have HY := Lib.hid hY
  clear hN hlen hKc hKn hY
  refine callsIn_of_wp Tryz.func78 rfl trivial ?_ rfl
  simp only [Tryz.ntmps78, List.size_toArray, List.length_cons, List.length_nil, Nat.reduceAdd, Nat.reduceSub, Array.replicate_succ, Array.replicate_zero, List.push_toArray, List.append_toArray, List.nil_append, List.cons_append]
  gi_wp2
  gi_loopw [3] (fun i wr => ∃ (pre : List (EltC ns)) (j : Nat) (hj : j ≤ ns.length), i = .int .i64 ((j : Int) - 1) ∧ Hid (backEC ns ns.length (Nat.le_refl _) = pre ++ backEC ns j hj) ∧ J pre wr ∧ wr.cell? ⟨Bn, 0, none⟩ = some (.slice a len cap) ∧ Hid (CmdsAt wr a len ns))
    (fun i _ => (intOf i + 1).toNat)
  case atStart =>
    exact ⟨[], ns.length, Nat.le_refl _, by rw [HLE.out], rfl, h0, hBn, HN.out⟩
  case round =>
    obtain ⟨pre, j, hj, rfl, HX, hJs, hc, HNr⟩ := hrel
    cases j with
    | zero =>
      gi_wp2
      go_end0
      exact ⟨⟨_, rfl⟩, .inl ⟨pre, by have := HX.out; simpa [backEC] using this.symm, hJs⟩⟩
    | succ j =>
      obtain ⟨b, off, nd, hab, hnd, c0, c1, c2, c3, c4⟩ := HNr.out.node (i := j) (by have := HLE.out; omega)
      have hlt : pre.length < ns.length := by
        have := congrArg List.length HX.out
        rw [List.length_append, backEC_length, backEC_length] at this
        omega
      obtain ⟨x, hxi, hxn⟩ : ∃ x : EltC ns, x.i = j ∧ x.n = nd := ⟨⟨j, nd, hnd⟩, rfl, rfl⟩
      have HX2 := Lib.hid (show backEC ns ns.length (Nat.le_refl _) = pre ++ [x] ++ backEC ns j (Nat.le_of_succ_le hj) by
        rw [HX.out, List.append_assoc]
        show pre ++ (⟨j, ns[j], _⟩ :: backEC ns j _) = pre ++ (x :: backEC ns j _)
        have e : ns[j] = nd := by have := List.getElem?_eq_some_iff.1 hnd; exact this.2
        obtain ⟨xi, xn, xa⟩ := x
        simp only at hxi hxn
        subst hxi; subst hxn
        congr 2
        congr 1)
      obtain ⟨fn, tmps, assign, body, hy, hR⟩ := HY.out pre x wr hJs hlt
      rw [hxi, hxn] at hy
      dsimp only [cmdV] at hy
      have hjl : (j : Int) < len := by have := HLE.out; omega
      have hjl2 : j < len := by have := HLE.out; omega
      subst hab
      have HJ := Lib.hid hj
      have HC := Lib.hid hc
      clear hnd hlt hxi hxn
      gi_wp2
      refine hR.mono ?_
      rintro e W3 (⟨rfl, hJ3, hk3⟩ | ⟨rfl, hJx3⟩)
      · have c3 := HKC.out _ _ hk3 HC.out
        have N3 := Lib.hid (HKN.out _ _ hk3 HNr.out)
        gi_wp2
        go_roundw
        case rel => exact ⟨pre ++ [x], j, by have := HJ.out; omega, by simp, HX2.out, hJ3, c3, N3.out⟩
        case measure => simp [intOf]
      · gi_wp2
        refine bodyPost_ret (results_none rfl _ _ _) rfl ?_
        exact ⟨⟨_, rfl⟩, .inr ⟨pre ++ [x], by rw [HX2.out]; exact List.prefix_append _ _, hJx3⟩⟩

set_option maxHeartbeats 1000000 in
set_option maxRecDepth 100000 in
/-- slices.Backward: the slice is boxed; the function value captures the box. -/
theorem backwardC_in (n : Nat) (a : Option Addr) (len cap : Nat) (w : World) :
    CallsIn Fence.wide n Tryz.prog 50 #[.slice a len cap] w fun e w' => e = .returned (.func (.func 78) #[] #[.pointer (some ⟨w.heap.size, 0, none⟩)]) ∧ w' = w.alloc (.cells #[.slice a len cap] 24) := by
  refine callsIn_of_wp Tryz.func50 rfl trivial ?_ rfl
  simp only [Tryz.ntmps50, List.size_toArray, List.length_cons, List.length_nil, Nat.reduceAdd, Nat.reduceSub, Array.replicate_succ, Array.replicate_zero, List.push_toArray, List.append_toArray, List.nil_append, List.cons_append]
  gi_wp2
  go_ret
  exact ⟨rfl, rfl⟩

/-- What a round keeps: what lay below, and the box of the list. -/
def BackKC (n₀ Bn : Nat) (W W' : World) : Prop := Below n₀ W W' ∧ W'.heap[Bn]? = W.heap[Bn]?

theorem cmds_below {n₀ : Nat} {W W' : World} {a : Option Addr} {len : Nat} {ns : List Cmd} (h : CmdsAt W a len ns) (hl : ∀ b off, a = some ⟨b, off, none⟩ → len ≠ 0 → b < n₀) (hb : Below n₀ W W') : CmdsAt W' a len ns := by
  obtain ⟨h1, h0 | ⟨b, off, ha, hc⟩⟩ := h
  · exact ⟨h1, .inl h0⟩
  · by_cases h0 : len = 0
    · exact ⟨h1, .inl h0⟩
    · have hbn := hl b off ha h0
      exact ⟨h1, .inr ⟨b, off, ha, fun i n hn => ⟨(hb.cell (p := ⟨b, _, none⟩) hbn).trans (hc i n hn).1, (hb.cell (p := ⟨b, _, none⟩) hbn).trans (hc i n hn).2.1, (hb.cell (p := ⟨b, _, none⟩) hbn).trans (hc i n hn).2.2.1, (hb.cell (p := ⟨b, _, none⟩) hbn).trans (hc i n hn).2.2.2.1, (hb.cell (p := ⟨b, _, none⟩) hbn).trans (hc i n hn).2.2.2.2⟩⟩⟩

theorem cmds_lt {W : World} {a : Option Addr} {len : Nat} {ns : List Cmd} (h : CmdsAt W a len ns) : ∀ b off, a = some ⟨b, off, none⟩ → len ≠ 0 → b < W.heap.size := by
  intro b off ha h0
  obtain ⟨b', off', n, ha', _, hc, _⟩ := h.node (i := 0) (by omega)
  rw [ha] at ha'
  cases ha'
  exact World.block_lt_of_cell? W _ hc

theorem backwardC_stops (n : Nat) (hn : 1 ≤ n) (Bn n₀ : Nat) (a : Option Addr) (len cap : Nat) (ns : List Cmd) (hl : len ≤ 2097152) (hlow : ∀ b off, a = some ⟨b, off, none⟩ → len ≠ 0 → b < n₀) (w : World) (hn₀ : n₀ ≤ w.heap.size) (hBn : Bn < w.heap.size)
    (hc : w.cell? ⟨Bn, 0, none⟩ = some (.slice a len cap)) (hN : CmdsAt w a len ns) :
    SeqStopsK Fence.wide n Tryz.prog 78 #[.pointer (some ⟨Bn, 0, none⟩)] (fun x : EltC ns => #[Value.int .i64 x.i, cmdV x.n]) (BackKC n₀ Bn) (fun ys => ys = backEC ns ns.length (Nat.le_refl _)) (fun pre => pre <+: backEC ns ns.length (Nat.le_refl _)) ns.length w := fun l J Jx W hW hJ _ hY h0 =>
  back1C_in n hn l Bn a len cap ns hl (BackKC n₀ Bn) (fun W W' hk h => (World.cell?_of_block (a := ⟨Bn, 0, none⟩) hk.2).trans h) (fun W W' hk h => cmds_below h hlow hk.1) J Jx hY W
    ((hW.cell (p := ⟨Bn, 0, none⟩) hBn).trans hc) (cmds_below hN hlow (hW.mono hn₀)) h0

end Go.Proofs.YtnboodcllmdjeaaGreatDoor
