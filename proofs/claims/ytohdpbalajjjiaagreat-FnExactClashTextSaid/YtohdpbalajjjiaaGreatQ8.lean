/-
  Texts of this proof, one behind the other: Ho, Ap, Bc, Et, Iw, Eo, Mq, Hc, Hd, He, Hf.
-/
import Derived.OwnWalk
import Derived.Laws.OwnMore
import Derived.RangeFuncNested
import Derived.RangeFuncBound
import Derived.RangeFuncCalls
import Derived.RangeFuncLeaves
import Derived.OwnWalkIn
import Derived.TacticsInMore
import Derived.LoopNIn
import Derived.LoopIn
import Derived.Lib.HexFns2
import Derived.RangeFuncBox
import Derived.RangeFuncFrom
import Derived.Laws.Cover1
import Derived.StillTailTactics
import Derived.Deep.RegionHeld3
import Derived.Deep.Cut
import Derived.Deep.RegionLaw
import Derived.WalkSmall
import Derived.Deep.QuietTactic
import Derived.Test.YtohdpbalajjjiaaGreatQ11
import Derived.Test.YtohdpbalajjjiaaGreatHa
import Derived.Test.YtohdpbalajjjiaaGreatRk
import Derived.Test.YtohdpbalajjjiaaGreatQ1
import Derived.Test.YtohdpbalajjjiaaGreatQ6
import Derived.Test.YtohdpbalajjjiaaGreatCkq
import Derived.Test.YtohdpbalajjjiaaGreatPd
import Derived.Test.YtohdpbalajjjiaaGreatQ3
import Derived.Test.YtohdpbalajjjiaaGreatQ7
import Derived.Test.YtohdpbalajjjiaaGreatHb
/-
  LISTS OF COMMANDS of the call's own: a whole command written; two exchanged; the last one left out.
-/
namespace Go.Proofs.YtohdpbalajjjiaaGreat
open Go.RowKit
set_option linter.unusedVariables false

theorem flatC_set5 : ∀ (cs : List Cmd) (i : Nat) (c : Cmd), i < cs.length → (((((flatC cs).set (i * 5) (.string c.p)).set (i * 5 + 1) (.int .i64 c.fk)).set (i * 5 + 2) (.int .i64 c.fv)).set (i * 5 + 3) (.int .i64 c.tk)).set (i * 5 + 4) (.int .i64 c.tv) = flatC (cs.set i c)
  | [], i, c, h => by simp at h
  | m :: r, 0, c, h => rfl
  | m :: r, i + 1, c, h => by
    have ih := flatC_set5 r i c (by simpa using h)
    have e : ∀ (x : Cmd) (t : List Cmd), flatC (x :: t) = .string x.p :: .int .i64 x.fk :: .int .i64 x.fv :: .int .i64 x.tk :: .int .i64 x.tv :: flatC t := fun _ _ => rfl
    rw [List.set_cons_succ, e m r, e m (r.set i c), ← ih, show (i + 1) * 5 = i * 5 + 5 by omega, show i * 5 + 5 + 1 = (i * 5 + 1) + 5 by omega, show i * 5 + 5 + 2 = (i * 5 + 2) + 5 by omega, show i * 5 + 5 + 3 = (i * 5 + 3) + 5 by omega, show i * 5 + 5 + 4 = (i * 5 + 4) + 5 by omega]
    rfl

/-- Five cells written, from a place on. -/
def set5 (W : World) (g o : Nat) (c : Cmd) : World :=
  ((((W.setCell ⟨g, o, none⟩ (.string c.p)).setCell ⟨g, o + 1, none⟩ (.int .i64 c.fk)).setCell ⟨g, o + 2, none⟩ (.int .i64 c.fv)).setCell ⟨g, o + 3, none⟩ (.int .i64 c.tk)).setCell ⟨g, o + 4, none⟩ (.int .i64 c.tv)

theorem own_set5 {W : World} {base : Nat} {e : TypeId} {g n cap : Nat} {cs : List Cmd} {i : Nat} (h : W.ownsRow base e 5 (.slice (some ⟨g, 0, none⟩) n cap) n (flatC cs)) (hi : i < cs.length) (c : Cmd) :
    (set5 W g (i * 5) c).ownsRow base e 5 (.slice (some ⟨g, 0, none⟩) n cap) n (flatC (cs.set i c)) := by
  have := (((((h.stored (i * 5) (.string c.p)).1.stored (i * 5 + 1) (.int .i64 c.fk)).1.stored (i * 5 + 2) (.int .i64 c.fv)).1.stored (i * 5 + 3) (.int .i64 c.tk)).1.stored (i * 5 + 4) (.int .i64 c.tv)).1
  rw [flatC_set5 cs i c hi] at this
  exact this

theorem grown_set5 (W : World) (g o : Nat) (c : Cmd) : W.grownBy (set5 W g o c) (some g) := by
  unfold set5
  have a : ∀ (X Y : World) (p : Nat) (v : Value), X.grownBy Y (some g) → X.grownBy (Y.setCell ⟨g, p, none⟩ v) (some g) := fun X Y p v h =>
    ⟨h.os, h.tape, h.output, by simpa [World.setCell] using h.size, fun k hk hne => (Below.heap_setCell _ _ _ _ (fun e => hne (by rw [e]))).trans (h.block k hk hne)⟩
  exact a _ _ _ _ (a _ _ _ _ (a _ _ _ _ (a _ _ _ _ (a _ _ _ _ ⟨rfl, rfl, rfl, Nat.le_refl _, fun _ _ _ => rfl⟩))))

/-- Two exchanged. -/
theorem own_swap5 {W : World} {base : Nat} {e : TypeId} {g n cap : Nat} {cs : List Cmd} {i j : Nat} (h : W.ownsRow base e 5 (.slice (some ⟨g, 0, none⟩) n cap) n (flatC cs)) (hi : i < cs.length) (hj : j < cs.length) :
    (set5 (set5 W g (i * 5) (atK cs j)) g (j * 5) (atK cs i)).ownsRow base e 5 (.slice (some ⟨g, 0, none⟩) n cap) n (flatC (swapK cs i j)) :=
  own_set5 (own_set5 h hi (atK cs j)) (by simpa using hj) (atK cs i)

theorem swapK_comm {cs : List Cmd} {i j : Nat} (hi : i < cs.length) (hj : j < cs.length) : swapK cs j i = swapK cs i j := by
  refine List.ext_getElem? (fun k => ?_)
  by_cases hk : k < cs.length
  · rw [atK_get (by rw [swapK_length]; exact hk), atK_get (by rw [swapK_length]; exact hk), atK_swap hj hi, atK_swap hi hj]
    congr 1
    by_cases h1 : k = i <;> by_cases h2 : k = j
    · subst h1; subst h2; rfl
    · rw [if_pos h1, if_neg h2, if_pos h1]
    · rw [if_neg h1, if_pos h2, if_pos h2]
    · rw [if_neg h1, if_neg h2, if_neg h2, if_neg h1]
  · rw [List.getElem?_eq_none (by rw [swapK_length]; omega), List.getElem?_eq_none (by rw [swapK_length]; omega)]

theorem flatC_take5 (cs : List Cmd) (k : Nat) : (flatC cs).take (k * 5) = flatC (cs.take k) := by
  induction cs generalizing k with
  | nil => simp [flatC]
  | cons c r ih =>
    cases k with
    | zero => rfl
    | succ k =>
      have e : ∀ (x : Cmd) (t : List Cmd), flatC (x :: t) = .string x.p :: .int .i64 x.fk :: .int .i64 x.fv :: .int .i64 x.tk :: .int .i64 x.tv :: flatC t := fun _ _ => rfl
      rw [List.take_succ_cons, e, e, show (k + 1) * 5 = k * 5 + 5 by omega, ← ih k]
      rfl

/-- The first commands of a list of the call's own. -/
theorem own_take5 {W : World} {base : Nat} {e : TypeId} {g n cap : Nat} {cs : List Cmd} (h : W.ownsRow base e 5 (.slice (some ⟨g, 0, none⟩) n cap) n (flatC cs)) (hn : n = cs.length) (k : Nat) (hk : k ≤ n) : W.ownsRow base e 5 (.slice (some ⟨g, 0, none⟩) k cap) (cs.take k).length (flatC (cs.take k)) := by
  have hl : (cs.take k).length = k := by rw [List.length_take]; omega
  rw [hl]
  obtain ⟨h1, h2⟩ := h
  refine ⟨by rw [flatC_length, hl], .inr ?_⟩
  rcases h2 with ⟨h3, _⟩ | ⟨g', cap', cur, h3, h4, h5, h6, h7, h8, h9⟩
  · cases h3
  · cases h3
    refine ⟨g, cap, cur, rfl, h4, h5, by omega, h7, h8, ?_⟩
    rw [← flatC_take5, ← h9, List.take_take]
    congr 1
    omega

end Go.Proofs.YtohdpbalajjjiaaGreat

/-
  append to a list of the call's own, and where the result lies: in the same block, or in a new one.
-/
namespace Go.Proofs.YtohdpbalajjjiaaGreat
open Go.RowKit
set_option linter.unusedVariables false

/-- The result's block is the old one or a new one. -/
def SameOrNew (w : World) (v v' : Value) : Prop := ∀ k, v'.ownBlock = some k → v.ownBlock = some k ∨ w.heap.size ≤ k

theorem append_where {P : Program} {w w' : World} {base n m c : Nat} {t ty e : TypeId} {i : TypeInfo} {z v v' : Value} {xs news : List Value} {a : Addr} (ht : P.underlying t = some (.slice e)) (hi : P.info? e = some i) (hz : i.zero = some z) (hs1 : i.size = 1)
    (hown : w.ownsRow base e 1 v n xs) (hl : news.length = m * 1) (hnews : ∀ j u, news[j]? = some u → w.cell? (a.add j) = some u) (h1 : ∀ u ∈ news, u.oneCell' = true) (h63 : n + m ≤ maxLen) (hbytes : (n + m) * i.bytes ≤ 140737488355328)
    (hr : (Builtin.append_ #[t, t] ty #[v, .slice (some a) m c]).run P w = .ok v' w') (h4 : v' = .slice none 0 0 ↔ v = .slice none 0 0 ∧ m = 0) : SameOrNew w v v' := by
  intro k hk
  have h63' : n + m ≤ 9223372036854775807 := by unfold maxLen at h63; omega
  rcases hown.2 with ⟨rfl, rfl⟩ | ⟨g, cap, cur, rfl, hbg, hg, hnc, hcm, hcs, htake⟩
  · by_cases hm : m = 0
    · rw [h4.2 ⟨rfl, hm⟩] at hk; cases hk
    · have hr2 := run_append_nil (P := P) w t ty e i z ht hi hz a m c news (by rw [hs1]; exact hl) hnews (by omega) (by omega) (by
        rw [Nat.zero_add] at hbytes; omega)
      rw [hr] at hr2
      injection hr2 with e1 _
      rw [e1] at hk
      simp [Value.ownBlock] at hk
      exact .inr (by omega)
  · by_cases hroom : n + m ≤ cap
    · have hr2 := run_append_room (P := P) w t ty e i ht hi g n cap cur hg a m c news (by rw [hs1]; exact hl) hnews h1 hroom (by rw [hs1, hl, hcs]; omega)
      rw [hr] at hr2
      injection hr2 with e1 _
      rw [e1] at hk
      exact .inl hk
    · have hr2 := run_append_grow (P := P) w t ty e i z ht hi hz ⟨g, 0, none⟩ n cap xs (by rw [hs1]; exact hown.1) (hown.cells (g := g) rfl) a m c news (by rw [hs1]; exact hl) hnews (by omega) (by omega) (growslice_fits (by omega) hbytes)
      rw [hr] at hr2
      injection hr2 with e1 _
      rw [e1] at hk
      simp [Value.ownBlock] at hk
      exact .inr (by omega)

theorem wpList_append_where {P : Program} {w : World} {ops : Array Oper} {rest : List Oper} {o : Oper} {a : Act} {Q : Exit → Act → World → Prop} (hgd : o.guard = none) (s x : Operand) (t : TypeId)
    (ho : o.op = .call { callee := .builtin .append, args := #[s, x], argTypes := #[t, t] })
    (base : Nat) (e : TypeId) (i : TypeInfo) (z : Value) (bytes : Nat) (ht : P.underlying t = some (.slice e)) (hi : P.info? e = some i) (hz : i.zero = some z)
    (hsize : i.size = 1) (hby : i.bytes = bytes) (hzs : z.cells.size = 1)
    (v : Value) (n : Nat) (xs : List Value) (hs : a.eval s = v) (hown : w.ownsRow base e 1 v n xs)
    (ad : Addr) (m c : Nat) (news : List Value) (hx : a.eval x = .slice (some ad) m c) (hl : news.length = m * 1) (hnews : ∀ j u, news[j]? = some u → w.cell? (ad.add j) = some u) (h1 : ∀ u ∈ news, u.oneCell' = true)
    (h63 : n + m ≤ maxLen) (hbytes : (n + m) * bytes ≤ 140737488355328) (hbase : base ≤ w.heap.size)
    (h : ∀ v' w', w'.ownsRow base e 1 v' (n + m) (xs ++ news) → w.grownBy w' v.ownBlock → SameOrNew w v v' → wpList P ops Q rest (a.put o.dst v') w') : wpList P ops Q (o :: rest) a w := by
  refine wpList_plain hgd fun K hK => ?_
  obtain ⟨v', w', hr, h2, h3, h4⟩ := run_append_own (P := P) w base t o.type e i z 1 bytes ht hi hz hsize hby hzs (by decide) v n xs hown ad m c news hl hnews h1 h63 hbytes hbase
  have h5 := append_where ht hi hz hsize hown hl hnews h1 h63 (by rw [hby]; exact hbytes) hr h4
  unfold Oper.wp execOp
  simp only [ho, resolve, invoke, builtin, Sem.run_bind, Sem.run_pure, Result.andThen_ok, List.map_toArray, List.map_cons, List.map_nil, hs, hx, hr]
  exact hK _ _ (h v' w' h2 h3 h5)

end Go.Proofs.YtohdpbalajjjiaaGreat

/-
  WALKS: slices.Backward over a list of commands.
-/
namespace Go.Proofs.YtohdpbalajjjiaaGreat
open Go.RowKit
set_option linter.unusedVariables false

attribute [local go_sem] Oper.semAt_some

/-- A command of a list, with its place. -/
structure EltC (ns : List Cmd) where
  i : Nat
  n : Cmd
  at_ : ns[i]? = some n

/-- The commands ahead of a place, the last one first. -/
def backEC (ns : List Cmd) : (j : Nat) → j ≤ ns.length → List (EltC ns)
  | 0, _ => []
  | j + 1, h => ⟨j, ns[j], by simp⟩ :: backEC ns j (by omega)

theorem backEC_length (ns : List Cmd) : ∀ (j : Nat) (h : j ≤ ns.length), (backEC ns j h).length = j
  | 0, _ => rfl
  | j + 1, h => by show (backEC ns j _).length + 1 = _; rw [backEC_length ns j]

set_option maxRecDepth 100000 in
set_option maxHeartbeats 2000000 in
/-- The closure's walk, for whatever loop body. -/
theorem back1C_in (n : Nat) (hn : 1 ≤ n) (l Bn : Nat) (a : Option Addr) (len cap : Nat) (ns : List Cmd) (hl : len ≤ 2097152) (Kp : World → World → Prop)
    (hKc : ∀ W W', Kp W W' → W.cell? ⟨Bn, 0, none⟩ = some (.slice a len cap) → W'.cell? ⟨Bn, 0, none⟩ = some (.slice a len cap)) (hKn : ∀ W W', Kp W W' → CmdsAt W a len ns → CmdsAt W' a len ns)
    (J Jx : List (EltC ns) → World → Prop)
    (hY : ∀ pre x W, J pre W → pre.length < ns.length → YieldAt Fence.wide (n - 1) Tryz.prog l #[.int .i64 x.i, cmdV x.n] W fun e W' =>
      (e = .returned (.bool true) ∧ J (pre ++ [x]) W' ∧ Kp W W') ∨ (e = .returned (.bool false) ∧ Jx (pre ++ [x]) W'))
    (W : World) (hBn : W.cell? ⟨Bn, 0, none⟩ = some (.slice a len cap)) (hN : CmdsAt W a len ns) (h0 : J [] W) :
    CallsIn Fence.wide n Tryz.prog 99 #[.func (.yield l) #[] #[], .pointer (some ⟨Bn, 0, none⟩)] W fun e W' => (∃ v, e = .returned v) ∧
      ((∃ ys, ys = backEC ns ns.length (Nat.le_refl _) ∧ J ys W') ∨ (∃ pre, pre <+: backEC ns ns.length (Nat.le_refl _) ∧ Jx pre W')) := by
  have hlen := hN.1
  have HN := Lib.hid hN
  have HLE := Lib.hid hlen
  have hl' : (len : Int) ≤ 2097152 := by omega
  have HKC := Lib.hid hKc
  have HKN := Lib.hid hKn
  have HY := Lib.hid hY
  clear hN hlen hKc hKn hY
  refine callsIn_of_wp Tryz.func99 rfl trivial ?_ rfl
  simp only [Tryz.ntmps99, List.size_toArray, List.length_cons, List.length_nil, Nat.reduceAdd, Nat.reduceSub, Array.replicate_succ, Array.replicate_zero, List.push_toArray, List.append_toArray, List.nil_append, List.cons_append]
  gi_wp2
  gi_loopw [3] (fun i wr => ∃ (pre : List (EltC ns)) (j : Nat) (hj : j ≤ ns.length), i = .int .i64 ((j : Int) - 1) ∧ Hid (backEC ns ns.length (Nat.le_refl _) = pre ++ backEC ns j hj) ∧ J pre wr ∧ wr.cell? ⟨Bn, 0, none⟩ = some (.slice a len cap) ∧ Hid (CmdsAt wr a len ns))
    (fun i _ => (intOf i + 1).toNat)
  case atStart =>
    exact ⟨[], ns.length, Nat.le_refl _, by rw [HLE.out], rfl, h0, hBn, HN.out⟩
  case round =>
    obtain ⟨pre, j, hj, rfl, HX, hJs, hc, HNr⟩ := hrel
    cases j with
    | zero =>
      gi_wp2
      go_end0
      exact ⟨⟨_, rfl⟩, .inl ⟨pre, by have := HX.out; simpa [backEC] using this.symm, hJs⟩⟩
    | succ j =>
      obtain ⟨b, off, nd, hab, hnd, c0, c1, c2, c3, c4⟩ := HNr.out.node (i := j) (by have := HLE.out; omega)
      have hlt : pre.length < ns.length := by
        have := congrArg List.length HX.out
        rw [List.length_append, backEC_length, backEC_length] at this
        omega
      obtain ⟨x, hxi, hxn⟩ : ∃ x : EltC ns, x.i = j ∧ x.n = nd := ⟨⟨j, nd, hnd⟩, rfl, rfl⟩
      have HX2 := Lib.hid (show backEC ns ns.length (Nat.le_refl _) = pre ++ [x] ++ backEC ns j (Nat.le_of_succ_le hj) by
        rw [HX.out, List.append_assoc]
        show pre ++ (⟨j, ns[j], _⟩ :: backEC ns j _) = pre ++ (x :: backEC ns j _)
        have e : ns[j] = nd := by have := List.getElem?_eq_some_iff.1 hnd; exact this.2
        obtain ⟨xi, xn, xa⟩ := x
        simp only at hxi hxn
        subst hxi; subst hxn
        congr 2
        congr 1)
      obtain ⟨fn, tmps, assign, body, hy, hR⟩ := HY.out pre x wr hJs hlt
      rw [hxi, hxn] at hy
      dsimp only [cmdV] at hy
      have hjl : (j : Int) < len := by have := HLE.out; omega
      have hjl2 : j < len := by have := HLE.out; omega
      subst hab
      have HJ := Lib.hid hj
      have HC := Lib.hid hc
      clear hnd hlt hxi hxn
      gi_wp2
      refine hR.mono ?_
      rintro e W3 (⟨rfl, hJ3, hk3⟩ | ⟨rfl, hJx3⟩)
      · have c3 := HKC.out _ _ hk3 HC.out
        have N3 := Lib.hid (HKN.out _ _ hk3 HNr.out)
        gi_wp2
        go_roundw
        case rel => exact ⟨pre ++ [x], j, by have := HJ.out; omega, by simp, HX2.out, hJ3, c3, N3.out⟩
        case measure => simp [intOf]
      · gi_wp2
        refine bodyPost_ret (results_none rfl _ _ _) rfl ?_
        exact ⟨⟨_, rfl⟩, .inr ⟨pre ++ [x], by rw [HX2.out]; exact List.prefix_append _ _, hJx3⟩⟩

set_option maxHeartbeats 1000000 in
set_option maxRecDepth 100000 in
/-- slices.Backward: the slice is boxed; the function value captures the box. -/
theorem backwardC_in (n : Nat) (a : Option Addr) (len cap : Nat) (w : World) :
    CallsIn Fence.wide n Tryz.prog 95 #[.slice a len cap] w fun e w' => e = .returned (.func (.func 99) #[] #[.pointer (some ⟨w.heap.size, 0, none⟩)]) ∧ w' = w.alloc (.cells #[.slice a len cap] 23) := by
  refine callsIn_of_wp Tryz.func95 rfl trivial ?_ rfl
  simp only [Tryz.ntmps95, List.size_toArray, List.length_cons, List.length_nil, Nat.reduceAdd, Nat.reduceSub, Array.replicate_succ, Array.replicate_zero, List.push_toArray, List.append_toArray, List.nil_append, List.cons_append]
  gi_wp2
  go_ret
  exact ⟨rfl, rfl⟩

/-- What a round keeps: what lay below, and the box of the list. -/
def BackKC (n₀ Bn : Nat) (W W' : World) : Prop := Below n₀ W W' ∧ W'.heap[Bn]? = W.heap[Bn]?

theorem cmds_below {n₀ : Nat} {W W' : World} {a : Option Addr} {len : Nat} {ns : List Cmd} (h : CmdsAt W a len ns) (hl : ∀ b off, a = some ⟨b, off, none⟩ → len ≠ 0 → b < n₀) (hb : Below n₀ W W') : CmdsAt W' a len ns := by
  obtain ⟨h1, h0 | ⟨b, off, ha, hc⟩⟩ := h
  · exact ⟨h1, .inl h0⟩
  · by_cases h0 : len = 0
    · exact ⟨h1, .inl h0⟩
    · have hbn := hl b off ha h0
      exact ⟨h1, .inr ⟨b, off, ha, fun i n hn => ⟨(hb.cell (p := ⟨b, _, none⟩) hbn).trans (hc i n hn).1, (hb.cell (p := ⟨b, _, none⟩) hbn).trans (hc i n hn).2.1, (hb.cell (p := ⟨b, _, none⟩) hbn).trans (hc i n hn).2.2.1, (hb.cell (p := ⟨b, _, none⟩) hbn).trans (hc i n hn).2.2.2.1, (hb.cell (p := ⟨b, _, none⟩) hbn).trans (hc i n hn).2.2.2.2⟩⟩⟩

theorem cmds_lt {W : World} {a : Option Addr} {len : Nat} {ns : List Cmd} (h : CmdsAt W a len ns) : ∀ b off, a = some ⟨b, off, none⟩ → len ≠ 0 → b < W.heap.size := by
  intro b off ha h0
  obtain ⟨b', off', n, ha', _, hc, _⟩ := h.node (i := 0) (by omega)
  rw [ha] at ha'
  cases ha'
  exact World.block_lt_of_cell? W _ hc

theorem backwardC_stops (n : Nat) (hn : 1 ≤ n) (Bn n₀ : Nat) (a : Option Addr) (len cap : Nat) (ns : List Cmd) (hl : len ≤ 2097152) (hlow : ∀ b off, a = some ⟨b, off, none⟩ → len ≠ 0 → b < n₀) (w : World) (hn₀ : n₀ ≤ w.heap.size) (hBn : Bn < w.heap.size)
    (hc : w.cell? ⟨Bn, 0, none⟩ = some (.slice a len cap)) (hN : CmdsAt w a len ns) :
    SeqStopsK Fence.wide n Tryz.prog 99 #[.pointer (some ⟨Bn, 0, none⟩)] (fun x : EltC ns => #[Value.int .i64 x.i, cmdV x.n]) (BackKC n₀ Bn) (fun ys => ys = backEC ns ns.length (Nat.le_refl _)) (fun pre => pre <+: backEC ns ns.length (Nat.le_refl _)) ns.length w := fun l J Jx W hW hJ _ hY h0 =>
  back1C_in n hn l Bn a len cap ns hl (BackKC n₀ Bn) (fun W W' hk h => (World.cell?_of_block (a := ⟨Bn, 0, none⟩) hk.2).trans h) (fun W W' hk h => cmds_below h hlow hk.1) J Jx hY W
    ((hW.cell (p := ⟨Bn, 0, none⟩) hBn).trans hc) (cmds_below hN hlow (hW.mono hn₀)) h0

end Go.Proofs.YtohdpbalajjjiaaGreat

/-
  LOGS OF THE PROGRAM IN MEMORY: an entry is a command and the entry behind it.
-/
namespace Go.Proofs.YtohdpbalajjjiaaGreat
open Go.RowKit
set_option linter.unusedVariables false

/-- The cells of an entry. -/
def entC (c : Cmd) (nx : Option Addr) : Array Value := #[.string c.p, .int .i64 c.fk, .int .i64 c.fv, .int .i64 c.tk, .int .i64 c.tv, .pointer nx]

/-- The entries from a pointer on, each of them in a block of its own from B on. -/
def EntAt (B : Nat) (W : World) : Option Addr → List Cmd → Prop
  | a, [] => a = none
  | a, c :: cs => ∃ b nx, a = some ⟨b, 0, none⟩ ∧ B ≤ b ∧ W.heap[b]? = some (.cells (entC c nx) 145 (0, 0)) ∧ EntAt B W nx cs

theorem EntAt.kept {B : Nat} {W W' : World} : ∀ {cs : List Cmd} {a : Option Addr}, EntAt B W a cs → (∀ b, B ≤ b → ∀ c t f, W.heap[b]? = some (.cells c t f) → W'.heap[b]? = W.heap[b]?) → EntAt B W' a cs
  | [], _, h, _ => h
  | _ :: _, _, ⟨b, nx, h1, h2, h3, h4⟩, hk => ⟨b, nx, h1, h2, (hk b h2 _ _ _ h3).trans h3, EntAt.kept h4 hk⟩

theorem ent_lt {W : World} {b : Nat} {o : Obj} (h : W.heap[b]? = some o) : b < W.heap.size := (Array.getElem?_eq_some_iff.1 h).1

theorem EntAt.keep {B : Nat} {W W' : World} {cs : List Cmd} {a : Option Addr} (h : EntAt B W a cs) (hb : Below W.heap.size W W') : EntAt B W' a cs :=
  h.kept fun b _ _ _ _ e => hb.block b (ent_lt e)

/-- A turn of a block that holds no cells. -/
theorem EntAt.own {B : Nat} {W W' : World} {row : Option Nat} {cs : List Cmd} {a : Option Addr} (h : EntAt B W a cs) (hg : W.grownBy W' row) (hr : ∀ r, row = some r → ∃ o : Obj, W.heap[r]? = some o ∧ o.isCells = false) : EntAt B W' a cs :=
  h.kept fun b _ c t f e => hg.block b (ent_lt e) fun q => by
    obtain ⟨o, ho, hc⟩ := hr b q.symm
    rw [e] at ho; cases ho; cases hc

/-- A store below. -/
theorem EntAt.set {B : Nat} {W : World} {cs : List Cmd} {a : Option Addr} (h : EntAt B W a cs) {p : Addr} (hp : p.block < B) (v : Value) : EntAt B (W.setCell p v) a cs :=
  h.kept fun b hb _ _ _ e => Below.heap_setCell _ _ _ _ (by omega)

theorem EntAt.alloc {B : Nat} {W : World} {cs : List Cmd} {a : Option Addr} (h : EntAt B W a cs) (o : Obj) : EntAt B (W.alloc o) a cs := h.keep (below_box _ _)

/-- An entry more. -/
theorem EntAt.push {B : Nat} {W : World} {cs : List Cmd} {a : Option Addr} (h : EntAt B W a cs) (hB : B ≤ W.heap.size) (c : Cmd) : EntAt B (W.alloc (.cells (entC c a) 145)) (some ⟨W.heap.size, 0, none⟩) (c :: cs) :=
  ⟨W.heap.size, a, rfl, hB, World.alloc_heap_new W _, h.alloc _⟩

theorem EntAt.low {B C : Nat} {W : World} (hBC : C ≤ B) : ∀ {cs : List Cmd} {a : Option Addr}, EntAt B W a cs → EntAt C W a cs
  | [], _, h => h
  | _ :: _, _, ⟨b, nx, h1, h2, h3, h4⟩ => ⟨b, nx, h1, Nat.le_trans hBC h2, h3, EntAt.low hBC h4⟩

/-- The cells of the first entry. -/
theorem EntAt.first {B : Nat} {W : World} {c : Cmd} {cs : List Cmd} {a : Option Addr} (h : EntAt B W a (c :: cs)) :
    ∃ b nx, a = some ⟨b, 0, none⟩ ∧ B ≤ b ∧ EntAt B W nx cs ∧ W.cell? ⟨b, 0, none⟩ = some (.string c.p) ∧ W.cell? ⟨b, 1, none⟩ = some (.int .i64 c.fk) ∧ W.cell? ⟨b, 2, none⟩ = some (.int .i64 c.fv) ∧ W.cell? ⟨b, 3, none⟩ = some (.int .i64 c.tk) ∧ W.cell? ⟨b, 4, none⟩ = some (.int .i64 c.tv) ∧ W.cell? ⟨b, 5, none⟩ = some (.pointer nx) := by
  obtain ⟨b, nx, h1, h2, h3, h4⟩ := h
  refine ⟨b, nx, h1, h2, h4, ?_, ?_, ?_, ?_, ?_, ?_⟩ <;> simp [World.cell?, h3, entC]

theorem EntAt.len {B : Nat} {W : World} : ∀ {xs ys : List Cmd} {a : Option Addr}, EntAt B W a xs → EntAt B W a ys → xs.length = ys.length
  | [], [], _, _, _ => rfl
  | [], _ :: _, _, h, ⟨_, _, k, _⟩ => by rw [show _ = none from h] at k; cases k
  | _ :: _, [], _, ⟨_, _, k, _⟩, h => by rw [show _ = none from h] at k; cases k
  | _ :: _, _ :: _, _, ⟨b, nx, h1, _, h3, h4⟩, ⟨b', nx', k1, _, k3, k4⟩ => by
    rw [h1] at k1
    cases k1
    rw [h3] at k3
    have e : nx = nx' := by
      have := Option.some.inj k3
      simp [entC] at this
      exact this.2.2.2.2.2
    subst e
    rw [List.length_cons, List.length_cons, EntAt.len h4 k4]

/-- How many entries there are from a pointer on. -/
theorem ent_count (B : Nat) : ∃ f : World → Value → Nat, ∀ W a cs, EntAt B W a cs → f W (.pointer a) = cs.length := by
  classical
  refine ⟨fun W v => if h : ∃ n : Nat, ∃ a cs, v = .pointer a ∧ EntAt B W a cs ∧ cs.length = n then Classical.choose h else 0, fun W a cs h => ?_⟩
  have hx : ∃ n : Nat, ∃ a' cs', (Value.pointer a) = .pointer a' ∧ EntAt B W a' cs' ∧ cs'.length = n := ⟨_, a, cs, rfl, h, rfl⟩
  show (if h : _ then _ else _) = _
  rw [dif_pos hx]
  obtain ⟨a', cs', e, h', hl⟩ := Classical.choose_spec hx
  cases e
  exact hl.symm.trans (h'.len h)

/-- A log that the call has made. -/
def EntPost (cs : List Cmd) (W : World) (e : Ending) (w' : World) : Prop := ∃ a, e = .returned (.pointer a) ∧ EntAt W.heap.size w' a cs ∧ Below W.heap.size W w'

end Go.Proofs.YtohdpbalajjjiaaGreat

/-
  WALKS: commands of the program: impl.CommandValid, impl.CommandUndo, impl.CommandText.
-/
namespace Go.Proofs.YtohdpbalajjjiaaGreat
open Go.RowKit
set_option linter.unusedVariables false

set_option maxHeartbeats 2000000 in
set_option maxRecDepth 100000 in
theorem implCmdValid_c (c : Cmd) (hp : c.p.size ≤ 2097152) (W : World) : Calls Tryz.prog 20 #[cmdV c] W (BoolPost (validC c) W) := by
  obtain ⟨dp, hdp⟩ : ∃ dp, depB c.p = dp := ⟨_, rfl⟩
  have HD := Lib.hid (fun w => show Calls Tryz.prog 35 #[.string c.p] w (fun e w' => e = .returned (.int .i64 dp) ∧ Below w.heap.size w w') by rw [← hdp]; exact pathDepth_c c.p (by omega) w)
  obtain ⟨b1, h1⟩ : ∃ b, validB c.fk c.fv = b := ⟨_, rfl⟩
  obtain ⟨b2, h2⟩ : ∃ b, validB c.tk c.tv = b := ⟨_, rfl⟩
  obtain ⟨dd, h3⟩ : ∃ b, (!sameFT c) = b := ⟨_, rfl⟩
  have HF := Lib.hid (fun w => show Calls Tryz.prog 36 #[con c.fk c.fv] w (BoolPost b1 w) by rw [← h1]; exact implValid_c _ _ w)
  have HT := Lib.hid (fun w => show Calls Tryz.prog 36 #[con c.tk c.tv] w (BoolPost b2 w) by rw [← h2]; exact implValid_c _ _ w)
  have hne := fun w' => (conNeQ c.fk c.fv c.tk c.tv w').trans (show _ = Result.ok (Value.bool dd) w' by rw [← h3]; rfl)
  have HV := Lib.hid (valid_parts (d := decide (1 ≤ dp)) (by rw [hdp]) h1 h2 h3)
  clear h1 h2 h3 hdp
  obtain ⟨p, fk, fv, tk, tv⟩ := c
  unfold cmdV
  unfold con at HF HT
  simp only at HD HF HT hne hp ⊢
  by_cases hd : 0 < dp
  · have hdd : decide (1 ≤ dp) = true := decide_eq_true (by omega)
    rw [hdd] at HV
    clear hdd
    go_enter Tryz.func20, Tryz.ntmps20
    go_wp2_with fail
    refine (HD.out _).mono ?_
    rintro e W1 ⟨rfl, hb1⟩
    have q1 := box_cell hb1 1
    have q2 := box_cell hb1 2
    have q3 := box_cell hb1 3
    have q4 := box_cell hb1 4
    simp at q1 q2 q3 q4
    have B1 := Lib.hid (below_next (below_box W _) hb1)
    clear hb1
    go_wp2_with fail
    refine (HF.out _).mono ?_
    rintro e W2 ⟨rfl, hb2⟩
    have r1 := cell_kept hb2 q1
    have r2 := cell_kept hb2 q2
    have r3 := cell_kept hb2 q3
    have r4 := cell_kept hb2 q4
    have B2 := Lib.hid (below_next B1.out hb2)
    clear hb2 q1 q2 q3 q4
    cases b1 with
    | false =>
      clear hne
      go_wp2
      go_ret
      exact ⟨ret_bool (by rw [HV.out]; rfl), B2.out⟩
    | true =>
      go_wp2_with fail
      refine (HT.out _).mono ?_
      rintro e W3 ⟨rfl, hb3⟩
      have s1 := cell_kept hb3 r1
      have s2 := cell_kept hb3 r2
      have s3 := cell_kept hb3 r3
      have s4 := cell_kept hb3 r4
      have B3 := Lib.hid (below_next B2.out hb3)
      clear hb3 r1 r2 r3 r4
      cases b2 with
      | false =>
        clear hne
        go_wp2
        go_ret
        exact ⟨ret_bool (by rw [HV.out]; rfl), B3.out⟩
      | true =>
        go_wp2
        go_ret
        exact ⟨ret_bool (by rw [HV.out]; rfl), B3.out⟩
  · have hdd : decide (1 ≤ dp) = false := decide_eq_false (by omega)
    rw [hdd] at HV
    clear hdd hne
    go_enter Tryz.func20, Tryz.ntmps20
    go_wp2_with fail
    refine (HD.out _).mono ?_
    rintro e W1 ⟨rfl, hb1⟩
    have B1 := Lib.hid (below_next (below_box W _) hb1)
    clear hb1
    go_wp2
    go_ret
    exact ⟨ret_bool (by rw [HV.out]; rfl), B1.out⟩

theorem five_atI {W : World} {n : Nat} (hn : n = W.heap.size) (a b c d e : Value) (t : TypeId) : Five (W.alloc (.cells #[a, b, c, d, e] t)) n a b c d e := by subst hn; exact five_new W a b c d e t

theorem undo_is {c : Cmd} {vc : Bool} (h : validC c = vc) : undoC c = if vc = true then ⟨c.p, c.tk, c.tv, c.fk, c.fv⟩ else zeroC := by subst h; rfl

set_option maxHeartbeats 2000000 in
set_option maxRecDepth 100000 in
theorem implCmdText_c (c : Cmd) (hp : c.p.size ≤ 2097152) (W : World) : Calls Tryz.prog 9 #[cmdV c] W (TextPost (textC c) W) := by
  obtain ⟨vc, hvc⟩ : ∃ vc, validC c = vc := ⟨_, rfl⟩
  have HC := Lib.hid (fun W' => show Calls Tryz.prog 20 #[cmdV c] W' (BoolPost vc W') by rw [← hvc]; exact implCmdValid_c c hp W')
  cases vc with
  | false =>
    have HR := Lib.hid (textC_bad hvc)
    clear hvc
    unfold cmdV at HC ⊢
    obtain ⟨p, fk, fv, tk, tv⟩ := c
    simp only at HC ⊢
    go_enter Tryz.func9, Tryz.ntmps9
    go_wp2_with fail
    refine (HC.out _).mono ?_
    rintro e W1 ⟨rfl, hb1⟩
    have B1 := Lib.hid (below_next (below_box W _) hb1)
    clear hb1
    go_wp2
    go_ret
    exact ⟨ret_str HR.out.symm, B1.out⟩
  | true =>
    have HR := Lib.hid (textC_ok hvc)
    have hz0 := pathB_size ((validC_iff c).1 hvc).1
    have HT1 := Lib.hid (fun W' => show Calls Tryz.prog 21 #[con c.fk c.fv] W' (TextPost (conText c.fk c.fv) W') from implText_c _ _ W')
    have HT2 := Lib.hid (fun W' => show Calls Tryz.prog 21 #[con c.tk c.tv] W' (TextPost (conText c.tk c.tv) W') from implText_c _ _ W')
    have hz1 := conSize_le c.fk c.fv
    have hz2 := conSize_le c.tk c.tv
    clear hvc
    unfold cmdV at HC ⊢
    obtain ⟨p, fk, fv, tk, tv⟩ := c
    unfold con at HT1 HT2
    simp only at HC HT1 HT2 HR hz0 hz1 hz2 ⊢
    generalize conText fk fv = t1 at HT1 HR hz1
    generalize conText tk tv = t2 at HT2 HR hz2
    have y1 : ¬ 9223372036854775807 < p.size + 1 := by omega
    have y2 : ¬ 9223372036854775807 < p.size + 1 + t1.size := by omega
    have y3 : ¬ 9223372036854775807 < p.size + 1 + t1.size + 1 := by omega
    have y4 : ¬ 9223372036854775807 < p.size + 1 + t1.size + 1 + t2.size := by omega
    clear hz0 hz1 hz2
    go_enter Tryz.func9, Tryz.ntmps9
    go_wp2_with fail
    refine (HC.out _).mono ?_
    rintro e W1 ⟨rfl, hb1⟩
    have q0 := box_cell hb1 0
    have q1 := box_cell hb1 1
    have q2 := box_cell hb1 2
    have q3 := box_cell hb1 3
    have q4 := box_cell hb1 4
    simp at q0 q1 q2 q3 q4
    have B1 := Lib.hid (below_next (below_box W _) hb1)
    have HS0 : Hid (W1.drew.cell? ⟨W.heap.size, 0, none⟩ = some (.string p) ∧ W1.drew.cell? ⟨W.heap.size, 1, none⟩ = some (.int .i64 fk) ∧ W1.drew.cell? ⟨W.heap.size, 2, none⟩ = some (.int .i64 fv) ∧ W1.drew.cell? ⟨W.heap.size, 3, none⟩ = some (.int .i64 tk) ∧ W1.drew.cell? ⟨W.heap.size, 4, none⟩ = some (.int .i64 tv) ∧ Below W.heap.size W W1.drew) :=
      ⟨q0, q1, q2, q3, q4, B1.out.drew⟩
    clear hb1 q0 q1 q2 q3 q4
    go_upto_region 3 with (fail)
    go_region_held3 (fun w' => w'.cell? ⟨W.heap.size, 0, none⟩ = some (.string p) ∧ w'.cell? ⟨W.heap.size, 1, none⟩ = some (.int .i64 fk) ∧ w'.cell? ⟨W.heap.size, 2, none⟩ = some (.int .i64 fv) ∧ w'.cell? ⟨W.heap.size, 3, none⟩ = some (.int .i64 tk) ∧ w'.cell? ⟨W.heap.size, 4, none⟩ = some (.int .i64 tv) ∧ Below W.heap.size W w')
      (first | exact HS0.out | exact keepCmd HS0.out hb5 | exact keepCmd (keepCmd HS0.out hb5) hb6)
      (first | (go_at_call 21; (with_reducible refine (HT1.out _).mono ?_); rintro e W5 ⟨rfl, hb5⟩) | (go_at_call 21; (with_reducible refine (HT2.out _).mono ?_); rintro e W6 ⟨rfl, hb6⟩))
    rename_i hS
    have HB := Lib.hid hS.2.2.2.2.2
    clear hS
    go_wp2
    go_ret
    exact ⟨ret_str HR.out.symm, HB.out⟩

end Go.Proofs.YtohdpbalajjjiaaGreat

/-
  WALKS: impl.entriesOf.
-/
namespace Go.Proofs.YtohdpbalajjjiaaGreat
open Go.RowKit
set_option linter.unusedVariables false

attribute [local go_sem] Oper.semAt_some

/-- What entriesOf tells. -/
def EntriesPost (cs : List Cmd) (W : World) (e : Ending) (w' : World) : Prop :=
  Below W.heap.size W w' ∧ ((validL cs = false ∧ e = .returned (.tuple #[.pointer none, .bool false])) ∨ (validL cs = true ∧ ∃ a, e = .returned (.tuple #[.pointer a, .bool true]) ∧ EntAt W.heap.size w' a cs))

theorem back_map (cs : List Cmd) : ∀ (j : Nat) (h : j ≤ cs.length), (backEC cs j h).map (fun x => x.n) = (cs.take j).reverse
  | 0, _ => rfl
  | j + 1, h => by
    show cs[j] :: (backEC cs j _).map (fun x => x.n) = _
    rw [back_map cs j, List.take_add_one, List.getElem?_eq_getElem (by omega), Option.toList_some, List.reverse_append]
    rfl

theorem back_all (cs : List Cmd) : ((backEC cs cs.length (Nat.le_refl _)).map (fun x => x.n)).reverse = cs := by
  rw [back_map, List.take_length, List.reverse_reverse]

/-- Between two rounds. -/
def EntI (cs : List Cmd) (X : Nat) (pre : List (EltC cs)) (W : World) : Prop :=
  ∃ p, Boxed W X 130 (.pointer none) ∧ Boxed W (X + 1) 4 (.bool false) ∧ Boxed W (X + 1 + 1) 130 (.pointer p) ∧ EntAt (X + 1 + 1 + 1) W p (pre.map (fun x => x.n)).reverse ∧ (∀ x ∈ pre, validC x.n = true) ∧ X + 1 + 1 + 1 < W.heap.size

def EntX (cs : List Cmd) (X : Nat) (c : Code) (pre : List (EltC cs)) (W : World) : Prop :=
  c = .ret ∧ (∃ x ∈ pre, validC x.n = false) ∧ Boxed W X 130 (.pointer none) ∧ Boxed W (X + 1) 4 (.bool false)

theorem box_own {A B : World} {row : Option Nat} {b : Nat} {t : TypeId} {v : Value} (h : Boxed A b t v) (hg : A.grownBy B row) (hr : ∀ r, row = some r → ∃ o : Obj, A.heap[r]? = some o ∧ o.isCells = false) : Boxed B b t v :=
  h.kept hg fun e => by
    obtain ⟨o, ho, hc⟩ := hr _ e.symm
    rw [show A.heap[b]? = _ from h] at ho; cases ho; cases hc

theorem box_keep {W W' : World} {b : Nat} {t : TypeId} {v : Value} (h : Boxed W b t v) (hb : Below W.heap.size W W') : Boxed W' b t v := (hb.block b h.lt).trans h

theorem EntI.own (cs : List Cmd) (X : Nat) : Own (EntI cs X) := by
  rintro pre A B row ⟨p, h1, h2, h3, h4, h5, h6⟩ hg hr
  exact ⟨p, box_own h1 hg hr, box_own h2 hg hr, box_own h3 hg hr, h4.own hg hr, h5, Nat.lt_of_lt_of_le h6 hg.size⟩

theorem EntX.own (cs : List Cmd) (X : Nat) (c : Code) : Own (EntX cs X c) := by
  rintro pre A B row ⟨h1, h2, h3, h4⟩ hg hr
  exact ⟨h1, h2, box_own h3 hg hr, box_own h4 hg hr⟩

/-- The loop's variable lies in a box of its own. -/
def CmBox {cs : List Cmd} (B0 : Nat) (tm : Nat → EltC cs → Array Value) (x : EltC cs) (a' : Act) (W : World) : Prop :=
  ∃ Bx, B0 ≤ Bx ∧ W.heap[Bx]? = some (.cells #[.string x.n.p, .int .i64 x.n.fk, .int .i64 x.n.fv, .int .i64 x.n.tk, .int .i64 x.n.tv] 33 (0, 0)) ∧ a' = { tmps := tm Bx x, defers := [] }

theorem CmBox.own {cs : List Cmd} (B0 : Nat) (tm : Nat → EltC cs → Array Value) (x : EltC cs) (a' : Act) : Own (fun (_ : Unit) W => CmBox B0 tm x a' W) := by
  rintro _ A B row ⟨Bx, h0, h1, h2⟩ hg hr
  refine ⟨Bx, h0, (hg.block Bx (Array.getElem?_eq_some_iff.1 h1).1 fun e => ?_).trans h1, h2⟩
  obtain ⟨o, ho, hc⟩ := hr _ e.symm
  rw [h1] at ho; cases ho; cases hc

theorem keeps_below {W W' : World} (h : Below W.heap.size W W') : KeepsOthers W W' := KeepsOthers.of_grownBy (below_grown h) (fun _ _ e => by cases e)

theorem ent_stop {cs : List Cmd} {B : Nat} {W W1 W2 : World} {pre : List (EltC cs)} {x : EltC cs} (hv : validC x.n = false) (h1 : Boxed W2 W.heap.size 130 (.pointer none)) (h2 : Boxed W2 (W.heap.size + 1) 4 (.bool false))
    (hb1 : Below W.heap.size W W1) (hb2 : Below W1.heap.size W1 W2) :
    KeepsFrom B W1 ((W2.setCell ⟨W.heap.size, 0, none⟩ (.pointer none)).setCell ⟨W.heap.size + 1, 0, none⟩ (.bool false)) ∧
    (EntX cs W.heap.size .ret (pre ++ [x]) ((W2.setCell ⟨W.heap.size, 0, none⟩ (.pointer none)).setCell ⟨W.heap.size + 1, 0, none⟩ (.bool false)) ∧ Below W.heap.size W ((W2.setCell ⟨W.heap.size, 0, none⟩ (.pointer none)).setCell ⟨W.heap.size + 1, 0, none⟩ (.bool false))) :=
  ⟨(((keeps_below hb2).trans (KeepsOthers.setCell _ _ _)).trans (KeepsOthers.setCell _ _ _)).from _,
    ⟨rfl, ⟨x, by simp, hv⟩, (h1.set _).other (by omega) _, (h2.other (by omega) _).set _⟩, below_setCell (below_setCell (below_next hb1 hb2) _ _ (Nat.le_refl _)) _ _ (Nat.le_succ _)⟩

theorem size_set (W : World) (a : Addr) (v : Value) : (W.setCell a v).heap.size = W.heap.size := by simp [World.setCell]

theorem ent_round {cs : List Cmd} {B : Nat} {W W1 W2 : World} {pre : List (EltC cs)} {x : EltC cs} {p : Option Addr} (hv : validC x.n = true) (h1 : Boxed W1 W.heap.size 130 (.pointer none)) (h2 : Boxed W1 (W.heap.size + 1) 4 (.bool false))
    (h3 : Boxed W1 (W.heap.size + 1 + 1) 130 (.pointer p)) (h4 : EntAt (W.heap.size + 1 + 1 + 1) W1 p (pre.map (fun x => x.n)).reverse) (h5 : ∀ x ∈ pre, validC x.n = true) (hlt : W.heap.size + 1 + 1 + 1 < W1.heap.size)
    (hb1 : Below W.heap.size W W1) (hb2 : Below W1.heap.size W1 W2) :
    KeepsFrom B W1 ((W2.setCell ⟨W.heap.size + 1 + 1, 0, none⟩ (.pointer (some ⟨W2.heap.size, 0, none⟩))).alloc (.cells (entC x.n p) 145)) ∧
    BackKC W.heap.size (W.heap.size + 1 + 1 + 1) W1 ((W2.setCell ⟨W.heap.size + 1 + 1, 0, none⟩ (.pointer (some ⟨W2.heap.size, 0, none⟩))).alloc (.cells (entC x.n p) 145)) ∧
    (EntI cs W.heap.size (pre ++ [x]) ((W2.setCell ⟨W.heap.size + 1 + 1, 0, none⟩ (.pointer (some ⟨W2.heap.size, 0, none⟩))).alloc (.cells (entC x.n p) 145)) ∧ Below W.heap.size W ((W2.setCell ⟨W.heap.size + 1 + 1, 0, none⟩ (.pointer (some ⟨W2.heap.size, 0, none⟩))).alloc (.cells (entC x.n p) 145))) := by
  have hs2 : W1.heap.size ≤ W2.heap.size := hb2.size
  have g1 := box_keep h1 hb2
  have g2 := box_keep h2 hb2
  have g3 := box_keep h3 hb2
  have hbl : Below W.heap.size W1 ((W2.setCell ⟨W.heap.size + 1 + 1, 0, none⟩ (.pointer (some ⟨W2.heap.size, 0, none⟩))).alloc (.cells (entC x.n p) 145)) :=
    (below_setCell (hb2.mono hb1.size) ⟨W.heap.size + 1 + 1, 0, none⟩ (.pointer (some ⟨W2.heap.size, 0, none⟩)) (by show W.heap.size ≤ W.heap.size + 1 + 1; omega)).alloc (by rw [size_set]; have := hb1.size; omega) _
  refine ⟨(((keeps_below hb2).trans (KeepsOthers.setCell _ _ _)).trans (KeepsOthers.alloc _ _)).from _, ⟨hbl, ?_⟩, ⟨some ⟨W2.heap.size, 0, none⟩, (g1.other (by omega) _).alloc _, (g2.other (by omega) _).alloc _, (g3.set _).alloc _, ?_, ?_, by rw [World.size_alloc, size_set]; omega⟩, hb1.trans hbl⟩
  · rw [Below.heap_alloc _ _ _ (by rw [size_set]; omega), Below.heap_setCell _ _ _ _ (by show W.heap.size + 1 + 1 + 1 ≠ W.heap.size + 1 + 1; omega)]
    exact hb2.block _ hlt
  · have := ((h4.keep hb2).set (p := ⟨W.heap.size + 1 + 1, 0, none⟩) (by show W.heap.size + 1 + 1 < _; omega) (.pointer (some ⟨W2.heap.size, 0, none⟩))).push (by rw [size_set]; omega) x.n
    rw [size_set] at this
    simpa using this
  · intro y hy
    rcases List.mem_append.1 hy with hy | hy
    · exact h5 y hy
    · rw [List.mem_singleton.1 hy]; exact hv

set_option maxHeartbeats 1000000 in
set_option maxRecDepth 100000 in
theorem entriesOf_long (a : Option Addr) (len cap : Nat) (cs : List Cmd) (hl : 20 < len) (W : World) (hN : CmdsAt W a len cs) :
    Calls Tryz.prog 87 #[.slice a len cap] W (EntriesPost cs W) := by
  have hv := Lib.hid (show validL cs = false by
    rw [Bool.eq_false_iff]
    intro h
    have := ((validL_iff cs).1 h).2
    have := hN.1
    omega)
  have hl' : (20 : Int) < len := by omega
  clear hN hl
  go_enter Tryz.func87, Tryz.ntmps87
  go_wp2
  refine bodyPost_ret (v := .tuple #[.pointer none, .bool false]) (by simp [results, Tryz.f87, go_sem]) rfl ⟨?_, .inl ⟨hv.out, rfl⟩⟩
  exact ((Below.refl _ _).alloc (Nat.le_refl _) _).alloc (by simp) _

set_option maxHeartbeats 2000000 in
set_option maxRecDepth 100000 in
theorem entriesOf_in (a : Option Addr) (len cap : Nat) (cs : List Cmd) (hl : len ≤ 20) (hs : ShortC 2097152 cs) (W : World) (hN : CmdsAt W a len cs) :
    CallsIn Fence.wide 6 Tryz.prog 87 #[.slice a len cap] W (EntriesPost cs W) := by
  have HN := Lib.hid hN
  have HE := Lib.hid hN.1
  have HS := Lib.hid hs
  have HL := Lib.hid hl
  have hl' : (len : Int) ≤ 20 := by omega
  clear hN hs hl
  refine callsIn_of_wp_marks Tryz.func87 rfl trivial ?_ rfl
  simp only [Tryz.ntmps87, List.size_toArray, List.length_cons, List.length_nil, Nat.reduceAdd, Nat.reduceSub, Array.replicate_succ, Array.replicate_zero, List.push_toArray, List.append_toArray, List.nil_append, List.cons_append]
  gi_wp2_with (refine ⟨trivial, ?_⟩; gi_at_call 95; refine (backwardC_in _ _ _ _ _).mono ?_; rintro e w' ⟨rfl, rfl⟩)
  have hlow := cmds_lt HN.out
  have hB0 : Below W.heap.size W ((((W.alloc (.cells #[.pointer none] 130)).alloc (.cells #[.bool false] 4)).alloc (.cells #[.pointer none] 130)).alloc (.cells #[.slice a len cap] 23)) :=
    ((((Below.refl _ W).alloc (Nat.le_refl _) _).alloc (by simp) _).alloc (by simp; omega) _).alloc (by simp; omega) _
  have hI0 : EntI cs W.heap.size [] ((((W.alloc (.cells #[.pointer none] 130)).alloc (.cells #[.bool false] 4)).alloc (.cells #[.pointer none] 130)).alloc (.cells #[.slice a len cap] 23)) := by
    have b0 := Boxed.new W 130 (.pointer none)
    have b1 := Boxed.new (W.alloc (.cells #[.pointer none] 130)) 4 (.bool false)
    have b2 := Boxed.new ((W.alloc (.cells #[.pointer none] 130)).alloc (.cells #[.bool false] 4)) 130 (.pointer none)
    simp only [World.size_alloc] at b1 b2
    exact ⟨none, ((b0.alloc _).alloc _).alloc _, (b1.alloc _).alloc _, b2.alloc _, rfl, fun x hx => (by cases hx), by simp⟩
  have hsz : ((((W.alloc (.cells #[.pointer none] 130)).alloc (.cells #[.bool false] 4)).alloc (.cells #[.pointer none] 130)).alloc (.cells #[.slice a len cap] 23)).heap.size = W.heap.size + 1 + 1 + 1 + 1 := by simp
  have hbk : ((((W.alloc (.cells #[.pointer none] 130)).alloc (.cells #[.bool false] 4)).alloc (.cells #[.pointer none] 130)).alloc (.cells #[.slice a len cap] 23)).cell? ⟨W.heap.size + 1 + 1 + 1, 0, none⟩ = some (.slice a len cap) := by
    have := (Boxed.new (((W.alloc (.cells #[.pointer none] 130)).alloc (.cells #[.bool false] 4)).alloc (.cells #[.pointer none] 130)) 23 (.slice a len cap)).cell
    simpa only [World.size_alloc] using this
  generalize ((((W.alloc (.cells #[.pointer none] 130)).alloc (.cells #[.bool false] 4)).alloc (.cells #[.pointer none] 130)).alloc (.cells #[.slice a len cap] 23)) = Wl at hB0 hI0 hsz hbk ⊢
  have HSZ := Lib.hid hsz
  refine wpIn_rangeFunc_ownH rfl (by omega) (gf := 99) (lb := #[.pointer (some ⟨W.heap.size + 1 + 1 + 1, 0, none⟩)]) rfl trivial (enters_of Tryz.func99 (by kernel_rfl) rfl)
    (backwardC_stops _ (by omega) (W.heap.size + 1 + 1 + 1) W.heap.size a len cap cs (by have := HL.out; omega) hlow Wl hB0.size (by rw [hsz]; omega) hbk (HN.out.keep hB0))
    (fun h k => ⟨h.1.trans k.1, k.2.trans h.2⟩)
    (fun W' l o o' hl _ _ _ => by
      rw [HSZ.out] at hl
      exact ⟨⟨rfl, rfl, rfl, by simp, fun k hk => World.putObj_heap_other (by omega)⟩, World.putObj_heap_other (by omega)⟩)
    (Below.refl _ _) (fun _ => rfl)
    (fun pre W' => EntI cs W.heap.size pre W' ∧ Below W.heap.size W W') (fun c pre W' => EntX cs W.heap.size c pre W' ∧ Below W.heap.size W W')
    (OwnFrom.and (Own.from (EntI.own cs W.heap.size) _) (ownFrom_below (Nat.le_refl _) hB0.size)) (fun c => OwnFrom.and (Own.from (EntX.own cs W.heap.size c) _) (ownFrom_below (Nat.le_refl _) hB0.size))
    ⟨hI0, hB0⟩
    (CmBox Wl.heap.size (fun Bx x => #[.slice a len cap, undef, .pointer (some ⟨W.heap.size, 0, none⟩), .pointer (some ⟨W.heap.size + 1, 0, none⟩), .pointer (some ⟨W.heap.size + 1 + 1, 0, none⟩), undef, .pointer (some ⟨Bx, 0, none⟩), .slice a len cap, .int .i64 len, .bool (decide ((20 : Int) < len)), .slice a len cap, .func (.func 99) #[] #[.pointer (some ⟨W.heap.size + 1 + 1 + 1, 0, none⟩)], .int .i64 x.i, cmdV x.n, undef, undef, undef, undef, undef, undef, undef, undef]))
    (fun x a' => Own.from (CmBox.own _ _ x a') _)
    ?assign ?body ?done ?stop
  case assign =>
    rintro l pre x W1 K ⟨hi1, hb1⟩ hK
    unfold cmdV
    gi_wp2
    obtain ⟨_, _, _, hb3, _, _, hle⟩ := id hi1
    exact hK _ _ ((KeepsOthers.alloc _ _).from _) ⟨(Below.refl _ _).alloc hb1.size _, Below.heap_alloc _ _ _ hle⟩ ⟨(EntI.own cs W.heap.size).alloc _ hi1, hb1.alloc hb1.size _⟩ ⟨W1.heap.size, by rw [HSZ.out]; exact hle, World.alloc_heap_new W1 _, rfl⟩
  case body =>
    rintro l pre x a' W1 hl ⟨r, hr⟩ ⟨hi1, hb1⟩ ⟨Bx, hBx, hbx, rfl⟩ hlt
    obtain ⟨p, g1, g2, g3, g4, g5, g6⟩ := hi1
    obtain ⟨i, c, hat⟩ := x
    obtain ⟨x, hx⟩ : ∃ x : EltC cs, x = ⟨i, c, hat⟩ := ⟨_, rfl⟩
    rw [← hx]
    have HX := Lib.hid (show x.i = i ∧ x.n = c by rw [hx]; exact ⟨rfl, rfl⟩)
    simp only at hbx
    dsimp only
    obtain ⟨vc, hvc⟩ : ∃ vc, validC c = vc := ⟨_, rfl⟩
    have HC := Lib.hid (fun W' => show Calls Tryz.prog 20 #[cmdV c] W' (BoolPost vc W') by rw [← hvc]; exact implCmdValid_c c (HS.out.at hat) W')
    have HVC := Lib.hid hvc
    have HBX := Lib.hid (And.intro hBx (Array.getElem?_eq_some_iff.1 hbx).1)
    have HG1 := Lib.hid g1
    have HG2 := Lib.hid g2
    have HG3 := Lib.hid g3
    have HG4 := Lib.hid g4
    have HG5 := Lib.hid g5
    have HB1 := Lib.hid hb1
    obtain ⟨hxi, hxn⟩ := HX.out
    simp only [hxi, hxn]
    obtain ⟨q, fk, fv, tk, tv⟩ := c
    have c0 : W1.cell? ⟨Bx, 0, none⟩ = some (.string q) := by simp [World.cell?, hbx]
    have c1 : W1.cell? ⟨Bx, 1, none⟩ = some (.int .i64 fk) := by simp [World.cell?, hbx]
    have c2 : W1.cell? ⟨Bx, 2, none⟩ = some (.int .i64 fv) := by simp [World.cell?, hbx]
    have c3 : W1.cell? ⟨Bx, 3, none⟩ = some (.int .i64 tk) := by simp [World.cell?, hbx]
    have c4 : W1.cell? ⟨Bx, 4, none⟩ = some (.int .i64 tv) := by simp [World.cell?, hbx]
    unfold cmdV at HC ⊢
    simp only at HC ⊢
    clear hx hbx hr g1 g2 g3 g4 g5 g6 hat hvc hb1 hlt hl hBx hbk hB0 hI0 hlow hxi hxn
    cases vc with
    | false =>
      gi_wp2_with (refine ⟨trivial, ?_⟩; gi_at_call 20; refine (CallsIn.inRound l (callsIn_wide.2 (HC.out _))).mono ?_; rintro e W2 ⟨rfl, hb2⟩; have G1 := box_keep HG1.out hb2; have G2 := box_keep HG2.out hb2; have s1 := G1.cell; have y1 := G1.frozen; have s2 := G2.cell; have y2 := G2.frozen; have HB2 := Lib.hid hb2; have HH1 := Lib.hid G1; have HH2 := Lib.hid G2; clear hb2 G1 G2)
      exact ent_stop (x := x) (by rw [HX.out.2]; exact HVC.out) HH1.out HH2.out HB1.out HB2.out
    | true =>
      gi_wp2_with (refine ⟨trivial, ?_⟩; gi_at_call 20; refine (CallsIn.inRound l (callsIn_wide.2 (HC.out _))).mono ?_; rintro e W2 ⟨rfl, hb2⟩; have G3 := box_keep HG3.out hb2; have s3 := G3.cell; have y3 := G3.frozen; have k0 := cell_kept hb2 c0; have k1 := cell_kept hb2 c1; have k2 := cell_kept hb2 c2; have k3 := cell_kept hb2 c3; have k4 := cell_kept hb2 c4; have z3 := G3.lt; have HB2 := Lib.hid hb2; have HH3 := Lib.hid G3; clear hb2 G3)
      have := ent_round (B := Wl.heap.size) (x := x) (by rw [HX.out.2]; exact HVC.out) HG1.out HG2.out HG3.out HG4.out HG5.out (by have h1 := HBX.out.1; have h2 := HBX.out.2; rw [HSZ.out] at h1; omega) HB1.out HB2.out
      rw [HX.out.2] at this
      exact this
  case done =>
    rintro D ys W' hD rfl ⟨⟨p, h1, h2, h3, h4, h5, h6⟩, hb⟩ hK
    have s1 := h1.cell
    have y1 := h1.frozen
    have s2 := h2.cell
    have y2 := h2.frozen
    have s3 := h3.cell
    have HV := Lib.hid (show validL cs = true by
      refine (validL_iff cs).2 ⟨fun c hc => ?_, by have := HE.out; have := HL.out; omega⟩
      have hm : c ∈ ((backEC cs cs.length (Nat.le_refl _)).map (fun x => x.n)).reverse := by rw [back_all]; exact hc
      obtain ⟨x, hx, rfl⟩ := List.mem_map.1 (List.mem_reverse.1 hm)
      exact h5 x hx)
    rw [back_all] at h4
    have H1 := Lib.hid h1
    have H2 := Lib.hid h2
    have H4 := Lib.hid h4
    have HB := Lib.hid hb
    clear h1 h2 h3 h4 h5 h6 hb hbk hB0 hI0 hlow
    gi_wp2
    have hK' := ((KeepsOthers.setCell W' ⟨W.heap.size, 0, none⟩ (.pointer p)).trans (KeepsOthers.setCell _ ⟨W.heap.size + 1, 0, none⟩ (.bool true))).same D _ hK rfl
    refine ⟨by simp, .inl ⟨_, _, rfl, run_takeDeferred hK', ?_⟩⟩
    have hD' : W.heap.size ≤ D := by rw [HSZ.out] at hD; omega
    have hx5 := _root_.Go.cell_kept ((H1.out.set (.pointer p)).other (B' := W.heap.size + 1) (by omega) (.bool true)).cell (grownBy_putObj' _ D (.deferred none)) (fun r e => by cases e; exact ⟨_, hK', rfl⟩)
    have hx6 := _root_.Go.cell_kept ((H2.out.other (B' := W.heap.size) (by omega) (.pointer p)).set (.bool true)).cell (grownBy_putObj' _ D (.deferred none)) (fun r e => by cases e; exact ⟨_, hK', rfl⟩)
    have hen := (((H4.out.set (p := ⟨W.heap.size, 0, none⟩) (by show W.heap.size < _; omega) (.pointer p)).set (p := ⟨W.heap.size + 1, 0, none⟩) (by show W.heap.size + 1 < _; omega) (.bool true)).own (grownBy_putObj' _ D (.deferred none)) (fun r e => by cases e; exact ⟨_, hK', rfl⟩)).low (C := W.heap.size) (by omega)
    refine ⟨.tuple #[.pointer p, .bool true], by simp [results, Tryz.f87, go_sem, hx5, hx6], ?_, .inr ⟨HV.out, p, rfl, hen⟩⟩
    exact (below_setCell (below_setCell HB.out _ _ (Nat.le_refl _)) _ _ (Nat.le_succ _)).trans ⟨rfl, rfl, rfl, by simp, fun k hk => World.putObj_heap_other (by omega)⟩
  case stop =>
    rintro D c pre W' hD hpre ⟨⟨rfl, ⟨x, hx, hvx⟩, q1, q2⟩, hb⟩ hK
    have HV := Lib.hid (validL_one x.at_ hvx)
    have hD' : W.heap.size ≤ D := by rw [HSZ.out] at hD; omega
    gi_wp2
    refine ⟨by simp, .inl ⟨_, _, rfl, run_takeDeferred hK, ?_⟩⟩
    have hx5 := _root_.Go.cell_kept q1.cell (grownBy_putObj' _ D (.deferred none)) (fun r e => by cases e; exact ⟨_, hK, rfl⟩)
    have hx6 := _root_.Go.cell_kept q2.cell (grownBy_putObj' _ D (.deferred none)) (fun r e => by cases e; exact ⟨_, hK, rfl⟩)
    refine ⟨.tuple #[.pointer none, .bool false], by simp [results, Tryz.f87, go_sem, hx5, hx6], ?_, .inl ⟨HV.out, rfl⟩⟩
    exact hb.trans ⟨rfl, rfl, rfl, by simp, fun k hk => World.putObj_heap_other (by omega)⟩

/-- impl.entriesOf, at every list. -/
theorem entriesOf_c (a : Option Addr) (len cap : Nat) (cs : List Cmd) (hs : ShortC 2097152 cs) (W : World) (hN : CmdsAt W a len cs) :
    Calls Tryz.prog 87 #[.slice a len cap] W (EntriesPost cs W) := by
  by_cases hl : len ≤ 20
  · exact callsIn_wide.1 (entriesOf_in a len cap cs hl hs W hN)
  · exact entriesOf_long a len cap cs (by omega) W hN

end Go.Proofs.YtohdpbalajjjiaaGreat

/-
  WALKS: impl.nodeQueue, nodesFrom, makingOf.
-/
namespace Go.Proofs.YtohdpbalajjjiaaGreat
open Go.RowKit
set_option linter.unusedVariables false

theorem NodesAt.kept {W W' : World} {row : Option Nat} {a : Option Addr} {len : Nat} {ns : List Nd} (h : NodesAt W a len ns) (hg : W.grownBy W' row) (hr : ∀ x, a = some x → len ≠ 0 → row ≠ some x.block) : NodesAt W' a len ns := by
  obtain ⟨h1, h0 | ⟨b, off, rfl, hc⟩⟩ := h
  · exact ⟨h1, .inl h0⟩
  · by_cases hl : len = 0
    · exact ⟨h1, .inl hl⟩
    · have hne : some b ≠ row := fun e => hr _ rfl hl e.symm
      exact ⟨h1, .inr ⟨b, off, rfl, fun i n hn => ⟨hg.cell (hc i n hn).1 hne, hg.cell (hc i n hn).2.1 hne, hg.cell (hc i n hn).2.2 hne⟩⟩⟩

theorem NodesAt.low {W : World} {a : Option Addr} {len : Nat} {ns : List Nd} (h : NodesAt W a len ns) (hl : len ≠ 0) : ∀ x, a = some x → x.block < W.heap.size := by
  intro x hx
  obtain ⟨b, off, n, rfl, _, hc, _⟩ := h.node (i := 0) (by omega)
  cases hx
  exact World.block_lt_of_cell? W _ hc

theorem grown_then {W W1 W2 : World} {row row2 : Option Nat} (h : W.grownBy W1 row) (k : W1.grownBy W2 row2) (hr : ∀ j, row2 = some j → W.heap.size ≤ j ∨ row = some j) : W.grownBy W2 row :=
  ⟨k.os.trans h.os, k.tape.trans h.tape, k.output.trans h.output, Nat.le_trans h.size k.size, fun i hi hne => (k.block i (Nat.lt_of_lt_of_le hi h.size) (fun e => (hr i e.symm).elim (fun h1 => absurd hi (Nat.not_lt.2 h1)) (fun h1 => hne h1.symm))).trans (h.block i hi hne)⟩

/-- What is left when the first node is taken. -/
theorem NodesAt.rest {W : World} {a : Option Addr} {len cap : Nat} {x : Nd} {r : List Nd} (h : NodesAt W a len (x :: r)) (hlc : len ≤ cap) :
    (cap = 1 → NodesAt W a (len - 1) r) ∧ NodesAt W (a.map fun y => y.add 3) (len - 1) r := by
  obtain ⟨h1, h2⟩ := h
  have hl : r.length = len - 1 := by rw [← h1]; simp
  refine ⟨fun e => ⟨hl, .inl (by omega)⟩, hl, ?_⟩
  rcases h2 with h0 | ⟨b, off, rfl, hc⟩
  · left; omega
  · right
    refine ⟨b, off + 3, by rw [Option.map_some, addr_addN], fun i n hn => ?_⟩
    have := hc (i + 1) n (by simpa using hn)
    rw [show off + 3 + i * 3 = off + (i + 1) * 3 by omega]
    exact this

theorem npair_results (fn : Func) (hf : fn.results = #[.cell 2 125, .tmp 3]) (W : World) (n : Nat) (p : ByteArray) (k v : Int) (b : Bool) (tmps : Array Value) (ht : tmps[2]? = some (.pointer (some ⟨n, 0, none⟩))) (hb : tmps[3]? = some (.bool b))
    (h : W.cell? ⟨n, 0, none⟩ = some (.string p) ∧ W.cell? ⟨n, 1, none⟩ = some (.int .i64 k) ∧ W.cell? ⟨n, 2, none⟩ = some (.int .i64 v)) : (results fn tmps).run Tryz.prog W = .ok (.tuple #[.agg #[.string p, .int .i64 k, .int .i64 v], .bool b]) W := by
  obtain ⟨c0, c1, c2⟩ := h
  simp [results, hf, go_sem, ht, hb, c0, c1, c2]

theorem three_cells (W : World) (x y z : Value) (t : TypeId) : (W.alloc (.cells #[x, y, z] t)).cell? ⟨W.heap.size, 0, none⟩ = some x ∧ (W.alloc (.cells #[x, y, z] t)).cell? ⟨W.heap.size, 1, none⟩ = some y ∧ (W.alloc (.cells #[x, y, z] t)).cell? ⟨W.heap.size, 2, none⟩ = some z ∧
    (W.alloc (.cells #[x, y, z] t)).frozen? ⟨W.heap.size, 0, none⟩ = false ∧ (W.alloc (.cells #[x, y, z] t)).frozen? ⟨W.heap.size, 1, none⟩ = false ∧ (W.alloc (.cells #[x, y, z] t)).frozen? ⟨W.heap.size, 2, none⟩ = false := by
  refine ⟨by rw [World.cell?_alloc_new]; rfl, by rw [World.cell?_alloc_new]; rfl, by rw [World.cell?_alloc_new]; rfl, ?_, ?_, ?_⟩
  all_goals (simp only [World.frozen?, World.alloc_heap_new]; rfl)

/-- impl.nodesFrom. -/
def fromL (ns : List Nd) (p : ByteArray) : List Nd := if validT ns = true ∧ p ≠ rootB then ns.filter (fun n => subB p n.p) else []

theorem fromL_yes {ns : List Nd} {p : ByteArray} (h : validT ns = true) (hr : p ≠ rootB) : fromL ns p = ns.filter (fun n => subB p n.p) := if_pos ⟨h, hr⟩
theorem fromL_no {ns : List Nd} {p : ByteArray} (h : validT ns = false ∨ p = rootB) : fromL ns p = [] := by
  unfold fromL
  rw [if_neg]
  rintro ⟨h1, h2⟩
  rcases h with h | h
  · rw [h] at h1; cases h1
  · exact h2 h
theorem fromL_len (ns : List Nd) (p : ByteArray) : (fromL ns p).length ≤ 10 := by
  unfold fromL
  split
  · rename_i h; exact filter_len10 h.1 _
  · exact Nat.zero_le _

def fromAcc (ns : List Nd) (p : ByteArray) (n : Nat) : List Nd := (ns.take n).filter (fun x => subB p x.p)

theorem fromAcc_yes {ns : List Nd} {p : ByteArray} {n : Nat} {x : Nd} (hn : ns[n]? = some x) (h : subB p x.p = true) : fromAcc ns p (n + 1) = fromAcc ns p n ++ [x] := by
  unfold fromAcc
  rw [List.take_add_one, hn]
  simp [h]
theorem fromAcc_no {ns : List Nd} {p : ByteArray} {n : Nat} {x : Nd} (hn : ns[n]? = some x) (h : subB p x.p = false) : fromAcc ns p (n + 1) = fromAcc ns p n := by
  unfold fromAcc
  rw [List.take_add_one, hn]
  simp [h]
theorem fromAcc_len {ns : List Nd} (hv : validT ns = true) (p : ByteArray) (n : Nat) : (fromAcc ns p n).length ≤ 10 := by
  unfold fromAcc
  exact Nat.le_trans (List.length_filter_le _ _) (Nat.le_trans (by rw [List.length_take]; omega) ((validT_iff ns).1 hv).2.2)

/-- A list of nodes that the call has made. -/
def FromPost (l : List Nd) (W : World) (e : Ending) (w' : World) : Prop := OwnsNodes W.heap.size l e w' ∧ Below W.heap.size W w'

/-- A node in a block of its own. -/
def NBox (W : World) (c : Nat) (x : Nd) : Prop := W.heap[c]? = some (.cells #[.string x.p, .int .i64 x.k, .int .i64 x.v] 125 (0, 0))

theorem NBox.cells {W : World} {c : Nat} {x : Nd} (h : NBox W c x) : W.cell? ⟨c, 0, none⟩ = some (.string x.p) ∧ W.cell? ⟨c, 1, none⟩ = some (.int .i64 x.k) ∧ W.cell? ⟨c, 2, none⟩ = some (.int .i64 x.v) ∧ W.frozen? ⟨c, 0, none⟩ = false ∧ W.frozen? ⟨c, 1, none⟩ = false ∧ W.frozen? ⟨c, 2, none⟩ = false := by
  unfold NBox at h
  simp [World.cell?, World.frozen?, h]
theorem NBox.lt {W : World} {c : Nat} {x : Nd} (h : NBox W c x) : c < W.heap.size := (Array.getElem?_eq_some_iff.1 h).1
theorem NBox.kept {W W' : World} {row : Option Nat} {c : Nat} {x : Nd} (h : NBox W c x) (hg : W.grownBy W' row) (hne : some c ≠ row) : NBox W' c x := (hg.block c h.lt hne).trans h
theorem NBox.keep {W W' : World} {c : Nat} {x : Nd} (h : NBox W c x) (hb : Below W.heap.size W W') : NBox W' c x := (hb.block c h.lt).trans h
theorem NBox.new (W : World) (x : Nd) : NBox (W.alloc (.cells #[.string x.p, .int .i64 x.k, .int .i64 x.v] 125)) W.heap.size x := World.alloc_heap_new W _
theorem NBox.far {W : World} {c base n : Nat} {x : Nd} {v : Value} {xs : List Value} (h : NBox W c x) (ho : W.ownsRow base 33 5 v n xs) : some c ≠ v.ownBlock := by
  rcases ho.2 with ⟨rfl, _⟩ | ⟨g, cap, cur, rfl, _, q2, _⟩
  · simp [Value.ownBlock]
  · intro e
    simp [Value.ownBlock] at e
    subst e
    unfold NBox at h
    rw [h] at q2
    cases q2
theorem NBox.put {W : World} {c : Nat} {x : Nd} (y : Nd) (h : NBox W c x) : NBox (((W.setCell ⟨c, 0, none⟩ (.string y.p)).setCell ⟨c, 1, none⟩ (.int .i64 y.k)).setCell ⟨c, 2, none⟩ (.int .i64 y.v)) c y := by
  unfold NBox at h ⊢
  simp [World.setCell, h, Array.getElem?_modify]

/-- What makingOf makes of nodes. -/
def mkL (p b : ByteArray) (l : List Nd) : List Cmd := l.map (fun n => ⟨cpB p b n.p, 0, 0, n.k, n.v⟩)

theorem mkL_snoc (p b : ByteArray) (l : List Nd) (x : Nd) : mkL p b (l ++ [x]) = mkL p b l ++ [⟨cpB p b x.p, 0, 0, x.k, x.v⟩] := by unfold mkL; rw [List.map_append]; rfl
theorem mkL_from (ns : List Nd) (p b : ByteArray) : mkL p b (fromL ns p) = makeL ns p b := by
  unfold fromL makeL
  split
  · rfl
  · rfl

theorem fromL_sub {ns : List Nd} {p : ByteArray} {x : Nd} (h : x ∈ fromL ns p) : p.size ≤ x.p.size ∧ ((x.p.extract 0 p.size).toList == p.toList) = true ∧ x.p.size ≤ 8 := by
  unfold fromL at h
  split at h
  · rename_i hc
    obtain ⟨hm, hs⟩ := List.mem_filter.1 h
    obtain ⟨h1, h2⟩ := sub_prefix hc.2 hs
    exact ⟨h1, h2, vpSize (good_path hc.1 hm).2⟩
  · cases h

/-- How many nodes a queue has. -/
def leftAt (W : World) (B : Nat) : Nat := match W.cell? ⟨B, 0, none⟩ with
  | some (.slice _ n _) => n
  | _ => 0

def moreOf : Value → Nat
  | .bool true => 1
  | _ => 0

end Go.Proofs.YtohdpbalajjjiaaGreat

/-
  WALKS: the program's heap of commands: impl.ends, canonHeap.Len, Less, Swap, Push, Pop.
-/
namespace Go.Proofs.YtohdpbalajjjiaaGreat
open Go.RowKit
set_option linter.unusedVariables false

/-- Every seat has it: what stands ahead of the first declaration goes with it. -/
theorem hc_first : (0 : Nat) ≤ 0 := Nat.le_refl 0

set_option maxHeartbeats 1000000 in
set_option maxRecDepth 100000 in
theorem implEnds_c (c : Cmd) (W : World) : Calls Tryz.prog 144 #[cmdV c] W (BoolPost (endsC c) W) := by
  obtain ⟨p, fk, fv, tk, tv⟩ := c
  unfold cmdV
  have HB := Lib.hid (below_box W (.cells #[.string p, .int .i64 fk, .int .i64 fv, .int .i64 tk, .int .i64 tv] 33))
  simp only
  by_cases h : tk = 0
  · subst h
    go_enter Tryz.func144, Tryz.ntmps144
    go_wp2
    go_ret
    exact ⟨ret_bool (by unfold endsC; simp), HB.out⟩
  · have h0 : (tk == 0) = false := beq_eq_false_iff_ne.2 h
    by_cases h1 : fk = 1
    · subst h1
      go_enter Tryz.func144, Tryz.ntmps144
      go_wp2
      go_ret
      exact ⟨ret_bool (by unfold endsC; simp), HB.out⟩
    · have h2 : (fk == 1) = false := beq_eq_false_iff_ne.2 h1
      have HX := Lib.hid (show endsC ⟨p, fk, fv, tk, tv⟩ = false by unfold endsC; simp [h0, h2])
      clear h h1
      go_enter Tryz.func144, Tryz.ntmps144
      go_wp2
      go_ret
      exact ⟨ret_bool HX.out.symm, HB.out⟩

theorem heapLen_c (a : Option Addr) (len cap : Nat) (W : World) : Calls Tryz.prog 89 #[.slice a len cap] W (fun e w' => e = .returned (.int .i64 len) ∧ w' = W) := by
  go_enter Tryz.func89, Tryz.ntmps89
  go_wp2
  go_ret
  exact ⟨rfl, rfl⟩

/-- Two commands of a list, read. -/
def TwoAt (w' : World) (b i j : Nat) (c d : Cmd) : Prop :=
  w'.cell? ⟨b, i, none⟩ = some (.string c.p) ∧ w'.cell? ⟨b, i + 1, none⟩ = some (.int .i64 c.fk) ∧ w'.cell? ⟨b, i + 2, none⟩ = some (.int .i64 c.fv) ∧ w'.cell? ⟨b, i + 3, none⟩ = some (.int .i64 c.tk) ∧ w'.cell? ⟨b, i + 4, none⟩ = some (.int .i64 c.tv) ∧
  w'.cell? ⟨b, j, none⟩ = some (.string d.p) ∧ w'.cell? ⟨b, j + 1, none⟩ = some (.int .i64 d.fk) ∧ w'.cell? ⟨b, j + 2, none⟩ = some (.int .i64 d.fv) ∧ w'.cell? ⟨b, j + 3, none⟩ = some (.int .i64 d.tk) ∧ w'.cell? ⟨b, j + 4, none⟩ = some (.int .i64 d.tv)

theorem TwoAt.keep {W W' : World} {b i j : Nat} {c d : Cmd} (h : TwoAt W b i j c d) (hb : Below W.heap.size W W') : TwoAt W' b i j c d := by
  obtain ⟨a0, a1, a2, a3, a4, b0, b1, b2, b3, b4⟩ := h
  exact ⟨cell_kept hb a0, cell_kept hb a1, cell_kept hb a2, cell_kept hb a3, cell_kept hb a4, cell_kept hb b0, cell_kept hb b1, cell_kept hb b2, cell_kept hb b3, cell_kept hb b4⟩

set_option maxHeartbeats 4000000 in
set_option maxRecDepth 100000 in
theorem heapLess_c (a : Option Addr) (len cap : Nat) (zs : List Cmd) (i j : Nat) (hi : i < len) (hj : j < len) (hl : len ≤ 2097152) (W : World) (hC : CmdsAt W a len zs) :
    Calls Tryz.prog 142 #[.slice a len cap, .int .i64 i, .int .i64 j] W (BoolPost (befC (atK zs i) (atK zs j)) W) := by
  obtain ⟨b, off, c, rfl, hc, c0, c1, c2, c3, c4⟩ := hC.node hi
  obtain ⟨b', off', d, e, hd, d0, d1, d2, d3, d4⟩ := hC.node hj
  cases e
  rw [atK_of hc, atK_of hd]
  have T0 := Lib.hid (show TwoAt W b (off + i * 5) (off + j * 5) c d from ⟨c0, c1, c2, c3, c4, d0, d1, d2, d3, d4⟩)
  obtain ⟨ec, hec⟩ : ∃ e, endsC c = e := ⟨_, rfl⟩
  obtain ⟨ed, hed⟩ : ∃ e, endsC d = e := ⟨_, rfl⟩
  have HC := Lib.hid (fun w => show Calls Tryz.prog 144 #[cmdV c] w (BoolPost ec w) by rw [← hec]; exact implEnds_c c w)
  have HD := Lib.hid (fun w => show Calls Tryz.prog 144 #[cmdV d] w (BoolPost ed w) by rw [← hed]; exact implEnds_c d w)
  have HR := Lib.hid (bef_cases c d)
  rw [hec, hed] at HR
  have hi' : (i : Int) < len := by omega
  have hj' : (j : Int) < len := by omega
  clear hec hed hC hc hd c0 c1 c2 c3 c4 d0 d1 d2 d3 d4 hi hj
  obtain ⟨p, fk, fv, tk, tv⟩ := c
  obtain ⟨p', fk', fv', tk', tv'⟩ := d
  unfold cmdV at HC HD
  unfold TwoAt at T0
  simp only at HC HD HR T0
  go_enter Tryz.func142, Tryz.ntmps142
  go_upto_region 1 with (fail)
  have HS0 : Hid (W.drew.cell? ⟨b, off + i * 5, none⟩ = some (.string p) ∧ W.drew.cell? ⟨b, off + i * 5 + 1, none⟩ = some (.int .i64 fk) ∧ W.drew.cell? ⟨b, off + i * 5 + 2, none⟩ = some (.int .i64 fv) ∧ W.drew.cell? ⟨b, off + i * 5 + 3, none⟩ = some (.int .i64 tk) ∧ W.drew.cell? ⟨b, off + i * 5 + 4, none⟩ = some (.int .i64 tv) ∧ W.drew.cell? ⟨b, off + j * 5, none⟩ = some (.string p') ∧ W.drew.cell? ⟨b, off + j * 5 + 1, none⟩ = some (.int .i64 fk') ∧ W.drew.cell? ⟨b, off + j * 5 + 2, none⟩ = some (.int .i64 fv') ∧ W.drew.cell? ⟨b, off + j * 5 + 3, none⟩ = some (.int .i64 tk') ∧ W.drew.cell? ⟨b, off + j * 5 + 4, none⟩ = some (.int .i64 tv') ∧ Below W.heap.size W W.drew) := by
    obtain ⟨a0, a1, a2, a3, a4, b0, b1, b2, b3, b4⟩ := T0.out
    exact ⟨a0, a1, a2, a3, a4, b0, b1, b2, b3, b4, (Below.refl _ _).drew⟩
  have HKP : Hid (∀ w1 w2 : World, (w1.cell? ⟨b, off + i * 5, none⟩ = some (.string p) ∧ w1.cell? ⟨b, off + i * 5 + 1, none⟩ = some (.int .i64 fk) ∧ w1.cell? ⟨b, off + i * 5 + 2, none⟩ = some (.int .i64 fv) ∧ w1.cell? ⟨b, off + i * 5 + 3, none⟩ = some (.int .i64 tk) ∧ w1.cell? ⟨b, off + i * 5 + 4, none⟩ = some (.int .i64 tv) ∧ w1.cell? ⟨b, off + j * 5, none⟩ = some (.string p') ∧ w1.cell? ⟨b, off + j * 5 + 1, none⟩ = some (.int .i64 fk') ∧ w1.cell? ⟨b, off + j * 5 + 2, none⟩ = some (.int .i64 fv') ∧ w1.cell? ⟨b, off + j * 5 + 3, none⟩ = some (.int .i64 tk') ∧ w1.cell? ⟨b, off + j * 5 + 4, none⟩ = some (.int .i64 tv') ∧ Below W.heap.size W w1) → Below w1.heap.size w1 w2 → (w2.cell? ⟨b, off + i * 5, none⟩ = some (.string p) ∧ w2.cell? ⟨b, off + i * 5 + 1, none⟩ = some (.int .i64 fk) ∧ w2.cell? ⟨b, off + i * 5 + 2, none⟩ = some (.int .i64 fv) ∧ w2.cell? ⟨b, off + i * 5 + 3, none⟩ = some (.int .i64 tk) ∧ w2.cell? ⟨b, off + i * 5 + 4, none⟩ = some (.int .i64 tv) ∧ w2.cell? ⟨b, off + j * 5, none⟩ = some (.string p') ∧ w2.cell? ⟨b, off + j * 5 + 1, none⟩ = some (.int .i64 fk') ∧ w2.cell? ⟨b, off + j * 5 + 2, none⟩ = some (.int .i64 fv') ∧ w2.cell? ⟨b, off + j * 5 + 3, none⟩ = some (.int .i64 tk') ∧ w2.cell? ⟨b, off + j * 5 + 4, none⟩ = some (.int .i64 tv') ∧ Below W.heap.size W w2)) := by
    rintro w1 w2 ⟨a0, a1, a2, a3, a4, b0, b1, b2, b3, b4, hb⟩ h
    exact ⟨cell_kept h a0, cell_kept h a1, cell_kept h a2, cell_kept h a3, cell_kept h a4, cell_kept h b0, cell_kept h b1, cell_kept h b2, cell_kept h b3, cell_kept h b4, below_next hb h⟩
  go_region_held3 (fun w' => w'.cell? ⟨b, off + i * 5, none⟩ = some (.string p) ∧ w'.cell? ⟨b, off + i * 5 + 1, none⟩ = some (.int .i64 fk) ∧ w'.cell? ⟨b, off + i * 5 + 2, none⟩ = some (.int .i64 fv) ∧ w'.cell? ⟨b, off + i * 5 + 3, none⟩ = some (.int .i64 tk) ∧ w'.cell? ⟨b, off + i * 5 + 4, none⟩ = some (.int .i64 tv) ∧ w'.cell? ⟨b, off + j * 5, none⟩ = some (.string p') ∧ w'.cell? ⟨b, off + j * 5 + 1, none⟩ = some (.int .i64 fk') ∧ w'.cell? ⟨b, off + j * 5 + 2, none⟩ = some (.int .i64 fv') ∧ w'.cell? ⟨b, off + j * 5 + 3, none⟩ = some (.int .i64 tk') ∧ w'.cell? ⟨b, off + j * 5 + 4, none⟩ = some (.int .i64 tv') ∧ Below W.heap.size W w')
    (first | exact HS0.out | exact HKP.out _ _ HS0.out hb5 | exact HKP.out _ _ (by assumption) hb5)
    (first | (go_at_call 144; (with_reducible refine (HC.out _).mono ?_); rintro e W5 ⟨rfl, hb5⟩) | (go_at_call 144; (with_reducible refine (HD.out _).mono ?_); rintro e W5 ⟨rfl, hb5⟩))
  all_goals
    rename_i hS
    obtain ⟨a0, a1, a2, a3, a4, b0, b1, b2, b3, b4, hB⟩ := hS
    have HB := Lib.hid hB
    clear T0 HS0 HKP hB
    cases ec <;> cases ed
    · go_wp2_with (go_at_call 144; (with_reducible refine (HC.out _).mono ?_); rintro e W6 ⟨rfl, hb6⟩; replace a0 := cell_kept hb6 a0; replace b0 := cell_kept hb6 b0; have HB6 := Lib.hid (below_next HB.out hb6); clear hb6)
      go_quiet (fail)
      go_wp2
      go_ret
      exact ⟨ret_bool HR.out.symm, below_drewN HB6.out _⟩
    · go_wp2_with (go_at_call 144; (with_reducible refine (HC.out _).mono ?_); rintro e W6 ⟨rfl, hb6⟩; have HB6 := Lib.hid (below_next HB.out hb6); clear hb6)
      go_ret
      exact ⟨ret_bool HR.out.symm, HB6.out⟩
    · go_wp2_with (go_at_call 144; (with_reducible refine (HC.out _).mono ?_); rintro e W6 ⟨rfl, hb6⟩; have HB6 := Lib.hid (below_next HB.out hb6); clear hb6)
      go_ret
      exact ⟨ret_bool HR.out.symm, HB6.out⟩
    · go_wp2_with (go_at_call 144; (with_reducible refine (HC.out _).mono ?_); rintro e W6 ⟨rfl, hb6⟩; replace a0 := cell_kept hb6 a0; replace b0 := cell_kept hb6 b0; have HB6 := Lib.hid (below_next HB.out hb6); clear hb6)
      go_quiet (fail)
      go_wp2
      go_ret
      exact ⟨ret_bool ((gtr_eq p p').trans HR.out.symm), below_drewN HB6.out _⟩

theorem hp_cells {W : World} {base : Nat} {e : TypeId} {g n cap : Nat} {zs : List Cmd} (h : W.ownsRow base e 5 (.slice (some ⟨g, 0, none⟩) n cap) n (flatC zs)) {i : Nat} (hi : i < zs.length) (hn : n = zs.length) :
    W.cell? ⟨g, i * 5, none⟩ = some (.string (atK zs i).p) ∧ W.cell? ⟨g, i * 5 + 1, none⟩ = some (.int .i64 (atK zs i).fk) ∧ W.cell? ⟨g, i * 5 + 2, none⟩ = some (.int .i64 (atK zs i).fv) ∧ W.cell? ⟨g, i * 5 + 3, none⟩ = some (.int .i64 (atK zs i).tk) ∧ W.cell? ⟨g, i * 5 + 4, none⟩ = some (.int .i64 (atK zs i).tv) := by
  obtain ⟨f0, f1, f2, f3, f4⟩ := flatC_get zs i (atK zs i) (atK_get hi)
  refine ⟨?_, ?_, ?_, ?_, ?_⟩
  · rw [h.cellAt (i * 5) (by omega)]; exact f0
  · rw [h.cellAt (i * 5 + 1) (by omega)]; exact f1
  · rw [h.cellAt (i * 5 + 2) (by omega)]; exact f2
  · rw [h.cellAt (i * 5 + 3) (by omega)]; exact f3
  · rw [h.cellAt (i * 5 + 4) (by omega)]; exact f4

theorem row_frozen {W : World} {base : Nat} {e : TypeId} {g n m cap : Nat} {xs : List Value} (h : W.ownsRow base e 5 (.slice (some ⟨g, 0, none⟩) m cap) n xs) (o : Nat) : W.frozen? ⟨g, o, none⟩ = false := by
  rcases h.2 with ⟨h1, _⟩ | ⟨g', cap', cur, h1, _, h2, _⟩
  · cases h1
  · cases h1
    simp only [World.frozen?, h2]
    rfl

def SwapPost (base g n cap : Nat) (zs : List Cmd) (i j : Nat) (W : World) (e : Ending) (w' : World) : Prop :=
  e = .returned (.tuple #[]) ∧ w'.ownsRow base 33 5 (.slice (some ⟨g, 0, none⟩) n cap) n (flatC (swapK zs i j)) ∧ W.grownBy w' (some g)

theorem row_drew {W : World} {base : Nat} {e : TypeId} {size n : Nat} {v : Value} {xs : List Value} (h : W.ownsRow base e size v n xs) : W.drew.ownsRow base e size v n xs := h
theorem grown_drew {W W' : World} {row : Option Nat} (h : W.grownBy W' row) : W.grownBy W'.drew row := ⟨h.os, h.tape, h.output, h.size, h.block⟩

theorem swap_end {base g n cap : Nat} {zs : List Cmd} {i j : Nat} {W : World} (fn : Func) (hf : fn.results = #[]) (tmps : Array Value) (h : W.ownsRow base 33 5 (.slice (some ⟨g, 0, none⟩) n cap) n (flatC zs)) (hi : i < zs.length) (hj : j < zs.length) :
    bodyPost Tryz.prog fn (SwapPost base g n cap zs i j W) .normal ⟨tmps, []⟩ (set5 (set5 W g (i * 5) (atK zs j)) g (j * 5) (atK zs i)).drew :=
  bodyPost_end (v := .tuple #[]) (by simp [results, hf, go_sem]) rfl ⟨rfl, row_drew (own_swap5 h hi hj), by
    have h1 := grown_set5 W g (i * 5) (atK zs j)
    have h2 := grown_set5 (set5 W g (i * 5) (atK zs j)) g (j * 5) (atK zs i)
    exact grown_drew (grown_then h1 h2 (fun k e => .inr e))⟩

set_option maxHeartbeats 4000000 in
set_option maxRecDepth 100000 in
theorem heapSwap_c (base g n cap : Nat) (zs : List Cmd) (i j : Nat) (hn : n = zs.length) (hi : i < n) (hj : j < n) (hl : n ≤ 2097152) (W : World) (ho : W.ownsRow base 33 5 (.slice (some ⟨g, 0, none⟩) n cap) n (flatC zs)) :
    Calls Tryz.prog 143 #[.slice (some ⟨g, 0, none⟩) n cap, .int .i64 i, .int .i64 j] W (SwapPost base g n cap zs i j W) := by
  obtain ⟨c0, c1, c2, c3, c4⟩ := hp_cells ho (i := i) (by omega) hn
  obtain ⟨d0, d1, d2, d3, d4⟩ := hp_cells ho (i := j) (by omega) hn
  have HF := Lib.hid (fun o => row_frozen ho o)
  have HO := Lib.hid ho
  have HI := Lib.hid (show i < zs.length ∧ j < zs.length from ⟨by omega, by omega⟩)
  have hi' : (i : Int) < n := by omega
  have hj' : (j : Int) < n := by omega
  obtain ⟨ci, hci⟩ : ∃ c, atK zs i = c := ⟨_, rfl⟩
  obtain ⟨cj, hcj⟩ : ∃ c, atK zs j = c := ⟨_, rfl⟩
  have HCI := Lib.hid (And.intro hci hcj)
  rw [hci] at c0 c1 c2 c3 c4
  rw [hcj] at d0 d1 d2 d3 d4
  have hr1 := own_set5 ho (i := i) (by omega) cj
  have hr1l : n = (zs.set i cj).length := by simpa using hn
  obtain ⟨x0, x1, x2, x3, x4⟩ := hp_cells hr1 (i := j) (by omega) hr1l
  obtain ⟨cx, hcx⟩ : ∃ c, atK (zs.set i cj) j = c := ⟨_, rfl⟩
  rw [hcx] at x0 x1 x2 x3 x4
  unfold set5 at x0 x1 x2 x3 x4
  clear hci hcj hi hj hn ho hr1 hr1l hcx
  have f0 := fun o => HF.out o
  go_enter Tryz.func143, Tryz.ntmps143
  go_wp2
  go_region
  all_goals
    rw [← HCI.out.1, ← HCI.out.2]
    exact swap_end _ rfl _ HO.out HI.out.1 HI.out.2

/-- Blocks that are no rows of cells stand. -/
def KeptM (W w' : World) : Prop := ∀ (i : Nat) (o : Obj), W.heap[i]? = some o → o.isCells = false → w'.heap[i]? = some o

theorem KeptM.trans {A B C : World} (h : KeptM A B) (k : KeptM B C) : KeptM A C := fun i o hi ho => k i o (h i o hi ho) ho

theorem KeptM.grown {W w' : World} {row : Option Nat} (hg : W.grownBy w' row) (hr : ∀ r o, row = some r → W.heap[r]? = some o → o.isCells = true) : KeptM W w' := fun i o hi ho => by
  refine (hg.block i (Array.getElem?_eq_some_iff.1 hi).1 (fun e => ?_)).trans hi
  rw [hr i o e.symm hi] at ho
  cases ho

theorem KeptM.below {W w' : World} (hb : Below W.heap.size W w') : KeptM W w' := fun i o hi ho => (hb.block i (Array.getElem?_eq_some_iff.1 hi).1).trans hi

theorem row_cells {W : World} {base : Nat} {e : TypeId} {size n : Nat} {v : Value} {xs : List Value} (h : W.ownsRow base e size v n xs) : ∀ r o, v.ownBlock = some r → W.heap[r]? = some o → o.isCells = true := by
  intro r o hr ho
  rcases h.2 with ⟨rfl, _⟩ | ⟨g, cap, cur, rfl, _, h2, _⟩
  · cases hr
  · simp [Value.ownBlock] at hr
    subst hr
    rw [h2] at ho
    cases ho
    rfl

/-- A heap of commands: its box, and its row. -/
structure HpAt (W : World) (B base : Nat) (v : Value) (zs : List Cmd) : Prop where
  box : Boxed W B 111 v
  row : W.ownsRow base 33 5 v zs.length (flatC zs)
  lt : B < base

theorem HpAt.far {W : World} {B base : Nat} {v : Value} {zs : List Cmd} (h : HpAt W B base v zs) : some B ≠ v.ownBlock := fun e => by
  have h1 := (h.row.lt B e.symm).1
  have h2 := h.lt
  omega

theorem HpAt.keep {W W' : World} {B base : Nat} {v : Value} {zs : List Cmd} (h : HpAt W B base v zs) (hb : Below W.heap.size W W') : HpAt W' B base v zs :=
  ⟨box_keep h.box hb, own_below h.row hb, h.lt⟩

/-- What is left when a command has been put behind. -/
def PushM (B base : Nat) (zs : List Cmd) (c : Cmd) (W : World) (e : Ending) (w' : World) : Prop :=
  e = .returned (.tuple #[]) ∧ ∃ v', HpAt w' B base v' (zs ++ [c]) ∧ Below B W w' ∧ KeptM W w'

theorem pushM_end {B base : Nat} {v : Value} {zs : List Cmd} {c : Cmd} {W w4 : World} {g4 c4 : Nat} {o : Obj} (fn : Func) (hf : fn.results = #[]) (tmps : Array Value) (h : HpAt W B base v zs)
    (hg4 : (W.alloc o).drew.grownBy w4 v.ownBlock) (ho4 : w4.ownsRow base 33 5 (.slice (some ⟨g4, 0, none⟩) (zs.length + 1) c4) (zs.length + 1) (flatC zs ++ [.string c.p, .int .i64 c.fk, .int .i64 c.fv, .int .i64 c.tk, .int .i64 c.tv])) :
    bodyPost Tryz.prog fn (PushM B base zs c W) .normal ⟨tmps, []⟩ (w4.setCell ⟨B, 0, none⟩ (.slice (some ⟨g4, 0, none⟩) (zs.length + 1) c4)) := by
  have hlt := h.lt
  have hBl := h.box.lt
  have hbx4 : Boxed w4 B 111 v := (show Boxed (W.alloc o).drew B 111 v from h.box.alloc o).kept hg4 h.far
  have hr1 : (W.alloc o).drew.ownsRow base 33 5 v zs.length (flatC zs) := row_drew (own_below h.row (below_box W o))
  have hk1 : KeptM W (W.alloc o).drew := KeptM.below ((below_box W o).drew)
  refine bodyPost_end (v := .tuple #[]) (by simp [results, hf, go_sem]) rfl ⟨rfl, _, ⟨hbx4.set _, ?_, hlt⟩, ?_, ?_⟩
  · have := own_pushC c (ownsRow_setCell_below ho4 (a := ⟨B, 0, none⟩) (show B < base from hlt) (.slice (some ⟨g4, 0, none⟩) (zs.length + 1) c4))
    rw [List.length_append]
    rw [List.length_append] at this
    exact this
  · have h1 : Below B W (W.alloc o).drew := (((Below.refl B W)).alloc (by omega) o).drew
    exact below_setCell (h1.grown hg4 (by have := h1.size; omega) (fun k e => by have := (hr1.lt k e).1; omega)) _ _ (Nat.le_refl _)
  · refine (hk1.trans (KeptM.grown hg4 (row_cells hr1))).trans (KeptM.grown (grownBy_setCell_at w4 B 0 _) (fun r x e hx => ?_))
    cases e
    rw [show w4.heap[B]? = _ from hbx4] at hx
    cases hx
    rfl

theorem ta_cmd (p : ByteArray) (fk fv tk tv : Int) (W : World) : (Instr.typeAssert (.iface 33 (.agg #[.string p, .int .i64 fk, .int .i64 fv, .int .i64 tk, .int .i64 tv])) 20 33 false).run Tryz.prog W = .ok (.agg #[.string p, .int .i64 fk, .int .i64 fv, .int .i64 tk, .int .i64 tv]) W := by kernel_rfl

set_option maxHeartbeats 1000000 in
set_option maxRecDepth 100000 in
theorem heapPushM_c (B base : Nat) (v : Value) (zs : List Cmd) (c : Cmd) (hl : zs.length ≤ 2000000) (W : World) (hle : base ≤ W.heap.size) (h : HpAt W B base v zs) :
    Calls Tryz.prog 146 #[.pointer (some ⟨B, 0, none⟩), .iface 33 (cmdV c)] W (PushM B base zs c W) := by
  obtain ⟨i0, hi, hz0, hz1, hz2⟩ := info_parts infoCmd
  have HH := Lib.hid h
  have b0 := h.box.cell
  have f0 := h.box.frozen
  have hBl := h.box.lt
  obtain ⟨p, fk, fv, tk, tv⟩ := c
  unfold cmdV
  simp only
  have HROW := Lib.hid (show ((W.alloc (.cells #[.string p, .int .i64 fk, .int .i64 fv, .int .i64 tk, .int .i64 tv] 33)).drew).ownsRow base 33 5 v zs.length (flatC zs) from row_drew (own_below h.row (below_box W _)))
  have HCEL := Lib.hid (show ∀ j u, [Value.string p, .int .i64 fk, .int .i64 fv, .int .i64 tk, .int .i64 tv][j]? = some u → ((W.alloc (.cells #[.string p, .int .i64 fk, .int .i64 fv, .int .i64 tk, .int .i64 tv] 33)).drew).cell? ((⟨W.heap.size, 0, none⟩ : Addr).add j) = some u from cell_five_new W _ _ _ _ _ _)
  have HMX := Lib.hid (show zs.length + 1 ≤ maxLen ∧ (zs.length + 1) * 48 ≤ 140737488355328 by unfold maxLen; exact ⟨by omega, by omega⟩)
  have HBS := Lib.hid (show base ≤ ((W.alloc (.cells #[.string p, .int .i64 fk, .int .i64 fv, .int .i64 tk, .int .i64 tv] 33)).drew).heap.size by show base ≤ (W.alloc _).heap.size; rw [World.size_alloc]; omega)
  have HBX := Lib.hid (show Boxed ((W.alloc (.cells #[.string p, .int .i64 fk, .int .i64 fv, .int .i64 tk, .int .i64 tv] 33)).drew) B 111 v from h.box.alloc _)
  have HNE := Lib.hid h.far
  have hbxA : (W.alloc (.cells #[.string p, .int .i64 fk, .int .i64 fv, .int .i64 tk, .int .i64 tv] 33)).cell? ⟨B, 0, none⟩ = some v := (h.box.alloc _).cell
  clear hl hBl h hle
  have ta := fun W => ta_cmd p fk fv tk tv W
  go_enter Tryz.func146, Tryz.ntmps146
  go_region_law (rw [if_pos (by rfl)]; refine wp_append_own _ _ _ 111 rfl base 33 i0 (.agg #[.string ⟨#[]⟩, .int .i64 0, .int .i64 0, .int .i64 0, .int .i64 0]) 5 48 Tryz.underlying111 hi hz0 hz1 hz2 rfl (by decide) _ _ _ rfl HROW.out ⟨W.heap.size, 0, none⟩ 1 1 [.string p, .int .i64 fk, .int .i64 fv, .int .i64 tk, .int .i64 tv] rfl rfl HCEL.out (by simp [Value.oneCell']) HMX.out.1 HMX.out.2 HBS.out ?_; intro v4 w4 ho4 hg4 hn4; obtain ⟨g4, c4, rfl⟩ := ownsRow_succ ho4; have hbx4 := (HBX.out.kept hg4 HNE.out).cell; have hbf4 := (HBX.out.kept hg4 HNE.out).frozen)
  all_goals
    exact pushM_end (c := ⟨p, fk, fv, tk, tv⟩) _ rfl _ HH.out hg4 ho4

/-- What is left when the last command has been taken. -/
def PopM (B base g n cap : Nat) (zs : List Cmd) (W : World) (e : Ending) (w' : World) : Prop :=
  e = .returned (.iface 33 (cmdV (atK zs n))) ∧ HpAt w' B base (.slice (some ⟨g, 0, none⟩) n cap) (zs.take n) ∧ W.grownBy w' (some B)

theorem HpAt.top {W : World} {B base n : Nat} {v : Value} {zs : List Cmd} (h : HpAt W B base v zs) (hn : zs.length = n + 1) : ∃ g cap, v = .slice (some ⟨g, 0, none⟩) (n + 1) cap ∧ n + 1 ≤ cap ∧ cap ≤ maxLen ∧ base ≤ g ∧ g < W.heap.size := by
  have hr := h.row
  rw [hn] at hr
  rcases hr.2 with ⟨_, h0⟩ | ⟨g, cap, cur, rfl, h1, h2, h3, h4, _⟩
  · omega
  · exact ⟨g, cap, rfl, h3, h4, h1, (Array.getElem?_eq_some_iff.1 h2).1⟩

theorem popM_end {B base g n cap : Nat} {zs : List Cmd} {W : World} {o : Obj} (hn : zs.length = n + 1) (h : HpAt W B base (.slice (some ⟨g, 0, none⟩) (n + 1) cap) zs) :
    HpAt ((W.setCell ⟨B, 0, none⟩ (.slice (some ⟨g, 0, none⟩) n cap)).alloc o) B base (.slice (some ⟨g, 0, none⟩) n cap) (zs.take n) ∧ W.grownBy ((W.setCell ⟨B, 0, none⟩ (.slice (some ⟨g, 0, none⟩) n cap)).alloc o) (some B) := by
  have hr := h.row
  rw [hn] at hr
  refine ⟨⟨(h.box.set _).alloc _, ?_, h.lt⟩, grown_then (grownBy_setCell_at W B 0 _) (World.grownBy_alloc _ _ none) (by simp)⟩
  have h1 := own_take5 hr hn.symm n (by omega)
  exact own_below (ownsRow_setCell_below h1 (a := ⟨B, 0, none⟩) (show B < base from h.lt) _) (below_box _ o)

set_option maxHeartbeats 1000000 in
set_option maxRecDepth 100000 in
theorem heapPopM_c (B base g n cap : Nat) (zs : List Cmd) (hn : zs.length = n + 1) (hl : n ≤ 2000000) (hc : n + 1 ≤ cap) (hcm : cap ≤ maxLen) (W : World) (h : HpAt W B base (.slice (some ⟨g, 0, none⟩) (n + 1) cap) zs) :
    Calls Tryz.prog 145 #[.pointer (some ⟨B, 0, none⟩)] W (PopM B base g n cap zs W) := by
  have HH := Lib.hid h
  have HN := Lib.hid hn
  have hr := h.row
  rw [hn] at hr
  obtain ⟨c0, c1, c2, c3, c4⟩ := hp_cells hr (i := n) (by omega) hn.symm
  obtain ⟨x, hx⟩ : ∃ x, atK zs n = x := ⟨_, rfl⟩
  have HX := Lib.hid hx
  rw [hx] at c0 c1 c2 c3 c4
  have b0 := h.box.cell
  have f0 := h.box.frozen
  have hBl := h.box.lt
  have hgl := World.block_lt_of_cell? W _ c0
  have hgB : g ≠ B := fun e => h.far (by rw [e]; rfl)
  have k1 : (n : Int) + 1 ≤ cap := by omega
  have hcm' : cap ≤ 9223372036854775807 := Nat.le_trans hcm (by unfold maxLen; omega)
  obtain ⟨p, fk, fv, tk, tv⟩ := x
  simp only at c0 c1 c2 c3 c4
  clear h hn hr hx hc hcm
  go_enter Tryz.func145, Tryz.ntmps145
  go_wp2
  go_ret
  exact ⟨by rw [HX.out]; rfl, popM_end HN.out HH.out⟩

end Go.Proofs.YtohdpbalajjjiaaGreat

/-
  WALKS: container/heap over the program's heap of commands: up, down, Push, Pop; takeAll.
-/
namespace Go.Proofs.YtohdpbalajjjiaaGreat
open Go.RowKit
set_option linter.unusedVariables false

theorem wrapNil_some (a : Array TypeId) (t : TypeId) (x : Addr) (s m : String) : Builtin.ssaWrapNilChk_ a t #[.pointer (some x), strVal s, strVal m] = pure (.pointer (some x)) := rfl

/-- A method of a type, by its name, that takes the value behind the pointer. -/
theorem method_behind {P : Program} {T t : TypeId} {k : Nat} (hk : k ≠ 0) {name : String} {f : FuncId} (B : Nat) (v : Value) (W : World) (hi : (P.info? T).map (fun i => (i.methods.find? (·.name == name)).map (fun m => (m.path, m.func))) = some (some (#[], some (f, false))))
    (hu : P.underlying T = some (.pointer t)) (ha : ∀ w, (isAgg t).run P w = .ok false w) (hc : W.cell? ⟨B, 0, none⟩ = some v) : (method k T (.pointer (some ⟨B, 0, none⟩)) name).run P W = .ok (f, v) W := by
  obtain ⟨n, rfl⟩ := Nat.exists_eq_succ_of_ne_zero hk
  cases hI : P.info? T with
  | none => rw [hI] at hi; cases hi
  | some i =>
    rw [hI] at hi
    cases hm : i.methods.find? (·.name == name) with
    | none => simp only [Option.map_some, hm] at hi; cases hi
    | some m =>
      simp only [Option.map_some, hm, Option.some.injEq, Prod.mk.injEq] at hi
      obtain ⟨hp, hf⟩ := hi
      unfold method
      simp [typeInfo, hI, hm, hp, hf, follow, receiverAt, run_underlying hu, Place.get, wrapNil_some, loadVar, ha, hc, go_sem, asAddr, Result.andThen]

theorem method_Push (B : Nat) (W : World) : (method 284 113 (.pointer (some ⟨B, 0, none⟩)) "Push").run Tryz.prog W = .ok (146, .pointer (some ⟨B, 0, none⟩)) W := by kernel_rfl
theorem method_Pop (B : Nat) (W : World) : (method 284 113 (.pointer (some ⟨B, 0, none⟩)) "Pop").run Tryz.prog W = .ok (145, .pointer (some ⟨B, 0, none⟩)) W := by kernel_rfl

theorem heap_plain (w : World) : (isAgg 111).run Tryz.prog w = .ok false w := by kernel_rfl

theorem method_Len (B : Nat) (W : World) (v : Value) (h : W.cell? ⟨B, 0, none⟩ = some v) : (method 284 113 (.pointer (some ⟨B, 0, none⟩)) "Len").run Tryz.prog W = .ok (89, v) W :=
  method_behind (by decide) B v W (by kernel_rfl) Tryz.underlying113 heap_plain h
theorem method_Less (B : Nat) (W : World) (v : Value) (h : W.cell? ⟨B, 0, none⟩ = some v) : (method 284 113 (.pointer (some ⟨B, 0, none⟩)) "Less").run Tryz.prog W = .ok (142, v) W :=
  method_behind (by decide) B v W (by kernel_rfl) Tryz.underlying113 heap_plain h
theorem method_Swap (B : Nat) (W : World) (v : Value) (h : W.cell? ⟨B, 0, none⟩ = some v) : (method 284 113 (.pointer (some ⟨B, 0, none⟩)) "Swap").run Tryz.prog W = .ok (143, v) W :=
  method_behind (by decide) B v W (by kernel_rfl) Tryz.underlying113 heap_plain h

theorem no_results {P : Program} (fn : Func) (hf : fn.results = #[]) (tmps : Array Value) (w : World) : (results fn tmps).run P w = .ok (.tuple #[]) w := by simp [results, hf, go_sem]

/-- What going up or down leaves: the same commands, a heap; nothing but the row's block is turned. -/
def HeapPost (B base g n m cap : Nat) (zs : List Cmd) (fix : List Cmd → Prop) (W : World) (w' : World) : Prop :=
  ∃ ys, ys.Perm zs ∧ HeapK ys m ∧ fix ys ∧ HpAt w' B base (.slice (some ⟨g, 0, none⟩) n cap) ys ∧ W.grownBy w' (some g)

def UpRel (B base g n cap : Nat) (zs : List Cmd) (W : World) (vj : Value) (wr : World) : Prop :=
  ∃ (j : Nat) (ys : List Cmd), vj = .int .i64 j ∧ j < n ∧ Hid (ys.Perm zs) ∧ Hid (UpK ys n j) ∧ Hid (HpAt wr B base (.slice (some ⟨g, 0, none⟩) n cap) ys) ∧ Hid (W.grownBy wr (some g))

theorem HpAt.swapped {W w' : World} {B base g n cap : Nat} {zs : List Cmd} {i j : Nat} {e : Ending} (h : HpAt W B base (.slice (some ⟨g, 0, none⟩) n cap) zs) (hn : n = zs.length) (hs : SwapPost base g n cap zs i j W e w') :
    HpAt w' B base (.slice (some ⟨g, 0, none⟩) n cap) (swapK zs i j) :=
  ⟨h.box.kept hs.2.2 (by have := h.far; simpa [Value.ownBlock] using this), by rw [swapK_length, ← hn]; exact hs.2.1, h.lt⟩

set_option maxHeartbeats 1000000 in
set_option maxRecDepth 100000 in
theorem heapUp_c (B base g n cap : Nat) (zs : List Cmd) (j : Nat) (hn : n = zs.length) (hj : j < n) (hl : n ≤ 2000000) (W : World) (h : HpAt W B base (.slice (some ⟨g, 0, none⟩) n cap) zs) (hu : UpK zs n j) :
    Calls Tryz.prog 88 #[.iface 113 (.pointer (some ⟨B, 0, none⟩)), .int .i64 j] W (fun e w' => e = .returned (.tuple #[]) ∧ HeapPost B base g n n cap zs (fun _ => True) W w') := by
  have HH := Lib.hid h
  have HU := Lib.hid hu
  have HN := Lib.hid hn
  clear h hu hn
  go_enter Tryz.func88, Tryz.ntmps88
  go_wp2
  go_loopw [1] (fun vj wr => UpRel B base g n cap zs W vj wr) (fun vj _ => (intOf vj).toNat)
  case atStart => exact ⟨j, zs, rfl, hj, List.Perm.refl _, HU, HH, ⟨rfl, rfl, rfl, Nat.le_refl _, fun _ _ _ => rfl⟩⟩
  case round =>
    clear hj
    obtain ⟨j, ys, rfl, hj, HP, HU, HA, HG⟩ := hrel
    have HNY := Lib.hid (show n = ys.length by rw [HN.out]; exact HP.out.length_eq.symm)
    cases j with
    | zero =>
      clear hj
      go_wp2
      exact bodyPost_end (v := .tuple #[]) (no_results _ rfl _ _) rfl ⟨rfl, ys, HP.out, up_end0 HU.out, trivial, HA.out, HG.out⟩
    | succ m =>
      obtain ⟨i, hi⟩ : ∃ i, m / 2 = i := ⟨_, rfl⟩
      have HI := Lib.hid (show (m + 1 - 1) / 2 = i from hi)
      have HIM := Lib.hid (show i < m + 1 ∧ i < n ∧ m + 1 < n from ⟨by omega, by omega, hj⟩)
      have hq : (m : Int).tdiv 2 = (i : Int) := by rw [Int.tdiv_eq_ediv_of_nonneg (by omega)]; omega
      have hne : ((i : Int) == (m : Int) + 1) = false := beq_eq_false_iff_ne.2 (by omega)
      have hm0 : (0 : Int) ≤ m := by omega
      have hml : (m : Int) < 2000000 := by omega
      have him : (i : Int) < 2000000 := by omega
      obtain ⟨bv, hbv⟩ : ∃ bv, befC (atK ys (m + 1)) (atK ys i) = bv := ⟨_, rfl⟩
      have HL := Lib.hid (show Calls Tryz.prog 142 #[.slice (some ⟨g, 0, none⟩) n cap, .int .i64 ((m : Int) + 1), .int .i64 i] wr (BoolPost bv wr) by
        have := heapLess_c (some ⟨g, 0, none⟩) n cap ys (m + 1) i hj (by omega) (by omega) wr (by have := HA.out.row; rw [← HNY.out] at this; have := cmds_own (by rw [← HNY.out]; exact this); rw [← HNY.out] at this; exact this)
        rw [hbv] at this
        exact this)
      have HBV := Lib.hid hbv
      have mL := method_Less B wr _ HA.out.box.cell
      clear hi hbv hj
      go_wp2_with fail
      refine HL.out.mono ?_
      rintro e W2 ⟨rfl, hb2⟩
      have HA2 := Lib.hid (HA.out.keep hb2)
      have HG2 := Lib.hid (grown_then HG.out (below_grown hb2) (by simp))
      clear mL hb2
      cases bv with
      | false =>
        go_wp2
        exact bodyPost_end (v := .tuple #[]) (no_results _ rfl _ _) rfl ⟨rfl, ys, HP.out, up_end HU.out (by rw [HI.out]; exact HBV.out), trivial, HA2.out, HG2.out⟩
      | true =>
        have mS := method_Swap B W2 _ HA2.out.box.cell
        have HSW := Lib.hid (show Calls Tryz.prog 143 #[.slice (some ⟨g, 0, none⟩) n cap, .int .i64 i, .int .i64 ((m : Int) + 1)] W2 (SwapPost base g n cap ys i (m + 1) W2) from
          heapSwap_c base g n cap ys i (m + 1) HNY.out HIM.out.2.1 HIM.out.2.2 (by omega) W2 (by have := HA2.out.row; rw [← HNY.out] at this; exact this))
        go_wp2_with fail
        refine HSW.out.mono ?_
        rintro e W3 hs3
        obtain rfl := hs3.1
        have HA3 := Lib.hid (HA2.out.swapped HNY.out hs3)
        have HG3 := Lib.hid (grown_then HG2.out hs3.2.2 (fun k e => .inr e))
        have HP3 := Lib.hid ((swapK_perm (by have := HIM.out.2.1; have := HNY.out; omega) (by have := HIM.out.2.2; have := HNY.out; omega)).trans HP.out : (swapK ys i (m + 1)).Perm zs)
        have HU3 : Hid (UpK (swapK ys i (m + 1)) n i) := by
          have h1 := HU.out
          rw [HNY.out] at h1
          have h2 := up_go (by omega) (by rw [← HNY.out]; exact HIM.out.2.2) h1 (by rw [HI.out]; exact HBV.out)
          rw [HI.out, ← HNY.out] at h2
          exact h2
        clear mS hs3
        go_wp2
        go_roundw
        case rel => exact ⟨i, swapK ys i (m + 1), rfl, HIM.out.2.1, HP3, HU3, HA3, HG3⟩
        case measure => have := HIM.out.1; simp [intOf]; omega

theorem HpAt.at {W : World} {B base g n cap : Nat} {zs : List Cmd} (h : HpAt W B base (.slice (some ⟨g, 0, none⟩) n cap) zs) (hn : n = zs.length) : CmdsAt W (some ⟨g, 0, none⟩) n zs := by
  have h1 := h.row
  rw [hn] at h1 ⊢
  exact cmds_own h1

def DownRel (B base g m n cap : Nat) (zs : List Cmd) (W : World) (vi : Value) (wr : World) : Prop :=
  ∃ (i : Nat) (ys : List Cmd), vi = .int .i64 i ∧ i ≤ n ∧ Hid (ys.Perm zs) ∧ Hid (DownK ys n i) ∧ Hid (∀ k, n ≤ k → atK ys k = atK zs k) ∧ Hid (HpAt wr B base (.slice (some ⟨g, 0, none⟩) m cap) ys) ∧ Hid (W.grownBy wr (some g))

set_option maxHeartbeats 1000000 in
set_option maxRecDepth 100000 in
theorem heapDown_c (B base g m n cap : Nat) (zs : List Cmd) (hm : m = zs.length) (hn : n ≤ m) (hl : m ≤ 2000000) (W : World) (h : HpAt W B base (.slice (some ⟨g, 0, none⟩) m cap) zs) (hd : DownK zs n 0) :
    Calls Tryz.prog 96 #[.iface 113 (.pointer (some ⟨B, 0, none⟩)), .int .i64 0, .int .i64 n] W (fun e w' => (∃ b, e = .returned (.bool b)) ∧ HeapPost B base g m n cap zs (fun ys => ∀ k, n ≤ k → atK ys k = atK zs k) W w') := by
  have HH := Lib.hid h
  have HD := Lib.hid hd
  have HN := Lib.hid hm
  clear h hd hm
  go_enter Tryz.func96, Tryz.ntmps96
  go_wp2
  go_loopw [7] (fun vi wr => DownRel B base g m n cap zs W vi wr) (fun vi _ => n - (intOf vi).toNat)
  case atStart => exact ⟨0, zs, rfl, Nat.zero_le _, List.Perm.refl _, HD, fun _ _ => rfl, HH, ⟨rfl, rfl, rfl, Nat.le_refl _, fun _ _ _ => rfl⟩⟩
  case round =>
    obtain ⟨i, ys, rfl, hin, HP, HD, HF, HA, HG⟩ := hrel
    have HNY := Lib.hid (show m = ys.length by rw [HN.out]; exact HP.out.length_eq.symm)
    have hi0 : (0 : Int) ≤ i := by omega
    have hil : (i : Int) ≤ 2000000 := by omega
    by_cases h0 : n ≤ 2 * i + 1
    · have h0z : (n : Int) ≤ 2 * (i : Int) + 1 := by omega
      go_wp2
      go_ret
      exact ⟨⟨_, rfl⟩, ys, HP.out, down_end HD.out (fun k k0 kn kp => absurd kn (by omega)), HF.out, HA.out, HG.out⟩
    · have h0z : ¬ ((n : Int) ≤ 2 * (i : Int) + 1) := by omega
      have h00 : ¬ (2 * (i : Int) + 1 < 0) := by omega
      by_cases h1 : 2 * i + 2 < n
      · have h1z : 2 * (i : Int) + 1 + 1 < (n : Int) := by omega
        obtain ⟨b1, hb1v⟩ : ∃ b, befC (atK ys (2 * i + 2)) (atK ys (2 * i + 1)) = b := ⟨_, rfl⟩
        have HB1 := Lib.hid hb1v
        have HL1 := Lib.hid (show Calls Tryz.prog 142 #[.slice (some ⟨g, 0, none⟩) m cap, .int .i64 (2 * (i : Int) + 1 + 1), .int .i64 (2 * (i : Int) + 1)] wr (BoolPost b1 wr) by
          have := heapLess_c (some ⟨g, 0, none⟩) m cap ys (2 * i + 2) (2 * i + 1) (by omega) (by omega) (by omega) wr (HA.out.at HNY.out)
          rw [hb1v, show ((2 * i + 2 : Nat) : Int) = 2 * (i : Int) + 1 + 1 by omega, show ((2 * i + 1 : Nat) : Int) = 2 * (i : Int) + 1 by omega] at this
          exact this)
        clear hb1v
        have mL1 := method_Less B wr _ HA.out.box.cell
        go_wp2_with fail
        refine HL1.out.mono ?_
        rintro e W3 ⟨rfl, hb3⟩
        have HA3 := Lib.hid (HA.out.keep hb3)
        have HG3 := Lib.hid (grown_then HG.out (below_grown hb3) (by simp))
        clear mL1 hb3
        cases b1 with
        | true =>
          obtain ⟨b2, hb2v⟩ : ∃ b, befC (atK ys (2 * i + 2)) (atK ys i) = b := ⟨_, rfl⟩
          have HB2 := Lib.hid hb2v
          have HMIN : Hid (∀ k, 0 < k → k < n → (k - 1) / 2 = i → befC (atK ys k) (atK ys (2 * i + 2)) = false) := by
            intro k k0 kn kp
            rcases (show k = 2 * i + 1 ∨ k = 2 * i + 2 by omega) with rfl | rfl
            · exact nbef_of_bef HB1.out
            · exact bef_irrefl _
          have HL2 := Lib.hid (show Calls Tryz.prog 142 #[.slice (some ⟨g, 0, none⟩) m cap, .int .i64 (2 * (i : Int) + 1 + 1), .int .i64 i] W3 (BoolPost b2 W3) by
            have := heapLess_c (some ⟨g, 0, none⟩) m cap ys (2 * i + 2) i (by omega) (by omega) (by omega) W3 (HA3.out.at HNY.out)
            rw [hb2v, show (((2 * i + 2 : Nat)) : Int) = 2 * (i : Int) + 1 + 1 by omega] at this
            exact this)
          clear hb2v
          have mL2 := method_Less B W3 _ HA3.out.box.cell
          go_wp2_with fail
          refine HL2.out.mono ?_
          rintro e W4 ⟨rfl, hb4⟩
          have HA4 := Lib.hid (HA3.out.keep hb4)
          have HG4 := Lib.hid (grown_then HG3.out (below_grown hb4) (by simp))
          clear mL2 hb4
          cases b2 with
          | false =>
            go_wp2
            go_ret
            exact ⟨⟨_, rfl⟩, ys, HP.out, down_end HD.out (fun k k0 kn kp => by
              have h1 := HMIN.out k k0 kn kp
              exact nbef_trans HB2.out h1), HF.out, HA4.out, HG4.out⟩
          | true =>
            have mS := method_Swap B W4 _ HA4.out.box.cell
            have HSW := Lib.hid (show Calls Tryz.prog 143 #[.slice (some ⟨g, 0, none⟩) m cap, .int .i64 i, .int .i64 (2 * (i : Int) + 1 + 1)] W4 (SwapPost base g m cap ys i (2 * i + 2) W4) by
              have := heapSwap_c base g m cap ys i (2 * i + 2) HNY.out (by omega) (by omega) (by omega) W4 (by have := HA4.out.row; rw [← HNY.out] at this; exact this)
              rw [show (((2 * i + 2 : Nat)) : Int) = 2 * (i : Int) + 1 + 1 by omega] at this
              exact this)
            go_wp2_with fail
            refine HSW.out.mono ?_
            rintro e W5 hs5
            obtain rfl := hs5.1
            have HA5 := Lib.hid (HA4.out.swapped HNY.out hs5)
            have HG5 := Lib.hid (grown_then HG4.out hs5.2.2 (fun k e => .inr e))
            have HP5 := Lib.hid ((swapK_perm (by have := HNY.out; omega) (by have := HNY.out; omega)).trans HP.out : (swapK ys i (2 * i + 2)).Perm zs)
            have HD5 : Hid (DownK (swapK ys i (2 * i + 2)) n (2 * i + 2)) := down_go (by have := HNY.out; omega) (by omega) (by omega) (by omega) HD.out HB2.out HMIN.out
            have HF5 : Hid (∀ k, n ≤ k → atK (swapK ys i (2 * i + 2)) k = atK zs k) := fun k hk => by
              rw [atK_swap (by have := HNY.out; omega) (by have := HNY.out; omega), if_neg (by omega), if_neg (by omega)]
              exact HF.out k hk
            have HZ := Lib.hid (show (((2 * i + 2 : Nat)) : Int) = 2 * (i : Int) + 1 + 1 by omega)
            have HJ := Lib.hid (show 2 * i + 2 < n ∧ i < 2 * i + 2 from ⟨by omega, by omega⟩)
            clear mS hs5
            go_wp2
            go_roundw
            case rel => exact ⟨2 * i + 2, swapK ys i (2 * i + 2), by rw [HZ.out], Nat.le_of_lt HJ.out.1, HP5, HD5, HF5, HA5, HG5⟩
            case measure => have h1 := HJ.out; have h2 := HZ.out; simp [intOf]; omega
        | false =>
          obtain ⟨b2, hb2v⟩ : ∃ b, befC (atK ys (2 * i + 1)) (atK ys i) = b := ⟨_, rfl⟩
          have HB2 := Lib.hid hb2v
          have HMIN : Hid (∀ k, 0 < k → k < n → (k - 1) / 2 = i → befC (atK ys k) (atK ys (2 * i + 1)) = false) := by
            intro k k0 kn kp
            rcases (show k = 2 * i + 1 ∨ k = 2 * i + 2 by omega) with rfl | rfl
            · exact bef_irrefl _
            · exact HB1.out
          have HL2 := Lib.hid (show Calls Tryz.prog 142 #[.slice (some ⟨g, 0, none⟩) m cap, .int .i64 (2 * (i : Int) + 1), .int .i64 i] W3 (BoolPost b2 W3) by
            have := heapLess_c (some ⟨g, 0, none⟩) m cap ys (2 * i + 1) i (by omega) (by omega) (by omega) W3 (HA3.out.at HNY.out)
            rw [hb2v, show (((2 * i + 1 : Nat)) : Int) = 2 * (i : Int) + 1 by omega] at this
            exact this)
          clear hb2v
          have mL2 := method_Less B W3 _ HA3.out.box.cell
          go_wp2_with fail
          refine HL2.out.mono ?_
          rintro e W4 ⟨rfl, hb4⟩
          have HA4 := Lib.hid (HA3.out.keep hb4)
          have HG4 := Lib.hid (grown_then HG3.out (below_grown hb4) (by simp))
          clear mL2 hb4
          cases b2 with
          | false =>
            go_wp2
            go_ret
            exact ⟨⟨_, rfl⟩, ys, HP.out, down_end HD.out (fun k k0 kn kp => by
              have h1 := HMIN.out k k0 kn kp
              exact nbef_trans HB2.out h1), HF.out, HA4.out, HG4.out⟩
          | true =>
            have mS := method_Swap B W4 _ HA4.out.box.cell
            have HSW := Lib.hid (show Calls Tryz.prog 143 #[.slice (some ⟨g, 0, none⟩) m cap, .int .i64 i, .int .i64 (2 * (i : Int) + 1)] W4 (SwapPost base g m cap ys i (2 * i + 1) W4) by
              have := heapSwap_c base g m cap ys i (2 * i + 1) HNY.out (by omega) (by omega) (by omega) W4 (by have := HA4.out.row; rw [← HNY.out] at this; exact this)
              rw [show (((2 * i + 1 : Nat)) : Int) = 2 * (i : Int) + 1 by omega] at this
              exact this)
            go_wp2_with fail
            refine HSW.out.mono ?_
            rintro e W5 hs5
            obtain rfl := hs5.1
            have HA5 := Lib.hid (HA4.out.swapped HNY.out hs5)
            have HG5 := Lib.hid (grown_then HG4.out hs5.2.2 (fun k e => .inr e))
            have HP5 := Lib.hid ((swapK_perm (by have := HNY.out; omega) (by have := HNY.out; omega)).trans HP.out : (swapK ys i (2 * i + 1)).Perm zs)
            have HD5 : Hid (DownK (swapK ys i (2 * i + 1)) n (2 * i + 1)) := down_go (by have := HNY.out; omega) (by omega) (by omega) (by omega) HD.out HB2.out HMIN.out
            have HF5 : Hid (∀ k, n ≤ k → atK (swapK ys i (2 * i + 1)) k = atK zs k) := fun k hk => by
              rw [atK_swap (by have := HNY.out; omega) (by have := HNY.out; omega), if_neg (by omega), if_neg (by omega)]
              exact HF.out k hk
            have HZ := Lib.hid (show (((2 * i + 1 : Nat)) : Int) = 2 * (i : Int) + 1 by omega)
            have HJ := Lib.hid (show 2 * i + 1 < n ∧ i < 2 * i + 1 from ⟨by omega, by omega⟩)
            clear mS hs5
            go_wp2
            go_roundw
            case rel => exact ⟨2 * i + 1, swapK ys i (2 * i + 1), by rw [HZ.out], Nat.le_of_lt HJ.out.1, HP5, HD5, HF5, HA5, HG5⟩
            case measure => have h1 := HJ.out; have h2 := HZ.out; simp [intOf]; omega
      · have h1z : ¬ (2 * (i : Int) + 1 + 1 < (n : Int)) := by omega
        obtain ⟨b2, hb2v⟩ : ∃ b, befC (atK ys (2 * i + 1)) (atK ys i) = b := ⟨_, rfl⟩
        have HB2 := Lib.hid hb2v
        have HMIN : Hid (∀ k, 0 < k → k < n → (k - 1) / 2 = i → befC (atK ys k) (atK ys (2 * i + 1)) = false) := by
          intro k k0 kn kp
          rcases (show k = 2 * i + 1 by omega) with rfl
          exact bef_irrefl _
        have HL2 := Lib.hid (show Calls Tryz.prog 142 #[.slice (some ⟨g, 0, none⟩) m cap, .int .i64 (2 * (i : Int) + 1), .int .i64 i] wr (BoolPost b2 wr) by
          have := heapLess_c (some ⟨g, 0, none⟩) m cap ys (2 * i + 1) i (by omega) (by omega) (by omega) wr (HA.out.at HNY.out)
          rw [hb2v, show (((2 * i + 1 : Nat)) : Int) = 2 * (i : Int) + 1 by omega] at this
          exact this)
        clear hb2v
        have mL2 := method_Less B wr _ HA.out.box.cell
        go_wp2_with fail
        refine HL2.out.mono ?_
        rintro e W4 ⟨rfl, hb4⟩
        have HA4 := Lib.hid (HA.out.keep hb4)
        have HG4 := Lib.hid (grown_then HG.out (below_grown hb4) (by simp))
        clear mL2 hb4
        cases b2 with
        | false =>
          go_wp2
          go_ret
          exact ⟨⟨_, rfl⟩, ys, HP.out, down_end HD.out (fun k k0 kn kp => by
            have h1 := HMIN.out k k0 kn kp
            exact nbef_trans HB2.out h1), HF.out, HA4.out, HG4.out⟩
        | true =>
          have mS := method_Swap B W4 _ HA4.out.box.cell
          have HSW := Lib.hid (show Calls Tryz.prog 143 #[.slice (some ⟨g, 0, none⟩) m cap, .int .i64 i, .int .i64 (2 * (i : Int) + 1)] W4 (SwapPost base g m cap ys i (2 * i + 1) W4) by
            have := heapSwap_c base g m cap ys i (2 * i + 1) HNY.out (by omega) (by omega) (by omega) W4 (by have := HA4.out.row; rw [← HNY.out] at this; exact this)
            rw [show (((2 * i + 1 : Nat)) : Int) = 2 * (i : Int) + 1 by omega] at this
            exact this)
          go_wp2_with fail
          refine HSW.out.mono ?_
          rintro e W5 hs5
          obtain rfl := hs5.1
          have HA5 := Lib.hid (HA4.out.swapped HNY.out hs5)
          have HG5 := Lib.hid (grown_then HG4.out hs5.2.2 (fun k e => .inr e))
          have HP5 := Lib.hid ((swapK_perm (by have := HNY.out; omega) (by have := HNY.out; omega)).trans HP.out : (swapK ys i (2 * i + 1)).Perm zs)
          have HD5 : Hid (DownK (swapK ys i (2 * i + 1)) n (2 * i + 1)) := down_go (by have := HNY.out; omega) (by omega) (by omega) (by omega) HD.out HB2.out HMIN.out
          have HF5 : Hid (∀ k, n ≤ k → atK (swapK ys i (2 * i + 1)) k = atK zs k) := fun k hk => by
            rw [atK_swap (by have := HNY.out; omega) (by have := HNY.out; omega), if_neg (by omega), if_neg (by omega)]
            exact HF.out k hk
          have HZ := Lib.hid (show (((2 * i + 1 : Nat)) : Int) = 2 * (i : Int) + 1 by omega)
          have HJ := Lib.hid (show 2 * i + 1 < n ∧ i < 2 * i + 1 from ⟨by omega, by omega⟩)
          clear mS hs5
          go_wp2
          go_roundw
          case rel => exact ⟨2 * i + 1, swapK ys i (2 * i + 1), by rw [HZ.out], Nat.le_of_lt HJ.out.1, HP5, HD5, HF5, HA5, HG5⟩
          case measure => have h1 := HJ.out; have h2 := HZ.out; simp [intOf]; omega

end Go.Proofs.YtohdpbalajjjiaaGreat

/-
  WALKS: container/heap.Push and Pop over the program's heap of commands; takeAll.
-/
namespace Go.Proofs.YtohdpbalajjjiaaGreat
open Go.RowKit
set_option linter.unusedVariables false

/-- What heap.Push leaves. -/
def PushPost (B base : Nat) (zs : List Cmd) (c : Cmd) (W : World) (e : Ending) (w' : World) : Prop :=
  e = .returned (.tuple #[]) ∧ ∃ v' ys, HpAt w' B base v' ys ∧ ys.Perm (zs ++ [c]) ∧ HeapK ys ys.length ∧ Below B W w' ∧ KeptM W w'

set_option maxHeartbeats 1000000 in
set_option maxRecDepth 100000 in
theorem heapPush_c (B base : Nat) (v : Value) (zs : List Cmd) (c : Cmd) (hl : zs.length ≤ 1000000) (W : World) (hle : base ≤ W.heap.size) (h : HpAt W B base v zs) (hk : HeapK zs zs.length) :
    Calls Tryz.prog 72 #[.iface 113 (.pointer (some ⟨B, 0, none⟩)), .iface 33 (cmdV c)] W (PushPost B base zs c W) := by
  have HP := Lib.hid (heapPushM_c B base v zs c (by omega) W hle h)
  have HK := Lib.hid hk
  have mP := method_Push B W
  clear h hk hle
  go_enter Tryz.func72, Tryz.ntmps72
  go_wp2_with fail
  refine HP.out.mono ?_
  rintro e W1 ⟨rfl, v1, hA, hB, hM⟩
  have hnl : (zs ++ [c]).length = zs.length + 1 := by simp
  obtain ⟨g, cap, rfl, h1, h2, h3, h4⟩ := hA.top hnl
  have HA := Lib.hid hA
  have HB := Lib.hid hB
  have HM := Lib.hid hM
  have mL := method_Len B W1 _ hA.box.cell
  have HL := Lib.hid (heapLen_c (some ⟨g, 0, none⟩) (zs.length + 1) cap W1)
  have HU := Lib.hid (show Calls Tryz.prog 88 #[.iface 113 (.pointer (some ⟨B, 0, none⟩)), .int .i64 zs.length] W1 (fun e w' => e = .returned (.tuple #[]) ∧ HeapPost B base g (zs.length + 1) (zs.length + 1) cap (zs ++ [c]) (fun _ => True) W1 w') from
    heapUp_c B base g (zs.length + 1) cap (zs ++ [c]) zs.length hnl.symm (by omega) (by omega) W1 hA (by have := up_start c HK.out; rw [hnl] at this; exact this))
  clear hA hB hM mP h1 h2 h4
  go_wp2_with fail
  refine HL.out.mono ?_
  rintro e W2 ⟨rfl, rfl⟩
  clear mL
  go_wp2_with fail
  refine HU.out.mono ?_
  rintro e W3 ⟨rfl, ys, hp, hh, -, hA3, hG⟩
  go_wp2
  have HL3 : ys.length = zs.length + 1 := by rw [hp.length_eq, hnl]
  refine bodyPost_end (v := .tuple #[]) (no_results _ rfl _ _) rfl ⟨rfl, _, ys, hA3, hp, by rw [HL3]; exact hh, ?_, ?_⟩
  · have := HA.out.lt
    exact HB.out.grown hG (by have := HB.out.size; have := HA.out.box.lt; omega) (fun k e => by cases e; omega)
  · exact HM.out.trans (KeptM.grown hG (fun r o e ho => row_cells HA.out.row r o e ho))

/-- Nothing but two blocks is turned. -/
structure Turn2 (W W' : World) (B g : Nat) : Prop where
  os : W'.os = W.os
  tape : W'.tape = W.tape
  output : W'.output = W.output
  size : W.heap.size ≤ W'.heap.size
  block : ∀ i, i < W.heap.size → i ≠ B → i ≠ g → W'.heap[i]? = W.heap[i]?

theorem Turn2.of {W W' : World} {row : Option Nat} (h : W.grownBy W' row) {B g : Nat} (hr : ∀ r, row = some r → r = B ∨ r = g) : Turn2 W W' B g :=
  ⟨h.os, h.tape, h.output, h.size, fun i hi hB hg => h.block i hi (fun e => (hr i e.symm).elim hB hg)⟩

theorem Turn2.trans {X Y Z : World} {B g : Nat} (h : Turn2 X Y B g) (k : Turn2 Y Z B g) : Turn2 X Z B g :=
  ⟨k.os.trans h.os, k.tape.trans h.tape, k.output.trans h.output, Nat.le_trans h.size k.size, fun i hi hB hg => (k.block i (Nat.lt_of_lt_of_le hi h.size) hB hg).trans (h.block i hi hB hg)⟩

/-- What heap.Pop leaves. -/
def PopPost (B base g n cap : Nat) (zs : List Cmd) (W : World) (e : Ending) (w' : World) : Prop :=
  e = .returned (.iface 33 (cmdV (atK zs 0))) ∧ ∃ ys, HpAt w' B base (.slice (some ⟨g, 0, none⟩) n cap) ys ∧ HeapK ys ys.length ∧ (ys ++ [atK zs 0]).Perm zs ∧ (∀ y ∈ zs, befC y (atK zs 0) = false) ∧ Turn2 W w' B g

set_option maxHeartbeats 1000000 in
set_option maxRecDepth 100000 in
theorem heapPop_c (B base g n cap : Nat) (zs : List Cmd) (hn : zs.length = n + 1) (hl : n ≤ 1000000) (hc : n + 1 ≤ cap) (hcm : cap ≤ maxLen) (W : World) (h : HpAt W B base (.slice (some ⟨g, 0, none⟩) (n + 1) cap) zs) (hk : HeapK zs zs.length) :
    Calls Tryz.prog 90 #[.iface 113 (.pointer (some ⟨B, 0, none⟩))] W (PopPost B base g n cap zs W) := by
  have HH := Lib.hid h
  have HK := Lib.hid hk
  have HN := Lib.hid hn
  have HC := Lib.hid (And.intro hc hcm)
  have mL := method_Len B W _ h.box.cell
  have HL := Lib.hid (heapLen_c (some ⟨g, 0, none⟩) (n + 1) cap W)
  clear h hk hn hc hcm
  go_enter Tryz.func90, Tryz.ntmps90
  go_wp2_with fail
  refine HL.out.mono ?_
  rintro e W1 ⟨rfl, rfl⟩
  clear mL HL
  have mS := method_Swap B W1 _ HH.out.box.cell
  have HS := Lib.hid (show Calls Tryz.prog 143 #[.slice (some ⟨g, 0, none⟩) (n + 1) cap, .int .i64 0, .int .i64 n] W1 (SwapPost base g (n + 1) cap zs 0 n W1) from
    heapSwap_c base g (n + 1) cap zs 0 n HN.out.symm (by omega) (by omega) (by omega) W1 (by have := HH.out.row; rw [HN.out] at this; exact this))
  go_wp2_with fail
  refine HS.out.mono ?_
  rintro e W2 hs2
  obtain rfl := hs2.1
  have HA2 := Lib.hid (HH.out.swapped HN.out.symm hs2)
  have HT2 := Lib.hid (Turn2.of hs2.2.2 (B := B) (g := g) (fun r e => .inr (by cases e; rfl)))
  clear mS hs2
  have HD := Lib.hid (heapDown_c B base g (n + 1) n cap (swapK zs 0 n) (by rw [swapK_length]; exact HN.out.symm) (by omega) (by omega) W2 HA2.out (pop_start HN.out HK.out))
  go_wp2_with fail
  refine HD.out.mono ?_
  rintro e W3 ⟨⟨bb, rfl⟩, ys, hp, hh, hf, hA3, hG3⟩
  have HT3 := Lib.hid (HT2.out.trans (Turn2.of hG3 (B := B) (g := g) (fun r e => .inr (by cases e; rfl))))
  have HF := Lib.hid (hf n (Nat.le_refl _))
  have HP := Lib.hid hp
  have HHK := Lib.hid hh
  have HA3 := Lib.hid hA3
  have HYL := Lib.hid (show ys.length = n + 1 by rw [hp.length_eq, swapK_length]; exact HN.out)
  have mP := method_Pop B W3
  have HPM := Lib.hid (heapPopM_c B base g n cap ys HYL.out (by omega) HC.out.1 HC.out.2 W3 hA3)
  clear hp hh hf hA3 hG3
  go_wp2_with fail
  refine HPM.out.mono ?_
  rintro e W4 ⟨rfl, hA4, hG4⟩
  have HLAST := Lib.hid (show atK ys n = atK zs 0 by rw [HF.out, atK_swap (by have := HN.out; omega) (by have := HN.out; omega), if_pos rfl])
  have HA4 := Lib.hid hA4
  have HG4 := Lib.hid hG4
  clear mP hA4 hG4
  rw [HLAST.out]
  go_wp2
  go_ret
  have hpop := heap_pop HN.out HK.out HP.out HLAST.out
  have htl : (ys.take n).length = n := by rw [List.length_take, HYL.out]; omega
  exact ⟨rfl, ys.take n, HA4.out, by rw [htl]; exact heap_take HHK.out, hpop.1, hpop.2, HT3.out.trans (Turn2.of HG4.out (fun r e => .inl (by cases e; rfl)))⟩

end Go.Proofs.YtohdpbalajjjiaaGreat

/-
  WALKS: canonHeap.takeAll.
-/
namespace Go.Proofs.YtohdpbalajjjiaaGreat
open Go.RowKit
set_option linter.unusedVariables false

theorem own_turn2 {W W' : World} {B g base : Nat} {e : TypeId} {size n : Nat} {v : Value} {xs : List Value} (h : W.ownsRow base e size v n xs) (ht : Turn2 W W' B g) (hv : ∀ k, v.ownBlock = some k → k ≠ B ∧ k ≠ g) : W'.ownsRow base e size v n xs := by
  obtain ⟨h1, h2⟩ := h
  refine ⟨h1, ?_⟩
  rcases h2 with h3 | ⟨x, cap, cur, rfl, h4, h5, h6⟩
  · exact .inl h3
  · right
    have h7 := hv x rfl
    exact ⟨x, cap, cur, rfl, h4, (ht.block x (Array.getElem?_eq_some_iff.1 h5).1 h7.1 h7.2).trans h5, h6⟩

theorem HpAt.grown {W W' : World} {B base : Nat} {v : Value} {zs : List Cmd} {row : Option Nat} (h : HpAt W B base v zs) (hg : W.grownBy W' row) (hB : row ≠ some B) (hv : ∀ k, v.ownBlock = some k → row ≠ some k) : HpAt W' B base v zs := by
  refine ⟨h.box.kept hg (fun e => hB e.symm), h.row.kept hg ?_, h.lt⟩
  rcases h.row.2 with ⟨h1, _⟩ | ⟨x, cap, cur, h1, _⟩
  · exact .inl (by rw [h1]; rfl)
  · exact .inr (fun e => by subst h1; exact hv x rfl e.symm)

/-- What takeAll leaves. -/
def TakePost (B : Nat) (zs : List Cmd) (W : World) (e : Ending) (w' : World) : Prop :=
  ∃ sl acc, e = .returned sl ∧ w'.ownsRow W.heap.size 33 5 sl acc.length (flatC acc) ∧ TakeK zs acc [] ∧ Below B W w'

def heapLenAt (W : World) (B : Nat) : Nat := match W.cell? ⟨B, 0, none⟩ with
  | some (.slice _ n _) => n
  | _ => 0

def TakeRel (B base : Nat) (zs : List Cmd) (W : World) (sl : Value) (wr : World) : Prop :=
  ∃ (acc ys : List Cmd) (a : Option Addr) (cap : Nat), wr.ownsRow W.heap.size 33 5 sl acc.length (flatC acc) ∧ Hid (HpAt wr B base (.slice a ys.length cap) ys) ∧ Hid (HeapK ys ys.length) ∧ Hid (TakeK zs acc ys) ∧ Hid (∀ k, (Value.slice a ys.length cap).ownBlock = some k → k < W.heap.size) ∧ Hid (Below B W wr)

theorem heapLenAt_of {W : World} {B base : Nat} {a : Option Addr} {n cap : Nat} {zs : List Cmd} (h : HpAt W B base (.slice a n cap) zs) : heapLenAt W B = n := by
  unfold heapLenAt
  rw [h.box.cell]

theorem take_round {B base g n cap : Nat} {zs acc ys zs' : List Cmd} {W W2 W3 w4 : World} {sl v4 : Value} {o : Obj} (hA : HpAt W2 B base (.slice (some ⟨g, 0, none⟩) (n + 1) cap) ys) (hgl : g < W.heap.size) (hB0 : B < W.heap.size)
    (ho3 : W3.ownsRow W.heap.size 33 5 sl acc.length (flatC acc)) (hA3 : HpAt W3 B base (.slice (some ⟨g, 0, none⟩) n cap) zs') (hz : zs'.length = n) (hk3 : HeapK zs' zs'.length) (hb3 : Below B W W3) (hs3 : W.heap.size ≤ W3.heap.size) {x : Cmd} (ht3 : TakeK zs (acc ++ [x]) zs')
    (hg4 : (W3.alloc o).grownBy w4 sl.ownBlock) (ho4 : w4.ownsRow W.heap.size 33 5 v4 (acc ++ [x]).length (flatC (acc ++ [x]))) : TakeRel B base zs W v4 w4 ∧ heapLenAt w4 B < heapLenAt W2 B := by
  have hlow : ∀ k, sl.ownBlock = some k → W.heap.size ≤ k := fun k e => (ho3.lt k e).1
  have hA4 : HpAt w4 B base (.slice (some ⟨g, 0, none⟩) n cap) zs' := (hA3.keep (below_box W3 o)).grown hg4 (fun e => by have := hlow B e; omega) (fun k e => fun e2 => by
    simp [Value.ownBlock] at e
    subst e
    have := hlow g e2
    omega)
  refine ⟨⟨acc ++ [x], zs', some ⟨g, 0, none⟩, cap, ho4, by rw [hz]; exact hA4, hk3, ht3, fun k e => ?_, ?_⟩, ?_⟩
  · simp [Value.ownBlock] at e
    subst e
    exact hgl
  · exact (hb3.alloc (by omega) o).grown hg4 (by rw [World.size_alloc]; omega) (fun k e => by have := hlow k e; omega)
  · rw [heapLenAt_of hA4, heapLenAt_of hA]
    omega

set_option maxHeartbeats 1000000 in
set_option maxRecDepth 100000 in
theorem takeAll_c (B base : Nat) (v : Value) (zs : List Cmd) (hl : zs.length ≤ 1000) (W : World) (hle : base ≤ W.heap.size) (h : HpAt W B base v zs) (hk : HeapK zs zs.length) :
    Calls Tryz.prog 73 #[.pointer (some ⟨B, 0, none⟩)] W (TakePost B zs W) := by
  obtain ⟨a0, cap0, rfl, -⟩ := cmds_of_own h.row
  obtain ⟨i0, hi, hz0, hz1, hz2⟩ := info_parts infoCmd
  have HH := Lib.hid h
  have HK := Lib.hid hk
  have HLE := Lib.hid (And.intro hle hl)
  have HB0 := Lib.hid (And.intro h.box.lt h.lt)
  clear h hk hle
  go_enter Tryz.func73, Tryz.ntmps73
  go_wp2
  go_loopw [3] (fun sl wr => TakeRel B base zs W sl wr) (fun _ wr => heapLenAt wr B)
  case atStart => exact ⟨[], zs, a0, cap0, World.ownsRow_nil _ _ _ _, HH, HK, take_start zs, fun k e => (HH.out.row.lt k e).2, Below.refl _ _⟩
  case round =>
    obtain ⟨acc, ys, a, cap, hown, HA, HK, HT, HLOW, HB⟩ := hrel
    have HO := Lib.hid hown
    have b0 := HA.out.box.cell
    have HLY := Lib.hid (show acc.length + ys.length = zs.length by have := HT.out.1.length_eq; rwa [List.length_append] at this)
    clear hown
    rcases List.eq_nil_or_concat ys with rfl | ⟨ys', y, hyy⟩
    · have HL := Lib.hid (heapLen_c a 0 cap wr)
      simp only [List.length_nil] at b0
      go_wp2_with fail
      refine HL.out.mono ?_
      rintro e W2 ⟨rfl, rfl⟩
      go_wp2
      go_ret
      exact ⟨_, acc, rfl, HO.out, HT.out, HB.out⟩
    · have hyl : ys.length = ys'.length + 1 := by rw [hyy]; simp
      obtain ⟨n, hn⟩ : ∃ n, ys'.length = n := ⟨_, rfl⟩
      rw [hn] at hyl
      have HN := Lib.hid hyl
      obtain ⟨g, cap', hv, h1, h2, h3, h4⟩ := HA.out.top hyl
      rw [hyl] at b0 hv HA HLOW
      injection hv with e1 e2 e3
      subst e1; subst e3
      have HGL := Lib.hid (HLOW.out g rfl)
      have HL := Lib.hid (heapLen_c (some ⟨g, 0, none⟩) (n + 1) cap wr)
      have HPOP := Lib.hid (heapPop_c B base g n cap ys hyl (by have := HLY.out; omega) h1 h2 wr HA.out HK.out)
      have hn1 : n ≤ 1000 := by have := HLY.out; omega
      clear hyy hn e2 hyl h1 h2 h3 h4
      go_wp2_with fail
      refine HL.out.mono ?_
      rintro e W2 ⟨rfl, rfl⟩
      go_wp2_with fail
      refine HPOP.out.mono ?_
      rintro e W3 ⟨rfl, zs', hA3, hK3, hp3, hm3, hT3⟩
      have HZL := Lib.hid (show zs'.length = n by have := hp3.length_eq; have h9 := HN.out; simp at this; omega)
      have HO3 := Lib.hid (own_turn2 HO.out hT3 (fun k e => by have h1 := (HO.out.lt k e).1; have h2 := HB0.out; have h3 := HGL.out; exact ⟨by omega, by omega⟩))
      have HA3 := Lib.hid hA3
      have HK3 := Lib.hid hK3
      have HT3 := Lib.hid (take_step HT.out hp3 hm3)
      have HB3 : Hid (Below B W W3) := ⟨hT3.os.trans HB.out.os, hT3.tape.trans HB.out.tape, hT3.output.trans HB.out.output, Nat.le_trans HB.out.size hT3.size, fun k hk => by
        have h1 := HB0.out
        have h2 := HB.out.size
        have h3 := HA.out.row.lt g rfl
        exact (hT3.block k (by omega) (by omega) (by omega)).trans (HB.out.block k hk)⟩
      have HS3 := Lib.hid (Nat.le_trans HB.out.size hT3.size)
      clear hA3 hK3 hp3 hm3 hT3 b0
      obtain ⟨x, hx⟩ : ∃ x, atK ys 0 = x := ⟨_, rfl⟩
      rw [hx] at HT3 ⊢
      clear hx
      obtain ⟨p, fk, fv, tk, tv⟩ := x
      have ta := fun W => ta_cmd p fk fv tk tv W
      unfold cmdV
      simp only
      go_wp2_with (at_builtin; refine wpList_append_cmds rfl _ _ rfl W.heap.size _ acc rfl (HO3.out.alloc _) _ _ _ [⟨p, fk, fv, tk, tv⟩] rfl (cmds_lit W3 ⟨p, fk, fv, tk, tv⟩) (by have := HLY.out; have := HLE.out.2; simp; omega) (by have := HS3.out; simp; omega) ?_; intro v4 w4 ho4 hg4)
      exact take_round HA.out HGL.out HB0.out.1 HO3.out HA3.out HZL.out HK3.out HB3.out HS3.out HT3.out hg4 ho4

end Go.Proofs.YtohdpbalajjjiaaGreat
