/-
  Texts of this proof, one behind the other: Ap, Bc, Et, Eo, Mq, Hc.
-/
import Derived.OwnWalk
import Derived.Laws.OwnMore
import Derived.RangeFuncNested
import Derived.RangeFuncBound
import Derived.RangeFuncCalls
import Derived.RangeFuncLeaves
import Derived.OwnWalkIn
import Derived.TacticsInMore
import Derived.LoopNIn
import Derived.LoopIn
import Derived.Lib.HexFns2
import Derived.RangeFuncBox
import Derived.RangeFuncFrom
import Derived.Laws.Cover1
import Derived.StillTailTactics
import Derived.Deep.RegionHeld3
import Derived.Deep.Cut
import Derived.Deep.RegionLaw
import Derived.WalkSmall
import Derived.Deep.QuietTactic
import Derived.Test.YtdkpabnpobpdhaaGreatRk
import Derived.Test.YtdkpabnpobpdhaaGreatQ4
import Derived.Test.YtdkpabnpobpdhaaGreatQ5
import Derived.Test.YtdkpabnpobpdhaaGreatQ2
import Derived.Test.YtdkpabnpobpdhaaGreatHb
import Derived.Test.YtdkpabnpobpdhaaGreatQ3
/-
  append to a list of the call's own, and where the result lies: in the same block, or in a new one.
-/
namespace Go.Proofs.YtdkpabnpobpdhaaGreat
open Go.RowKit
set_option linter.unusedVariables false

/-- The result's block is the old one or a new one. -/
def SameOrNew (w : World) (v v' : Value) : Prop := ∀ k, v'.ownBlock = some k → v.ownBlock = some k ∨ w.heap.size ≤ k

theorem append_where {P : Program} {w w' : World} {base n m c : Nat} {t ty e : TypeId} {i : TypeInfo} {z v v' : Value} {xs news : List Value} {a : Addr} (ht : P.underlying t = some (.slice e)) (hi : P.info? e = some i) (hz : i.zero = some z) (hs1 : i.size = 1)
    (hown : w.ownsRow base e 1 v n xs) (hl : news.length = m * 1) (hnews : ∀ j u, news[j]? = some u → w.cell? (a.add j) = some u) (h1 : ∀ u ∈ news, u.oneCell' = true) (h63 : n + m ≤ maxLen) (hbytes : (n + m) * i.bytes ≤ 140737488355328)
    (hr : (Builtin.append_ #[t, t] ty #[v, .slice (some a) m c]).run P w = .ok v' w') (h4 : v' = .slice none 0 0 ↔ v = .slice none 0 0 ∧ m = 0) : SameOrNew w v v' := by
  intro k hk
  have h63' : n + m ≤ 9223372036854775807 := by unfold maxLen at h63; omega
  rcases hown.2 with ⟨rfl, rfl⟩ | ⟨g, cap, cur, rfl, hbg, hg, hnc, hcm, hcs, htake⟩
  · by_cases hm : m = 0
    · rw [h4.2 ⟨rfl, hm⟩] at hk; cases hk
    · have hr2 := run_append_nil (P := P) w t ty e i z ht hi hz a m c news (by rw [hs1]; exact hl) hnews (by omega) (by omega) (by
        rw [Nat.zero_add] at hbytes; omega)
      rw [hr] at hr2
      injection hr2 with e1 _
      rw [e1] at hk
      simp [Value.ownBlock] at hk
      exact .inr (by omega)
  · by_cases hroom : n + m ≤ cap
    · have hr2 := run_append_room (P := P) w t ty e i ht hi g n cap cur hg a m c news (by rw [hs1]; exact hl) hnews h1 hroom (by rw [hs1, hl, hcs]; omega)
      rw [hr] at hr2
      injection hr2 with e1 _
      rw [e1] at hk
      exact .inl hk
    · have hr2 := run_append_grow (P := P) w t ty e i z ht hi hz ⟨g, 0, none⟩ n cap xs (by rw [hs1]; exact hown.1) (hown.cells (g := g) rfl) a m c news (by rw [hs1]; exact hl) hnews (by omega) (by omega) (growslice_fits (by omega) hbytes)
      rw [hr] at hr2
      injection hr2 with e1 _
      rw [e1] at hk
      simp [Value.ownBlock] at hk
      exact .inr (by omega)

theorem wpList_append_where {P : Program} {w : World} {ops : Array Oper} {rest : List Oper} {o : Oper} {a : Act} {Q : Exit → Act → World → Prop} (hgd : o.guard = none) (s x : Operand) (t : TypeId)
    (ho : o.op = .call { callee := .builtin .append, args := #[s, x], argTypes := #[t, t] })
    (base : Nat) (e : TypeId) (i : TypeInfo) (z : Value) (bytes : Nat) (ht : P.underlying t = some (.slice e)) (hi : P.info? e = some i) (hz : i.zero = some z)
    (hsize : i.size = 1) (hby : i.bytes = bytes) (hzs : z.cells.size = 1)
    (v : Value) (n : Nat) (xs : List Value) (hs : a.eval s = v) (hown : w.ownsRow base e 1 v n xs)
    (ad : Addr) (m c : Nat) (news : List Value) (hx : a.eval x = .slice (some ad) m c) (hl : news.length = m * 1) (hnews : ∀ j u, news[j]? = some u → w.cell? (ad.add j) = some u) (h1 : ∀ u ∈ news, u.oneCell' = true)
    (h63 : n + m ≤ maxLen) (hbytes : (n + m) * bytes ≤ 140737488355328) (hbase : base ≤ w.heap.size)
    (h : ∀ v' w', w'.ownsRow base e 1 v' (n + m) (xs ++ news) → w.grownBy w' v.ownBlock → SameOrNew w v v' → wpList P ops Q rest (a.put o.dst v') w') : wpList P ops Q (o :: rest) a w := by
  refine wpList_plain hgd fun K hK => ?_
  obtain ⟨v', w', hr, h2, h3, h4⟩ := run_append_own (P := P) w base t o.type e i z 1 bytes ht hi hz hsize hby hzs (by decide) v n xs hown ad m c news hl hnews h1 h63 hbytes hbase
  have h5 := append_where ht hi hz hsize hown hl hnews h1 h63 (by rw [hby]; exact hbytes) hr h4
  unfold Oper.wp execOp
  simp only [ho, resolve, invoke, builtin, Sem.run_bind, Sem.run_pure, Result.andThen_ok, List.map_toArray, List.map_cons, List.map_nil, hs, hx, hr]
  exact hK _ _ (h v' w' h2 h3 h5)

end Go.Proofs.YtdkpabnpobpdhaaGreat

/-
  WALKS: slices.Backward over a list of commands.
-/
namespace Go.Proofs.YtdkpabnpobpdhaaGreat
open Go.RowKit
set_option linter.unusedVariables false

attribute [local go_sem] Oper.semAt_some

/-- A command of a list, with its place. -/
structure EltC (ns : List Cmd) where
  i : Nat
  n : Cmd
  at_ : ns[i]? = some n

/-- The commands ahead of a place, the last one first. -/
def backEC (ns : List Cmd) : (j : Nat) → j ≤ ns.length → List (EltC ns)
  | 0, _ => []
  | j + 1, h => ⟨j, ns[j], by simp⟩ :: backEC ns j (by omega)

theorem backEC_length (ns : List Cmd) : ∀ (j : Nat) (h : j ≤ ns.length), (backEC ns j h).length = j
  | 0, _ => rfl
  | j + 1, h => by show (backEC ns j _).length + 1 = _; rw [backEC_length ns j]

set_option maxRecDepth 100000 in
set_option maxHeartbeats 2000000 in
/-- The closure's walk, for whatever loop body. -/
theorem back1C_in (n : Nat) (hn : 1 ≤ n) (l Bn : Nat) (a : Option Addr) (len cap : Nat) (ns : List Cmd) (hl : len ≤ 2097152) (Kp : World → World → Prop)
    (hKc : ∀ W W', Kp W W' → W.cell? ⟨Bn, 0, none⟩ = some (.slice a len cap) → W'.cell? ⟨Bn, 0, none⟩ = some (.slice a len cap)) (hKn : ∀ W W', Kp W W' → CmdsAt W a len ns → CmdsAt W' a len ns)
    (J Jx : List (EltC ns) → World → Prop)
    (hY : ∀ pre x W, J pre W → pre.length < ns.length → YieldAt Fence.wide (n - 1) Tryz.prog l #[.int .i64 x.i, cmdV x.n] W fun e W' =>
      (e = .returned (.bool true) ∧ J (pre ++ [x]) W' ∧ Kp W W') ∨ (e = .returned (.bool false) ∧ Jx (pre ++ [x]) W'))
    (W : World) (hBn : W.cell? ⟨Bn, 0, none⟩ = some (.slice a len cap)) (hN : CmdsAt W a len ns) (h0 : J [] W) :
    CallsIn Fence.wide n Tryz.prog 107 #[.func (.yield l) #[] #[], .pointer (some ⟨Bn, 0, none⟩)] W fun e W' => (∃ v, e = .returned v) ∧
      ((∃ ys, ys = backEC ns ns.length (Nat.le_refl _) ∧ J ys W') ∨ (∃ pre, pre <+: backEC ns ns.length (Nat.le_refl _) ∧ Jx pre W')) := by
  have hlen := hN.1
  have HN := Lib.hid hN
  have HLE := Lib.hid hlen
  have hl' : (len : Int) ≤ 2097152 := by omega
  have HKC := Lib.hid hKc
  have HKN := Lib.hid hKn
  have HY := Lib.hid hY
  clear hN hlen hKc hKn hY
  refine callsIn_of_wp Tryz.func107 rfl trivial ?_ rfl
  simp only [Tryz.ntmps107, List.size_toArray, List.length_cons, List.length_nil, Nat.reduceAdd, Nat.reduceSub, Array.replicate_succ, Array.replicate_zero, List.push_toArray, List.append_toArray, List.nil_append, List.cons_append]
  gi_wp2
  gi_loopw [3] (fun i wr => ∃ (pre : List (EltC ns)) (j : Nat) (hj : j ≤ ns.length), i = .int .i64 ((j : Int) - 1) ∧ Hid (backEC ns ns.length (Nat.le_refl _) = pre ++ backEC ns j hj) ∧ J pre wr ∧ wr.cell? ⟨Bn, 0, none⟩ = some (.slice a len cap) ∧ Hid (CmdsAt wr a len ns))
    (fun i _ => (intOf i + 1).toNat)
  case atStart =>
    exact ⟨[], ns.length, Nat.le_refl _, by rw [HLE.out], rfl, h0, hBn, HN.out⟩
  case round =>
    obtain ⟨pre, j, hj, rfl, HX, hJs, hc, HNr⟩ := hrel
    cases j with
    | zero =>
      gi_wp2
      go_end0
      exact ⟨⟨_, rfl⟩, .inl ⟨pre, by have := HX.out; simpa [backEC] using this.symm, hJs⟩⟩
    | succ j =>
      obtain ⟨b, off, nd, hab, hnd, c0, c1, c2, c3, c4⟩ := HNr.out.node (i := j) (by have := HLE.out; omega)
      have hlt : pre.length < ns.length := by
        have := congrArg List.length HX.out
        rw [List.length_append, backEC_length, backEC_length] at this
        omega
      obtain ⟨x, hxi, hxn⟩ : ∃ x : EltC ns, x.i = j ∧ x.n = nd := ⟨⟨j, nd, hnd⟩, rfl, rfl⟩
      have HX2 := Lib.hid (show backEC ns ns.length (Nat.le_refl _) = pre ++ [x] ++ backEC ns j (Nat.le_of_succ_le hj) by
        rw [HX.out, List.append_assoc]
        show pre ++ (⟨j, ns[j], _⟩ :: backEC ns j _) = pre ++ (x :: backEC ns j _)
        have e : ns[j] = nd := by have := List.getElem?_eq_some_iff.1 hnd; exact this.2
        obtain ⟨xi, xn, xa⟩ := x
        simp only at hxi hxn
        subst hxi; subst hxn
        congr 2
        congr 1)
      obtain ⟨fn, tmps, assign, body, hy, hR⟩ := HY.out pre x wr hJs hlt
      rw [hxi, hxn] at hy
      dsimp only [cmdV] at hy
      have hjl : (j : Int) < len := by have := HLE.out; omega
      have hjl2 : j < len := by have := HLE.out; omega
      subst hab
      have HJ := Lib.hid hj
      have HC := Lib.hid hc
      clear hnd hlt hxi hxn
      gi_wp2
      refine hR.mono ?_
      rintro e W3 (⟨rfl, hJ3, hk3⟩ | ⟨rfl, hJx3⟩)
      · have c3 := HKC.out _ _ hk3 HC.out
        have N3 := Lib.hid (HKN.out _ _ hk3 HNr.out)
        gi_wp2
        go_roundw
        case rel => exact ⟨pre ++ [x], j, by have := HJ.out; omega, by simp, HX2.out, hJ3, c3, N3.out⟩
        case measure => simp [intOf]
      · gi_wp2
        refine bodyPost_ret (results_none rfl _ _ _) rfl ?_
        exact ⟨⟨_, rfl⟩, .inr ⟨pre ++ [x], by rw [HX2.out]; exact List.prefix_append _ _, hJx3⟩⟩

set_option maxHeartbeats 1000000 in
set_option maxRecDepth 100000 in
/-- slices.Backward: the slice is boxed; the function value captures the box. -/
theorem backwardC_in (n : Nat) (a : Option Addr) (len cap : Nat) (w : World) :
    CallsIn Fence.wide n Tryz.prog 95 #[.slice a len cap] w fun e w' => e = .returned (.func (.func 107) #[] #[.pointer (some ⟨w.heap.size, 0, none⟩)]) ∧ w' = w.alloc (.cells #[.slice a len cap] 23) := by
  refine callsIn_of_wp Tryz.func95 rfl trivial ?_ rfl
  simp only [Tryz.ntmps95, List.size_toArray, List.length_cons, List.length_nil, Nat.reduceAdd, Nat.reduceSub, Array.replicate_succ, Array.replicate_zero, List.push_toArray, List.append_toArray, List.nil_append, List.cons_append]
  gi_wp2
  go_ret
  exact ⟨rfl, rfl⟩

/-- What a round keeps: what lay below, and the box of the list. -/
def BackKC (n₀ Bn : Nat) (W W' : World) : Prop := Below n₀ W W' ∧ W'.heap[Bn]? = W.heap[Bn]?

theorem cmds_below {n₀ : Nat} {W W' : World} {a : Option Addr} {len : Nat} {ns : List Cmd} (h : CmdsAt W a len ns) (hl : ∀ b off, a = some ⟨b, off, none⟩ → len ≠ 0 → b < n₀) (hb : Below n₀ W W') : CmdsAt W' a len ns := by
  obtain ⟨h1, h0 | ⟨b, off, ha, hc⟩⟩ := h
  · exact ⟨h1, .inl h0⟩
  · by_cases h0 : len = 0
    · exact ⟨h1, .inl h0⟩
    · have hbn := hl b off ha h0
      exact ⟨h1, .inr ⟨b, off, ha, fun i n hn => ⟨(hb.cell (p := ⟨b, _, none⟩) hbn).trans (hc i n hn).1, (hb.cell (p := ⟨b, _, none⟩) hbn).trans (hc i n hn).2.1, (hb.cell (p := ⟨b, _, none⟩) hbn).trans (hc i n hn).2.2.1, (hb.cell (p := ⟨b, _, none⟩) hbn).trans (hc i n hn).2.2.2.1, (hb.cell (p := ⟨b, _, none⟩) hbn).trans (hc i n hn).2.2.2.2⟩⟩⟩

theorem cmds_lt {W : World} {a : Option Addr} {len : Nat} {ns : List Cmd} (h : CmdsAt W a len ns) : ∀ b off, a = some ⟨b, off, none⟩ → len ≠ 0 → b < W.heap.size := by
  intro b off ha h0
  obtain ⟨b', off', n, ha', _, hc, _⟩ := h.node (i := 0) (by omega)
  rw [ha] at ha'
  cases ha'
  exact World.block_lt_of_cell? W _ hc

theorem backwardC_stops (n : Nat) (hn : 1 ≤ n) (Bn n₀ : Nat) (a : Option Addr) (len cap : Nat) (ns : List Cmd) (hl : len ≤ 2097152) (hlow : ∀ b off, a = some ⟨b, off, none⟩ → len ≠ 0 → b < n₀) (w : World) (hn₀ : n₀ ≤ w.heap.size) (hBn : Bn < w.heap.size)
    (hc : w.cell? ⟨Bn, 0, none⟩ = some (.slice a len cap)) (hN : CmdsAt w a len ns) :
    SeqStopsK Fence.wide n Tryz.prog 107 #[.pointer (some ⟨Bn, 0, none⟩)] (fun x : EltC ns => #[Value.int .i64 x.i, cmdV x.n]) (BackKC n₀ Bn) (fun ys => ys = backEC ns ns.length (Nat.le_refl _)) (fun pre => pre <+: backEC ns ns.length (Nat.le_refl _)) ns.length w := fun l J Jx W hW hJ _ hY h0 =>
  back1C_in n hn l Bn a len cap ns hl (BackKC n₀ Bn) (fun W W' hk h => (World.cell?_of_block (a := ⟨Bn, 0, none⟩) hk.2).trans h) (fun W W' hk h => cmds_below h hlow hk.1) J Jx hY W
    ((hW.cell (p := ⟨Bn, 0, none⟩) hBn).trans hc) (cmds_below hN hlow (hW.mono hn₀)) h0

end Go.Proofs.YtdkpabnpobpdhaaGreat

/-
  LOGS OF THE PROGRAM IN MEMORY: an entry is a command and the entry behind it.
-/
namespace Go.Proofs.YtdkpabnpobpdhaaGreat
open Go.RowKit
set_option linter.unusedVariables false

/-- The cells of an entry. -/
def entC (c : Cmd) (nx : Option Addr) : Array Value := #[.string c.p, .int .i64 c.fk, .int .i64 c.fv, .int .i64 c.tk, .int .i64 c.tv, .pointer nx]

/-- The entries from a pointer on, each of them in a block of its own from B on. -/
def EntAt (B : Nat) (W : World) : Option Addr → List Cmd → Prop
  | a, [] => a = none
  | a, c :: cs => ∃ b nx, a = some ⟨b, 0, none⟩ ∧ B ≤ b ∧ W.heap[b]? = some (.cells (entC c nx) 117 (0, 0)) ∧ EntAt B W nx cs

theorem EntAt.kept {B : Nat} {W W' : World} : ∀ {cs : List Cmd} {a : Option Addr}, EntAt B W a cs → (∀ b, B ≤ b → ∀ c t f, W.heap[b]? = some (.cells c t f) → W'.heap[b]? = W.heap[b]?) → EntAt B W' a cs
  | [], _, h, _ => h
  | _ :: _, _, ⟨b, nx, h1, h2, h3, h4⟩, hk => ⟨b, nx, h1, h2, (hk b h2 _ _ _ h3).trans h3, EntAt.kept h4 hk⟩

theorem ent_lt {W : World} {b : Nat} {o : Obj} (h : W.heap[b]? = some o) : b < W.heap.size := (Array.getElem?_eq_some_iff.1 h).1

theorem EntAt.keep {B : Nat} {W W' : World} {cs : List Cmd} {a : Option Addr} (h : EntAt B W a cs) (hb : Below W.heap.size W W') : EntAt B W' a cs :=
  h.kept fun b _ _ _ _ e => hb.block b (ent_lt e)

/-- A turn of a block that holds no cells. -/
theorem EntAt.own {B : Nat} {W W' : World} {row : Option Nat} {cs : List Cmd} {a : Option Addr} (h : EntAt B W a cs) (hg : W.grownBy W' row) (hr : ∀ r, row = some r → ∃ o : Obj, W.heap[r]? = some o ∧ o.isCells = false) : EntAt B W' a cs :=
  h.kept fun b _ c t f e => hg.block b (ent_lt e) fun q => by
    obtain ⟨o, ho, hc⟩ := hr b q.symm
    rw [e] at ho; cases ho; cases hc

/-- A store below. -/
theorem EntAt.set {B : Nat} {W : World} {cs : List Cmd} {a : Option Addr} (h : EntAt B W a cs) {p : Addr} (hp : p.block < B) (v : Value) : EntAt B (W.setCell p v) a cs :=
  h.kept fun b hb _ _ _ e => Below.heap_setCell _ _ _ _ (by omega)

theorem EntAt.alloc {B : Nat} {W : World} {cs : List Cmd} {a : Option Addr} (h : EntAt B W a cs) (o : Obj) : EntAt B (W.alloc o) a cs := h.keep (below_box _ _)

/-- An entry more. -/
theorem EntAt.push {B : Nat} {W : World} {cs : List Cmd} {a : Option Addr} (h : EntAt B W a cs) (hB : B ≤ W.heap.size) (c : Cmd) : EntAt B (W.alloc (.cells (entC c a) 117)) (some ⟨W.heap.size, 0, none⟩) (c :: cs) :=
  ⟨W.heap.size, a, rfl, hB, World.alloc_heap_new W _, h.alloc _⟩

theorem EntAt.low {B C : Nat} {W : World} (hBC : C ≤ B) : ∀ {cs : List Cmd} {a : Option Addr}, EntAt B W a cs → EntAt C W a cs
  | [], _, h => h
  | _ :: _, _, ⟨b, nx, h1, h2, h3, h4⟩ => ⟨b, nx, h1, Nat.le_trans hBC h2, h3, EntAt.low hBC h4⟩

/-- The cells of the first entry. -/
theorem EntAt.first {B : Nat} {W : World} {c : Cmd} {cs : List Cmd} {a : Option Addr} (h : EntAt B W a (c :: cs)) :
    ∃ b nx, a = some ⟨b, 0, none⟩ ∧ B ≤ b ∧ EntAt B W nx cs ∧ W.cell? ⟨b, 0, none⟩ = some (.string c.p) ∧ W.cell? ⟨b, 1, none⟩ = some (.int .i64 c.fk) ∧ W.cell? ⟨b, 2, none⟩ = some (.int .i64 c.fv) ∧ W.cell? ⟨b, 3, none⟩ = some (.int .i64 c.tk) ∧ W.cell? ⟨b, 4, none⟩ = some (.int .i64 c.tv) ∧ W.cell? ⟨b, 5, none⟩ = some (.pointer nx) := by
  obtain ⟨b, nx, h1, h2, h3, h4⟩ := h
  refine ⟨b, nx, h1, h2, h4, ?_, ?_, ?_, ?_, ?_, ?_⟩ <;> simp [World.cell?, h3, entC]

theorem EntAt.len {B : Nat} {W : World} : ∀ {xs ys : List Cmd} {a : Option Addr}, EntAt B W a xs → EntAt B W a ys → xs.length = ys.length
  | [], [], _, _, _ => rfl
  | [], _ :: _, _, h, ⟨_, _, k, _⟩ => by rw [show _ = none from h] at k; cases k
  | _ :: _, [], _, ⟨_, _, k, _⟩, h => by rw [show _ = none from h] at k; cases k
  | _ :: _, _ :: _, _, ⟨b, nx, h1, _, h3, h4⟩, ⟨b', nx', k1, _, k3, k4⟩ => by
    rw [h1] at k1
    cases k1
    rw [h3] at k3
    have e : nx = nx' := by
      have := Option.some.inj k3
      simp [entC] at this
      exact this.2.2.2.2.2
    subst e
    rw [List.length_cons, List.length_cons, EntAt.len h4 k4]

/-- How many entries there are from a pointer on. -/
theorem ent_count (B : Nat) : ∃ f : World → Value → Nat, ∀ W a cs, EntAt B W a cs → f W (.pointer a) = cs.length := by
  classical
  refine ⟨fun W v => if h : ∃ n : Nat, ∃ a cs, v = .pointer a ∧ EntAt B W a cs ∧ cs.length = n then Classical.choose h else 0, fun W a cs h => ?_⟩
  have hx : ∃ n : Nat, ∃ a' cs', (Value.pointer a) = .pointer a' ∧ EntAt B W a' cs' ∧ cs'.length = n := ⟨_, a, cs, rfl, h, rfl⟩
  show (if h : _ then _ else _) = _
  rw [dif_pos hx]
  obtain ⟨a', cs', e, h', hl⟩ := Classical.choose_spec hx
  cases e
  exact hl.symm.trans (h'.len h)

/-- A log that the call has made. -/
def EntPost (cs : List Cmd) (W : World) (e : Ending) (w' : World) : Prop := ∃ a, e = .returned (.pointer a) ∧ EntAt W.heap.size w' a cs ∧ Below W.heap.size W w'

end Go.Proofs.YtdkpabnpobpdhaaGreat

/-
  WALKS: impl.entriesOf.
-/
namespace Go.Proofs.YtdkpabnpobpdhaaGreat
open Go.RowKit
set_option linter.unusedVariables false

attribute [local go_sem] Oper.semAt_some

/-- What entriesOf tells. -/
def EntriesPost (cs : List Cmd) (W : World) (e : Ending) (w' : World) : Prop :=
  Below W.heap.size W w' ∧ ((validL cs = false ∧ e = .returned (.tuple #[.pointer none, .bool false])) ∨ (validL cs = true ∧ ∃ a, e = .returned (.tuple #[.pointer a, .bool true]) ∧ EntAt W.heap.size w' a cs))

theorem back_map (cs : List Cmd) : ∀ (j : Nat) (h : j ≤ cs.length), (backEC cs j h).map (fun x => x.n) = (cs.take j).reverse
  | 0, _ => rfl
  | j + 1, h => by
    show cs[j] :: (backEC cs j _).map (fun x => x.n) = _
    rw [back_map cs j, List.take_add_one, List.getElem?_eq_getElem (by omega), Option.toList_some, List.reverse_append]
    rfl

theorem back_all (cs : List Cmd) : ((backEC cs cs.length (Nat.le_refl _)).map (fun x => x.n)).reverse = cs := by
  rw [back_map, List.take_length, List.reverse_reverse]

/-- Between two rounds. -/
def EntI (cs : List Cmd) (X : Nat) (pre : List (EltC cs)) (W : World) : Prop :=
  ∃ p, Boxed W X 86 (.pointer none) ∧ Boxed W (X + 1) 4 (.bool false) ∧ Boxed W (X + 1 + 1) 86 (.pointer p) ∧ EntAt (X + 1 + 1 + 1) W p (pre.map (fun x => x.n)).reverse ∧ (∀ x ∈ pre, validC x.n = true) ∧ X + 1 + 1 + 1 < W.heap.size

def EntX (cs : List Cmd) (X : Nat) (c : Code) (pre : List (EltC cs)) (W : World) : Prop :=
  c = .ret ∧ (∃ x ∈ pre, validC x.n = false) ∧ Boxed W X 86 (.pointer none) ∧ Boxed W (X + 1) 4 (.bool false)

theorem box_own {A B : World} {row : Option Nat} {b : Nat} {t : TypeId} {v : Value} (h : Boxed A b t v) (hg : A.grownBy B row) (hr : ∀ r, row = some r → ∃ o : Obj, A.heap[r]? = some o ∧ o.isCells = false) : Boxed B b t v :=
  h.kept hg fun e => by
    obtain ⟨o, ho, hc⟩ := hr _ e.symm
    rw [show A.heap[b]? = _ from h] at ho; cases ho; cases hc

theorem box_keep {W W' : World} {b : Nat} {t : TypeId} {v : Value} (h : Boxed W b t v) (hb : Below W.heap.size W W') : Boxed W' b t v := (hb.block b h.lt).trans h

theorem EntI.own (cs : List Cmd) (X : Nat) : Own (EntI cs X) := by
  rintro pre A B row ⟨p, h1, h2, h3, h4, h5, h6⟩ hg hr
  exact ⟨p, box_own h1 hg hr, box_own h2 hg hr, box_own h3 hg hr, h4.own hg hr, h5, Nat.lt_of_lt_of_le h6 hg.size⟩

theorem EntX.own (cs : List Cmd) (X : Nat) (c : Code) : Own (EntX cs X c) := by
  rintro pre A B row ⟨h1, h2, h3, h4⟩ hg hr
  exact ⟨h1, h2, box_own h3 hg hr, box_own h4 hg hr⟩

/-- The loop's variable lies in a box of its own. -/
def CmBox {cs : List Cmd} (B0 : Nat) (tm : Nat → EltC cs → Array Value) (x : EltC cs) (a' : Act) (W : World) : Prop :=
  ∃ Bx, B0 ≤ Bx ∧ W.heap[Bx]? = some (.cells #[.string x.n.p, .int .i64 x.n.fk, .int .i64 x.n.fv, .int .i64 x.n.tk, .int .i64 x.n.tv] 33 (0, 0)) ∧ a' = { tmps := tm Bx x, defers := [] }

theorem CmBox.own {cs : List Cmd} (B0 : Nat) (tm : Nat → EltC cs → Array Value) (x : EltC cs) (a' : Act) : Own (fun (_ : Unit) W => CmBox B0 tm x a' W) := by
  rintro _ A B row ⟨Bx, h0, h1, h2⟩ hg hr
  refine ⟨Bx, h0, (hg.block Bx (Array.getElem?_eq_some_iff.1 h1).1 fun e => ?_).trans h1, h2⟩
  obtain ⟨o, ho, hc⟩ := hr _ e.symm
  rw [h1] at ho; cases ho; cases hc

theorem keeps_below {W W' : World} (h : Below W.heap.size W W') : KeepsOthers W W' := KeepsOthers.of_grownBy (below_grown h) (fun _ _ e => by cases e)

theorem ent_stop {cs : List Cmd} {B : Nat} {W W1 W2 : World} {pre : List (EltC cs)} {x : EltC cs} (hv : validC x.n = false) (h1 : Boxed W2 W.heap.size 86 (.pointer none)) (h2 : Boxed W2 (W.heap.size + 1) 4 (.bool false))
    (hb1 : Below W.heap.size W W1) (hb2 : Below W1.heap.size W1 W2) :
    KeepsFrom B W1 ((W2.setCell ⟨W.heap.size, 0, none⟩ (.pointer none)).setCell ⟨W.heap.size + 1, 0, none⟩ (.bool false)) ∧
    (EntX cs W.heap.size .ret (pre ++ [x]) ((W2.setCell ⟨W.heap.size, 0, none⟩ (.pointer none)).setCell ⟨W.heap.size + 1, 0, none⟩ (.bool false)) ∧ Below W.heap.size W ((W2.setCell ⟨W.heap.size, 0, none⟩ (.pointer none)).setCell ⟨W.heap.size + 1, 0, none⟩ (.bool false))) :=
  ⟨(((keeps_below hb2).trans (KeepsOthers.setCell _ _ _)).trans (KeepsOthers.setCell _ _ _)).from _,
    ⟨rfl, ⟨x, by simp, hv⟩, (h1.set _).other (by omega) _, (h2.other (by omega) _).set _⟩, below_setCell (below_setCell (below_next hb1 hb2) _ _ (Nat.le_refl _)) _ _ (Nat.le_succ _)⟩

theorem size_set (W : World) (a : Addr) (v : Value) : (W.setCell a v).heap.size = W.heap.size := by simp [World.setCell]

theorem ent_round {cs : List Cmd} {B : Nat} {W W1 W2 : World} {pre : List (EltC cs)} {x : EltC cs} {p : Option Addr} (hv : validC x.n = true) (h1 : Boxed W1 W.heap.size 86 (.pointer none)) (h2 : Boxed W1 (W.heap.size + 1) 4 (.bool false))
    (h3 : Boxed W1 (W.heap.size + 1 + 1) 86 (.pointer p)) (h4 : EntAt (W.heap.size + 1 + 1 + 1) W1 p (pre.map (fun x => x.n)).reverse) (h5 : ∀ x ∈ pre, validC x.n = true) (hlt : W.heap.size + 1 + 1 + 1 < W1.heap.size)
    (hb1 : Below W.heap.size W W1) (hb2 : Below W1.heap.size W1 W2) :
    KeepsFrom B W1 ((W2.setCell ⟨W.heap.size + 1 + 1, 0, none⟩ (.pointer (some ⟨W2.heap.size, 0, none⟩))).alloc (.cells (entC x.n p) 117)) ∧
    BackKC W.heap.size (W.heap.size + 1 + 1 + 1) W1 ((W2.setCell ⟨W.heap.size + 1 + 1, 0, none⟩ (.pointer (some ⟨W2.heap.size, 0, none⟩))).alloc (.cells (entC x.n p) 117)) ∧
    (EntI cs W.heap.size (pre ++ [x]) ((W2.setCell ⟨W.heap.size + 1 + 1, 0, none⟩ (.pointer (some ⟨W2.heap.size, 0, none⟩))).alloc (.cells (entC x.n p) 117)) ∧ Below W.heap.size W ((W2.setCell ⟨W.heap.size + 1 + 1, 0, none⟩ (.pointer (some ⟨W2.heap.size, 0, none⟩))).alloc (.cells (entC x.n p) 117))) := by
  have hs2 : W1.heap.size ≤ W2.heap.size := hb2.size
  have g1 := box_keep h1 hb2
  have g2 := box_keep h2 hb2
  have g3 := box_keep h3 hb2
  have hbl : Below W.heap.size W1 ((W2.setCell ⟨W.heap.size + 1 + 1, 0, none⟩ (.pointer (some ⟨W2.heap.size, 0, none⟩))).alloc (.cells (entC x.n p) 117)) :=
    (below_setCell (hb2.mono hb1.size) ⟨W.heap.size + 1 + 1, 0, none⟩ (.pointer (some ⟨W2.heap.size, 0, none⟩)) (by show W.heap.size ≤ W.heap.size + 1 + 1; omega)).alloc (by rw [size_set]; have := hb1.size; omega) _
  refine ⟨(((keeps_below hb2).trans (KeepsOthers.setCell _ _ _)).trans (KeepsOthers.alloc _ _)).from _, ⟨hbl, ?_⟩, ⟨some ⟨W2.heap.size, 0, none⟩, (g1.other (by omega) _).alloc _, (g2.other (by omega) _).alloc _, (g3.set _).alloc _, ?_, ?_, by rw [World.size_alloc, size_set]; omega⟩, hb1.trans hbl⟩
  · rw [Below.heap_alloc _ _ _ (by rw [size_set]; omega), Below.heap_setCell _ _ _ _ (by show W.heap.size + 1 + 1 + 1 ≠ W.heap.size + 1 + 1; omega)]
    exact hb2.block _ hlt
  · have := ((h4.keep hb2).set (p := ⟨W.heap.size + 1 + 1, 0, none⟩) (by show W.heap.size + 1 + 1 < _; omega) (.pointer (some ⟨W2.heap.size, 0, none⟩))).push (by rw [size_set]; omega) x.n
    rw [size_set] at this
    simpa using this
  · intro y hy
    rcases List.mem_append.1 hy with hy | hy
    · exact h5 y hy
    · rw [List.mem_singleton.1 hy]; exact hv

set_option maxHeartbeats 1000000 in
set_option maxRecDepth 100000 in
theorem entriesOf_long (a : Option Addr) (len cap : Nat) (cs : List Cmd) (hl : 20 < len) (W : World) (hN : CmdsAt W a len cs) :
    Calls Tryz.prog 77 #[.slice a len cap] W (EntriesPost cs W) := by
  have hv := Lib.hid (show validL cs = false by
    rw [Bool.eq_false_iff]
    intro h
    have := ((validL_iff cs).1 h).2
    have := hN.1
    omega)
  have hl' : (20 : Int) < len := by omega
  clear hN hl
  go_enter Tryz.func77, Tryz.ntmps77
  go_wp2
  refine bodyPost_ret (v := .tuple #[.pointer none, .bool false]) (by simp [results, Tryz.f77, go_sem]) rfl ⟨?_, .inl ⟨hv.out, rfl⟩⟩
  exact ((Below.refl _ _).alloc (Nat.le_refl _) _).alloc (by simp) _

set_option maxHeartbeats 2000000 in
set_option maxRecDepth 100000 in
theorem entriesOf_in (a : Option Addr) (len cap : Nat) (cs : List Cmd) (hl : len ≤ 20) (hs : ShortC 2097152 cs) (W : World) (hN : CmdsAt W a len cs) :
    CallsIn Fence.wide 6 Tryz.prog 77 #[.slice a len cap] W (EntriesPost cs W) := by
  have HN := Lib.hid hN
  have HE := Lib.hid hN.1
  have HS := Lib.hid hs
  have HL := Lib.hid hl
  have hl' : (len : Int) ≤ 20 := by omega
  clear hN hs hl
  refine callsIn_of_wp_marks Tryz.func77 rfl trivial ?_ rfl
  simp only [Tryz.ntmps77, List.size_toArray, List.length_cons, List.length_nil, Nat.reduceAdd, Nat.reduceSub, Array.replicate_succ, Array.replicate_zero, List.push_toArray, List.append_toArray, List.nil_append, List.cons_append]
  gi_wp2_with (refine ⟨trivial, ?_⟩; gi_at_call 95; refine (backwardC_in _ _ _ _ _).mono ?_; rintro e w' ⟨rfl, rfl⟩)
  have hlow := cmds_lt HN.out
  have hB0 : Below W.heap.size W ((((W.alloc (.cells #[.pointer none] 86)).alloc (.cells #[.bool false] 4)).alloc (.cells #[.pointer none] 86)).alloc (.cells #[.slice a len cap] 23)) :=
    ((((Below.refl _ W).alloc (Nat.le_refl _) _).alloc (by simp) _).alloc (by simp; omega) _).alloc (by simp; omega) _
  have hI0 : EntI cs W.heap.size [] ((((W.alloc (.cells #[.pointer none] 86)).alloc (.cells #[.bool false] 4)).alloc (.cells #[.pointer none] 86)).alloc (.cells #[.slice a len cap] 23)) := by
    have b0 := Boxed.new W 86 (.pointer none)
    have b1 := Boxed.new (W.alloc (.cells #[.pointer none] 86)) 4 (.bool false)
    have b2 := Boxed.new ((W.alloc (.cells #[.pointer none] 86)).alloc (.cells #[.bool false] 4)) 86 (.pointer none)
    simp only [World.size_alloc] at b1 b2
    exact ⟨none, ((b0.alloc _).alloc _).alloc _, (b1.alloc _).alloc _, b2.alloc _, rfl, fun x hx => (by cases hx), by simp⟩
  have hsz : ((((W.alloc (.cells #[.pointer none] 86)).alloc (.cells #[.bool false] 4)).alloc (.cells #[.pointer none] 86)).alloc (.cells #[.slice a len cap] 23)).heap.size = W.heap.size + 1 + 1 + 1 + 1 := by simp
  have hbk : ((((W.alloc (.cells #[.pointer none] 86)).alloc (.cells #[.bool false] 4)).alloc (.cells #[.pointer none] 86)).alloc (.cells #[.slice a len cap] 23)).cell? ⟨W.heap.size + 1 + 1 + 1, 0, none⟩ = some (.slice a len cap) := by
    have := (Boxed.new (((W.alloc (.cells #[.pointer none] 86)).alloc (.cells #[.bool false] 4)).alloc (.cells #[.pointer none] 86)) 23 (.slice a len cap)).cell
    simpa only [World.size_alloc] using this
  generalize ((((W.alloc (.cells #[.pointer none] 86)).alloc (.cells #[.bool false] 4)).alloc (.cells #[.pointer none] 86)).alloc (.cells #[.slice a len cap] 23)) = Wl at hB0 hI0 hsz hbk ⊢
  have HSZ := Lib.hid hsz
  refine wpIn_rangeFunc_ownH rfl (by omega) (gf := 107) (lb := #[.pointer (some ⟨W.heap.size + 1 + 1 + 1, 0, none⟩)]) rfl trivial (enters_of Tryz.func107 (by kernel_rfl) rfl)
    (backwardC_stops _ (by omega) (W.heap.size + 1 + 1 + 1) W.heap.size a len cap cs (by have := HL.out; omega) hlow Wl hB0.size (by rw [hsz]; omega) hbk (HN.out.keep hB0))
    (fun h k => ⟨h.1.trans k.1, k.2.trans h.2⟩)
    (fun W' l o o' hl _ _ _ => by
      rw [HSZ.out] at hl
      exact ⟨⟨rfl, rfl, rfl, by simp, fun k hk => World.putObj_heap_other (by omega)⟩, World.putObj_heap_other (by omega)⟩)
    (Below.refl _ _) (fun _ => rfl)
    (fun pre W' => EntI cs W.heap.size pre W' ∧ Below W.heap.size W W') (fun c pre W' => EntX cs W.heap.size c pre W' ∧ Below W.heap.size W W')
    (OwnFrom.and (Own.from (EntI.own cs W.heap.size) _) (ownFrom_below (Nat.le_refl _) hB0.size)) (fun c => OwnFrom.and (Own.from (EntX.own cs W.heap.size c) _) (ownFrom_below (Nat.le_refl _) hB0.size))
    ⟨hI0, hB0⟩
    (CmBox Wl.heap.size (fun Bx x => #[.slice a len cap, undef, .pointer (some ⟨W.heap.size, 0, none⟩), .pointer (some ⟨W.heap.size + 1, 0, none⟩), .pointer (some ⟨W.heap.size + 1 + 1, 0, none⟩), undef, .pointer (some ⟨Bx, 0, none⟩), .slice a len cap, .int .i64 len, .bool (decide ((20 : Int) < len)), .slice a len cap, .func (.func 107) #[] #[.pointer (some ⟨W.heap.size + 1 + 1 + 1, 0, none⟩)], .int .i64 x.i, cmdV x.n, undef, undef, undef, undef, undef, undef, undef, undef]))
    (fun x a' => Own.from (CmBox.own _ _ x a') _)
    ?assign ?body ?done ?stop
  case assign =>
    rintro l pre x W1 K ⟨hi1, hb1⟩ hK
    unfold cmdV
    gi_wp2
    obtain ⟨_, _, _, hb3, _, _, hle⟩ := id hi1
    exact hK _ _ ((KeepsOthers.alloc _ _).from _) ⟨(Below.refl _ _).alloc hb1.size _, Below.heap_alloc _ _ _ hle⟩ ⟨(EntI.own cs W.heap.size).alloc _ hi1, hb1.alloc hb1.size _⟩ ⟨W1.heap.size, by rw [HSZ.out]; exact hle, World.alloc_heap_new W1 _, rfl⟩
  case body =>
    rintro l pre x a' W1 hl ⟨r, hr⟩ ⟨hi1, hb1⟩ ⟨Bx, hBx, hbx, rfl⟩ hlt
    obtain ⟨p, g1, g2, g3, g4, g5, g6⟩ := hi1
    obtain ⟨i, c, hat⟩ := x
    obtain ⟨x, hx⟩ : ∃ x : EltC cs, x = ⟨i, c, hat⟩ := ⟨_, rfl⟩
    rw [← hx]
    have HX := Lib.hid (show x.i = i ∧ x.n = c by rw [hx]; exact ⟨rfl, rfl⟩)
    simp only at hbx
    dsimp only
    obtain ⟨vc, hvc⟩ : ∃ vc, validC c = vc := ⟨_, rfl⟩
    have HC := Lib.hid (fun W' => show Calls Tryz.prog 38 #[cmdV c] W' (BoolPost vc W') by rw [← hvc]; exact implCmdValid_c c (HS.out.at hat) W')
    have HVC := Lib.hid hvc
    have HBX := Lib.hid (And.intro hBx (Array.getElem?_eq_some_iff.1 hbx).1)
    have HG1 := Lib.hid g1
    have HG2 := Lib.hid g2
    have HG3 := Lib.hid g3
    have HG4 := Lib.hid g4
    have HG5 := Lib.hid g5
    have HB1 := Lib.hid hb1
    obtain ⟨hxi, hxn⟩ := HX.out
    simp only [hxi, hxn]
    obtain ⟨q, fk, fv, tk, tv⟩ := c
    have c0 : W1.cell? ⟨Bx, 0, none⟩ = some (.string q) := by simp [World.cell?, hbx]
    have c1 : W1.cell? ⟨Bx, 1, none⟩ = some (.int .i64 fk) := by simp [World.cell?, hbx]
    have c2 : W1.cell? ⟨Bx, 2, none⟩ = some (.int .i64 fv) := by simp [World.cell?, hbx]
    have c3 : W1.cell? ⟨Bx, 3, none⟩ = some (.int .i64 tk) := by simp [World.cell?, hbx]
    have c4 : W1.cell? ⟨Bx, 4, none⟩ = some (.int .i64 tv) := by simp [World.cell?, hbx]
    unfold cmdV at HC ⊢
    simp only at HC ⊢
    clear hx hbx hr g1 g2 g3 g4 g5 g6 hat hvc hb1 hlt hl hBx hbk hB0 hI0 hlow hxi hxn
    cases vc with
    | false =>
      gi_wp2_with (refine ⟨trivial, ?_⟩; gi_at_call 38; refine (CallsIn.inRound l (callsIn_wide.2 (HC.out _))).mono ?_; rintro e W2 ⟨rfl, hb2⟩; have G1 := box_keep HG1.out hb2; have G2 := box_keep HG2.out hb2; have s1 := G1.cell; have y1 := G1.frozen; have s2 := G2.cell; have y2 := G2.frozen; have HB2 := Lib.hid hb2; have HH1 := Lib.hid G1; have HH2 := Lib.hid G2; clear hb2 G1 G2)
      exact ent_stop (x := x) (by rw [HX.out.2]; exact HVC.out) HH1.out HH2.out HB1.out HB2.out
    | true =>
      gi_wp2_with (refine ⟨trivial, ?_⟩; gi_at_call 38; refine (CallsIn.inRound l (callsIn_wide.2 (HC.out _))).mono ?_; rintro e W2 ⟨rfl, hb2⟩; have G3 := box_keep HG3.out hb2; have s3 := G3.cell; have y3 := G3.frozen; have k0 := cell_kept hb2 c0; have k1 := cell_kept hb2 c1; have k2 := cell_kept hb2 c2; have k3 := cell_kept hb2 c3; have k4 := cell_kept hb2 c4; have z3 := G3.lt; have HB2 := Lib.hid hb2; have HH3 := Lib.hid G3; clear hb2 G3)
      have := ent_round (B := Wl.heap.size) (x := x) (by rw [HX.out.2]; exact HVC.out) HG1.out HG2.out HG3.out HG4.out HG5.out (by have h1 := HBX.out.1; have h2 := HBX.out.2; rw [HSZ.out] at h1; omega) HB1.out HB2.out
      rw [HX.out.2] at this
      exact this
  case done =>
    rintro D ys W' hD rfl ⟨⟨p, h1, h2, h3, h4, h5, h6⟩, hb⟩ hK
    have s1 := h1.cell
    have y1 := h1.frozen
    have s2 := h2.cell
    have y2 := h2.frozen
    have s3 := h3.cell
    have HV := Lib.hid (show validL cs = true by
      refine (validL_iff cs).2 ⟨fun c hc => ?_, by have := HE.out; have := HL.out; omega⟩
      have hm : c ∈ ((backEC cs cs.length (Nat.le_refl _)).map (fun x => x.n)).reverse := by rw [back_all]; exact hc
      obtain ⟨x, hx, rfl⟩ := List.mem_map.1 (List.mem_reverse.1 hm)
      exact h5 x hx)
    rw [back_all] at h4
    have H1 := Lib.hid h1
    have H2 := Lib.hid h2
    have H4 := Lib.hid h4
    have HB := Lib.hid hb
    clear h1 h2 h3 h4 h5 h6 hb hbk hB0 hI0 hlow
    gi_wp2
    have hK' := ((KeepsOthers.setCell W' ⟨W.heap.size, 0, none⟩ (.pointer p)).trans (KeepsOthers.setCell _ ⟨W.heap.size + 1, 0, none⟩ (.bool true))).same D _ hK rfl
    refine ⟨by simp, .inl ⟨_, _, rfl, run_takeDeferred hK', ?_⟩⟩
    have hD' : W.heap.size ≤ D := by rw [HSZ.out] at hD; omega
    have hx5 := _root_.Go.cell_kept ((H1.out.set (.pointer p)).other (B' := W.heap.size + 1) (by omega) (.bool true)).cell (grownBy_putObj' _ D (.deferred none)) (fun r e => by cases e; exact ⟨_, hK', rfl⟩)
    have hx6 := _root_.Go.cell_kept ((H2.out.other (B' := W.heap.size) (by omega) (.pointer p)).set (.bool true)).cell (grownBy_putObj' _ D (.deferred none)) (fun r e => by cases e; exact ⟨_, hK', rfl⟩)
    have hen := (((H4.out.set (p := ⟨W.heap.size, 0, none⟩) (by show W.heap.size < _; omega) (.pointer p)).set (p := ⟨W.heap.size + 1, 0, none⟩) (by show W.heap.size + 1 < _; omega) (.bool true)).own (grownBy_putObj' _ D (.deferred none)) (fun r e => by cases e; exact ⟨_, hK', rfl⟩)).low (C := W.heap.size) (by omega)
    refine ⟨.tuple #[.pointer p, .bool true], by simp [results, Tryz.f77, go_sem, hx5, hx6], ?_, .inr ⟨HV.out, p, rfl, hen⟩⟩
    exact (below_setCell (below_setCell HB.out _ _ (Nat.le_refl _)) _ _ (Nat.le_succ _)).trans ⟨rfl, rfl, rfl, by simp, fun k hk => World.putObj_heap_other (by omega)⟩
  case stop =>
    rintro D c pre W' hD hpre ⟨⟨rfl, ⟨x, hx, hvx⟩, q1, q2⟩, hb⟩ hK
    have HV := Lib.hid (validL_one x.at_ hvx)
    have hD' : W.heap.size ≤ D := by rw [HSZ.out] at hD; omega
    gi_wp2
    refine ⟨by simp, .inl ⟨_, _, rfl, run_takeDeferred hK, ?_⟩⟩
    have hx5 := _root_.Go.cell_kept q1.cell (grownBy_putObj' _ D (.deferred none)) (fun r e => by cases e; exact ⟨_, hK, rfl⟩)
    have hx6 := _root_.Go.cell_kept q2.cell (grownBy_putObj' _ D (.deferred none)) (fun r e => by cases e; exact ⟨_, hK, rfl⟩)
    refine ⟨.tuple #[.pointer none, .bool false], by simp [results, Tryz.f77, go_sem, hx5, hx6], ?_, .inl ⟨HV.out, rfl⟩⟩
    exact hb.trans ⟨rfl, rfl, rfl, by simp, fun k hk => World.putObj_heap_other (by omega)⟩

/-- impl.entriesOf, at every list. -/
theorem entriesOf_c (a : Option Addr) (len cap : Nat) (cs : List Cmd) (hs : ShortC 2097152 cs) (W : World) (hN : CmdsAt W a len cs) :
    Calls Tryz.prog 77 #[.slice a len cap] W (EntriesPost cs W) := by
  by_cases hl : len ≤ 20
  · exact callsIn_wide.1 (entriesOf_in a len cap cs hl hs W hN)
  · exact entriesOf_long a len cap cs (by omega) W hN

end Go.Proofs.YtdkpabnpobpdhaaGreat

/-
  WALKS: impl.nodeQueue, nodesFrom, makingOf.
-/
namespace Go.Proofs.YtdkpabnpobpdhaaGreat
open Go.RowKit
set_option linter.unusedVariables false

theorem NodesAt.kept {W W' : World} {row : Option Nat} {a : Option Addr} {len : Nat} {ns : List Nd} (h : NodesAt W a len ns) (hg : W.grownBy W' row) (hr : ∀ x, a = some x → len ≠ 0 → row ≠ some x.block) : NodesAt W' a len ns := by
  obtain ⟨h1, h0 | ⟨b, off, rfl, hc⟩⟩ := h
  · exact ⟨h1, .inl h0⟩
  · by_cases hl : len = 0
    · exact ⟨h1, .inl hl⟩
    · have hne : some b ≠ row := fun e => hr _ rfl hl e.symm
      exact ⟨h1, .inr ⟨b, off, rfl, fun i n hn => ⟨hg.cell (hc i n hn).1 hne, hg.cell (hc i n hn).2.1 hne, hg.cell (hc i n hn).2.2 hne⟩⟩⟩

theorem NodesAt.low {W : World} {a : Option Addr} {len : Nat} {ns : List Nd} (h : NodesAt W a len ns) (hl : len ≠ 0) : ∀ x, a = some x → x.block < W.heap.size := by
  intro x hx
  obtain ⟨b, off, n, rfl, _, hc, _⟩ := h.node (i := 0) (by omega)
  cases hx
  exact World.block_lt_of_cell? W _ hc

theorem grown_then {W W1 W2 : World} {row row2 : Option Nat} (h : W.grownBy W1 row) (k : W1.grownBy W2 row2) (hr : ∀ j, row2 = some j → W.heap.size ≤ j ∨ row = some j) : W.grownBy W2 row :=
  ⟨k.os.trans h.os, k.tape.trans h.tape, k.output.trans h.output, Nat.le_trans h.size k.size, fun i hi hne => (k.block i (Nat.lt_of_lt_of_le hi h.size) (fun e => (hr i e.symm).elim (fun h1 => absurd hi (Nat.not_lt.2 h1)) (fun h1 => hne h1.symm))).trans (h.block i hi hne)⟩

/-- What is left when the first node is taken. -/
theorem NodesAt.rest {W : World} {a : Option Addr} {len cap : Nat} {x : Nd} {r : List Nd} (h : NodesAt W a len (x :: r)) (hlc : len ≤ cap) :
    (cap = 1 → NodesAt W a (len - 1) r) ∧ NodesAt W (a.map fun y => y.add 3) (len - 1) r := by
  obtain ⟨h1, h2⟩ := h
  have hl : r.length = len - 1 := by rw [← h1]; simp
  refine ⟨fun e => ⟨hl, .inl (by omega)⟩, hl, ?_⟩
  rcases h2 with h0 | ⟨b, off, rfl, hc⟩
  · left; omega
  · right
    refine ⟨b, off + 3, by rw [Option.map_some, addr_addN], fun i n hn => ?_⟩
    have := hc (i + 1) n (by simpa using hn)
    rw [show off + 3 + i * 3 = off + (i + 1) * 3 by omega]
    exact this

theorem npair_results (fn : Func) (hf : fn.results = #[.cell 2 127, .tmp 3]) (W : World) (n : Nat) (p : ByteArray) (k v : Int) (b : Bool) (tmps : Array Value) (ht : tmps[2]? = some (.pointer (some ⟨n, 0, none⟩))) (hb : tmps[3]? = some (.bool b))
    (h : W.cell? ⟨n, 0, none⟩ = some (.string p) ∧ W.cell? ⟨n, 1, none⟩ = some (.int .i64 k) ∧ W.cell? ⟨n, 2, none⟩ = some (.int .i64 v)) : (results fn tmps).run Tryz.prog W = .ok (.tuple #[.agg #[.string p, .int .i64 k, .int .i64 v], .bool b]) W := by
  obtain ⟨c0, c1, c2⟩ := h
  simp [results, hf, go_sem, ht, hb, c0, c1, c2]

theorem three_cells (W : World) (x y z : Value) (t : TypeId) : (W.alloc (.cells #[x, y, z] t)).cell? ⟨W.heap.size, 0, none⟩ = some x ∧ (W.alloc (.cells #[x, y, z] t)).cell? ⟨W.heap.size, 1, none⟩ = some y ∧ (W.alloc (.cells #[x, y, z] t)).cell? ⟨W.heap.size, 2, none⟩ = some z ∧
    (W.alloc (.cells #[x, y, z] t)).frozen? ⟨W.heap.size, 0, none⟩ = false ∧ (W.alloc (.cells #[x, y, z] t)).frozen? ⟨W.heap.size, 1, none⟩ = false ∧ (W.alloc (.cells #[x, y, z] t)).frozen? ⟨W.heap.size, 2, none⟩ = false := by
  refine ⟨by rw [World.cell?_alloc_new]; rfl, by rw [World.cell?_alloc_new]; rfl, by rw [World.cell?_alloc_new]; rfl, ?_, ?_, ?_⟩
  all_goals (simp only [World.frozen?, World.alloc_heap_new]; rfl)

/-- impl.nodesFrom. -/
def fromL (ns : List Nd) (p : ByteArray) : List Nd := if validT ns = true ∧ p ≠ rootB then ns.filter (fun n => subB p n.p) else []

theorem fromL_yes {ns : List Nd} {p : ByteArray} (h : validT ns = true) (hr : p ≠ rootB) : fromL ns p = ns.filter (fun n => subB p n.p) := if_pos ⟨h, hr⟩
theorem fromL_no {ns : List Nd} {p : ByteArray} (h : validT ns = false ∨ p = rootB) : fromL ns p = [] := by
  unfold fromL
  rw [if_neg]
  rintro ⟨h1, h2⟩
  rcases h with h | h
  · rw [h] at h1; cases h1
  · exact h2 h
theorem fromL_len (ns : List Nd) (p : ByteArray) : (fromL ns p).length ≤ 10 := by
  unfold fromL
  split
  · rename_i h; exact filter_len10 h.1 _
  · exact Nat.zero_le _

def fromAcc (ns : List Nd) (p : ByteArray) (n : Nat) : List Nd := (ns.take n).filter (fun x => subB p x.p)

theorem fromAcc_yes {ns : List Nd} {p : ByteArray} {n : Nat} {x : Nd} (hn : ns[n]? = some x) (h : subB p x.p = true) : fromAcc ns p (n + 1) = fromAcc ns p n ++ [x] := by
  unfold fromAcc
  rw [List.take_add_one, hn]
  simp [h]
theorem fromAcc_no {ns : List Nd} {p : ByteArray} {n : Nat} {x : Nd} (hn : ns[n]? = some x) (h : subB p x.p = false) : fromAcc ns p (n + 1) = fromAcc ns p n := by
  unfold fromAcc
  rw [List.take_add_one, hn]
  simp [h]
theorem fromAcc_len {ns : List Nd} (hv : validT ns = true) (p : ByteArray) (n : Nat) : (fromAcc ns p n).length ≤ 10 := by
  unfold fromAcc
  exact Nat.le_trans (List.length_filter_le _ _) (Nat.le_trans (by rw [List.length_take]; omega) ((validT_iff ns).1 hv).2.2)

/-- A list of nodes that the call has made. -/
def FromPost (l : List Nd) (W : World) (e : Ending) (w' : World) : Prop := OwnsNodes W.heap.size l e w' ∧ Below W.heap.size W w'

/-- A node in a block of its own. -/
def NBox (W : World) (c : Nat) (x : Nd) : Prop := W.heap[c]? = some (.cells #[.string x.p, .int .i64 x.k, .int .i64 x.v] 127 (0, 0))

theorem NBox.cells {W : World} {c : Nat} {x : Nd} (h : NBox W c x) : W.cell? ⟨c, 0, none⟩ = some (.string x.p) ∧ W.cell? ⟨c, 1, none⟩ = some (.int .i64 x.k) ∧ W.cell? ⟨c, 2, none⟩ = some (.int .i64 x.v) ∧ W.frozen? ⟨c, 0, none⟩ = false ∧ W.frozen? ⟨c, 1, none⟩ = false ∧ W.frozen? ⟨c, 2, none⟩ = false := by
  unfold NBox at h
  simp [World.cell?, World.frozen?, h]
theorem NBox.lt {W : World} {c : Nat} {x : Nd} (h : NBox W c x) : c < W.heap.size := (Array.getElem?_eq_some_iff.1 h).1
theorem NBox.kept {W W' : World} {row : Option Nat} {c : Nat} {x : Nd} (h : NBox W c x) (hg : W.grownBy W' row) (hne : some c ≠ row) : NBox W' c x := (hg.block c h.lt hne).trans h
theorem NBox.keep {W W' : World} {c : Nat} {x : Nd} (h : NBox W c x) (hb : Below W.heap.size W W') : NBox W' c x := (hb.block c h.lt).trans h
theorem NBox.new (W : World) (x : Nd) : NBox (W.alloc (.cells #[.string x.p, .int .i64 x.k, .int .i64 x.v] 127)) W.heap.size x := World.alloc_heap_new W _
theorem NBox.far {W : World} {c base n : Nat} {x : Nd} {v : Value} {xs : List Value} (h : NBox W c x) (ho : W.ownsRow base 33 5 v n xs) : some c ≠ v.ownBlock := by
  rcases ho.2 with ⟨rfl, _⟩ | ⟨g, cap, cur, rfl, _, q2, _⟩
  · simp [Value.ownBlock]
  · intro e
    simp [Value.ownBlock] at e
    subst e
    unfold NBox at h
    rw [h] at q2
    cases q2
theorem NBox.put {W : World} {c : Nat} {x : Nd} (y : Nd) (h : NBox W c x) : NBox (((W.setCell ⟨c, 0, none⟩ (.string y.p)).setCell ⟨c, 1, none⟩ (.int .i64 y.k)).setCell ⟨c, 2, none⟩ (.int .i64 y.v)) c y := by
  unfold NBox at h ⊢
  simp [World.setCell, h, Array.getElem?_modify]

/-- What makingOf makes of nodes. -/
def mkL (p b : ByteArray) (l : List Nd) : List Cmd := l.map (fun n => ⟨cpB p b n.p, 0, 0, n.k, n.v⟩)

theorem mkL_snoc (p b : ByteArray) (l : List Nd) (x : Nd) : mkL p b (l ++ [x]) = mkL p b l ++ [⟨cpB p b x.p, 0, 0, x.k, x.v⟩] := by unfold mkL; rw [List.map_append]; rfl
theorem mkL_from (ns : List Nd) (p b : ByteArray) : mkL p b (fromL ns p) = makeL ns p b := by
  unfold fromL makeL
  split
  · rfl
  · rfl

theorem fromL_sub {ns : List Nd} {p : ByteArray} {x : Nd} (h : x ∈ fromL ns p) : p.size ≤ x.p.size ∧ ((x.p.extract 0 p.size).toList == p.toList) = true ∧ x.p.size ≤ 8 := by
  unfold fromL at h
  split at h
  · rename_i hc
    obtain ⟨hm, hs⟩ := List.mem_filter.1 h
    obtain ⟨h1, h2⟩ := sub_prefix hc.2 hs
    exact ⟨h1, h2, vpSize (good_path hc.1 hm).2⟩
  · cases h

/-- How many nodes a queue has. -/
def leftAt (W : World) (B : Nat) : Nat := match W.cell? ⟨B, 0, none⟩ with
  | some (.slice _ n _) => n
  | _ => 0

def moreOf : Value → Nat
  | .bool true => 1
  | _ => 0

end Go.Proofs.YtdkpabnpobpdhaaGreat

/-
  WALKS: the program's heap of commands: impl.ends, canonHeap.Len, Less, Swap, Push, Pop.
-/
namespace Go.Proofs.YtdkpabnpobpdhaaGreat
open Go.RowKit
set_option linter.unusedVariables false

/-- Every seat has it: what stands ahead of the first declaration goes with it. -/
theorem hc_first : (0 : Nat) ≤ 0 := Nat.le_refl 0

set_option maxHeartbeats 1000000 in
set_option maxRecDepth 100000 in
theorem implEnds_c (c : Cmd) (W : World) : Calls Tryz.prog 134 #[cmdV c] W (BoolPost (endsC c) W) := by
  obtain ⟨p, fk, fv, tk, tv⟩ := c
  unfold cmdV
  have HB := Lib.hid (below_box W (.cells #[.string p, .int .i64 fk, .int .i64 fv, .int .i64 tk, .int .i64 tv] 33))
  simp only
  by_cases h : tk = 0
  · subst h
    go_enter Tryz.func134, Tryz.ntmps134
    go_wp2
    go_ret
    exact ⟨ret_bool (by unfold endsC; simp), HB.out⟩
  · have h0 : (tk == 0) = false := beq_eq_false_iff_ne.2 h
    by_cases h1 : fk = 1
    · subst h1
      go_enter Tryz.func134, Tryz.ntmps134
      go_wp2
      go_ret
      exact ⟨ret_bool (by unfold endsC; simp), HB.out⟩
    · have h2 : (fk == 1) = false := beq_eq_false_iff_ne.2 h1
      have HX := Lib.hid (show endsC ⟨p, fk, fv, tk, tv⟩ = false by unfold endsC; simp [h0, h2])
      clear h h1
      go_enter Tryz.func134, Tryz.ntmps134
      go_wp2
      go_ret
      exact ⟨ret_bool HX.out.symm, HB.out⟩

theorem heapLen_c (a : Option Addr) (len cap : Nat) (W : World) : Calls Tryz.prog 79 #[.slice a len cap] W (fun e w' => e = .returned (.int .i64 len) ∧ w' = W) := by
  go_enter Tryz.func79, Tryz.ntmps79
  go_wp2
  go_ret
  exact ⟨rfl, rfl⟩

/-- Two commands of a list, read. -/
def TwoAt (w' : World) (b i j : Nat) (c d : Cmd) : Prop :=
  w'.cell? ⟨b, i, none⟩ = some (.string c.p) ∧ w'.cell? ⟨b, i + 1, none⟩ = some (.int .i64 c.fk) ∧ w'.cell? ⟨b, i + 2, none⟩ = some (.int .i64 c.fv) ∧ w'.cell? ⟨b, i + 3, none⟩ = some (.int .i64 c.tk) ∧ w'.cell? ⟨b, i + 4, none⟩ = some (.int .i64 c.tv) ∧
  w'.cell? ⟨b, j, none⟩ = some (.string d.p) ∧ w'.cell? ⟨b, j + 1, none⟩ = some (.int .i64 d.fk) ∧ w'.cell? ⟨b, j + 2, none⟩ = some (.int .i64 d.fv) ∧ w'.cell? ⟨b, j + 3, none⟩ = some (.int .i64 d.tk) ∧ w'.cell? ⟨b, j + 4, none⟩ = some (.int .i64 d.tv)

theorem TwoAt.keep {W W' : World} {b i j : Nat} {c d : Cmd} (h : TwoAt W b i j c d) (hb : Below W.heap.size W W') : TwoAt W' b i j c d := by
  obtain ⟨a0, a1, a2, a3, a4, b0, b1, b2, b3, b4⟩ := h
  exact ⟨cell_kept hb a0, cell_kept hb a1, cell_kept hb a2, cell_kept hb a3, cell_kept hb a4, cell_kept hb b0, cell_kept hb b1, cell_kept hb b2, cell_kept hb b3, cell_kept hb b4⟩

set_option maxHeartbeats 4000000 in
set_option maxRecDepth 100000 in
theorem heapLess_c (a : Option Addr) (len cap : Nat) (zs : List Cmd) (i j : Nat) (hi : i < len) (hj : j < len) (hl : len ≤ 2097152) (W : World) (hC : CmdsAt W a len zs) :
    Calls Tryz.prog 132 #[.slice a len cap, .int .i64 i, .int .i64 j] W (BoolPost (befC (atK zs i) (atK zs j)) W) := by
  obtain ⟨b, off, c, rfl, hc, c0, c1, c2, c3, c4⟩ := hC.node hi
  obtain ⟨b', off', d, e, hd, d0, d1, d2, d3, d4⟩ := hC.node hj
  cases e
  rw [atK_of hc, atK_of hd]
  have T0 := Lib.hid (show TwoAt W b (off + i * 5) (off + j * 5) c d from ⟨c0, c1, c2, c3, c4, d0, d1, d2, d3, d4⟩)
  obtain ⟨ec, hec⟩ : ∃ e, endsC c = e := ⟨_, rfl⟩
  obtain ⟨ed, hed⟩ : ∃ e, endsC d = e := ⟨_, rfl⟩
  have HC := Lib.hid (fun w => show Calls Tryz.prog 134 #[cmdV c] w (BoolPost ec w) by rw [← hec]; exact implEnds_c c w)
  have HD := Lib.hid (fun w => show Calls Tryz.prog 134 #[cmdV d] w (BoolPost ed w) by rw [← hed]; exact implEnds_c d w)
  have HR := Lib.hid (bef_cases c d)
  rw [hec, hed] at HR
  have hi' : (i : Int) < len := by omega
  have hj' : (j : Int) < len := by omega
  clear hec hed hC hc hd c0 c1 c2 c3 c4 d0 d1 d2 d3 d4 hi hj
  obtain ⟨p, fk, fv, tk, tv⟩ := c
  obtain ⟨p', fk', fv', tk', tv'⟩ := d
  unfold cmdV at HC HD
  unfold TwoAt at T0
  simp only at HC HD HR T0
  go_enter Tryz.func132, Tryz.ntmps132
  go_upto_region 1 with (fail)
  have HS0 : Hid (W.drew.cell? ⟨b, off + i * 5, none⟩ = some (.string p) ∧ W.drew.cell? ⟨b, off + i * 5 + 1, none⟩ = some (.int .i64 fk) ∧ W.drew.cell? ⟨b, off + i * 5 + 2, none⟩ = some (.int .i64 fv) ∧ W.drew.cell? ⟨b, off + i * 5 + 3, none⟩ = some (.int .i64 tk) ∧ W.drew.cell? ⟨b, off + i * 5 + 4, none⟩ = some (.int .i64 tv) ∧ W.drew.cell? ⟨b, off + j * 5, none⟩ = some (.string p') ∧ W.drew.cell? ⟨b, off + j * 5 + 1, none⟩ = some (.int .i64 fk') ∧ W.drew.cell? ⟨b, off + j * 5 + 2, none⟩ = some (.int .i64 fv') ∧ W.drew.cell? ⟨b, off + j * 5 + 3, none⟩ = some (.int .i64 tk') ∧ W.drew.cell? ⟨b, off + j * 5 + 4, none⟩ = some (.int .i64 tv') ∧ Below W.heap.size W W.drew) := by
    obtain ⟨a0, a1, a2, a3, a4, b0, b1, b2, b3, b4⟩ := T0.out
    exact ⟨a0, a1, a2, a3, a4, b0, b1, b2, b3, b4, (Below.refl _ _).drew⟩
  have HKP : Hid (∀ w1 w2 : World, (w1.cell? ⟨b, off + i * 5, none⟩ = some (.string p) ∧ w1.cell? ⟨b, off + i * 5 + 1, none⟩ = some (.int .i64 fk) ∧ w1.cell? ⟨b, off + i * 5 + 2, none⟩ = some (.int .i64 fv) ∧ w1.cell? ⟨b, off + i * 5 + 3, none⟩ = some (.int .i64 tk) ∧ w1.cell? ⟨b, off + i * 5 + 4, none⟩ = some (.int .i64 tv) ∧ w1.cell? ⟨b, off + j * 5, none⟩ = some (.string p') ∧ w1.cell? ⟨b, off + j * 5 + 1, none⟩ = some (.int .i64 fk') ∧ w1.cell? ⟨b, off + j * 5 + 2, none⟩ = some (.int .i64 fv') ∧ w1.cell? ⟨b, off + j * 5 + 3, none⟩ = some (.int .i64 tk') ∧ w1.cell? ⟨b, off + j * 5 + 4, none⟩ = some (.int .i64 tv') ∧ Below W.heap.size W w1) → Below w1.heap.size w1 w2 → (w2.cell? ⟨b, off + i * 5, none⟩ = some (.string p) ∧ w2.cell? ⟨b, off + i * 5 + 1, none⟩ = some (.int .i64 fk) ∧ w2.cell? ⟨b, off + i * 5 + 2, none⟩ = some (.int .i64 fv) ∧ w2.cell? ⟨b, off + i * 5 + 3, none⟩ = some (.int .i64 tk) ∧ w2.cell? ⟨b, off + i * 5 + 4, none⟩ = some (.int .i64 tv) ∧ w2.cell? ⟨b, off + j * 5, none⟩ = some (.string p') ∧ w2.cell? ⟨b, off + j * 5 + 1, none⟩ = some (.int .i64 fk') ∧ w2.cell? ⟨b, off + j * 5 + 2, none⟩ = some (.int .i64 fv') ∧ w2.cell? ⟨b, off + j * 5 + 3, none⟩ = some (.int .i64 tk') ∧ w2.cell? ⟨b, off + j * 5 + 4, none⟩ = some (.int .i64 tv') ∧ Below W.heap.size W w2)) := by
    rintro w1 w2 ⟨a0, a1, a2, a3, a4, b0, b1, b2, b3, b4, hb⟩ h
    exact ⟨cell_kept h a0, cell_kept h a1, cell_kept h a2, cell_kept h a3, cell_kept h a4, cell_kept h b0, cell_kept h b1, cell_kept h b2, cell_kept h b3, cell_kept h b4, below_next hb h⟩
  go_region_held3 (fun w' => w'.cell? ⟨b, off + i * 5, none⟩ = some (.string p) ∧ w'.cell? ⟨b, off + i * 5 + 1, none⟩ = some (.int .i64 fk) ∧ w'.cell? ⟨b, off + i * 5 + 2, none⟩ = some (.int .i64 fv) ∧ w'.cell? ⟨b, off + i * 5 + 3, none⟩ = some (.int .i64 tk) ∧ w'.cell? ⟨b, off + i * 5 + 4, none⟩ = some (.int .i64 tv) ∧ w'.cell? ⟨b, off + j * 5, none⟩ = some (.string p') ∧ w'.cell? ⟨b, off + j * 5 + 1, none⟩ = some (.int .i64 fk') ∧ w'.cell? ⟨b, off + j * 5 + 2, none⟩ = some (.int .i64 fv') ∧ w'.cell? ⟨b, off + j * 5 + 3, none⟩ = some (.int .i64 tk') ∧ w'.cell? ⟨b, off + j * 5 + 4, none⟩ = some (.int .i64 tv') ∧ Below W.heap.size W w')
    (first | exact HS0.out | exact HKP.out _ _ HS0.out hb5 | exact HKP.out _ _ (by assumption) hb5)
    (first | (go_at_call 134; (with_reducible refine (HC.out _).mono ?_); rintro e W5 ⟨rfl, hb5⟩) | (go_at_call 134; (with_reducible refine (HD.out _).mono ?_); rintro e W5 ⟨rfl, hb5⟩))
  all_goals
    rename_i hS
    obtain ⟨a0, a1, a2, a3, a4, b0, b1, b2, b3, b4, hB⟩ := hS
    have HB := Lib.hid hB
    clear T0 HS0 HKP hB
    cases ec <;> cases ed
    · go_wp2_with (go_at_call 134; (with_reducible refine (HC.out _).mono ?_); rintro e W6 ⟨rfl, hb6⟩; replace a0 := cell_kept hb6 a0; replace b0 := cell_kept hb6 b0; have HB6 := Lib.hid (below_next HB.out hb6); clear hb6)
      go_quiet (fail)
      go_wp2
      go_ret
      exact ⟨ret_bool HR.out.symm, below_drewN HB6.out _⟩
    · go_wp2_with (go_at_call 134; (with_reducible refine (HC.out _).mono ?_); rintro e W6 ⟨rfl, hb6⟩; have HB6 := Lib.hid (below_next HB.out hb6); clear hb6)
      go_ret
      exact ⟨ret_bool HR.out.symm, HB6.out⟩
    · go_wp2_with (go_at_call 134; (with_reducible refine (HC.out _).mono ?_); rintro e W6 ⟨rfl, hb6⟩; have HB6 := Lib.hid (below_next HB.out hb6); clear hb6)
      go_ret
      exact ⟨ret_bool HR.out.symm, HB6.out⟩
    · go_wp2_with (go_at_call 134; (with_reducible refine (HC.out _).mono ?_); rintro e W6 ⟨rfl, hb6⟩; replace a0 := cell_kept hb6 a0; replace b0 := cell_kept hb6 b0; have HB6 := Lib.hid (below_next HB.out hb6); clear hb6)
      go_quiet (fail)
      go_wp2
      go_ret
      exact ⟨ret_bool ((gtr_eq p p').trans HR.out.symm), below_drewN HB6.out _⟩

theorem hp_cells {W : World} {base : Nat} {e : TypeId} {g n cap : Nat} {zs : List Cmd} (h : W.ownsRow base e 5 (.slice (some ⟨g, 0, none⟩) n cap) n (flatC zs)) {i : Nat} (hi : i < zs.length) (hn : n = zs.length) :
    W.cell? ⟨g, i * 5, none⟩ = some (.string (atK zs i).p) ∧ W.cell? ⟨g, i * 5 + 1, none⟩ = some (.int .i64 (atK zs i).fk) ∧ W.cell? ⟨g, i * 5 + 2, none⟩ = some (.int .i64 (atK zs i).fv) ∧ W.cell? ⟨g, i * 5 + 3, none⟩ = some (.int .i64 (atK zs i).tk) ∧ W.cell? ⟨g, i * 5 + 4, none⟩ = some (.int .i64 (atK zs i).tv) := by
  obtain ⟨f0, f1, f2, f3, f4⟩ := flatC_get zs i (atK zs i) (atK_get hi)
  refine ⟨?_, ?_, ?_, ?_, ?_⟩
  · rw [h.cellAt (i * 5) (by omega)]; exact f0
  · rw [h.cellAt (i * 5 + 1) (by omega)]; exact f1
  · rw [h.cellAt (i * 5 + 2) (by omega)]; exact f2
  · rw [h.cellAt (i * 5 + 3) (by omega)]; exact f3
  · rw [h.cellAt (i * 5 + 4) (by omega)]; exact f4

theorem row_frozen {W : World} {base : Nat} {e : TypeId} {g n m cap : Nat} {xs : List Value} (h : W.ownsRow base e 5 (.slice (some ⟨g, 0, none⟩) m cap) n xs) (o : Nat) : W.frozen? ⟨g, o, none⟩ = false := by
  rcases h.2 with ⟨h1, _⟩ | ⟨g', cap', cur, h1, _, h2, _⟩
  · cases h1
  · cases h1
    simp only [World.frozen?, h2]
    rfl

def SwapPost (base g n cap : Nat) (zs : List Cmd) (i j : Nat) (W : World) (e : Ending) (w' : World) : Prop :=
  e = .returned (.tuple #[]) ∧ w'.ownsRow base 33 5 (.slice (some ⟨g, 0, none⟩) n cap) n (flatC (swapK zs i j)) ∧ W.grownBy w' (some g)

theorem row_drew {W : World} {base : Nat} {e : TypeId} {size n : Nat} {v : Value} {xs : List Value} (h : W.ownsRow base e size v n xs) : W.drew.ownsRow base e size v n xs := h
theorem grown_drew {W W' : World} {row : Option Nat} (h : W.grownBy W' row) : W.grownBy W'.drew row := ⟨h.os, h.tape, h.output, h.size, h.block⟩

theorem swap_end {base g n cap : Nat} {zs : List Cmd} {i j : Nat} {W : World} (fn : Func) (hf : fn.results = #[]) (tmps : Array Value) (h : W.ownsRow base 33 5 (.slice (some ⟨g, 0, none⟩) n cap) n (flatC zs)) (hi : i < zs.length) (hj : j < zs.length) :
    bodyPost Tryz.prog fn (SwapPost base g n cap zs i j W) .normal ⟨tmps, []⟩ (set5 (set5 W g (i * 5) (atK zs j)) g (j * 5) (atK zs i)).drew :=
  bodyPost_end (v := .tuple #[]) (by simp [results, hf, go_sem]) rfl ⟨rfl, row_drew (own_swap5 h hi hj), by
    have h1 := grown_set5 W g (i * 5) (atK zs j)
    have h2 := grown_set5 (set5 W g (i * 5) (atK zs j)) g (j * 5) (atK zs i)
    exact grown_drew (grown_then h1 h2 (fun k e => .inr e))⟩

set_option maxHeartbeats 4000000 in
set_option maxRecDepth 100000 in
theorem heapSwap_c (base g n cap : Nat) (zs : List Cmd) (i j : Nat) (hn : n = zs.length) (hi : i < n) (hj : j < n) (hl : n ≤ 2097152) (W : World) (ho : W.ownsRow base 33 5 (.slice (some ⟨g, 0, none⟩) n cap) n (flatC zs)) :
    Calls Tryz.prog 133 #[.slice (some ⟨g, 0, none⟩) n cap, .int .i64 i, .int .i64 j] W (SwapPost base g n cap zs i j W) := by
  obtain ⟨c0, c1, c2, c3, c4⟩ := hp_cells ho (i := i) (by omega) hn
  obtain ⟨d0, d1, d2, d3, d4⟩ := hp_cells ho (i := j) (by omega) hn
  have HF := Lib.hid (fun o => row_frozen ho o)
  have HO := Lib.hid ho
  have HI := Lib.hid (show i < zs.length ∧ j < zs.length from ⟨by omega, by omega⟩)
  have hi' : (i : Int) < n := by omega
  have hj' : (j : Int) < n := by omega
  obtain ⟨ci, hci⟩ : ∃ c, atK zs i = c := ⟨_, rfl⟩
  obtain ⟨cj, hcj⟩ : ∃ c, atK zs j = c := ⟨_, rfl⟩
  have HCI := Lib.hid (And.intro hci hcj)
  rw [hci] at c0 c1 c2 c3 c4
  rw [hcj] at d0 d1 d2 d3 d4
  have hr1 := own_set5 ho (i := i) (by omega) cj
  have hr1l : n = (zs.set i cj).length := by simpa using hn
  obtain ⟨x0, x1, x2, x3, x4⟩ := hp_cells hr1 (i := j) (by omega) hr1l
  obtain ⟨cx, hcx⟩ : ∃ c, atK (zs.set i cj) j = c := ⟨_, rfl⟩
  rw [hcx] at x0 x1 x2 x3 x4
  unfold set5 at x0 x1 x2 x3 x4
  clear hci hcj hi hj hn ho hr1 hr1l hcx
  have f0 := fun o => HF.out o
  go_enter Tryz.func133, Tryz.ntmps133
  go_wp2
  go_region
  all_goals
    rw [← HCI.out.1, ← HCI.out.2]
    exact swap_end _ rfl _ HO.out HI.out.1 HI.out.2

/-- Blocks that are no rows of cells stand. -/
def KeptM (W w' : World) : Prop := ∀ (i : Nat) (o : Obj), W.heap[i]? = some o → o.isCells = false → w'.heap[i]? = some o

theorem KeptM.trans {A B C : World} (h : KeptM A B) (k : KeptM B C) : KeptM A C := fun i o hi ho => k i o (h i o hi ho) ho

theorem KeptM.grown {W w' : World} {row : Option Nat} (hg : W.grownBy w' row) (hr : ∀ r o, row = some r → W.heap[r]? = some o → o.isCells = true) : KeptM W w' := fun i o hi ho => by
  refine (hg.block i (Array.getElem?_eq_some_iff.1 hi).1 (fun e => ?_)).trans hi
  rw [hr i o e.symm hi] at ho
  cases ho

theorem KeptM.below {W w' : World} (hb : Below W.heap.size W w') : KeptM W w' := fun i o hi ho => (hb.block i (Array.getElem?_eq_some_iff.1 hi).1).trans hi

theorem row_cells {W : World} {base : Nat} {e : TypeId} {size n : Nat} {v : Value} {xs : List Value} (h : W.ownsRow base e size v n xs) : ∀ r o, v.ownBlock = some r → W.heap[r]? = some o → o.isCells = true := by
  intro r o hr ho
  rcases h.2 with ⟨rfl, _⟩ | ⟨g, cap, cur, rfl, _, h2, _⟩
  · cases hr
  · simp [Value.ownBlock] at hr
    subst hr
    rw [h2] at ho
    cases ho
    rfl

/-- A heap of commands: its box, and its row. -/
structure HpAt (W : World) (B base : Nat) (v : Value) (zs : List Cmd) : Prop where
  box : Boxed W B 63 v
  row : W.ownsRow base 33 5 v zs.length (flatC zs)
  lt : B < base

theorem HpAt.far {W : World} {B base : Nat} {v : Value} {zs : List Cmd} (h : HpAt W B base v zs) : some B ≠ v.ownBlock := fun e => by
  have h1 := (h.row.lt B e.symm).1
  have h2 := h.lt
  omega

theorem HpAt.keep {W W' : World} {B base : Nat} {v : Value} {zs : List Cmd} (h : HpAt W B base v zs) (hb : Below W.heap.size W W') : HpAt W' B base v zs :=
  ⟨box_keep h.box hb, own_below h.row hb, h.lt⟩

/-- What is left when a command has been put behind. -/
def PushM (B base : Nat) (zs : List Cmd) (c : Cmd) (W : World) (e : Ending) (w' : World) : Prop :=
  e = .returned (.tuple #[]) ∧ ∃ v', HpAt w' B base v' (zs ++ [c]) ∧ Below B W w' ∧ KeptM W w'

theorem pushM_end {B base : Nat} {v : Value} {zs : List Cmd} {c : Cmd} {W w4 : World} {g4 c4 : Nat} {o : Obj} (fn : Func) (hf : fn.results = #[]) (tmps : Array Value) (h : HpAt W B base v zs)
    (hg4 : (W.alloc o).drew.grownBy w4 v.ownBlock) (ho4 : w4.ownsRow base 33 5 (.slice (some ⟨g4, 0, none⟩) (zs.length + 1) c4) (zs.length + 1) (flatC zs ++ [.string c.p, .int .i64 c.fk, .int .i64 c.fv, .int .i64 c.tk, .int .i64 c.tv])) :
    bodyPost Tryz.prog fn (PushM B base zs c W) .normal ⟨tmps, []⟩ (w4.setCell ⟨B, 0, none⟩ (.slice (some ⟨g4, 0, none⟩) (zs.length + 1) c4)) := by
  have hlt := h.lt
  have hBl := h.box.lt
  have hbx4 : Boxed w4 B 63 v := (show Boxed (W.alloc o).drew B 63 v from h.box.alloc o).kept hg4 h.far
  have hr1 : (W.alloc o).drew.ownsRow base 33 5 v zs.length (flatC zs) := row_drew (own_below h.row (below_box W o))
  have hk1 : KeptM W (W.alloc o).drew := KeptM.below ((below_box W o).drew)
  refine bodyPost_end (v := .tuple #[]) (by simp [results, hf, go_sem]) rfl ⟨rfl, _, ⟨hbx4.set _, ?_, hlt⟩, ?_, ?_⟩
  · have := own_pushC c (ownsRow_setCell_below ho4 (a := ⟨B, 0, none⟩) (show B < base from hlt) (.slice (some ⟨g4, 0, none⟩) (zs.length + 1) c4))
    rw [List.length_append]
    rw [List.length_append] at this
    exact this
  · have h1 : Below B W (W.alloc o).drew := (((Below.refl B W)).alloc (by omega) o).drew
    exact below_setCell (h1.grown hg4 (by have := h1.size; omega) (fun k e => by have := (hr1.lt k e).1; omega)) _ _ (Nat.le_refl _)
  · refine (hk1.trans (KeptM.grown hg4 (row_cells hr1))).trans (KeptM.grown (grownBy_setCell_at w4 B 0 _) (fun r x e hx => ?_))
    cases e
    rw [show w4.heap[B]? = _ from hbx4] at hx
    cases hx
    rfl

theorem ta_cmd (p : ByteArray) (fk fv tk tv : Int) (W : World) : (Instr.typeAssert (.iface 33 (.agg #[.string p, .int .i64 fk, .int .i64 fv, .int .i64 tk, .int .i64 tv])) 20 33 false).run Tryz.prog W = .ok (.agg #[.string p, .int .i64 fk, .int .i64 fv, .int .i64 tk, .int .i64 tv]) W := by kernel_rfl

set_option maxHeartbeats 1000000 in
set_option maxRecDepth 100000 in
theorem heapPushM_c (B base : Nat) (v : Value) (zs : List Cmd) (c : Cmd) (hl : zs.length ≤ 2000000) (W : World) (hle : base ≤ W.heap.size) (h : HpAt W B base v zs) :
    Calls Tryz.prog 136 #[.pointer (some ⟨B, 0, none⟩), .iface 33 (cmdV c)] W (PushM B base zs c W) := by
  obtain ⟨i0, hi, hz0, hz1, hz2⟩ := info_parts infoCmd
  have HH := Lib.hid h
  have b0 := h.box.cell
  have f0 := h.box.frozen
  have hBl := h.box.lt
  obtain ⟨p, fk, fv, tk, tv⟩ := c
  unfold cmdV
  simp only
  have HROW := Lib.hid (show ((W.alloc (.cells #[.string p, .int .i64 fk, .int .i64 fv, .int .i64 tk, .int .i64 tv] 33)).drew).ownsRow base 33 5 v zs.length (flatC zs) from row_drew (own_below h.row (below_box W _)))
  have HCEL := Lib.hid (show ∀ j u, [Value.string p, .int .i64 fk, .int .i64 fv, .int .i64 tk, .int .i64 tv][j]? = some u → ((W.alloc (.cells #[.string p, .int .i64 fk, .int .i64 fv, .int .i64 tk, .int .i64 tv] 33)).drew).cell? ((⟨W.heap.size, 0, none⟩ : Addr).add j) = some u from cell_five_new W _ _ _ _ _ _)
  have HMX := Lib.hid (show zs.length + 1 ≤ maxLen ∧ (zs.length + 1) * 48 ≤ 140737488355328 by unfold maxLen; exact ⟨by omega, by omega⟩)
  have HBS := Lib.hid (show base ≤ ((W.alloc (.cells #[.string p, .int .i64 fk, .int .i64 fv, .int .i64 tk, .int .i64 tv] 33)).drew).heap.size by show base ≤ (W.alloc _).heap.size; rw [World.size_alloc]; omega)
  have HBX := Lib.hid (show Boxed ((W.alloc (.cells #[.string p, .int .i64 fk, .int .i64 fv, .int .i64 tk, .int .i64 tv] 33)).drew) B 63 v from h.box.alloc _)
  have HNE := Lib.hid h.far
  have hbxA : (W.alloc (.cells #[.string p, .int .i64 fk, .int .i64 fv, .int .i64 tk, .int .i64 tv] 33)).cell? ⟨B, 0, none⟩ = some v := (h.box.alloc _).cell
  clear hl hBl h hle
  have ta := fun W => ta_cmd p fk fv tk tv W
  go_enter Tryz.func136, Tryz.ntmps136
  go_region_law (rw [if_pos (by rfl)]; refine wp_append_own _ _ _ 63 rfl base 33 i0 (.agg #[.string ⟨#[]⟩, .int .i64 0, .int .i64 0, .int .i64 0, .int .i64 0]) 5 48 Tryz.underlying63 hi hz0 hz1 hz2 rfl (by decide) _ _ _ rfl HROW.out ⟨W.heap.size, 0, none⟩ 1 1 [.string p, .int .i64 fk, .int .i64 fv, .int .i64 tk, .int .i64 tv] rfl rfl HCEL.out (by simp [Value.oneCell']) HMX.out.1 HMX.out.2 HBS.out ?_; intro v4 w4 ho4 hg4 hn4; obtain ⟨g4, c4, rfl⟩ := ownsRow_succ ho4; have hbx4 := (HBX.out.kept hg4 HNE.out).cell; have hbf4 := (HBX.out.kept hg4 HNE.out).frozen)
  all_goals
    exact pushM_end (c := ⟨p, fk, fv, tk, tv⟩) _ rfl _ HH.out hg4 ho4

/-- What is left when the last command has been taken. -/
def PopM (B base g n cap : Nat) (zs : List Cmd) (W : World) (e : Ending) (w' : World) : Prop :=
  e = .returned (.iface 33 (cmdV (atK zs n))) ∧ HpAt w' B base (.slice (some ⟨g, 0, none⟩) n cap) (zs.take n) ∧ W.grownBy w' (some B)

theorem HpAt.top {W : World} {B base n : Nat} {v : Value} {zs : List Cmd} (h : HpAt W B base v zs) (hn : zs.length = n + 1) : ∃ g cap, v = .slice (some ⟨g, 0, none⟩) (n + 1) cap ∧ n + 1 ≤ cap ∧ cap ≤ maxLen ∧ base ≤ g ∧ g < W.heap.size := by
  have hr := h.row
  rw [hn] at hr
  rcases hr.2 with ⟨_, h0⟩ | ⟨g, cap, cur, rfl, h1, h2, h3, h4, _⟩
  · omega
  · exact ⟨g, cap, rfl, h3, h4, h1, (Array.getElem?_eq_some_iff.1 h2).1⟩

theorem popM_end {B base g n cap : Nat} {zs : List Cmd} {W : World} {o : Obj} (hn : zs.length = n + 1) (h : HpAt W B base (.slice (some ⟨g, 0, none⟩) (n + 1) cap) zs) :
    HpAt ((W.setCell ⟨B, 0, none⟩ (.slice (some ⟨g, 0, none⟩) n cap)).alloc o) B base (.slice (some ⟨g, 0, none⟩) n cap) (zs.take n) ∧ W.grownBy ((W.setCell ⟨B, 0, none⟩ (.slice (some ⟨g, 0, none⟩) n cap)).alloc o) (some B) := by
  have hr := h.row
  rw [hn] at hr
  refine ⟨⟨(h.box.set _).alloc _, ?_, h.lt⟩, grown_then (grownBy_setCell_at W B 0 _) (World.grownBy_alloc _ _ none) (by simp)⟩
  have h1 := own_take5 hr hn.symm n (by omega)
  exact own_below (ownsRow_setCell_below h1 (a := ⟨B, 0, none⟩) (show B < base from h.lt) _) (below_box _ o)

set_option maxHeartbeats 1000000 in
set_option maxRecDepth 100000 in
theorem heapPopM_c (B base g n cap : Nat) (zs : List Cmd) (hn : zs.length = n + 1) (hl : n ≤ 2000000) (hc : n + 1 ≤ cap) (hcm : cap ≤ maxLen) (W : World) (h : HpAt W B base (.slice (some ⟨g, 0, none⟩) (n + 1) cap) zs) :
    Calls Tryz.prog 135 #[.pointer (some ⟨B, 0, none⟩)] W (PopM B base g n cap zs W) := by
  have HH := Lib.hid h
  have HN := Lib.hid hn
  have hr := h.row
  rw [hn] at hr
  obtain ⟨c0, c1, c2, c3, c4⟩ := hp_cells hr (i := n) (by omega) hn.symm
  obtain ⟨x, hx⟩ : ∃ x, atK zs n = x := ⟨_, rfl⟩
  have HX := Lib.hid hx
  rw [hx] at c0 c1 c2 c3 c4
  have b0 := h.box.cell
  have f0 := h.box.frozen
  have hBl := h.box.lt
  have hgl := World.block_lt_of_cell? W _ c0
  have hgB : g ≠ B := fun e => h.far (by rw [e]; rfl)
  have k1 : (n : Int) + 1 ≤ cap := by omega
  have hcm' : cap ≤ 9223372036854775807 := Nat.le_trans hcm (by unfold maxLen; omega)
  obtain ⟨p, fk, fv, tk, tv⟩ := x
  simp only at c0 c1 c2 c3 c4
  clear h hn hr hx hc hcm
  go_enter Tryz.func135, Tryz.ntmps135
  go_wp2
  go_ret
  exact ⟨by rw [HX.out]; rfl, popM_end HN.out HH.out⟩

end Go.Proofs.YtdkpabnpobpdhaaGreat
