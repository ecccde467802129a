/-
  Texts of this proof, one behind the other: Ap, Mq, Hc.
-/
import Derived.OwnWalk
import Derived.Laws.OwnMore
import Derived.Laws.Cover1
import Derived.StillTailTactics
import Derived.Deep.RegionHeld3
import Derived.Deep.Cut
import Derived.Deep.RegionLaw
import Derived.WalkSmall
import Derived.Deep.QuietTactic
import Derived.RangeFuncBox
import Derived.Test.YtnboodcllmdjeaaGreatRk
import Derived.Test.YtnboodcllmdjeaaGreatQ4
import Derived.Test.YtnboodcllmdjeaaGreatQ6
import Derived.Test.YtnboodcllmdjeaaGreatQ9
import Derived.Test.YtnboodcllmdjeaaGreatHb
import Derived.Test.YtnboodcllmdjeaaGreatQ2
import Derived.Test.YtnboodcllmdjeaaGreatQ3
/-
  append to a list of the call's own, and where the result lies: in the same block, or in a new one.
-/
namespace Go.Proofs.YtnboodcllmdjeaaGreat
open Go.RowKit
set_option linter.unusedVariables false

/-- The result's block is the old one or a new one. -/
def SameOrNew (w : World) (v v' : Value) : Prop := ∀ k, v'.ownBlock = some k → v.ownBlock = some k ∨ w.heap.size ≤ k

theorem append_where {P : Program} {w w' : World} {base n m c : Nat} {t ty e : TypeId} {i : TypeInfo} {z v v' : Value} {xs news : List Value} {a : Addr} (ht : P.underlying t = some (.slice e)) (hi : P.info? e = some i) (hz : i.zero = some z) (hs1 : i.size = 1)
    (hown : w.ownsRow base e 1 v n xs) (hl : news.length = m * 1) (hnews : ∀ j u, news[j]? = some u → w.cell? (a.add j) = some u) (h1 : ∀ u ∈ news, u.oneCell' = true) (h63 : n + m ≤ maxLen) (hbytes : (n + m) * i.bytes ≤ 140737488355328)
    (hr : (Builtin.append_ #[t, t] ty #[v, .slice (some a) m c]).run P w = .ok v' w') (h4 : v' = .slice none 0 0 ↔ v = .slice none 0 0 ∧ m = 0) : SameOrNew w v v' := by
  intro k hk
  have h63' : n + m ≤ 9223372036854775807 := by unfold maxLen at h63; omega
  rcases hown.2 with ⟨rfl, rfl⟩ | ⟨g, cap, cur, rfl, hbg, hg, hnc, hcm, hcs, htake⟩
  · by_cases hm : m = 0
    · rw [h4.2 ⟨rfl, hm⟩] at hk; cases hk
    · have hr2 := run_append_nil (P := P) w t ty e i z ht hi hz a m c news (by rw [hs1]; exact hl) hnews (by omega) (by omega) (by
        rw [Nat.zero_add] at hbytes; omega)
      rw [hr] at hr2
      injection hr2 with e1 _
      rw [e1] at hk
      simp [Value.ownBlock] at hk
      exact .inr (by omega)
  · by_cases hroom : n + m ≤ cap
    · have hr2 := run_append_room (P := P) w t ty e i ht hi g n cap cur hg a m c news (by rw [hs1]; exact hl) hnews h1 hroom (by rw [hs1, hl, hcs]; omega)
      rw [hr] at hr2
      injection hr2 with e1 _
      rw [e1] at hk
      exact .inl hk
    · have hr2 := run_append_grow (P := P) w t ty e i z ht hi hz ⟨g, 0, none⟩ n cap xs (by rw [hs1]; exact hown.1) (hown.cells (g := g) rfl) a m c news (by rw [hs1]; exact hl) hnews (by omega) (by omega) (growslice_fits (by omega) hbytes)
      rw [hr] at hr2
      injection hr2 with e1 _
      rw [e1] at hk
      simp [Value.ownBlock] at hk
      exact .inr (by omega)

theorem wpList_append_where {P : Program} {w : World} {ops : Array Oper} {rest : List Oper} {o : Oper} {a : Act} {Q : Exit → Act → World → Prop} (hgd : o.guard = none) (s x : Operand) (t : TypeId)
    (ho : o.op = .call { callee := .builtin .append, args := #[s, x], argTypes := #[t, t] })
    (base : Nat) (e : TypeId) (i : TypeInfo) (z : Value) (bytes : Nat) (ht : P.underlying t = some (.slice e)) (hi : P.info? e = some i) (hz : i.zero = some z)
    (hsize : i.size = 1) (hby : i.bytes = bytes) (hzs : z.cells.size = 1)
    (v : Value) (n : Nat) (xs : List Value) (hs : a.eval s = v) (hown : w.ownsRow base e 1 v n xs)
    (ad : Addr) (m c : Nat) (news : List Value) (hx : a.eval x = .slice (some ad) m c) (hl : news.length = m * 1) (hnews : ∀ j u, news[j]? = some u → w.cell? (ad.add j) = some u) (h1 : ∀ u ∈ news, u.oneCell' = true)
    (h63 : n + m ≤ maxLen) (hbytes : (n + m) * bytes ≤ 140737488355328) (hbase : base ≤ w.heap.size)
    (h : ∀ v' w', w'.ownsRow base e 1 v' (n + m) (xs ++ news) → w.grownBy w' v.ownBlock → SameOrNew w v v' → wpList P ops Q rest (a.put o.dst v') w') : wpList P ops Q (o :: rest) a w := by
  refine wpList_plain hgd fun K hK => ?_
  obtain ⟨v', w', hr, h2, h3, h4⟩ := run_append_own (P := P) w base t o.type e i z 1 bytes ht hi hz hsize hby hzs (by decide) v n xs hown ad m c news hl hnews h1 h63 hbytes hbase
  have h5 := append_where ht hi hz hsize hown hl hnews h1 h63 (by rw [hby]; exact hbytes) hr h4
  unfold Oper.wp execOp
  simp only [ho, resolve, invoke, builtin, Sem.run_bind, Sem.run_pure, Result.andThen_ok, List.map_toArray, List.map_cons, List.map_nil, hs, hx, hr]
  exact hK _ _ (h v' w' h2 h3 h5)

end Go.Proofs.YtnboodcllmdjeaaGreat

/-
  WALKS: impl.nodeQueue, nodesFrom, makingOf.
-/
namespace Go.Proofs.YtnboodcllmdjeaaGreat
open Go.RowKit
set_option linter.unusedVariables false

theorem NodesAt.kept {W W' : World} {row : Option Nat} {a : Option Addr} {len : Nat} {ns : List Nd} (h : NodesAt W a len ns) (hg : W.grownBy W' row) (hr : ∀ x, a = some x → len ≠ 0 → row ≠ some x.block) : NodesAt W' a len ns := by
  obtain ⟨h1, h0 | ⟨b, off, rfl, hc⟩⟩ := h
  · exact ⟨h1, .inl h0⟩
  · by_cases hl : len = 0
    · exact ⟨h1, .inl hl⟩
    · have hne : some b ≠ row := fun e => hr _ rfl hl e.symm
      exact ⟨h1, .inr ⟨b, off, rfl, fun i n hn => ⟨hg.cell (hc i n hn).1 hne, hg.cell (hc i n hn).2.1 hne, hg.cell (hc i n hn).2.2 hne⟩⟩⟩

theorem NodesAt.low {W : World} {a : Option Addr} {len : Nat} {ns : List Nd} (h : NodesAt W a len ns) (hl : len ≠ 0) : ∀ x, a = some x → x.block < W.heap.size := by
  intro x hx
  obtain ⟨b, off, n, rfl, _, hc, _⟩ := h.node (i := 0) (by omega)
  cases hx
  exact World.block_lt_of_cell? W _ hc

theorem grown_then {W W1 W2 : World} {row row2 : Option Nat} (h : W.grownBy W1 row) (k : W1.grownBy W2 row2) (hr : ∀ j, row2 = some j → W.heap.size ≤ j ∨ row = some j) : W.grownBy W2 row :=
  ⟨k.os.trans h.os, k.tape.trans h.tape, k.output.trans h.output, Nat.le_trans h.size k.size, fun i hi hne => (k.block i (Nat.lt_of_lt_of_le hi h.size) (fun e => (hr i e.symm).elim (fun h1 => absurd hi (Nat.not_lt.2 h1)) (fun h1 => hne h1.symm))).trans (h.block i hi hne)⟩

/-- What is left when the first node is taken. -/
theorem NodesAt.rest {W : World} {a : Option Addr} {len cap : Nat} {x : Nd} {r : List Nd} (h : NodesAt W a len (x :: r)) (hlc : len ≤ cap) :
    (cap = 1 → NodesAt W a (len - 1) r) ∧ NodesAt W (a.map fun y => y.add 3) (len - 1) r := by
  obtain ⟨h1, h2⟩ := h
  have hl : r.length = len - 1 := by rw [← h1]; simp
  refine ⟨fun e => ⟨hl, .inl (by omega)⟩, hl, ?_⟩
  rcases h2 with h0 | ⟨b, off, rfl, hc⟩
  · left; omega
  · right
    refine ⟨b, off + 3, by rw [Option.map_some, addr_addN], fun i n hn => ?_⟩
    have := hc (i + 1) n (by simpa using hn)
    rw [show off + 3 + i * 3 = off + (i + 1) * 3 by omega]
    exact this

theorem npair_results (fn : Func) (hf : fn.results = #[.cell 2 56, .tmp 3]) (W : World) (n : Nat) (p : ByteArray) (k v : Int) (b : Bool) (tmps : Array Value) (ht : tmps[2]? = some (.pointer (some ⟨n, 0, none⟩))) (hb : tmps[3]? = some (.bool b))
    (h : W.cell? ⟨n, 0, none⟩ = some (.string p) ∧ W.cell? ⟨n, 1, none⟩ = some (.int .i64 k) ∧ W.cell? ⟨n, 2, none⟩ = some (.int .i64 v)) : (results fn tmps).run Tryz.prog W = .ok (.tuple #[.agg #[.string p, .int .i64 k, .int .i64 v], .bool b]) W := by
  obtain ⟨c0, c1, c2⟩ := h
  simp [results, hf, go_sem, ht, hb, c0, c1, c2]

theorem three_cells (W : World) (x y z : Value) (t : TypeId) : (W.alloc (.cells #[x, y, z] t)).cell? ⟨W.heap.size, 0, none⟩ = some x ∧ (W.alloc (.cells #[x, y, z] t)).cell? ⟨W.heap.size, 1, none⟩ = some y ∧ (W.alloc (.cells #[x, y, z] t)).cell? ⟨W.heap.size, 2, none⟩ = some z ∧
    (W.alloc (.cells #[x, y, z] t)).frozen? ⟨W.heap.size, 0, none⟩ = false ∧ (W.alloc (.cells #[x, y, z] t)).frozen? ⟨W.heap.size, 1, none⟩ = false ∧ (W.alloc (.cells #[x, y, z] t)).frozen? ⟨W.heap.size, 2, none⟩ = false := by
  refine ⟨by rw [World.cell?_alloc_new]; rfl, by rw [World.cell?_alloc_new]; rfl, by rw [World.cell?_alloc_new]; rfl, ?_, ?_, ?_⟩
  all_goals (simp only [World.frozen?, World.alloc_heap_new]; rfl)

/-- impl.nodesFrom. -/
def fromL (ns : List Nd) (p : ByteArray) : List Nd := if validT ns = true ∧ p ≠ rootB then ns.filter (fun n => subB p n.p) else []

theorem fromL_yes {ns : List Nd} {p : ByteArray} (h : validT ns = true) (hr : p ≠ rootB) : fromL ns p = ns.filter (fun n => subB p n.p) := if_pos ⟨h, hr⟩
theorem fromL_no {ns : List Nd} {p : ByteArray} (h : validT ns = false ∨ p = rootB) : fromL ns p = [] := by
  unfold fromL
  rw [if_neg]
  rintro ⟨h1, h2⟩
  rcases h with h | h
  · rw [h] at h1; cases h1
  · exact h2 h
theorem fromL_len (ns : List Nd) (p : ByteArray) : (fromL ns p).length ≤ 10 := by
  unfold fromL
  split
  · rename_i h; exact filter_len10 h.1 _
  · exact Nat.zero_le _

def fromAcc (ns : List Nd) (p : ByteArray) (n : Nat) : List Nd := (ns.take n).filter (fun x => subB p x.p)

theorem fromAcc_yes {ns : List Nd} {p : ByteArray} {n : Nat} {x : Nd} (hn : ns[n]? = some x) (h : subB p x.p = true) : fromAcc ns p (n + 1) = fromAcc ns p n ++ [x] := by
  unfold fromAcc
  rw [List.take_add_one, hn]
  simp [h]
theorem fromAcc_no {ns : List Nd} {p : ByteArray} {n : Nat} {x : Nd} (hn : ns[n]? = some x) (h : subB p x.p = false) : fromAcc ns p (n + 1) = fromAcc ns p n := by
  unfold fromAcc
  rw [List.take_add_one, hn]
  simp [h]
theorem fromAcc_len {ns : List Nd} (hv : validT ns = true) (p : ByteArray) (n : Nat) : (fromAcc ns p n).length ≤ 10 := by
  unfold fromAcc
  exact Nat.le_trans (List.length_filter_le _ _) (Nat.le_trans (by rw [List.length_take]; omega) ((validT_iff ns).1 hv).2.2)

/-- A list of nodes that the call has made. -/
def FromPost (l : List Nd) (W : World) (e : Ending) (w' : World) : Prop := OwnsNodes W.heap.size l e w' ∧ Below W.heap.size W w'

/-- A node in a block of its own. -/
def NBox (W : World) (c : Nat) (x : Nd) : Prop := W.heap[c]? = some (.cells #[.string x.p, .int .i64 x.k, .int .i64 x.v] 56 (0, 0))

theorem NBox.cells {W : World} {c : Nat} {x : Nd} (h : NBox W c x) : W.cell? ⟨c, 0, none⟩ = some (.string x.p) ∧ W.cell? ⟨c, 1, none⟩ = some (.int .i64 x.k) ∧ W.cell? ⟨c, 2, none⟩ = some (.int .i64 x.v) ∧ W.frozen? ⟨c, 0, none⟩ = false ∧ W.frozen? ⟨c, 1, none⟩ = false ∧ W.frozen? ⟨c, 2, none⟩ = false := by
  unfold NBox at h
  simp [World.cell?, World.frozen?, h]
theorem NBox.lt {W : World} {c : Nat} {x : Nd} (h : NBox W c x) : c < W.heap.size := (Array.getElem?_eq_some_iff.1 h).1
theorem NBox.kept {W W' : World} {row : Option Nat} {c : Nat} {x : Nd} (h : NBox W c x) (hg : W.grownBy W' row) (hne : some c ≠ row) : NBox W' c x := (hg.block c h.lt hne).trans h
theorem NBox.keep {W W' : World} {c : Nat} {x : Nd} (h : NBox W c x) (hb : Below W.heap.size W W') : NBox W' c x := (hb.block c h.lt).trans h
theorem NBox.new (W : World) (x : Nd) : NBox (W.alloc (.cells #[.string x.p, .int .i64 x.k, .int .i64 x.v] 56)) W.heap.size x := World.alloc_heap_new W _
theorem NBox.far {W : World} {c base n : Nat} {x : Nd} {v : Value} {xs : List Value} (h : NBox W c x) (ho : W.ownsRow base 34 5 v n xs) : some c ≠ v.ownBlock := by
  rcases ho.2 with ⟨rfl, _⟩ | ⟨g, cap, cur, rfl, _, q2, _⟩
  · simp [Value.ownBlock]
  · intro e
    simp [Value.ownBlock] at e
    subst e
    unfold NBox at h
    rw [h] at q2
    cases q2
theorem NBox.put {W : World} {c : Nat} {x : Nd} (y : Nd) (h : NBox W c x) : NBox (((W.setCell ⟨c, 0, none⟩ (.string y.p)).setCell ⟨c, 1, none⟩ (.int .i64 y.k)).setCell ⟨c, 2, none⟩ (.int .i64 y.v)) c y := by
  unfold NBox at h ⊢
  simp [World.setCell, h, Array.getElem?_modify]

/-- What makingOf makes of nodes. -/
def mkL (p b : ByteArray) (l : List Nd) : List Cmd := l.map (fun n => ⟨cpB p b n.p, 0, 0, n.k, n.v⟩)

theorem mkL_snoc (p b : ByteArray) (l : List Nd) (x : Nd) : mkL p b (l ++ [x]) = mkL p b l ++ [⟨cpB p b x.p, 0, 0, x.k, x.v⟩] := by unfold mkL; rw [List.map_append]; rfl
theorem mkL_from (ns : List Nd) (p b : ByteArray) : mkL p b (fromL ns p) = makeL ns p b := by
  unfold fromL makeL
  split
  · rfl
  · rfl

theorem fromL_sub {ns : List Nd} {p : ByteArray} {x : Nd} (h : x ∈ fromL ns p) : p.size ≤ x.p.size ∧ ((x.p.extract 0 p.size).toList == p.toList) = true ∧ x.p.size ≤ 8 := by
  unfold fromL at h
  split at h
  · rename_i hc
    obtain ⟨hm, hs⟩ := List.mem_filter.1 h
    obtain ⟨h1, h2⟩ := sub_prefix hc.2 hs
    exact ⟨h1, h2, vpSize (good_path hc.1 hm).2⟩
  · cases h

/-- How many nodes a queue has. -/
def leftAt (W : World) (B : Nat) : Nat := match W.cell? ⟨B, 0, none⟩ with
  | some (.slice _ n _) => n
  | _ => 0

def moreOf : Value → Nat
  | .bool true => 1
  | _ => 0

end Go.Proofs.YtnboodcllmdjeaaGreat

/-
  WALKS: the program's heap of commands: impl.ends, canonHeap.Len, Less, Swap, Push, Pop.
-/
namespace Go.Proofs.YtnboodcllmdjeaaGreat
open Go.RowKit
set_option linter.unusedVariables false

set_option maxHeartbeats 1000000 in
set_option maxRecDepth 100000 in
theorem implEnds_c (c : Cmd) (W : World) : Calls Tryz.prog 134 #[cmdV c] W (BoolPost (endsC c) W) := by
  obtain ⟨p, fk, fv, tk, tv⟩ := c
  unfold cmdV
  have HB := Lib.hid (below_box W (.cells #[.string p, .int .i64 fk, .int .i64 fv, .int .i64 tk, .int .i64 tv] 34))
  simp only
  by_cases h : tk = 0
  · subst h
    go_enter Tryz.func134, Tryz.ntmps134
    go_wp2
    go_ret
    exact ⟨ret_bool (by unfold endsC; simp), HB.out⟩
  · have h0 : (tk == 0) = false := beq_eq_false_iff_ne.2 h
    by_cases h1 : fk = 1
    · subst h1
      go_enter Tryz.func134, Tryz.ntmps134
      go_wp2
      go_ret
      exact ⟨ret_bool (by unfold endsC; simp), HB.out⟩
    · have h2 : (fk == 1) = false := beq_eq_false_iff_ne.2 h1
      have HX := Lib.hid (show endsC ⟨p, fk, fv, tk, tv⟩ = false by unfold endsC; simp [h0, h2])
      clear h h1
      go_enter Tryz.func134, Tryz.ntmps134
      go_wp2
      go_ret
      exact ⟨ret_bool HX.out.symm, HB.out⟩

theorem heapLen_c (a : Option Addr) (len cap : Nat) (W : World) : Calls Tryz.prog 68 #[.slice a len cap] W (fun e w' => e = .returned (.int .i64 len) ∧ w' = W) := by
  go_enter Tryz.func68, Tryz.ntmps68
  go_wp2
  go_ret
  exact ⟨rfl, rfl⟩

/-- Two commands of a list, read. -/
def TwoAt (w' : World) (b i j : Nat) (c d : Cmd) : Prop :=
  w'.cell? ⟨b, i, none⟩ = some (.string c.p) ∧ w'.cell? ⟨b, i + 1, none⟩ = some (.int .i64 c.fk) ∧ w'.cell? ⟨b, i + 2, none⟩ = some (.int .i64 c.fv) ∧ w'.cell? ⟨b, i + 3, none⟩ = some (.int .i64 c.tk) ∧ w'.cell? ⟨b, i + 4, none⟩ = some (.int .i64 c.tv) ∧
  w'.cell? ⟨b, j, none⟩ = some (.string d.p) ∧ w'.cell? ⟨b, j + 1, none⟩ = some (.int .i64 d.fk) ∧ w'.cell? ⟨b, j + 2, none⟩ = some (.int .i64 d.fv) ∧ w'.cell? ⟨b, j + 3, none⟩ = some (.int .i64 d.tk) ∧ w'.cell? ⟨b, j + 4, none⟩ = some (.int .i64 d.tv)

theorem TwoAt.keep {W W' : World} {b i j : Nat} {c d : Cmd} (h : TwoAt W b i j c d) (hb : Below W.heap.size W W') : TwoAt W' b i j c d := by
  obtain ⟨a0, a1, a2, a3, a4, b0, b1, b2, b3, b4⟩ := h
  exact ⟨cell_kept hb a0, cell_kept hb a1, cell_kept hb a2, cell_kept hb a3, cell_kept hb a4, cell_kept hb b0, cell_kept hb b1, cell_kept hb b2, cell_kept hb b3, cell_kept hb b4⟩

set_option maxHeartbeats 4000000 in
set_option maxRecDepth 100000 in
theorem heapLess_c (a : Option Addr) (len cap : Nat) (zs : List Cmd) (i j : Nat) (hi : i < len) (hj : j < len) (hl : len ≤ 2097152) (W : World) (hC : CmdsAt W a len zs) :
    Calls Tryz.prog 132 #[.slice a len cap, .int .i64 i, .int .i64 j] W (BoolPost (befC (atK zs i) (atK zs j)) W) := by
  obtain ⟨b, off, c, rfl, hc, c0, c1, c2, c3, c4⟩ := hC.node hi
  obtain ⟨b', off', d, e, hd, d0, d1, d2, d3, d4⟩ := hC.node hj
  cases e
  rw [atK_of hc, atK_of hd]
  have T0 := Lib.hid (show TwoAt W b (off + i * 5) (off + j * 5) c d from ⟨c0, c1, c2, c3, c4, d0, d1, d2, d3, d4⟩)
  obtain ⟨ec, hec⟩ : ∃ e, endsC c = e := ⟨_, rfl⟩
  obtain ⟨ed, hed⟩ : ∃ e, endsC d = e := ⟨_, rfl⟩
  have HC := Lib.hid (fun w => show Calls Tryz.prog 134 #[cmdV c] w (BoolPost ec w) by rw [← hec]; exact implEnds_c c w)
  have HD := Lib.hid (fun w => show Calls Tryz.prog 134 #[cmdV d] w (BoolPost ed w) by rw [← hed]; exact implEnds_c d w)
  have HR := Lib.hid (bef_cases c d)
  rw [hec, hed] at HR
  have hi' : (i : Int) < len := by omega
  have hj' : (j : Int) < len := by omega
  clear hec hed hC hc hd c0 c1 c2 c3 c4 d0 d1 d2 d3 d4 hi hj
  obtain ⟨p, fk, fv, tk, tv⟩ := c
  obtain ⟨p', fk', fv', tk', tv'⟩ := d
  unfold cmdV at HC HD
  unfold TwoAt at T0
  simp only at HC HD HR T0
  go_enter Tryz.func132, Tryz.ntmps132
  go_upto_region 1 with (fail)
  have HS0 : Hid (W.drew.cell? ⟨b, off + i * 5, none⟩ = some (.string p) ∧ W.drew.cell? ⟨b, off + i * 5 + 1, none⟩ = some (.int .i64 fk) ∧ W.drew.cell? ⟨b, off + i * 5 + 2, none⟩ = some (.int .i64 fv) ∧ W.drew.cell? ⟨b, off + i * 5 + 3, none⟩ = some (.int .i64 tk) ∧ W.drew.cell? ⟨b, off + i * 5 + 4, none⟩ = some (.int .i64 tv) ∧ W.drew.cell? ⟨b, off + j * 5, none⟩ = some (.string p') ∧ W.drew.cell? ⟨b, off + j * 5 + 1, none⟩ = some (.int .i64 fk') ∧ W.drew.cell? ⟨b, off + j * 5 + 2, none⟩ = some (.int .i64 fv') ∧ W.drew.cell? ⟨b, off + j * 5 + 3, none⟩ = some (.int .i64 tk') ∧ W.drew.cell? ⟨b, off + j * 5 + 4, none⟩ = some (.int .i64 tv') ∧ Below W.heap.size W W.drew) := by
    obtain ⟨a0, a1, a2, a3, a4, b0, b1, b2, b3, b4⟩ := T0.out
    exact ⟨a0, a1, a2, a3, a4, b0, b1, b2, b3, b4, (Below.refl _ _).drew⟩
  have HKP : Hid (∀ w1 w2 : World, (w1.cell? ⟨b, off + i * 5, none⟩ = some (.string p) ∧ w1.cell? ⟨b, off + i * 5 + 1, none⟩ = some (.int .i64 fk) ∧ w1.cell? ⟨b, off + i * 5 + 2, none⟩ = some (.int .i64 fv) ∧ w1.cell? ⟨b, off + i * 5 + 3, none⟩ = some (.int .i64 tk) ∧ w1.cell? ⟨b, off + i * 5 + 4, none⟩ = some (.int .i64 tv) ∧ w1.cell? ⟨b, off + j * 5, none⟩ = some (.string p') ∧ w1.cell? ⟨b, off + j * 5 + 1, none⟩ = some (.int .i64 fk') ∧ w1.cell? ⟨b, off + j * 5 + 2, none⟩ = some (.int .i64 fv') ∧ w1.cell? ⟨b, off + j * 5 + 3, none⟩ = some (.int .i64 tk') ∧ w1.cell? ⟨b, off + j * 5 + 4, none⟩ = some (.int .i64 tv') ∧ Below W.heap.size W w1) → Below w1.heap.size w1 w2 → (w2.cell? ⟨b, off + i * 5, none⟩ = some (.string p) ∧ w2.cell? ⟨b, off + i * 5 + 1, none⟩ = some (.int .i64 fk) ∧ w2.cell? ⟨b, off + i * 5 + 2, none⟩ = some (.int .i64 fv) ∧ w2.cell? ⟨b, off + i * 5 + 3, none⟩ = some (.int .i64 tk) ∧ w2.cell? ⟨b, off + i * 5 + 4, none⟩ = some (.int .i64 tv) ∧ w2.cell? ⟨b, off + j * 5, none⟩ = some (.string p') ∧ w2.cell? ⟨b, off + j * 5 + 1, none⟩ = some (.int .i64 fk') ∧ w2.cell? ⟨b, off + j * 5 + 2, none⟩ = some (.int .i64 fv') ∧ w2.cell? ⟨b, off + j * 5 + 3, none⟩ = some (.int .i64 tk') ∧ w2.cell? ⟨b, off + j * 5 + 4, none⟩ = some (.int .i64 tv') ∧ Below W.heap.size W w2)) := by
    rintro w1 w2 ⟨a0, a1, a2, a3, a4, b0, b1, b2, b3, b4, hb⟩ h
    exact ⟨cell_kept h a0, cell_kept h a1, cell_kept h a2, cell_kept h a3, cell_kept h a4, cell_kept h b0, cell_kept h b1, cell_kept h b2, cell_kept h b3, cell_kept h b4, below_next hb h⟩
  go_region_held3 (fun w' => w'.cell? ⟨b, off + i * 5, none⟩ = some (.string p) ∧ w'.cell? ⟨b, off + i * 5 + 1, none⟩ = some (.int .i64 fk) ∧ w'.cell? ⟨b, off + i * 5 + 2, none⟩ = some (.int .i64 fv) ∧ w'.cell? ⟨b, off + i * 5 + 3, none⟩ = some (.int .i64 tk) ∧ w'.cell? ⟨b, off + i * 5 + 4, none⟩ = some (.int .i64 tv) ∧ w'.cell? ⟨b, off + j * 5, none⟩ = some (.string p') ∧ w'.cell? ⟨b, off + j * 5 + 1, none⟩ = some (.int .i64 fk') ∧ w'.cell? ⟨b, off + j * 5 + 2, none⟩ = some (.int .i64 fv') ∧ w'.cell? ⟨b, off + j * 5 + 3, none⟩ = some (.int .i64 tk') ∧ w'.cell? ⟨b, off + j * 5 + 4, none⟩ = some (.int .i64 tv') ∧ Below W.heap.size W w')
    (first | exact HS0.out | exact HKP.out _ _ HS0.out hb5 | exact HKP.out _ _ (by assumption) hb5)
    (first | (go_at_call 134; (with_reducible refine (HC.out _).mono ?_); rintro e W5 ⟨rfl, hb5⟩) | (go_at_call 134; (with_reducible refine (HD.out _).mono ?_); rintro e W5 ⟨rfl, hb5⟩))
  all_goals
    rename_i hS
    obtain ⟨a0, a1, a2, a3, a4, b0, b1, b2, b3, b4, hB⟩ := hS
    have HB := Lib.hid hB
    clear T0 HS0 HKP hB
    cases ec <;> cases ed
    · go_wp2_with (go_at_call 134; (with_reducible refine (HC.out _).mono ?_); rintro e W6 ⟨rfl, hb6⟩; replace a0 := cell_kept hb6 a0; replace b0 := cell_kept hb6 b0; have HB6 := Lib.hid (below_next HB.out hb6); clear hb6)
      go_quiet (fail)
      go_wp2
      go_ret
      exact ⟨ret_bool HR.out.symm, below_drewN HB6.out _⟩
    · go_wp2_with (go_at_call 134; (with_reducible refine (HC.out _).mono ?_); rintro e W6 ⟨rfl, hb6⟩; have HB6 := Lib.hid (below_next HB.out hb6); clear hb6)
      go_ret
      exact ⟨ret_bool HR.out.symm, HB6.out⟩
    · go_wp2_with (go_at_call 134; (with_reducible refine (HC.out _).mono ?_); rintro e W6 ⟨rfl, hb6⟩; have HB6 := Lib.hid (below_next HB.out hb6); clear hb6)
      go_ret
      exact ⟨ret_bool HR.out.symm, HB6.out⟩
    · go_wp2_with (go_at_call 134; (with_reducible refine (HC.out _).mono ?_); rintro e W6 ⟨rfl, hb6⟩; replace a0 := cell_kept hb6 a0; replace b0 := cell_kept hb6 b0; have HB6 := Lib.hid (below_next HB.out hb6); clear hb6)
      go_quiet (fail)
      go_wp2
      go_ret
      exact ⟨ret_bool ((gtr_eq p p').trans HR.out.symm), below_drewN HB6.out _⟩

theorem hp_cells {W : World} {base : Nat} {e : TypeId} {g n cap : Nat} {zs : List Cmd} (h : W.ownsRow base e 5 (.slice (some ⟨g, 0, none⟩) n cap) n (flatC zs)) {i : Nat} (hi : i < zs.length) (hn : n = zs.length) :
    W.cell? ⟨g, i * 5, none⟩ = some (.string (atK zs i).p) ∧ W.cell? ⟨g, i * 5 + 1, none⟩ = some (.int .i64 (atK zs i).fk) ∧ W.cell? ⟨g, i * 5 + 2, none⟩ = some (.int .i64 (atK zs i).fv) ∧ W.cell? ⟨g, i * 5 + 3, none⟩ = some (.int .i64 (atK zs i).tk) ∧ W.cell? ⟨g, i * 5 + 4, none⟩ = some (.int .i64 (atK zs i).tv) := by
  obtain ⟨f0, f1, f2, f3, f4⟩ := flatC_get zs i (atK zs i) (atK_get hi)
  refine ⟨?_, ?_, ?_, ?_, ?_⟩
  · rw [h.cellAt (i * 5) (by omega)]; exact f0
  · rw [h.cellAt (i * 5 + 1) (by omega)]; exact f1
  · rw [h.cellAt (i * 5 + 2) (by omega)]; exact f2
  · rw [h.cellAt (i * 5 + 3) (by omega)]; exact f3
  · rw [h.cellAt (i * 5 + 4) (by omega)]; exact f4

theorem row_frozen {W : World} {base : Nat} {e : TypeId} {g n m cap : Nat} {xs : List Value} (h : W.ownsRow base e 5 (.slice (some ⟨g, 0, none⟩) m cap) n xs) (o : Nat) : W.frozen? ⟨g, o, none⟩ = false := by
  rcases h.2 with ⟨h1, _⟩ | ⟨g', cap', cur, h1, _, h2, _⟩
  · cases h1
  · cases h1
    simp only [World.frozen?, h2]
    rfl

def SwapPost (base g n cap : Nat) (zs : List Cmd) (i j : Nat) (W : World) (e : Ending) (w' : World) : Prop :=
  e = .returned (.tuple #[]) ∧ w'.ownsRow base 34 5 (.slice (some ⟨g, 0, none⟩) n cap) n (flatC (swapK zs i j)) ∧ W.grownBy w' (some g)

theorem row_drew {W : World} {base : Nat} {e : TypeId} {size n : Nat} {v : Value} {xs : List Value} (h : W.ownsRow base e size v n xs) : W.drew.ownsRow base e size v n xs := h
theorem grown_drew {W W' : World} {row : Option Nat} (h : W.grownBy W' row) : W.grownBy W'.drew row := ⟨h.os, h.tape, h.output, h.size, h.block⟩

theorem swap_end {base g n cap : Nat} {zs : List Cmd} {i j : Nat} {W : World} (fn : Func) (hf : fn.results = #[]) (tmps : Array Value) (h : W.ownsRow base 34 5 (.slice (some ⟨g, 0, none⟩) n cap) n (flatC zs)) (hi : i < zs.length) (hj : j < zs.length) :
    bodyPost Tryz.prog fn (SwapPost base g n cap zs i j W) .normal ⟨tmps, []⟩ (set5 (set5 W g (i * 5) (atK zs j)) g (j * 5) (atK zs i)).drew :=
  bodyPost_end (v := .tuple #[]) (by simp [results, hf, go_sem]) rfl ⟨rfl, row_drew (own_swap5 h hi hj), by
    have h1 := grown_set5 W g (i * 5) (atK zs j)
    have h2 := grown_set5 (set5 W g (i * 5) (atK zs j)) g (j * 5) (atK zs i)
    exact grown_drew (grown_then h1 h2 (fun k e => .inr e))⟩

set_option maxHeartbeats 4000000 in
set_option maxRecDepth 100000 in
theorem heapSwap_c (base g n cap : Nat) (zs : List Cmd) (i j : Nat) (hn : n = zs.length) (hi : i < n) (hj : j < n) (hl : n ≤ 2097152) (W : World) (ho : W.ownsRow base 34 5 (.slice (some ⟨g, 0, none⟩) n cap) n (flatC zs)) :
    Calls Tryz.prog 133 #[.slice (some ⟨g, 0, none⟩) n cap, .int .i64 i, .int .i64 j] W (SwapPost base g n cap zs i j W) := by
  obtain ⟨c0, c1, c2, c3, c4⟩ := hp_cells ho (i := i) (by omega) hn
  obtain ⟨d0, d1, d2, d3, d4⟩ := hp_cells ho (i := j) (by omega) hn
  have HF := Lib.hid (fun o => row_frozen ho o)
  have HO := Lib.hid ho
  have HI := Lib.hid (show i < zs.length ∧ j < zs.length from ⟨by omega, by omega⟩)
  have hi' : (i : Int) < n := by omega
  have hj' : (j : Int) < n := by omega
  obtain ⟨ci, hci⟩ : ∃ c, atK zs i = c := ⟨_, rfl⟩
  obtain ⟨cj, hcj⟩ : ∃ c, atK zs j = c := ⟨_, rfl⟩
  have HCI := Lib.hid (And.intro hci hcj)
  rw [hci] at c0 c1 c2 c3 c4
  rw [hcj] at d0 d1 d2 d3 d4
  have hr1 := own_set5 ho (i := i) (by omega) cj
  have hr1l : n = (zs.set i cj).length := by simpa using hn
  obtain ⟨x0, x1, x2, x3, x4⟩ := hp_cells hr1 (i := j) (by omega) hr1l
  obtain ⟨cx, hcx⟩ : ∃ c, atK (zs.set i cj) j = c := ⟨_, rfl⟩
  rw [hcx] at x0 x1 x2 x3 x4
  unfold set5 at x0 x1 x2 x3 x4
  clear hci hcj hi hj hn ho hr1 hr1l hcx
  have f0 := fun o => HF.out o
  go_enter Tryz.func133, Tryz.ntmps133
  go_wp2
  go_region
  all_goals
    rw [← HCI.out.1, ← HCI.out.2]
    exact swap_end _ rfl _ HO.out HI.out.1 HI.out.2

/-- Blocks that are no rows of cells stand. -/
def KeptM (W w' : World) : Prop := ∀ (i : Nat) (o : Obj), W.heap[i]? = some o → o.isCells = false → w'.heap[i]? = some o

theorem KeptM.trans {A B C : World} (h : KeptM A B) (k : KeptM B C) : KeptM A C := fun i o hi ho => k i o (h i o hi ho) ho

theorem KeptM.grown {W w' : World} {row : Option Nat} (hg : W.grownBy w' row) (hr : ∀ r o, row = some r → W.heap[r]? = some o → o.isCells = true) : KeptM W w' := fun i o hi ho => by
  refine (hg.block i (Array.getElem?_eq_some_iff.1 hi).1 (fun e => ?_)).trans hi
  rw [hr i o e.symm hi] at ho
  cases ho

theorem KeptM.below {W w' : World} (hb : Below W.heap.size W w') : KeptM W w' := fun i o hi ho => (hb.block i (Array.getElem?_eq_some_iff.1 hi).1).trans hi

theorem row_cells {W : World} {base : Nat} {e : TypeId} {size n : Nat} {v : Value} {xs : List Value} (h : W.ownsRow base e size v n xs) : ∀ r o, v.ownBlock = some r → W.heap[r]? = some o → o.isCells = true := by
  intro r o hr ho
  rcases h.2 with ⟨rfl, _⟩ | ⟨g, cap, cur, rfl, _, h2, _⟩
  · cases hr
  · simp [Value.ownBlock] at hr
    subst hr
    rw [h2] at ho
    cases ho
    rfl

/-- A heap of commands: its box, and its row. -/
structure HpAt (W : World) (B base : Nat) (v : Value) (zs : List Cmd) : Prop where
  box : Boxed W B 81 v
  row : W.ownsRow base 34 5 v zs.length (flatC zs)
  lt : B < base

theorem HpAt.far {W : World} {B base : Nat} {v : Value} {zs : List Cmd} (h : HpAt W B base v zs) : some B ≠ v.ownBlock := fun e => by
  have h1 := (h.row.lt B e.symm).1
  have h2 := h.lt
  omega

theorem HpAt.keep {W W' : World} {B base : Nat} {v : Value} {zs : List Cmd} (h : HpAt W B base v zs) (hb : Below W.heap.size W W') : HpAt W' B base v zs :=
  ⟨box_keep h.box hb, own_below h.row hb, h.lt⟩

/-- What is left when a command has been put behind. -/
def PushM (B base : Nat) (zs : List Cmd) (c : Cmd) (W : World) (e : Ending) (w' : World) : Prop :=
  e = .returned (.tuple #[]) ∧ ∃ v', HpAt w' B base v' (zs ++ [c]) ∧ Below B W w' ∧ KeptM W w'

theorem pushM_end {B base : Nat} {v : Value} {zs : List Cmd} {c : Cmd} {W w4 : World} {g4 c4 : Nat} {o : Obj} (fn : Func) (hf : fn.results = #[]) (tmps : Array Value) (h : HpAt W B base v zs)
    (hg4 : (W.alloc o).drew.grownBy w4 v.ownBlock) (ho4 : w4.ownsRow base 34 5 (.slice (some ⟨g4, 0, none⟩) (zs.length + 1) c4) (zs.length + 1) (flatC zs ++ [.string c.p, .int .i64 c.fk, .int .i64 c.fv, .int .i64 c.tk, .int .i64 c.tv])) :
    bodyPost Tryz.prog fn (PushM B base zs c W) .normal ⟨tmps, []⟩ (w4.setCell ⟨B, 0, none⟩ (.slice (some ⟨g4, 0, none⟩) (zs.length + 1) c4)) := by
  have hlt := h.lt
  have hBl := h.box.lt
  have hbx4 : Boxed w4 B 81 v := (show Boxed (W.alloc o).drew B 81 v from h.box.alloc o).kept hg4 h.far
  have hr1 : (W.alloc o).drew.ownsRow base 34 5 v zs.length (flatC zs) := row_drew (own_below h.row (below_box W o))
  have hk1 : KeptM W (W.alloc o).drew := KeptM.below ((below_box W o).drew)
  refine bodyPost_end (v := .tuple #[]) (by simp [results, hf, go_sem]) rfl ⟨rfl, _, ⟨hbx4.set _, ?_, hlt⟩, ?_, ?_⟩
  · have := own_pushC c (ownsRow_setCell_below ho4 (a := ⟨B, 0, none⟩) (show B < base from hlt) (.slice (some ⟨g4, 0, none⟩) (zs.length + 1) c4))
    rw [List.length_append]
    rw [List.length_append] at this
    exact this
  · have h1 : Below B W (W.alloc o).drew := (((Below.refl B W)).alloc (by omega) o).drew
    exact below_setCell (h1.grown hg4 (by have := h1.size; omega) (fun k e => by have := (hr1.lt k e).1; omega)) _ _ (Nat.le_refl _)
  · refine (hk1.trans (KeptM.grown hg4 (row_cells hr1))).trans (KeptM.grown (grownBy_setCell_at w4 B 0 _) (fun r x e hx => ?_))
    cases e
    rw [show w4.heap[B]? = _ from hbx4] at hx
    cases hx
    rfl

theorem ta_cmd (p : ByteArray) (fk fv tk tv : Int) (W : World) : (Instr.typeAssert (.iface 34 (.agg #[.string p, .int .i64 fk, .int .i64 fv, .int .i64 tk, .int .i64 tv])) 20 34 false).run Tryz.prog W = .ok (.agg #[.string p, .int .i64 fk, .int .i64 fv, .int .i64 tk, .int .i64 tv]) W := by kernel_rfl

set_option maxHeartbeats 1000000 in
set_option maxRecDepth 100000 in
theorem heapPushM_c (B base : Nat) (v : Value) (zs : List Cmd) (c : Cmd) (hl : zs.length ≤ 2000000) (W : World) (hle : base ≤ W.heap.size) (h : HpAt W B base v zs) :
    Calls Tryz.prog 136 #[.pointer (some ⟨B, 0, none⟩), .iface 34 (cmdV c)] W (PushM B base zs c W) := by
  obtain ⟨i0, hi, hz0, hz1, hz2⟩ := info_parts infoCmd
  have HH := Lib.hid h
  have b0 := h.box.cell
  have f0 := h.box.frozen
  have hBl := h.box.lt
  obtain ⟨p, fk, fv, tk, tv⟩ := c
  unfold cmdV
  simp only
  have HROW := Lib.hid (show ((W.alloc (.cells #[.string p, .int .i64 fk, .int .i64 fv, .int .i64 tk, .int .i64 tv] 34)).drew).ownsRow base 34 5 v zs.length (flatC zs) from row_drew (own_below h.row (below_box W _)))
  have HCEL := Lib.hid (show ∀ j u, [Value.string p, .int .i64 fk, .int .i64 fv, .int .i64 tk, .int .i64 tv][j]? = some u → ((W.alloc (.cells #[.string p, .int .i64 fk, .int .i64 fv, .int .i64 tk, .int .i64 tv] 34)).drew).cell? ((⟨W.heap.size, 0, none⟩ : Addr).add j) = some u from cell_five_new W _ _ _ _ _ _)
  have HMX := Lib.hid (show zs.length + 1 ≤ maxLen ∧ (zs.length + 1) * 48 ≤ 140737488355328 by unfold maxLen; exact ⟨by omega, by omega⟩)
  have HBS := Lib.hid (show base ≤ ((W.alloc (.cells #[.string p, .int .i64 fk, .int .i64 fv, .int .i64 tk, .int .i64 tv] 34)).drew).heap.size by show base ≤ (W.alloc _).heap.size; rw [World.size_alloc]; omega)
  have HBX := Lib.hid (show Boxed ((W.alloc (.cells #[.string p, .int .i64 fk, .int .i64 fv, .int .i64 tk, .int .i64 tv] 34)).drew) B 81 v from h.box.alloc _)
  have HNE := Lib.hid h.far
  have hbxA : (W.alloc (.cells #[.string p, .int .i64 fk, .int .i64 fv, .int .i64 tk, .int .i64 tv] 34)).cell? ⟨B, 0, none⟩ = some v := (h.box.alloc _).cell
  clear hl hBl h hle
  have ta := fun W => ta_cmd p fk fv tk tv W
  go_enter Tryz.func136, Tryz.ntmps136
  go_region_law (rw [if_pos (by rfl)]; refine wp_append_own _ _ _ 81 rfl base 34 i0 (.agg #[.string ⟨#[]⟩, .int .i64 0, .int .i64 0, .int .i64 0, .int .i64 0]) 5 48 Tryz.underlying81 hi hz0 hz1 hz2 rfl (by decide) _ _ _ rfl HROW.out ⟨W.heap.size, 0, none⟩ 1 1 [.string p, .int .i64 fk, .int .i64 fv, .int .i64 tk, .int .i64 tv] rfl rfl HCEL.out (by simp [Value.oneCell']) HMX.out.1 HMX.out.2 HBS.out ?_; intro v4 w4 ho4 hg4 hn4; obtain ⟨g4, c4, rfl⟩ := ownsRow_succ ho4; have hbx4 := (HBX.out.kept hg4 HNE.out).cell; have hbf4 := (HBX.out.kept hg4 HNE.out).frozen)
  all_goals
    exact pushM_end (c := ⟨p, fk, fv, tk, tv⟩) _ rfl _ HH.out hg4 ho4

/-- What is left when the last command has been taken. -/
def PopM (B base g n cap : Nat) (zs : List Cmd) (W : World) (e : Ending) (w' : World) : Prop :=
  e = .returned (.iface 34 (cmdV (atK zs n))) ∧ HpAt w' B base (.slice (some ⟨g, 0, none⟩) n cap) (zs.take n) ∧ W.grownBy w' (some B)

theorem HpAt.top {W : World} {B base n : Nat} {v : Value} {zs : List Cmd} (h : HpAt W B base v zs) (hn : zs.length = n + 1) : ∃ g cap, v = .slice (some ⟨g, 0, none⟩) (n + 1) cap ∧ n + 1 ≤ cap ∧ cap ≤ maxLen ∧ base ≤ g ∧ g < W.heap.size := by
  have hr := h.row
  rw [hn] at hr
  rcases hr.2 with ⟨_, h0⟩ | ⟨g, cap, cur, rfl, h1, h2, h3, h4, _⟩
  · omega
  · exact ⟨g, cap, rfl, h3, h4, h1, (Array.getElem?_eq_some_iff.1 h2).1⟩

theorem popM_end {B base g n cap : Nat} {zs : List Cmd} {W : World} {o : Obj} (hn : zs.length = n + 1) (h : HpAt W B base (.slice (some ⟨g, 0, none⟩) (n + 1) cap) zs) :
    HpAt ((W.setCell ⟨B, 0, none⟩ (.slice (some ⟨g, 0, none⟩) n cap)).alloc o) B base (.slice (some ⟨g, 0, none⟩) n cap) (zs.take n) ∧ W.grownBy ((W.setCell ⟨B, 0, none⟩ (.slice (some ⟨g, 0, none⟩) n cap)).alloc o) (some B) := by
  have hr := h.row
  rw [hn] at hr
  refine ⟨⟨(h.box.set _).alloc _, ?_, h.lt⟩, grown_then (grownBy_setCell_at W B 0 _) (World.grownBy_alloc _ _ none) (by simp)⟩
  have h1 := own_take5 hr hn.symm n (by omega)
  exact own_below (ownsRow_setCell_below h1 (a := ⟨B, 0, none⟩) (show B < base from h.lt) _) (below_box _ o)

set_option maxHeartbeats 1000000 in
set_option maxRecDepth 100000 in
theorem heapPopM_c (B base g n cap : Nat) (zs : List Cmd) (hn : zs.length = n + 1) (hl : n ≤ 2000000) (hc : n + 1 ≤ cap) (hcm : cap ≤ maxLen) (W : World) (h : HpAt W B base (.slice (some ⟨g, 0, none⟩) (n + 1) cap) zs) :
    Calls Tryz.prog 135 #[.pointer (some ⟨B, 0, none⟩)] W (PopM B base g n cap zs W) := by
  have HH := Lib.hid h
  have HN := Lib.hid hn
  have hr := h.row
  rw [hn] at hr
  obtain ⟨c0, c1, c2, c3, c4⟩ := hp_cells hr (i := n) (by omega) hn.symm
  obtain ⟨x, hx⟩ : ∃ x, atK zs n = x := ⟨_, rfl⟩
  have HX := Lib.hid hx
  rw [hx] at c0 c1 c2 c3 c4
  have b0 := h.box.cell
  have f0 := h.box.frozen
  have hBl := h.box.lt
  have hgl := World.block_lt_of_cell? W _ c0
  have hgB : g ≠ B := fun e => h.far (by rw [e]; rfl)
  have k1 : (n : Int) + 1 ≤ cap := by omega
  have hcm' : cap ≤ 9223372036854775807 := Nat.le_trans hcm (by unfold maxLen; omega)
  obtain ⟨p, fk, fv, tk, tv⟩ := x
  simp only at c0 c1 c2 c3 c4
  clear h hn hr hx hc hcm
  go_enter Tryz.func135, Tryz.ntmps135
  go_wp2
  go_ret
  exact ⟨by rw [HX.out]; rfl, popM_end HN.out HH.out⟩

end Go.Proofs.YtnboodcllmdjeaaGreat
