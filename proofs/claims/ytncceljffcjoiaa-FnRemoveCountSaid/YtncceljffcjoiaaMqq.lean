/-
  WALKS: impl.nodeQueue, nodesFrom, makingOf.
-/
import Derived.Laws.Cover1
import Derived.StillTailTactics
import Derived.Deep.RegionHeld3
import Derived.Deep.Cut
import Derived.Deep.RegionLaw
import Derived.WalkSmall
import Derived.Test.YtncceljffcjoiaaMe
import Derived.Test.YtncceljffcjoiaaQ2
import Derived.Test.YtncceljffcjoiaaAp
import Derived.Test.YtncceljffcjoiaaQ3
namespace Go.Proofs.Ytncceljffcjoiaa
open Go.RowKit
set_option linter.unusedVariables false

theorem NodesAt.kept {W W' : World} {row : Option Nat} {a : Option Addr} {len : Nat} {ns : List Nd} (h : NodesAt W a len ns) (hg : W.grownBy W' row) (hr : ∀ x, a = some x → len ≠ 0 → row ≠ some x.block) : NodesAt W' a len ns := by
  obtain ⟨h1, h0 | ⟨b, off, rfl, hc⟩⟩ := h
  · exact ⟨h1, .inl h0⟩
  · by_cases hl : len = 0
    · exact ⟨h1, .inl hl⟩
    · have hne : some b ≠ row := fun e => hr _ rfl hl e.symm
      exact ⟨h1, .inr ⟨b, off, rfl, fun i n hn => ⟨hg.cell (hc i n hn).1 hne, hg.cell (hc i n hn).2.1 hne, hg.cell (hc i n hn).2.2 hne⟩⟩⟩

theorem NodesAt.low {W : World} {a : Option Addr} {len : Nat} {ns : List Nd} (h : NodesAt W a len ns) (hl : len ≠ 0) : ∀ x, a = some x → x.block < W.heap.size := by
  intro x hx
  obtain ⟨b, off, n, rfl, _, hc, _⟩ := h.node (i := 0) (by omega)
  cases hx
  exact World.block_lt_of_cell? W _ hc

/-- A queue of nodes: its box, and the nodes that are left, which lie elsewhere. -/
structure QAt (W : World) (B : Nat) (a : Option Addr) (len cap : Nat) (ns : List Nd) : Prop where
  box : Boxed W B 82 (.slice a len cap)
  nodes : NodesAt W a len ns
  far : ∀ x, a = some x → len ≠ 0 → x.block ≠ B
  le : len ≤ cap
  max : cap ≤ maxLen

theorem QAt.kept {W W' : World} {row : Option Nat} {B : Nat} {a : Option Addr} {len cap : Nat} {ns : List Nd} (h : QAt W B a len cap ns) (hg : W.grownBy W' row) (hB : row ≠ some B) (hr : ∀ x, a = some x → len ≠ 0 → row ≠ some x.block) : QAt W' B a len cap ns :=
  ⟨h.box.kept hg (fun e => hB e.symm), h.nodes.kept hg hr, h.far, h.le, h.max⟩

theorem QAt.keep {W W' : World} {B : Nat} {a : Option Addr} {len cap : Nat} {ns : List Nd} (h : QAt W B a len cap ns) (hb : Below W.heap.size W W') : QAt W' B a len cap ns :=
  h.kept (below_grown hb) (by simp) (by simp)

theorem grown_then {W W1 W2 : World} {row row2 : Option Nat} (h : W.grownBy W1 row) (k : W1.grownBy W2 row2) (hr : ∀ j, row2 = some j → W.heap.size ≤ j ∨ row = some j) : W.grownBy W2 row :=
  ⟨k.os.trans h.os, k.tape.trans h.tape, k.output.trans h.output, Nat.le_trans h.size k.size, fun i hi hne => (k.block i (Nat.lt_of_lt_of_le hi h.size) (fun e => (hr i e.symm).elim (fun h1 => absurd hi (Nat.not_lt.2 h1)) (fun h1 => hne h1.symm))).trans (h.block i hi hne)⟩

/-- What is left when the first node is taken. -/
theorem NodesAt.rest {W : World} {a : Option Addr} {len cap : Nat} {x : Nd} {r : List Nd} (h : NodesAt W a len (x :: r)) (hlc : len ≤ cap) :
    (cap = 1 → NodesAt W a (len - 1) r) ∧ NodesAt W (a.map fun y => y.add 3) (len - 1) r := by
  obtain ⟨h1, h2⟩ := h
  have hl : r.length = len - 1 := by rw [← h1]; simp
  refine ⟨fun e => ⟨hl, .inl (by omega)⟩, hl, ?_⟩
  rcases h2 with h0 | ⟨b, off, rfl, hc⟩
  · left; omega
  · right
    refine ⟨b, off + 3, by rw [Option.map_some, addr_addN], fun i n hn => ?_⟩
    have := hc (i + 1) n (by simpa using hn)
    rw [show off + 3 + i * 3 = off + (i + 1) * 3 by omega]
    exact this

theorem npair_results (fn : Func) (hf : fn.results = #[.cell 2 62, .tmp 3]) (W : World) (n : Nat) (p : ByteArray) (k v : Int) (b : Bool) (tmps : Array Value) (ht : tmps[2]? = some (.pointer (some ⟨n, 0, none⟩))) (hb : tmps[3]? = some (.bool b))
    (h : W.cell? ⟨n, 0, none⟩ = some (.string p) ∧ W.cell? ⟨n, 1, none⟩ = some (.int .i64 k) ∧ W.cell? ⟨n, 2, none⟩ = some (.int .i64 v)) : (results fn tmps).run Try.prog W = .ok (.tuple #[.agg #[.string p, .int .i64 k, .int .i64 v], .bool b]) W := by
  obtain ⟨c0, c1, c2⟩ := h
  simp [results, hf, go_sem, ht, hb, c0, c1, c2]

/-- What take leaves. -/
def TakeQ (B : Nat) (a : Option Addr) (len cap : Nat) (ns : List Nd) (W : World) (e : Ending) (w' : World) : Prop :=
  (ns = [] ∧ e = .returned (.tuple #[.agg #[.string ⟨#[]⟩, .int .i64 0, .int .i64 0], .bool false]) ∧ Below W.heap.size W w') ∨
    (∃ x r a', ns = x :: r ∧ e = .returned (.tuple #[.agg #[.string x.p, .int .i64 x.k, .int .i64 x.v], .bool true]) ∧ QAt w' B a' (len - 1) (cap - 1) r ∧ (∀ y', a' = some y' → ∃ y, a = some y ∧ y'.block = y.block) ∧ W.grownBy w' (some B))

theorem three_cells (W : World) (x y z : Value) (t : TypeId) : (W.alloc (.cells #[x, y, z] t)).cell? ⟨W.heap.size, 0, none⟩ = some x ∧ (W.alloc (.cells #[x, y, z] t)).cell? ⟨W.heap.size, 1, none⟩ = some y ∧ (W.alloc (.cells #[x, y, z] t)).cell? ⟨W.heap.size, 2, none⟩ = some z ∧
    (W.alloc (.cells #[x, y, z] t)).frozen? ⟨W.heap.size, 0, none⟩ = false ∧ (W.alloc (.cells #[x, y, z] t)).frozen? ⟨W.heap.size, 1, none⟩ = false ∧ (W.alloc (.cells #[x, y, z] t)).frozen? ⟨W.heap.size, 2, none⟩ = false := by
  refine ⟨by rw [World.cell?_alloc_new]; rfl, by rw [World.cell?_alloc_new]; rfl, by rw [World.cell?_alloc_new]; rfl, ?_, ?_, ?_⟩
  all_goals (simp only [World.frozen?, World.alloc_heap_new]; rfl)

theorem takeQ_end {W : World} {B b off off2 len cap c2 : Nat} {x : Nd} {r : List Nd} {t : TypeId} (hQ : QAt W B (some ⟨b, off, none⟩) len cap (x :: r)) (hN : NodesAt W (some ⟨b, off2, none⟩) (len - 1) r) (hc : c2 = cap - 1) (fn : Func) (hf : fn.results = #[.cell 2 62, .tmp 3]) (tmps : Array Value)
    (ht : tmps[2]? = some (.pointer (some ⟨W.heap.size, 0, none⟩))) (hb : tmps[3]? = some (.bool true)) (o2 : Obj) :
    bodyPost Try.prog fn (TakeQ B (some ⟨b, off, none⟩) len cap (x :: r) W) .ret ⟨tmps, []⟩ (((W.setCell ⟨B, 0, none⟩ (.slice (some ⟨b, off2, none⟩) (len - 1) c2)).alloc (.cells #[.string x.p, .int .i64 x.k, .int .i64 x.v] t)).alloc o2) := by
  subst hc
  have hl : len ≠ 0 := by have := hQ.nodes.1; rw [← this]; simp
  have hs : (W.setCell ⟨B, 0, none⟩ (.slice (some ⟨b, off2, none⟩) (len - 1) (cap - 1))).heap.size = W.heap.size := by simp [World.setCell]
  have h3 := three_cells (W.setCell ⟨B, 0, none⟩ (.slice (some ⟨b, off2, none⟩) (len - 1) (cap - 1))) (.string x.p) (.int .i64 x.k) (.int .i64 x.v) t
  rw [hs] at h3
  have hg : W.grownBy (((W.setCell ⟨B, 0, none⟩ (.slice (some ⟨b, off2, none⟩) (len - 1) (cap - 1))).alloc (.cells #[.string x.p, .int .i64 x.k, .int .i64 x.v] t)).alloc o2) (some B) :=
    grown_then (grown_then (grownBy_setCell_at W B 0 _) (World.grownBy_alloc _ _ none) (by simp)) (World.grownBy_alloc _ _ none) (by simp)
  refine bodyPost_ret (npair_results fn hf _ W.heap.size x.p x.k x.v true tmps ht hb ⟨cell_kept (below_box _ _) h3.1, cell_kept (below_box _ _) h3.2.1, cell_kept (below_box _ _) h3.2.2.1⟩) rfl
    (.inr ⟨x, r, some ⟨b, off2, none⟩, rfl, rfl, ⟨((hQ.box.set _).alloc _).alloc _, hN.kept hg (fun y hy _ e => ?_), fun y hy _ => ?_, by have := hQ.le; omega, by have := hQ.max; omega⟩, fun y hy => ⟨_, rfl, by cases hy; rfl⟩, hg⟩)
  · cases hy
    exact hQ.far _ rfl hl (Option.some.inj e).symm
  · cases hy
    exact hQ.far ⟨b, off, none⟩ rfl hl

set_option maxHeartbeats 1000000 in
set_option maxRecDepth 100000 in
theorem takeQ_c (B : Nat) (a : Option Addr) (len cap : Nat) (ns : List Nd) (hl : len ≤ 2097152) (W : World) (hQ : QAt W B a len cap ns) :
    Calls Try.prog 46 #[.pointer (some ⟨B, 0, none⟩)] W (TakeQ B a len cap ns W) := by
  have HQ := Lib.hid hQ
  have hlen := hQ.nodes.1
  have b0 := hQ.box.cell
  cases ns with
  | nil =>
    obtain rfl : len = 0 := by rw [← hlen]; rfl
    have hBl := hQ.box.lt
    clear hQ hlen
    have e0 : ((0 : Int) == 0) = true := rfl
    go_enter Try.func46, Try.ntmps46
    go_wp2
    have h3 := three_cells W (.string ⟨#[]⟩) (.int .i64 0) (.int .i64 0) 62
    exact bodyPost_ret (npair_results _ rfl _ W.heap.size _ _ _ _ _ rfl rfl ⟨h3.1, h3.2.1, h3.2.2.1⟩) rfl (.inl ⟨rfl, rfl, below_box _ _⟩)
  | cons x r =>
    obtain ⟨b, off, n, rfl, hn, c0, c1, c2⟩ := hQ.nodes.node (i := 0) (by rw [← hlen]; simp)
    obtain rfl : n = x := by simpa using hn.symm
    simp only [Nat.zero_mul, Nat.add_zero] at c0 c1 c2
    have hlt : 0 < len := by rw [← hlen]; simp
    have e0 : ((len : Int) == 0) = false := beq_eq_false_iff_ne.2 (by omega)
    have hbB : b ≠ B := hQ.far _ rfl (by omega)
    have f0 := hQ.box.frozen
    have hbl := World.block_lt_of_cell? W _ c0
    have hBl := hQ.box.lt
    have hcap : len ≤ cap := hQ.le
    have hcm : cap ≤ 9223372036854775807 := Nat.le_trans hQ.max (by unfold maxLen; omega)
    have k1 : (1 : Int) ≤ len := by omega
    have k2 : (len : Int) ≤ cap := by omega
    clear hQ hn hlen
    go_enter Try.func46, Try.ntmps46
    go_wp2
    · subst h
      exact takeQ_end HQ.out ((HQ.out.nodes.rest HQ.out.le).1 rfl) rfl _ rfl _ rfl rfl _
    · have hN := (HQ.out.nodes.rest HQ.out.le).2
      rw [Option.map_some, addr_addN] at hN
      exact takeQ_end HQ.out hN rfl _ rfl _ rfl rfl _

/-- What put leaves. -/
def PutQ (B base : Nat) (acc : List Nd) (x : Nd) (W : World) (e : Ending) (w' : World) : Prop :=
  e = .returned (.tuple #[]) ∧ ∃ sl, Boxed w' B 82 sl ∧ w'.ownsRow base 62 3 sl (acc ++ [x]).length (flatN (acc ++ [x])) ∧ Below B W w'

theorem putQ_end {B base : Nat} {sl : Value} {acc : List Nd} {x : Nd} {W W1 w4 : World} {g4 c4 : Nat} {o : Obj} (fn : Func) (hf : fn.results = #[]) (tmps : Array Value) (hB : B < base ∧ base ≤ W.heap.size) (hb1 : Below W.heap.size W W1) (hbx : Boxed W1 B 82 sl) (ho : W1.ownsRow base 62 3 sl acc.length (flatN acc))
    (hg4 : (W1.alloc o).drew.grownBy w4 sl.ownBlock) (ho4 : w4.ownsRow base 62 3 (.slice (some ⟨g4, 0, none⟩) (acc.length + 1) c4) (acc.length + 1) (flatN acc ++ [.string x.p, .int .i64 x.k, .int .i64 x.v])) :
    bodyPost Try.prog fn (PutQ B base acc x W) .normal ⟨tmps, []⟩ (w4.setCell ⟨B, 0, none⟩ (.slice (some ⟨g4, 0, none⟩) (acc.length + 1) c4)) := by
  have hne : some B ≠ sl.ownBlock := fun e => by have := (ho.lt B e.symm).1; omega
  have hbx4 : Boxed w4 B 82 sl := (show Boxed (W1.alloc o).drew B 82 sl from hbx.alloc o).kept hg4 hne
  refine bodyPost_end (v := .tuple #[]) (by simp [results, hf, go_sem]) rfl ⟨rfl, _, hbx4.set _, ?_, ?_⟩
  · have := own_push x (ownsRow_setCell_below ho4 (a := ⟨B, 0, none⟩) (show B < base from hB.1) (.slice (some ⟨g4, 0, none⟩) (acc.length + 1) c4))
    rw [List.length_append]
    rw [List.length_append] at this
    exact this
  · have h1 : Below B W (W1.alloc o).drew := ((hb1.mono (by omega)).alloc (by have := hb1.size; omega) o).drew
    exact below_setCell (h1.grown hg4 (by have := h1.size; omega) (fun k e => by have := (ho.lt k e).1; omega)) _ _ (Nat.le_refl _)

set_option maxHeartbeats 1000000 in
set_option maxRecDepth 100000 in
theorem putQ_c (B base : Nat) (sl : Value) (acc : List Nd) (p : ByteArray) (k v : Int) (hl : acc.length ≤ 2000000) (hB : B < base) (W : World) (hle : base ≤ W.heap.size) (hbx : Boxed W B 82 sl) (ho : W.ownsRow base 62 3 sl acc.length (flatN acc)) :
    Calls Try.prog 66 #[.pointer (some ⟨B, 0, none⟩), .agg #[.string p, .int .i64 k, .int .i64 v]] W (PutQ B base acc ⟨p, k, v⟩ W) := by
  obtain ⟨i0, hi, hz0, hz1, hz2⟩ := info_parts infoNode
  have H1 := Lib.hid hbx
  have HO := Lib.hid ho
  have HB := Lib.hid (And.intro hB hle)
  have b0 := hbx.cell
  have f0 := hbx.frozen
  have hBl := hbx.lt
  clear hbx ho hB hle
  go_enter Try.func66, Try.ntmps66
  go_upto_region 1 with (fail)
  have h3 := three_cells W (.string p) (.int .i64 k) (.int .i64 v) 62
  obtain ⟨g0, g1, g2, -, -, -⟩ := h3
  have b1 := cell_kept (below_box W (.cells #[.string p, .int .i64 k, .int .i64 v] 62)) b0
  have B1 := Lib.hid (below_box W (.cells #[.string p, .int .i64 k, .int .i64 v] 62))
  have HO1 := Lib.hid (own_below HO.out B1.out)
  have HX1 := Lib.hid ((H1.out.alloc (.cells #[.string p, .int .i64 k, .int .i64 v] 62)))
  have f1 := HX1.out.frozen
  have hw1 : W.heap.size < (W.alloc (.cells #[.string p, .int .i64 k, .int .i64 v] 62)).heap.size := by simp
  generalize W.alloc (.cells #[.string p, .int .i64 k, .int .i64 v] 62) = W1 at g0 g1 g2 b1 f1 B1 HO1 HX1 hw1 ⊢
  have HW1 := Lib.hid hw1
  clear b0 f0
  have HROW := Lib.hid (show ((W1.alloc (.cells #[.string p, .int .i64 k, .int .i64 v] 62)).drew).ownsRow base 62 3 sl acc.length (flatN acc) from HO1.out.alloc _)
  have HCEL := Lib.hid (show ∀ j u, [Value.string p, .int .i64 k, .int .i64 v][j]? = some u → ((W1.alloc (.cells #[.string p, .int .i64 k, .int .i64 v] 62)).drew).cell? ((⟨W1.heap.size, 0, none⟩ : Addr).add j) = some u from cell_three_new W1 _ _ _ _)
  have HMX := Lib.hid (show acc.length + 1 ≤ maxLen ∧ (acc.length + 1) * 32 ≤ 140737488355328 by unfold maxLen; exact ⟨by omega, by omega⟩)
  have HBS := Lib.hid (show base ≤ ((W1.alloc (.cells #[.string p, .int .i64 k, .int .i64 v] 62)).drew).heap.size by have h1 := HB.out.2; have h2 := HW1.out; show base ≤ (W1.alloc _).heap.size; rw [World.size_alloc]; omega)
  have HBX := Lib.hid (show Boxed ((W1.alloc (.cells #[.string p, .int .i64 k, .int .i64 v] 62)).drew) B 82 sl from HX1.out.alloc _)
  have HNE := Lib.hid (show some B ≠ sl.ownBlock from fun e => by have h1 := (HO1.out.lt B e.symm).1; have h2 := HB.out.1; omega)
  have hbxA : (W1.alloc (.cells #[.string p, .int .i64 k, .int .i64 v] 62)).cell? ⟨B, 0, none⟩ = some sl := (HX1.out.alloc _).cell
  clear hl hBl hw1
  go_region_law (rw [if_pos (by rfl)]; refine wp_append_own _ _ _ 82 rfl base 62 i0 (.agg #[.string ⟨#[]⟩, .int .i64 0, .int .i64 0]) 3 32 Try.underlying82 hi hz0 hz1 hz2 rfl (by decide) _ _ _ rfl HROW.out ⟨W1.heap.size, 0, none⟩ 1 1 [.string p, .int .i64 k, .int .i64 v] rfl rfl HCEL.out (by simp [Value.oneCell']) HMX.out.1 HMX.out.2 HBS.out ?_; intro v4 w4 ho4 hg4 hn4; obtain ⟨g4, c4, rfl⟩ := ownsRow_succ ho4; have hbx4 := (HBX.out.kept hg4 HNE.out).cell; have hbf4 := (HBX.out.kept hg4 HNE.out).frozen)
  all_goals
    exact putQ_end (x := ⟨p, k, v⟩) _ rfl _ HB.out B1.out HX1.out HO1.out hg4 ho4

/-- impl.nodesFrom. -/
def fromL (ns : List Nd) (p : ByteArray) : List Nd := if validT ns = true ∧ p ≠ rootB then ns.filter (fun n => subB p n.p) else []

theorem fromL_yes {ns : List Nd} {p : ByteArray} (h : validT ns = true) (hr : p ≠ rootB) : fromL ns p = ns.filter (fun n => subB p n.p) := if_pos ⟨h, hr⟩
theorem fromL_no {ns : List Nd} {p : ByteArray} (h : validT ns = false ∨ p = rootB) : fromL ns p = [] := by
  unfold fromL
  rw [if_neg]
  rintro ⟨h1, h2⟩
  rcases h with h | h
  · rw [h] at h1; cases h1
  · exact h2 h
theorem fromL_len (ns : List Nd) (p : ByteArray) : (fromL ns p).length ≤ 10 := by
  unfold fromL
  split
  · rename_i h; exact filter_len10 h.1 _
  · exact Nat.zero_le _

def fromAcc (ns : List Nd) (p : ByteArray) (n : Nat) : List Nd := (ns.take n).filter (fun x => subB p x.p)

theorem fromAcc_yes {ns : List Nd} {p : ByteArray} {n : Nat} {x : Nd} (hn : ns[n]? = some x) (h : subB p x.p = true) : fromAcc ns p (n + 1) = fromAcc ns p n ++ [x] := by
  unfold fromAcc
  rw [List.take_add_one, hn]
  simp [h]
theorem fromAcc_no {ns : List Nd} {p : ByteArray} {n : Nat} {x : Nd} (hn : ns[n]? = some x) (h : subB p x.p = false) : fromAcc ns p (n + 1) = fromAcc ns p n := by
  unfold fromAcc
  rw [List.take_add_one, hn]
  simp [h]
theorem fromAcc_len {ns : List Nd} (hv : validT ns = true) (p : ByteArray) (n : Nat) : (fromAcc ns p n).length ≤ 10 := by
  unfold fromAcc
  exact Nat.le_trans (List.length_filter_le _ _) (Nat.le_trans (by rw [List.length_take]; omega) ((validT_iff ns).1 hv).2.2)

/-- A list of nodes that the call has made. -/
def FromPost (l : List Nd) (W : World) (e : Ending) (w' : World) : Prop := OwnsNodes W.heap.size l e w' ∧ Below W.heap.size W w'

def FromRel (ns : List Nd) (p : ByteArray) (W : World) (B : Nat) (i : Value) (wr : World) : Prop :=
  ∃ (n : Nat) (sl : Value), i = .int .i64 n ∧ n ≤ ns.length ∧ Hid (Boxed wr B 82 sl) ∧ Hid (wr.ownsRow (B + 1) 62 3 sl (fromAcc ns p n).length (flatN (fromAcc ns p n))) ∧ Hid (Below W.heap.size W wr)

set_option maxHeartbeats 2000000 in
set_option maxRecDepth 100000 in
theorem nodesFrom_c (a : Option Addr) (len cap : Nat) (ns : List Nd) (p : ByteArray) (hl : len ≤ 2097152) (hs : Short 2097152 ns) (hp : p.size ≤ 2097152) (W : World) (hN : NodesAt W a len ns) :
    Calls Try.prog 45 #[.slice a len cap, .string p] W (FromPost (fromL ns p) W) := by
  obtain ⟨vt, hvt⟩ : ∃ vt, validT ns = vt := ⟨_, rfl⟩
  have HV := Lib.hid (show Calls Try.prog 65 #[.slice a len cap] W (BoolPost vt W) by rw [← hvt]; exact implTreeValid_c a len cap ns hl hs W hN)
  have HVT := Lib.hid hvt
  have HN := Lib.hid hN
  have HE := Lib.hid hN.1
  have HS := Lib.hid (And.intro hs hp)
  clear hN hs hp hvt
  go_enter Try.func45, Try.ntmps45
  go_wp2_with fail
  refine HV.out.mono ?_
  rintro e W1 ⟨rfl, hb1⟩
  have B1 := Lib.hid hb1
  clear hb1
  cases vt with
  | false =>
    have HR := Lib.hid (fromL_no (p := p) (.inl HVT.out))
    go_wp2
    go_ret
    exact ⟨⟨_, rfl, by rw [HR.out]; exact World.ownsRow_nil _ _ _ _⟩, B1.out⟩
  | true =>
    by_cases hr : p = rootB
    · have HR := Lib.hid (fromL_no (ns := ns) (.inr hr))
      have heq : (p.toList == [47]) = true := by rw [hr, Lib.toList_data]; rfl
      clear hr
      go_wp2
      go_ret
      exact ⟨⟨_, rfl, by rw [HR.out]; exact World.ownsRow_nil _ _ _ _⟩, B1.out⟩
    · have HR := Lib.hid (fromL_yes HVT.out hr)
      have HRT := Lib.hid hr
      have heq : (p.toList == [47]) = false := by
        rw [beq_eq_false_iff_ne, Lib.toList_data]
        exact fun e => hr (by rw [← Lib.mk_data p, e]; rfl)
      have hl' : (len : Int) ≤ 2097152 := by omega
      clear hr
      go_wp2
      clear heq
      have HB0 := Lib.hid (below_next B1.out (below_box W1 (.cells #[.slice none 0 0] 82)))
      have HX0 := Lib.hid (Boxed.new W1 82 (.slice none 0 0))
      have hw0 : (W1.alloc (.cells #[.slice none 0 0] 82)).heap.size = W1.heap.size + 1 := by simp
      have HW0 := Lib.hid hw0
      have HW1 := Lib.hid B1.out.size
      go_loopw [17] (fun i wr => FromRel ns p W W1.heap.size i wr) (fun i _ => len - (intOf i).toNat)
      case atStart => exact ⟨0, _, rfl, Nat.zero_le _, HX0, World.ownsRow_nil _ _ _ _, HB0⟩
      case round =>
        obtain ⟨n, sl, rfl, hn, HX, HO, HB⟩ := hrel
        by_cases hlt : n < len
        · have hlt' : (n : Int) < len := by omega
          obtain ⟨b, off, x, rfl, hx, d0, d1, d2⟩ := HN.out.node hlt
          have c0 := cell_kept HB.out d0
          have c1 := cell_kept HB.out d1
          have c2 := cell_kept HB.out d2
          have HLT := Lib.hid (And.intro hlt hn)
          have HXX := Lib.hid hx
          obtain ⟨u, hu⟩ : ∃ u, undB p x.p = u := ⟨_, rfl⟩
          have HU := Lib.hid (fun w => show Calls Try.prog 9 #[.string p, .string x.p] w (fun e w' => e = .returned (.bool u) ∧ Below w.heap.size w w') by rw [← hu]; exact pathUnder_c p x.p HS.out.2 (HS.out.1 x (List.mem_of_getElem? hx)) w)
          have HUU := Lib.hid hu
          have hwl := World.block_lt_of_cell? wr _ c0
          clear hx hu hlt hn d0 d1 d2
          by_cases hxp : x.p = p
          · have hpp : (x.p.toList == p.toList) = true := by rw [hxp]; simp
            have HF := Lib.hid (fromAcc_yes HXX.out (sub_eq hxp))
            obtain ⟨q, k, v⟩ := x
            simp only at c0 c1 c2 hpp
            clear hxp
            have b3 := below_box wr (.cells #[.string q, .int .i64 k, .int .i64 v] 62)
            have HPU := Lib.hid (putQ_c W1.heap.size (W1.heap.size + 1) sl (fromAcc ns p n) q k v (by have := fromAcc_len HVT.out p n; omega) (by omega) (wr.alloc (.cells #[.string q, .int .i64 k, .int .i64 v] 62)) (by have := HX.out.lt; simp; omega) (HX.out.alloc _) (own_below HO.out b3))
            have HB3 := Lib.hid (below_next HB.out b3)
            clear b3
            go_wp2_with fail
            refine HPU.out.mono ?_
            rintro e W4 ⟨rfl, sl4, hx4, ho4, hb4⟩
            have HX4 := Lib.hid hx4
            have HO4 := Lib.hid ho4
            have HB4 := Lib.hid (HB3.out.trans (hb4.mono HW1.out))
            rw [← HF.out] at HO4
            clear hx4 ho4 hb4 c0 c1 c2
            go_wp2
            go_roundw
            case rel => exact ⟨n + 1, sl4, by go_num, by have := HLT.out; have := HE.out; omega, HX4, HO4, HB4⟩
            case measure => have := HLT.out; simp [intOf]; omega
          · have hpp : (x.p.toList == p.toList) = false := toList_ne hxp
            have hsn := sub_off hxp
            rw [HUU.out] at hsn
            have HSN := Lib.hid hsn
            obtain ⟨q, k, v⟩ := x
            simp only at c0 c1 c2 hpp HU
            have b3 := below_box wr (.cells #[.string q, .int .i64 k, .int .i64 v] 62)
            have HB3 := Lib.hid (below_next HB.out b3)
            have HX3 := Lib.hid (HX.out.alloc (.cells #[.string q, .int .i64 k, .int .i64 v] 62))
            have HO3 := Lib.hid (own_below HO.out b3)
            have h3 := three_cells wr (.string q) (.int .i64 k) (.int .i64 v) 62
            obtain ⟨g0, g1, g2, -, -, -⟩ := h3
            have hw3 : (wr.alloc (.cells #[.string q, .int .i64 k, .int .i64 v] 62)).heap.size = wr.heap.size + 1 := by simp
            have HW3 := Lib.hid hw3
            clear hxp b3 hsn hw3
            go_wp2_with fail
            refine (HU.out _).mono ?_
            rintro e W4 ⟨rfl, hb4⟩
            have s0 := cell_kept hb4 g0
            have s1 := cell_kept hb4 g1
            have s2 := cell_kept hb4 g2
            have HX4 := Lib.hid (box_keep HX3.out hb4)
            have HO4 := Lib.hid (own_below HO3.out hb4)
            have HB4 := Lib.hid (below_next HB3.out hb4)
            have HW4 := Lib.hid hb4.size
            clear g0 g1 g2 hb4 c0 c1 c2
            cases u with
            | false =>
              have HF := Lib.hid (fromAcc_no HXX.out HSN.out)
              rw [← HF.out] at HO4
              clear s0 s1 s2
              go_wp2
              go_roundw
              case rel => exact ⟨n + 1, sl, by go_num, by have := HLT.out; have := HE.out; omega, HX4, HO4, HB4⟩
              case measure => have := HLT.out; simp [intOf]; omega
            | true =>
              have HF := Lib.hid (fromAcc_yes HXX.out HSN.out)
              have HPU := Lib.hid (putQ_c W1.heap.size (W1.heap.size + 1) sl (fromAcc ns p n) q k v (by have := fromAcc_len HVT.out p n; omega) (by omega) W4 (by have := HX4.out.lt; omega) HX4.out HO4.out)
              go_wp2_with fail
              refine HPU.out.mono ?_
              rintro e W5 ⟨rfl, sl5, hx5, ho5, hb5⟩
              have HX5 := Lib.hid hx5
              have HO5 := Lib.hid ho5
              have HB5 := Lib.hid (HB4.out.trans (hb5.mono HW1.out))
              rw [← HF.out] at HO5
              clear hx5 ho5 hb5 s0 s1 s2
              go_wp2
              go_roundw
              case rel => exact ⟨n + 1, sl5, by go_num, by have := HLT.out; have := HE.out; omega, HX5, HO5, HB5⟩
              case measure => have := HLT.out; simp [intOf]; omega
        · have hge : (len : Int) ≤ n := by omega
          have hie : n = ns.length := by have := HE.out; omega
          have HF := Lib.hid (show fromAcc ns p n = fromL ns p by rw [HR.out]; unfold fromAcc; rw [hie, List.take_length])
          have b0 := HX.out.cell
          clear hn hlt
          go_wp2
          go_ret
          exact ⟨⟨_, rfl, by rw [← HF.out]; exact own_mono HO.out (Nat.le_trans HW1.out (Nat.le_succ _))⟩, HB.out⟩

/-- A node in a block of its own. -/
def NBox (W : World) (c : Nat) (x : Nd) : Prop := W.heap[c]? = some (.cells #[.string x.p, .int .i64 x.k, .int .i64 x.v] 62 (0, 0))

theorem NBox.cells {W : World} {c : Nat} {x : Nd} (h : NBox W c x) : W.cell? ⟨c, 0, none⟩ = some (.string x.p) ∧ W.cell? ⟨c, 1, none⟩ = some (.int .i64 x.k) ∧ W.cell? ⟨c, 2, none⟩ = some (.int .i64 x.v) ∧ W.frozen? ⟨c, 0, none⟩ = false ∧ W.frozen? ⟨c, 1, none⟩ = false ∧ W.frozen? ⟨c, 2, none⟩ = false := by
  unfold NBox at h
  simp [World.cell?, World.frozen?, h]
theorem NBox.lt {W : World} {c : Nat} {x : Nd} (h : NBox W c x) : c < W.heap.size := (Array.getElem?_eq_some_iff.1 h).1
theorem NBox.kept {W W' : World} {row : Option Nat} {c : Nat} {x : Nd} (h : NBox W c x) (hg : W.grownBy W' row) (hne : some c ≠ row) : NBox W' c x := (hg.block c h.lt hne).trans h
theorem NBox.keep {W W' : World} {c : Nat} {x : Nd} (h : NBox W c x) (hb : Below W.heap.size W W') : NBox W' c x := (hb.block c h.lt).trans h
theorem NBox.new (W : World) (x : Nd) : NBox (W.alloc (.cells #[.string x.p, .int .i64 x.k, .int .i64 x.v] 62)) W.heap.size x := World.alloc_heap_new W _
theorem NBox.far {W : World} {c base n : Nat} {x : Nd} {v : Value} {xs : List Value} (h : NBox W c x) (ho : W.ownsRow base 33 5 v n xs) : some c ≠ v.ownBlock := by
  rcases ho.2 with ⟨rfl, _⟩ | ⟨g, cap, cur, rfl, _, q2, _⟩
  · simp [Value.ownBlock]
  · intro e
    simp [Value.ownBlock] at e
    subst e
    unfold NBox at h
    rw [h] at q2
    cases q2
theorem NBox.put {W : World} {c : Nat} {x : Nd} (y : Nd) (h : NBox W c x) : NBox (((W.setCell ⟨c, 0, none⟩ (.string y.p)).setCell ⟨c, 1, none⟩ (.int .i64 y.k)).setCell ⟨c, 2, none⟩ (.int .i64 y.v)) c y := by
  unfold NBox at h ⊢
  simp [World.setCell, h, Array.getElem?_modify]

/-- What makingOf makes of nodes. -/
def mkL (p b : ByteArray) (l : List Nd) : List Cmd := l.map (fun n => ⟨cpB p b n.p, 0, 0, n.k, n.v⟩)

theorem mkL_snoc (p b : ByteArray) (l : List Nd) (x : Nd) : mkL p b (l ++ [x]) = mkL p b l ++ [⟨cpB p b x.p, 0, 0, x.k, x.v⟩] := by unfold mkL; rw [List.map_append]; rfl
theorem mkL_from (ns : List Nd) (p b : ByteArray) : mkL p b (fromL ns p) = makeL ns p b := by
  unfold fromL makeL
  split
  · rfl
  · rfl

theorem fromL_sub {ns : List Nd} {p : ByteArray} {x : Nd} (h : x ∈ fromL ns p) : p.size ≤ x.p.size ∧ ((x.p.extract 0 p.size).toList == p.toList) = true ∧ x.p.size ≤ 8 := by
  unfold fromL at h
  split at h
  · rename_i hc
    obtain ⟨hm, hs⟩ := List.mem_filter.1 h
    obtain ⟨h1, h2⟩ := sub_prefix hc.2 hs
    exact ⟨h1, h2, vpSize (good_path hc.1 hm).2⟩
  · cases h

/-- How many nodes a queue has. -/
def leftAt (W : World) (B : Nat) : Nat := match W.cell? ⟨B, 0, none⟩ with
  | some (.slice _ n _) => n
  | _ => 0

theorem QAt.left {W : World} {B : Nat} {a : Option Addr} {len cap : Nat} {ns : List Nd} (h : QAt W B a len cap ns) : leftAt W B = len := by
  unfold leftAt
  rw [h.box.cell]

def moreOf : Value → Nat
  | .bool true => 1
  | _ => 0

/-- A node is put into its box, between two rounds. -/
theorem make_put {W W6 : World} {B c len cap : Nat} {l : Value} {cs : List Cmd} {a : Option Addr} {rest : List Nd} {x : Nd} (y : Nd) (hB : Below W.heap.size W W6) (hn : NBox W6 c x) (ho : W6.ownsRow (B + 1) 33 5 l cs.length (flatC cs)) (hq : QAt W6 B a len cap rest) (hlow : ∀ x, a = some x → len ≠ 0 → x.block < B) (hBc : B < c) (hw : W.heap.size ≤ B) :
    ∀ W7, W7 = (((W6.setCell ⟨c, 0, none⟩ (.string y.p)).setCell ⟨c, 1, none⟩ (.int .i64 y.k)).setCell ⟨c, 2, none⟩ (.int .i64 y.v)) → Below W.heap.size W W7 ∧ NBox W7 c y ∧ W7.ownsRow (B + 1) 33 5 l cs.length (flatC cs) ∧ QAt W7 B a len cap rest := by
  rintro W7 rfl
  have hg : W6.grownBy (((W6.setCell ⟨c, 0, none⟩ (.string y.p)).setCell ⟨c, 1, none⟩ (.int .i64 y.k)).setCell ⟨c, 2, none⟩ (.int .i64 y.v)) (some c) :=
    grownBy_trans (grownBy_trans (grownBy_setCell_at _ c 0 _) (grownBy_setCell_at _ c 1 _)) (grownBy_setCell_at _ c 2 _)
  refine ⟨hB.grown hg hB.size (fun k e => by cases e; omega), hn.put y, ho.kept hg (.inr (fun e => hn.far ho e.symm)), hq.kept hg (fun e => by cases e; omega) (fun z hz hl e => by have := hlow z hz hl; have := Option.some.inj e; omega)⟩

/-- Between two rounds of makingOf. -/
def MakeRel (ns : List Nd) (p b : ByteArray) (W : World) (B : Nat) (l q m : Value) (wr : World) : Prop :=
  ∃ (done rest : List Nd) (a : Option Addr) (len cap c : Nat) (mb : Bool), q = .pointer (some ⟨c, 0, none⟩) ∧ m = .bool mb ∧ wr.ownsRow (B + 1) 33 5 l (mkL p b done).length (flatC (mkL p b done)) ∧ Hid (Below W.heap.size W wr) ∧ Hid (QAt wr B a len cap rest) ∧
    Hid (∀ x, a = some x → len ≠ 0 → x.block < B) ∧ Hid (B < c) ∧ Hid (done.length + rest.length ≤ 10) ∧
    ((mb = true ∧ ∃ x, Hid (fromL ns p = done ++ x :: rest) ∧ Hid (NBox wr c x)) ∨ (mb = false ∧ Hid (fromL ns p = done)))

set_option maxHeartbeats 4000000 in
set_option maxRecDepth 100000 in
theorem makingOf_c (a : Option Addr) (len cap : Nat) (ns : List Nd) (p b : ByteArray) (hl : len ≤ 2097152) (hs : Short 2097152 ns) (hp : p.size ≤ 2097152) (hb : b.size ≤ 2097152) (W : World) (hN : NodesAt W a len ns) :
    Calls Try.prog 22 #[.slice a len cap, .string p, .string b] W (CmdsPost (makeL ns p b) W) := by
  obtain ⟨i0, hi, hz0, hz1, hz2⟩ := info_parts infoCmd
  have HF := Lib.hid (nodesFrom_c a len cap ns p hl hs hp W hN)
  have HSZ := Lib.hid hb
  have HFS := Lib.hid (fun x (hx : x ∈ fromL ns p) => fromL_sub hx)
  have HFL := Lib.hid (fromL_len ns p)
  have HML := Lib.hid (mkL_from ns p b)
  clear hN hs hp hb hl
  go_enter Try.func22, Try.ntmps22
  go_wp2_with fail
  refine HF.out.mono ?_
  rintro e W1 ⟨⟨sl, rfl, ho⟩, hb1⟩
  obtain ⟨a1, c1, rfl, hn1⟩ := nodes_of_own ho
  have B1 := Lib.hid hb1
  have HO1 := Lib.hid ho
  obtain ⟨l1, hl1⟩ : ∃ l1, (fromL ns p).length = l1 := ⟨_, rfl⟩
  have hcap : l1 ≤ c1 ∧ c1 ≤ maxLen := by
    rw [← hl1]
    rcases ho.2 with ⟨e, h0⟩ | ⟨g, cap', cur, e, h1, h2, h3, h4, h5, h6⟩
    · simp only [Value.slice.injEq] at e
      obtain ⟨-, e2, e3⟩ := e
      exact ⟨by omega, by unfold maxLen; omega⟩
    · simp only [Value.slice.injEq] at e
      obtain ⟨-, e2, e3⟩ := e
      exact ⟨by omega, by omega⟩
  rw [hl1] at hn1 ⊢
  have HQ1 := Lib.hid (show QAt (W1.alloc (.cells #[.slice a1 l1 c1] 82)) W1.heap.size a1 l1 c1 (fromL ns p) from
    ⟨Boxed.new W1 _ _, hn1.keep (below_box _ _), fun x hx hl => by have := hn1.low hl x hx; omega, hcap.1, hcap.2⟩)
  have HLOW := Lib.hid (fun x (hx : a1 = some x) (hl : l1 ≠ 0) => hn1.low hl x hx)
  have HTK := Lib.hid (takeQ_c W1.heap.size a1 l1 c1 (fromL ns p) (by have := HFL.out; omega) (W1.alloc (.cells #[.slice a1 l1 c1] 82)) HQ1.out)
  have HB1 := Lib.hid (below_next B1.out (below_box W1 (.cells #[.slice a1 l1 c1] 82)))
  have HSL := Lib.hid hl1
  clear ho hb1 hn1 hcap hl1
  go_wp2_with fail
  refine HTK.out.mono ?_
  rintro e W2 (⟨hnil, rfl, hb2⟩ | ⟨x, r, a', hcons, rfl, hq2, ha', hg2⟩)
  · have HR := Lib.hid (show makeL ns p b = [] by rw [← HML.out, hnil]; rfl)
    have HB2 := Lib.hid (below_next (below_next HB1.out hb2) (below_box W2 (.cells #[.string ⟨#[]⟩, .int .i64 0, .int .i64 0] 62)))
    clear hb2 hnil
    go_wp2
    generalize W2.alloc (.cells #[.string ⟨#[]⟩, .int .i64 0, .int .i64 0] 62) = W3 at HB2 ⊢
    go_loopw [7, 9, 10] (fun l q m wr => l = .slice none 0 0 ∧ q = .pointer (some ⟨W2.heap.size, 0, none⟩) ∧ m = .bool false ∧ W3 = wr) (fun _ _ _ _ => 0)
    case atStart => exact ⟨rfl, rfl, rfl, rfl⟩
    case round =>
      obtain ⟨rfl, rfl, rfl, rfl⟩ := hrel
      go_wp2
      go_ret
      exact ⟨⟨_, rfl, by rw [HR.out]; exact World.ownsRow_nil _ _ _ _⟩, HB2.out⟩
  · have HCONS := Lib.hid hcons
    have HQ2 := Lib.hid (hq2.keep (below_box W2 (.cells #[.string x.p, .int .i64 x.k, .int .i64 x.v] 62)))
    have HB2 := Lib.hid (show Below W.heap.size W W2 from HB1.out.grown hg2 HB1.out.size (fun k e => by cases e; exact B1.out.size))
    have HB3 := Lib.hid (below_next HB2.out (below_box W2 (.cells #[.string x.p, .int .i64 x.k, .int .i64 x.v] 62)))
    have HX2 := Lib.hid (NBox.new W2 x)
    have HBW := Lib.hid (show W1.heap.size < W2.heap.size by have := hg2.size; simp at this; omega)
    have HLO2 := Lib.hid (show ∀ y, a' = some y → l1 - 1 ≠ 0 → y.block < W1.heap.size from fun y hy hl => by obtain ⟨z, hz, hzb⟩ := ha' y hy; rw [hzb]; exact HLOW.out z hz (by omega))
    have HWW := Lib.hid B1.out.size
    clear hcons hq2 ha' hg2 HTK HLOW HQ1 HO1
    go_wp2
    generalize W2.alloc (.cells #[.string x.p, .int .i64 x.k, .int .i64 x.v] 62) = W3 at HQ2 HB3 HX2 ⊢
    go_loopw [7, 9, 10] (fun l q m wr => MakeRel ns p b W W1.heap.size l q m wr) (fun _ _ m wr => 2 * leftAt wr W1.heap.size + moreOf m)
    case atStart =>
      exact ⟨[], r, a', l1 - 1, c1 - 1, W2.heap.size, true, rfl, rfl, World.ownsRow_nil _ _ _ _, HB3, HQ2, HLO2, HBW, (show ([] : List Nd).length + r.length ≤ 10 by have h1 := HFL.out; rw [HCONS.out] at h1; simp at h1 ⊢; omega), .inl ⟨rfl, x, HCONS, HX2⟩⟩
    case round =>
      obtain ⟨done, rest, a5, len5, cap5, c5, mb, rfl, rfl, hown, HB, HQ, HLOW, HBC, HDR, ⟨rfl, x5, HCS, HNB⟩ | ⟨rfl, HCS⟩⟩ := hrel
      · have HO := Lib.hid hown
        have hn5 := HNB.out.cells
        obtain ⟨g0, g1, g2, -, -, -⟩ := hn5
        have hx5 := HFS.out x5 (by rw [HCS.out]; simp)
        obtain ⟨hx1, hx2, hx3⟩ := hx5
        have HT := Lib.hid (fun w => trimPrefix_c x5.p p hx1 hx2 w)
        have hz4 : b.size + (x5.p.size - p.size) ≤ 9223372036854775807 := by have := HSZ.out; omega
        obtain ⟨xp, xk, xv⟩ := x5
        simp only at g0 g1 g2 HT hz4
        clear hown hx1 hx2 hx3
        go_upto_region 6 with (fail)
        have HDL := Lib.hid (show (mkL p b done).length ≤ 10 by unfold mkL; rw [List.length_map]; have := HDR.out; omega)
        have HS0 : Hid (NBox wr.drew c5 ⟨xp, xk, xv⟩ ∧ Below W.heap.size W wr.drew) := ⟨HNB.out, HB.out.drew⟩
        refine wp_region_held_drew (S := fun w' => NBox w' c5 ⟨xp, xk, xv⟩ ∧ Below W.heap.size W w') (by kernel_rfl) HS0.out (fun hH => ?_)
        refine wpAnyH_take (i := 0) (oi := _) (v := ?_) rfl (by kernel_rfl) (by kernel_rfl) (by kernel_rfl) (fun _ _ _ h => h) (Or.inl ⟨by rfl, ?_⟩) (by assumption) ?_
        rotate_left
        · (intro w hSw; obtain ⟨s0, s1, s2, -, -, -⟩ := hSw.1.cells; simp only at s0 s1 s2; go_simp; (try rw [if_neg (Nat.not_lt.2 hz4)]); try with_reducible rfl)
        try simp only [Act.put, List.getElem_toArray, List.getElem_cons_zero, List.setIfInBounds_toArray, List.set_cons_zero, List.set_cons_succ]
        refine wpAnyH_take (i := 1) (oi := _) (v := ?_) rfl (by kernel_rfl) (by kernel_rfl) (by kernel_rfl) (fun _ _ _ h => h) (Or.inl ⟨by rfl, ?_⟩) (by assumption) ?_
        rotate_left
        · (intro w hSw; obtain ⟨s0, s1, s2, -, -, -⟩ := hSw.1.cells; simp only at s0 s1 s2; go_simp; (try rw [if_neg (Nat.not_lt.2 hz4)]); try with_reducible rfl)
        try simp only [Act.put, List.getElem_toArray, List.getElem_cons_zero, List.getElem_cons_succ, List.setIfInBounds_toArray, List.set_cons_zero, List.set_cons_succ]
        refine wpAnyH_take (i := 2) (oi := _) (v := ?_) rfl (by kernel_rfl) (by kernel_rfl) (by kernel_rfl) (fun _ _ _ h => h) (Or.inl ⟨by rfl, ?_⟩) (by assumption) ?_
        rotate_left
        · (intro w hSw; obtain ⟨s0, s1, s2, -, -, -⟩ := hSw.1.cells; simp only at s0 s1 s2; go_simp; (try rw [if_neg (Nat.not_lt.2 hz4)]); try with_reducible rfl)
        try simp only [Act.put, List.getElem_toArray, List.getElem_cons_zero, List.getElem_cons_succ, List.setIfInBounds_toArray, List.set_cons_zero, List.set_cons_succ]
        refine wpAnyH_take (i := 3) (oi := _) (v := ?_) rfl (by kernel_rfl) (by kernel_rfl) (by kernel_rfl) (fun _ _ _ h => h) (Or.inl ⟨by rfl, ?_⟩) (by assumption) ?_
        rotate_left
        · (intro w hSw; obtain ⟨s0, s1, s2, -, -, -⟩ := hSw.1.cells; simp only at s0 s1 s2; go_simp; (try rw [if_neg (Nat.not_lt.2 hz4)]); try with_reducible rfl)
        try simp only [Act.put, List.getElem_toArray, List.getElem_cons_zero, List.getElem_cons_succ, List.setIfInBounds_toArray, List.set_cons_zero, List.set_cons_succ]
        refine wpAnyH_take (i := 4) (oi := _) (v := ?_) rfl (by kernel_rfl) (by kernel_rfl) (by kernel_rfl) (fun _ _ _ h => h) (Or.inl ⟨by rfl, ?_⟩) (by assumption) ?_
        rotate_left
        · (intro w hSw; obtain ⟨s0, s1, s2, -, -, -⟩ := hSw.1.cells; simp only at s0 s1 s2; go_simp; (try rw [if_neg (Nat.not_lt.2 hz4)]); try with_reducible rfl)
        try simp only [Act.put, List.getElem_toArray, List.getElem_cons_zero, List.getElem_cons_succ, List.setIfInBounds_toArray, List.set_cons_zero, List.set_cons_succ]
        refine wpAnyH_take (i := 7) (oi := _) (v := ?_) rfl (by kernel_rfl) (by kernel_rfl) (by kernel_rfl) (fun _ _ _ h => h) (Or.inl ⟨by rfl, ?_⟩) (by assumption) ?_
        rotate_left
        · (intro w hSw; obtain ⟨s0, s1, s2, -, -, -⟩ := hSw.1.cells; simp only at s0 s1 s2; go_simp; (try rw [if_neg (Nat.not_lt.2 hz4)]); try with_reducible rfl)
        try simp only [Act.put, List.getElem_toArray, List.getElem_cons_zero, List.getElem_cons_succ, List.setIfInBounds_toArray, List.set_cons_zero, List.set_cons_succ]
        refine wpAnyH_take (i := 8) (oi := _) (v := ?_) rfl (by kernel_rfl) (by kernel_rfl) (by kernel_rfl) (fun _ _ _ h => h) (Or.inl ⟨by rfl, ?_⟩) (by assumption) ?_
        rotate_left
        · (intro w hSw; obtain ⟨s0, s1, s2, -, -, -⟩ := hSw.1.cells; simp only at s0 s1 s2; go_simp; (try rw [if_neg (Nat.not_lt.2 hz4)]); try with_reducible rfl)
        try simp only [Act.put, List.getElem_toArray, List.getElem_cons_zero, List.getElem_cons_succ, List.setIfInBounds_toArray, List.set_cons_zero, List.set_cons_succ]
        refine wpAnyH_ready (rs := [5]) (by kernel_rfl) (by simp) ?_
        refine AllReadyH.cons rfl (fun K hK => ?_) (AllReadyH.nil)
        go_simp
        go_at_call 47; (with_reducible refine (HT.out _).mono ?_); rintro e W5 ⟨rfl, rfl⟩
        refine hK.out _ _ HS0.out (fun hHeld => ?_)
        try simp only [Act.put, List.getElem_toArray, List.getElem_cons_zero, List.getElem_cons_succ, List.setIfInBounds_toArray, List.set_cons_zero, List.set_cons_succ]
        refine wpAnyH_take (i := 6) (oi := _) (v := ?_) rfl (by kernel_rfl) (by kernel_rfl) (by kernel_rfl) (fun _ _ _ h => h) (Or.inl ⟨by rfl, ?_⟩) (by assumption) ?_
        rotate_left
        · (intro w hSw; obtain ⟨s0, s1, s2, -, -, -⟩ := hSw.1.cells; simp only at s0 s1 s2; go_simp; (try rw [if_neg (Nat.not_lt.2 hz4)]); try with_reducible rfl)
        try simp only [Act.put, List.getElem_toArray, List.getElem_cons_zero, List.getElem_cons_succ, List.setIfInBounds_toArray, List.set_cons_zero, List.set_cons_succ]
        refine wpAnyH_take (i := 9) (oi := _) (v := ?_) rfl (by kernel_rfl) (by kernel_rfl) (by kernel_rfl) (fun _ _ _ h => h) (Or.inl ⟨by rfl, ?_⟩) (by assumption) ?_
        rotate_left
        · (intro w hSw; obtain ⟨s0, s1, s2, -, -, -⟩ := hSw.1.cells; simp only at s0 s1 s2; go_simp; (try rw [if_neg (Nat.not_lt.2 hz4)]); try with_reducible rfl)
        try simp only [Act.put, List.getElem_toArray, List.getElem_cons_zero, List.getElem_cons_succ, List.setIfInBounds_toArray, List.set_cons_zero, List.set_cons_succ]
        refine wpAnyH_ready (rs := [10]) (by kernel_rfl) (by simp) ?_
        refine AllReadyH.cons rfl (fun K hK => ?_) (AllReadyH.nil)
        go_simp
        refine hK.out _ _ ⟨HS0.out.1.keep (below_box _ _), HS0.out.2.alloc HS0.out.2.size _⟩ (fun hHeld => ?_)
        try simp only [Act.put, List.getElem_toArray, List.getElem_cons_zero, List.getElem_cons_succ, List.setIfInBounds_toArray, List.set_cons_zero, List.set_cons_succ]
        refine wpAnyH_ready (rs := [11]) (by kernel_rfl) (by simp) ?_
        refine AllReadyH.cons rfl (fun K hK => ?_) (AllReadyH.nil)
        rw [if_pos (by rfl)]
        have hrow : (wr.drew.alloc (.cells #[.string (cpB p b xp), .int .i64 0, .int .i64 0, .int .i64 xk, .int .i64 xv] 33)).ownsRow (W1.heap.size + 1) 33 5 u7 (mkL p b done).length (flatC (mkL p b done)) := World.ownsRow.alloc (show wr.drew.ownsRow _ _ _ _ _ _ from HO.out) _
        have hnb1 : NBox (wr.drew.alloc (.cells #[.string (cpB p b xp), .int .i64 0, .int .i64 0, .int .i64 xk, .int .i64 xv] 33)) c5 ⟨xp, xk, xv⟩ := HS0.out.1.keep (below_box _ _)
        refine wp_append_own _ _ _ 26 rfl (W1.heap.size + 1) 33 i0 (.agg #[.string ⟨#[]⟩, .int .i64 0, .int .i64 0, .int .i64 0, .int .i64 0]) 5 48 Try.underlying26 hi hz0 hz1 hz2 rfl (by decide) _ (mkL p b done).length (flatC (mkL p b done)) rfl hrow ⟨wr.heap.size, 0, none⟩ 1 1 (flatC [(⟨cpB p b xp, 0, 0, xk, xv⟩ : Cmd)]) rfl rfl (cmds_cells (show CmdsAt (wr.drew.alloc _) (some ⟨wr.heap.size, 0, none⟩) 1 [(⟨cpB p b xp, 0, 0, xk, xv⟩ : Cmd)] from cmds_lit wr.drew (⟨cpB p b xp, 0, 0, xk, xv⟩ : Cmd))) (flatC_cell1 _) (by unfold maxLen; have := HDL.out; omega) (by have := HDL.out; omega) (by have h1 := HBC.out; have h2 := HNB.out.lt; show _ ≤ (wr.alloc _).heap.size; rw [World.size_alloc]; omega) ?_
        intro v4 w4 ho4 hg4 hn4
        have HN4 := Lib.hid (hnb1.kept hg4 (hnb1.far hrow))
        have HB4 := Lib.hid ((HS0.out.2.alloc HS0.out.2.size (.cells #[.string (cpB p b xp), .int .i64 0, .int .i64 0, .int .i64 xk, .int .i64 xv] 33)).grown hg4 (by have h1 := HS0.out.2.size; have h3 : (wr.drew.alloc (.cells #[.string (cpB p b xp), .int .i64 0, .int .i64 0, .int .i64 xk, .int .i64 xv] 33)).heap.size = wr.drew.heap.size + 1 := World.size_alloc _ _; omega) (fun k e => by have h1 := (HO.out.lt k e).1; have h2 := HWW.out; omega))
        have HQ4 := Lib.hid ((QAt.kept (W' := w4) (row := u7.ownBlock) ((show QAt wr.drew W1.heap.size a5 len5 cap5 rest from ⟨HQ.out.box, HQ.out.nodes, HQ.out.far, HQ.out.le, HQ.out.max⟩).keep (below_box _ _)) hg4 (fun e => by have h1 := (HO.out.lt _ e).1; omega) (fun y hy hl e => by have h1 := (HO.out.lt _ e).1; have h2 := HLOW.out y hy hl; omega)))
        have HO4 := Lib.hid (show w4.ownsRow (W1.heap.size + 1) 33 5 v4 (mkL p b (done ++ [⟨xp, xk, xv⟩])).length (flatC (mkL p b (done ++ [⟨xp, xk, xv⟩]))) by rw [mkL_snoc, flatC_append, List.length_append]; exact ho4)
        have HW4 := Lib.hid hg4.size
        clear hg4 hn4 ho4 hrow hnb1
        refine hK.out _ _ ⟨HN4.out, HB4.out⟩ (fun hHeld => ?_)
        try simp only [Act.put, List.getElem_toArray, List.getElem_cons_zero, List.getElem_cons_succ, List.setIfInBounds_toArray, List.set_cons_zero, List.set_cons_succ]
        refine wpAnyH_take (i := 12) (oi := _) (v := ?_) rfl (by kernel_rfl) (by kernel_rfl) (by kernel_rfl) (fun _ _ _ h => h) (Or.inl ⟨by rfl, ?_⟩) (by assumption) ?_
        rotate_left
        · (intro w hSw; obtain ⟨s0, s1, s2, -, -, -⟩ := hSw.1.cells; simp only at s0 s1 s2; go_simp; (try rw [if_neg (Nat.not_lt.2 hz4)]); try with_reducible rfl)
        try simp only [Act.put, List.getElem_toArray, List.getElem_cons_zero, List.getElem_cons_succ, List.setIfInBounds_toArray, List.set_cons_zero, List.set_cons_succ]
        refine wpAnyH_done (by kernel_rfl) ?_ _
        have hn6 := HN4.out.cells
        obtain ⟨g0, g1, g2, -, -, -⟩ := hn6
        simp only at g0 g1 g2
        have b5 := below_box w4 (.cells #[.string xp, .int .i64 xk, .int .i64 xv] 62)
        have HQ5 := Lib.hid (HQ4.out.keep b5)
        have HB5 := Lib.hid (below_next HB4.out b5)
        have HO5 := Lib.hid (own_below HO4.out b5)
        have HN5 := Lib.hid (NBox.new w4 ⟨xp, xk, xv⟩)
        have HB14 := Lib.hid (show W1.heap.size < w4.heap.size by have h1 := HBC.out; have h2 := HN4.out.lt; omega)
        have HTK := Lib.hid (takeQ_c W1.heap.size a5 len5 cap5 rest (by have h1 := HDR.out; have h2 := HQ.out.nodes.1; omega) _ HQ5.out)
        have HC2 := Lib.hid (show fromL ns p = (done ++ [⟨xp, xk, xv⟩]) ++ rest by rw [HCS.out, List.append_assoc]; rfl)
        have HDR2 := Lib.hid (show (done ++ [(⟨xp, xk, xv⟩ : Nd)]).length + rest.length ≤ 10 by have h1 := HFL.out; rw [HC2.out, List.length_append] at h1; exact h1)
        have HLFT := Lib.hid HQ.out.left
        clear HN4 b5
        go_wp2_with fail
        refine HTK.out.mono ?_
        rintro e W6 (⟨hnil, rfl, hb6⟩ | ⟨x6, r6, a6, hcons, rfl, hq6, ha6, hg6⟩)
        · have HN6 := Lib.hid (HN5.out.keep hb6)
          have hn6 := HN6.out.cells
          obtain ⟨s0, s1, s2, f0, f1, f2⟩ := hn6
          simp only at s0 s1 s2
          clear g0 g1 g2
          go_wp2
          have hQ6 := HQ5.out.keep hb6
          have hO6 := own_below HO5.out hb6
          have hB6 := below_next HB5.out hb6
          obtain ⟨h1, h2, h3, h4⟩ := make_put ⟨⟨#[]⟩, 0, 0⟩ hB6 HN6.out hO6 hQ6 HLOW.out HB14.out HWW.out _ rfl
          refine ⟨⟨done ++ [⟨xp, xk, xv⟩], rest, a5, len5, cap5, w4.heap.size, false, rfl, rfl, h3, h1, h4, HLOW, HB14, HDR2, .inr ⟨rfl, ?_⟩⟩, ?_⟩
          · show fromL ns p = _
            rw [HC2.out, hnil, List.append_nil]
          · rw [HLFT.out, h4.left]
            show 2 * len5 + 0 < 2 * len5 + 1
            omega
        · have HN6 := Lib.hid (HN5.out.kept hg6 (fun e => by have := HB14.out; have := Option.some.inj e; omega))
          have hn6 := HN6.out.cells
          obtain ⟨s0, s1, s2, f0, f1, f2⟩ := hn6
          simp only at s0 s1 s2
          clear g0 g1 g2
          go_wp2
          have hO6 := HO5.out.kept hg6 (.inr (fun e => by have := (HO5.out.lt _ e).1; omega))
          have hB6 : Below W.heap.size W W6 := HB5.out.grown hg6 HB5.out.size (fun k e => by cases e; exact HWW.out)
          have hlow : ∀ y, a6 = some y → len5 - 1 ≠ 0 → y.block < W1.heap.size := fun y hy hl => by
            obtain ⟨z, hz, hzb⟩ := ha6 y hy
            rw [hzb]
            exact HLOW.out z hz (by omega)
          obtain ⟨h1, h2, h3, h4⟩ := make_put x6 hB6 HN6.out hO6 hq6 hlow HB14.out HWW.out _ rfl
          have hr6 : rest.length = r6.length + 1 := by rw [hcons]; simp
          have h7 := HDR2.out
          rw [hr6] at h7
          refine ⟨⟨done ++ [⟨xp, xk, xv⟩], r6, a6, len5 - 1, cap5 - 1, w4.heap.size, true, rfl, rfl, h3, h1, h4, hlow, HB14, by show _ ≤ 10; omega, .inl ⟨rfl, x6, ?_, h2⟩⟩, ?_⟩
          · show fromL ns p = _
            rw [HC2.out, hcons]
          · rw [HLFT.out, h4.left]
            show 2 * (len5 - 1) + 1 < 2 * len5 + 1
            have := HQ5.out.nodes.1
            omega
      · have HR := Lib.hid (show makeL ns p b = mkL p b done by rw [← HML.out, HCS.out])
        have HO := Lib.hid hown
        clear hown
        go_wp2
        go_ret
        exact ⟨⟨_, rfl, by rw [HR.out]; exact own_mono HO.out (Nat.le_trans HWW.out (Nat.le_succ _))⟩, HB.out⟩

end Go.Proofs.Ytncceljffcjoiaa
