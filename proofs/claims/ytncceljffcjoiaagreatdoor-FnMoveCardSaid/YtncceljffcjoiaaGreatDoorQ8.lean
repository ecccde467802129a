/-
  Texts of this proof, one behind the other: St, Sd, Bk, Sk, Se, Fm, Fa, Fb, Ss, Sv, Is, Iu, Fc, Fd, Sw, Sx, Ic, Iv.
-/
import Derived.Shelf.LaysM
import Derived.Shelf.Sort.Plain
import Derived.Shelf.Slices.CompactS
import Derived.Shelf.Slices.In.SortNone
import Derived.Sort.OwnSorted
import Derived.Test.YtncceljffcjoiaaGreatDoorChecked
import Derived.RangeFuncNested
import Derived.RangeFuncBound
import Derived.RangeFuncCalls
import Derived.RangeFuncLeaves
import Derived.OwnWalkIn
import Derived.TacticsInMore
import Derived.LoopNIn
import Derived.LoopIn
import Derived.Lib.HexFns2
import Derived.Laws.Cover1
import Derived.StillTailTactics
import Derived.Deep.RegionHeld3
import Derived.Deep.Cut
import Derived.Deep.RegionLaw
import Derived.WalkSmall
import Derived.Maps.AppendAt
import Derived.OwnWalk
import Derived.Laws.OwnMore
import Derived.Laws.AppendOwnNone
import Derived.Deep.QuietTactic
import Derived.BigQuiet
import Derived.Laws.StructEq
import Derived.Test.YtncceljffcjoiaaGreatDoorQ4
import Derived.Test.YtncceljffcjoiaaGreatDoorSu
import Derived.Test.YtncceljffcjoiaaGreatDoorTa
import Derived.Test.YtncceljffcjoiaaGreatDoorTl
import Derived.Test.YtncceljffcjoiaaGreatDoorQ3
import Derived.Test.YtncceljffcjoiaaGreatDoorBn
import Derived.Test.YtncceljffcjoiaaGreatDoorBq
import Derived.Test.YtncceljffcjoiaaGreatDoorQ2
import Derived.Test.YtncceljffcjoiaaGreatDoorTv
import Derived.Test.YtncceljffcjoiaaGreatDoorCc
import Derived.Test.YtncceljffcjoiaaGreatDoorQ5
import Derived.Test.YtncceljffcjoiaaGreatDoorAp
import Derived.Test.YtncceljffcjoiaaGreatDoorQ9
/-
  slices.Sort and slices.Compact of texts, by the library's contracts, at this program's numbers.
-/
namespace Go.Proofs.YtncceljffcjoiaaGreatDoor
open Go.Shelf Go.RowKit
end Go.Proofs.YtncceljffcjoiaaGreatDoor

/-
  WALKS: slices.Sort and slices.Compact of texts that the call owns.
-/
namespace Go.Proofs.YtncceljffcjoiaaGreatDoor
open Go.Shelf Go.RowKit Go.Sort
set_option linter.unusedVariables false

def bytesOf (xs : List ByteArray) : List (List UInt8) := xs.map (fun x => x.data.toList)
def textsOf (ss : List (List UInt8)) : List ByteArray := ss.map (fun s => ⟨s.toArray⟩)

theorem bytes_texts (ss : List (List UInt8)) : bytesOf (textsOf ss) = ss := by
  unfold bytesOf textsOf
  rw [List.map_map]
  have : ((fun x : ByteArray => x.data.toList) ∘ fun s : List UInt8 => (⟨s.toArray⟩ : ByteArray)) = id := rfl
  rw [this, List.map_id]

theorem texts_bytes (xs : List ByteArray) : textsOf (bytesOf xs) = xs := by
  unfold bytesOf textsOf
  rw [List.map_map]
  have : ((fun s : List UInt8 => (⟨s.toArray⟩ : ByteArray)) ∘ fun x : ByteArray => x.data.toList) = id := by
    funext x
    show (⟨x.data.toList.toArray⟩ : ByteArray) = x
    rw [Array.toArray_toList]
  rw [this, List.map_id]

theorem enc_bytes (xs : List ByteArray) : (bytesOf xs).map encStr = xs.map Value.string := by
  have h := texts_bytes xs
  conv => rhs; rw [← h]
  unfold textsOf
  rw [List.map_map]
  rfl

theorem enc_texts (ss : List (List UInt8)) : ss.map encStr = (textsOf ss).map Value.string := by rw [← enc_bytes, bytes_texts]

/-- Texts that do not descend. -/
def NotDesc (l : List ByteArray) : Prop := l.Pairwise (fun x y => ltB y x = false)

theorem sorted_notDesc (ss : List (List UInt8)) : NotDesc (textsOf (ss.mergeSort fun x y => decide (x ≤ y))) := by
  unfold NotDesc textsOf
  rw [List.pairwise_map]
  have h := List.pairwise_mergeSort (le := fun x y : List UInt8 => decide (x ≤ y)) (fun a b c h1 h2 => by
    rw [decide_eq_true_eq] at h1 h2 ⊢; exact List.le_trans h1 h2) (fun a b => by
    rw [Bool.or_eq_true, decide_eq_true_eq, decide_eq_true_eq]; exact List.le_total a b) ss
  refine h.imp fun {x y} hxy => ?_
  rw [decide_eq_true_eq] at hxy
  rw [Bool.eq_false_iff]
  intro hc
  have := (ltB_iff _ _).1 hc
  exact (List.not_lt.2 hxy) this

theorem sorted_mem (xs : List ByteArray) (p : ByteArray) : p ∈ textsOf ((bytesOf xs).mergeSort fun x y => decide (x ≤ y)) ↔ p ∈ xs := by
  conv => rhs; rw [← texts_bytes xs]
  unfold textsOf
  rw [List.mem_map, List.mem_map]
  simp only [List.mem_mergeSort]

/-- What slices.Sort leaves. -/
def SortPost (base : Nat) (v : Value) (xs : List ByteArray) (W : World) (e : Ending) (w' : World) : Prop :=
  e = .returned (.tuple #[]) ∧ ∃ ys, NotDesc ys ∧ ys.length = xs.length ∧ (∀ p, p ∈ ys ↔ p ∈ xs) ∧ w'.ownsRow base 9 1 v ys.length (ys.map Value.string) ∧ W.grownBy w' v.ownBlock

theorem gem {ss : List (List UInt8)} {j : Nat} (hj : j < ss.length) : ss[j]! = ss[j] := by simp [hj]

theorem comp_mem (ss : List (List UInt8)) (s : List UInt8) : s ∈ Lib.compact ss ↔ s ∈ ss := by
  have hget : ∀ j, j < ss.length → ss.toArray[j]! = ss[j]! := fun j hj => by simp
  unfold Lib.compact Lib.compactUpTo
  rw [List.mem_map]
  constructor
  · rintro ⟨j, hj, rfl⟩
    rw [List.mem_filter, List.mem_range] at hj
    have := hj.1
    rw [hget j this, gem this]
    exact List.getElem_mem this
  · intro hs
    obtain ⟨j, hj, rfl⟩ := List.getElem_of_mem hs
    induction j with
    | zero => exact ⟨0, by rw [List.mem_filter, List.mem_range]; exact ⟨hj, by simp [Lib.keeps]⟩, by rw [hget 0 hj, gem hj]⟩
    | succ j ih =>
      by_cases hk : Lib.keeps ss.toArray (j + 1) = true
      · exact ⟨j + 1, by rw [List.mem_filter, List.mem_range]; exact ⟨hj, hk⟩, by rw [hget _ hj, gem hj]⟩
      · have hj' : j < ss.length := by omega
        have e : ss[j + 1] = ss[j] := by
          unfold Lib.keeps at hk
          rw [decide_eq_true_eq] at hk
          have h2 : ss.toArray[j + 1]! = ss.toArray[j]! := by
            refine Classical.byContradiction fun hne => hk (.inr ?_)
            rwa [Nat.add_sub_cancel]
          rw [hget _ hj, hget _ hj', gem hj, gem hj'] at h2
          exact h2
        rw [e]
        exact ih hj' (List.getElem_mem hj')

theorem comp_asc {xs : List ByteArray} (h : NotDesc xs) : AscP (textsOf (Lib.compact (bytesOf xs))) := by
  unfold AscP textsOf Lib.compact Lib.compactUpTo
  rw [List.pairwise_map, List.pairwise_map]
  have hbl : (bytesOf xs).length = xs.length := by unfold bytesOf; rw [List.length_map]
  have hget : ∀ j (hj : j < xs.length), (⟨((bytesOf xs).toArray[j]!).toArray⟩ : ByteArray) = xs[j] := fun j hj => by
    have : (bytesOf xs).toArray[j]! = xs[j].data.toList := by
      simp [bytesOf, hj]
    rw [this, Array.toArray_toList]
  have hp := List.pairwise_iff_getElem.1 h
  have hr : ((List.range (bytesOf xs).length).filter (Lib.keeps (bytesOf xs).toArray)).Pairwise (· < ·) := List.Pairwise.filter _ List.pairwise_lt_range
  refine hr.imp_of_mem fun {i j} hi hj hij => ?_
  rw [List.mem_filter, List.mem_range, hbl] at hi hj
  rw [hget i hi.1, hget j hj.1]
  have hk := hj.2
  unfold Lib.keeps at hk
  rw [decide_eq_true_eq] at hk
  have hj1 : j - 1 < xs.length := by omega
  have hne : xs[j] ≠ xs[j - 1] := by
    rcases hk with h0 | h0
    · omega
    · intro e
      apply h0
      have a1 : (bytesOf xs).toArray[j]! = xs[j].data.toList := by simp [bytesOf, hj.1]
      have a2 : (bytesOf xs).toArray[j - 1]! = xs[j - 1].data.toList := by simp [bytesOf, hj1]
      rw [a1, a2, e]
  have h1 : ltB xs[j - 1] xs[j] = true := by
    have h2 := hp (j - 1) j hj1 hj.1 (by omega)
    refine Classical.byContradiction fun hc => hne ?_
    exact (ltB_tri (by simpa using hc) h2).symm
  by_cases he : i = j - 1
  · subst he; exact h1
  · have h2 := hp i (j - 1) hi.1 hj1 (by omega)
    by_cases h3 : ltB xs[i] xs[j - 1] = true
    · exact ltB_trans h3 h1
    · have := ltB_tri (by simpa using h3) h2
      rw [this]; exact h1

/-- What slices.Compact leaves of texts that do not descend. -/
def CompPost (base : Nat) (ys : List ByteArray) (W : World) (e : Ending) (w' : World) : Prop :=
  ∃ v' zs, e = .returned v' ∧ AscP zs ∧ (∀ p, p ∈ zs ↔ p ∈ ys) ∧ w'.ownsRow base 9 1 v' zs.length (zs.map Value.string)

theorem comp_len (ss : List (List UInt8)) : (Lib.compact ss).length ≤ ss.length := by
  unfold Lib.compact Lib.compactUpTo
  rw [List.length_map]
  refine Nat.le_trans (List.length_filter_le _ _) ?_
  rw [List.length_range]; exact Nat.le_refl _

end Go.Proofs.YtncceljffcjoiaaGreatDoor

/-
  WALKS: slices.Backward over a list of nodes.
-/
namespace Go.Proofs.YtncceljffcjoiaaGreatDoor
open Go.RowKit
set_option linter.unusedVariables false

attribute [local go_sem] Oper.semAt_some

/-- A node of a list, with its place. -/
structure Elt (ns : List Nd) where
  i : Nat
  n : Nd
  at_ : ns[i]? = some n

/-- The nodes ahead of a place, the last one first. -/
def backE (ns : List Nd) : (j : Nat) → j ≤ ns.length → List (Elt ns)
  | 0, _ => []
  | j + 1, h => ⟨j, ns[j], by simp⟩ :: backE ns j (by omega)

theorem backE_length (ns : List Nd) : ∀ (j : Nat) (h : j ≤ ns.length), (backE ns j h).length = j
  | 0, _ => rfl
  | j + 1, h => by show (backE ns j _).length + 1 = _; rw [backE_length ns j]

def ndV (n : Nd) : Value := .agg #[.string n.p, .int .i64 n.k, .int .i64 n.v]

set_option maxRecDepth 100000 in
set_option maxHeartbeats 2000000 in
/-- The closure's walk, for whatever loop body. -/
theorem back1_in (n : Nat) (hn : 1 ≤ n) (l Bn : Nat) (a : Option Addr) (len cap : Nat) (ns : List Nd) (hl : len ≤ 2097152) (Kp : World → World → Prop)
    (hKc : ∀ W W', Kp W W' → W.cell? ⟨Bn, 0, none⟩ = some (.slice a len cap) → W'.cell? ⟨Bn, 0, none⟩ = some (.slice a len cap)) (hKn : ∀ W W', Kp W W' → NodesAt W a len ns → NodesAt W' a len ns)
    (J Jx : List (Elt ns) → World → Prop)
    (hY : ∀ pre x W, J pre W → pre.length < ns.length → YieldAt Fence.wide (n - 1) Tryz.prog l #[.int .i64 x.i, ndV x.n] W fun e W' =>
      (e = .returned (.bool true) ∧ J (pre ++ [x]) W' ∧ Kp W W') ∨ (e = .returned (.bool false) ∧ Jx (pre ++ [x]) W'))
    (W : World) (hBn : W.cell? ⟨Bn, 0, none⟩ = some (.slice a len cap)) (hN : NodesAt W a len ns) (h0 : J [] W) :
    CallsIn Fence.wide n Tryz.prog 98 #[.func (.yield l) #[] #[], .pointer (some ⟨Bn, 0, none⟩)] W fun e W' => (∃ v, e = .returned v) ∧
      ((∃ ys, ys = backE ns ns.length (Nat.le_refl _) ∧ J ys W') ∨ (∃ pre, pre <+: backE ns ns.length (Nat.le_refl _) ∧ Jx pre W')) := by
  have hlen := hN.1
  have HN := Lib.hid hN
  have HLE := Lib.hid hlen
  have hl' : (len : Int) ≤ 2097152 := by omega
  have HKC := Lib.hid hKc
  have HKN := Lib.hid hKn
  have HY := Lib.hid hY
  clear hN hlen hKc hKn hY
  refine callsIn_of_wp Tryz.func98 rfl trivial ?_ rfl
  simp only [Tryz.ntmps98, List.size_toArray, List.length_cons, List.length_nil, Nat.reduceAdd, Nat.reduceSub, Array.replicate_succ, Array.replicate_zero, List.push_toArray, List.append_toArray, List.nil_append, List.cons_append]
  gi_wp2
  gi_loopw [3] (fun i wr => ∃ (pre : List (Elt ns)) (j : Nat) (hj : j ≤ ns.length), i = .int .i64 ((j : Int) - 1) ∧ Hid (backE ns ns.length (Nat.le_refl _) = pre ++ backE ns j hj) ∧ J pre wr ∧ wr.cell? ⟨Bn, 0, none⟩ = some (.slice a len cap) ∧ Hid (NodesAt wr a len ns))
    (fun i _ => (intOf i + 1).toNat)
  case atStart =>
    exact ⟨[], ns.length, Nat.le_refl _, by rw [HLE.out], rfl, h0, hBn, HN.out⟩
  case round =>
    obtain ⟨pre, j, hj, rfl, HX, hJs, hc, HNr⟩ := hrel
    cases j with
    | zero =>
      gi_wp2
      go_end0
      exact ⟨⟨_, rfl⟩, .inl ⟨pre, by have := HX.out; simpa [backE] using this.symm, hJs⟩⟩
    | succ j =>
      obtain ⟨b, off, nd, hab, hnd, c0, c1, c2⟩ := HNr.out.node (i := j) (by have := HLE.out; omega)
      have hlt : pre.length < ns.length := by
        have := congrArg List.length HX.out
        rw [List.length_append, backE_length, backE_length] at this
        omega
      obtain ⟨x, hxi, hxn⟩ : ∃ x : Elt ns, x.i = j ∧ x.n = nd := ⟨⟨j, nd, hnd⟩, rfl, rfl⟩
      have HX2 := Lib.hid (show backE ns ns.length (Nat.le_refl _) = pre ++ [x] ++ backE ns j (Nat.le_of_succ_le hj) by
        rw [HX.out, List.append_assoc]
        show pre ++ (⟨j, ns[j], _⟩ :: backE ns j _) = pre ++ (x :: backE ns j _)
        have e : ns[j] = nd := by have := List.getElem?_eq_some_iff.1 hnd; exact this.2
        obtain ⟨xi, xn, xa⟩ := x
        simp only at hxi hxn
        subst hxi; subst hxn
        congr 2
        congr 1)
      obtain ⟨fn, tmps, assign, body, hy, hR⟩ := HY.out pre x wr hJs hlt
      rw [hxi, hxn] at hy
      dsimp only [ndV] at hy
      have hjl : (j : Int) < len := by have := HLE.out; omega
      have hjl2 : j < len := by have := HLE.out; omega
      subst hab
      have HJ := Lib.hid hj
      have HC := Lib.hid hc
      clear hnd hlt hxi hxn
      gi_wp2
      refine hR.mono ?_
      rintro e W3 (⟨rfl, hJ3, hk3⟩ | ⟨rfl, hJx3⟩)
      · have c3 := HKC.out _ _ hk3 HC.out
        have N3 := Lib.hid (HKN.out _ _ hk3 HNr.out)
        gi_wp2
        go_roundw
        case rel => exact ⟨pre ++ [x], j, by have := HJ.out; omega, by simp, HX2.out, hJ3, c3, N3.out⟩
        case measure => simp [intOf]
      · gi_wp2
        refine bodyPost_ret (results_none rfl _ _ _) rfl ?_
        exact ⟨⟨_, rfl⟩, .inr ⟨pre ++ [x], by rw [HX2.out]; exact List.prefix_append _ _, hJx3⟩⟩

set_option maxHeartbeats 1000000 in
set_option maxRecDepth 100000 in
/-- slices.Backward: the slice is boxed; the function value captures the box. -/
theorem backward_in (n : Nat) (a : Option Addr) (len cap : Nat) (w : World) :
    CallsIn Fence.wide n Tryz.prog 75 #[.slice a len cap] w fun e w' => e = .returned (.func (.func 98) #[] #[.pointer (some ⟨w.heap.size, 0, none⟩)]) ∧ w' = w.alloc (.cells #[.slice a len cap] 23) := by
  refine callsIn_of_wp Tryz.func75 rfl trivial ?_ rfl
  simp only [Tryz.ntmps75, List.size_toArray, List.length_cons, List.length_nil, Nat.reduceAdd, Nat.reduceSub, Array.replicate_succ, Array.replicate_zero, List.push_toArray, List.append_toArray, List.nil_append, List.cons_append]
  gi_wp2
  go_ret
  exact ⟨rfl, rfl⟩

/-- What a round keeps: what lay below, and the box of the list. -/
def BackK (n₀ Bn : Nat) (W W' : World) : Prop := Below n₀ W W' ∧ W'.heap[Bn]? = W.heap[Bn]?

theorem nodes_below {n₀ : Nat} {W W' : World} {a : Option Addr} {len : Nat} {ns : List Nd} (h : NodesAt W a len ns) (hl : ∀ b off, a = some ⟨b, off, none⟩ → len ≠ 0 → b < n₀) (hb : Below n₀ W W') : NodesAt W' a len ns := by
  obtain ⟨h1, h0 | ⟨b, off, ha, hc⟩⟩ := h
  · exact ⟨h1, .inl h0⟩
  · by_cases h0 : len = 0
    · exact ⟨h1, .inl h0⟩
    · have hbn := hl b off ha h0
      exact ⟨h1, .inr ⟨b, off, ha, fun i n hn => ⟨(hb.cell (p := ⟨b, _, none⟩) hbn).trans (hc i n hn).1, (hb.cell (p := ⟨b, _, none⟩) hbn).trans (hc i n hn).2.1, (hb.cell (p := ⟨b, _, none⟩) hbn).trans (hc i n hn).2.2⟩⟩⟩

theorem nodes_lt {W : World} {a : Option Addr} {len : Nat} {ns : List Nd} (h : NodesAt W a len ns) : ∀ b off, a = some ⟨b, off, none⟩ → len ≠ 0 → b < W.heap.size := by
  intro b off ha h0
  obtain ⟨b', off', n, ha', _, hc, _⟩ := h.node (i := 0) (by omega)
  rw [ha] at ha'
  cases ha'
  exact World.block_lt_of_cell? W _ hc

theorem backward_stops (n : Nat) (hn : 1 ≤ n) (Bn n₀ : Nat) (a : Option Addr) (len cap : Nat) (ns : List Nd) (hl : len ≤ 2097152) (hlow : ∀ b off, a = some ⟨b, off, none⟩ → len ≠ 0 → b < n₀) (w : World) (hn₀ : n₀ ≤ w.heap.size) (hBn : Bn < w.heap.size)
    (hc : w.cell? ⟨Bn, 0, none⟩ = some (.slice a len cap)) (hN : NodesAt w a len ns) :
    SeqStopsK Fence.wide n Tryz.prog 98 #[.pointer (some ⟨Bn, 0, none⟩)] (fun x : Elt ns => #[Value.int .i64 x.i, ndV x.n]) (BackK n₀ Bn) (fun ys => ys = backE ns ns.length (Nat.le_refl _)) (fun pre => pre <+: backE ns ns.length (Nat.le_refl _)) ns.length w := fun l J Jx W hW hJ _ hY h0 =>
  back1_in n hn l Bn a len cap ns hl (BackK n₀ Bn) (fun W W' hk h => (World.cell?_of_block (a := ⟨Bn, 0, none⟩) hk.2).trans h) (fun W W' hk h => nodes_below h hlow hk.1) J Jx hY W
    ((hW.cell (p := ⟨Bn, 0, none⟩) hBn).trans hc) (nodes_below hN hlow (hW.mono hn₀)) h0

end Go.Proofs.YtncceljffcjoiaaGreatDoor

/-
  PLAIN MATHEMATICS OF A STACK OF SUMS: nodes from the last to the first one; the paths that wait for their parent are on top.
-/
namespace Go.Proofs.YtncceljffcjoiaaGreatDoor

/-- The number of a path's last letter. -/
def nameN (q : ByteArray) : Int := ((q.data.toList.getLast?.getD 97).toNat : Int) - 97

abbrev Stk := List (ByteArray × Int)

/-- The paths just behind p are taken off, one sum after the other. -/
def popL (p : ByteArray) : Int → Stk → Int × Stk
  | n, [] => (n, [])
  | n, x :: r => if parB x.1 = p then popL p ((31 * n + 7 * nameN x.1 + 100 * x.2 + 3) % 9973) r else (n, x :: r)

def stepNd (n : Nd) (a : List Int × Stk) : List Int × Stk :=
  ((popL n.p (baseW (n.k, n.v)) a.2).1 :: a.1, (n.p, (popL n.p (baseW (n.k, n.v)) a.2).1) :: (popL n.p (baseW (n.k, n.v)) a.2).2)

/-- The sums of a list of nodes, and the stack that is left. -/
def runSt (ns : List Nd) : List Int × Stk := ns.foldr stepNd ([], [])

theorem runSt_cons (n : Nd) (r : List Nd) : runSt (n :: r) = stepNd n (runSt r) := rfl

theorem runSt_length : ∀ ns : List Nd, (runSt ns).1.length = ns.length
  | [] => rfl
  | n :: r => by rw [runSt_cons]; show (runSt r).1.length + 1 = _; rw [runSt_length r]; rfl

/-! ## What is on a stack -/

def StkOk (S : Stk) : Prop := ∀ x ∈ S, vpB x.1 = true ∧ 0 ≤ x.2 ∧ x.2 ≤ 9972

theorem popL_ok {p : ByteArray} : ∀ {S : Stk} {n : Int}, StkOk S → 0 ≤ n ∧ n ≤ 9972 → StkOk (popL p n S).2 ∧ (0 ≤ (popL p n S).1 ∧ (popL p n S).1 ≤ 9972)
  | [], n, h, hn => ⟨h, hn⟩
  | x :: r, n, h, hn => by
    unfold popL
    split
    · exact popL_ok (fun y hy => h y (List.mem_cons_of_mem _ hy)) (by omega)
    · exact ⟨h, hn⟩

theorem popL_len {p : ByteArray} : ∀ {S : Stk} {n : Int}, (popL p n S).2.length ≤ S.length
  | [], n => Nat.le_refl _
  | x :: r, n => by
    unfold popL
    split
    · exact Nat.le_trans (popL_len (S := r)) (by simp)
    · exact Nat.le_refl _

/-- Nodes that a run can start from. -/
def NdsOk (ns : List Nd) : Prop := ∀ n ∈ ns, vpB n.p = true ∧ validB n.k n.v = true

theorem base_ok {k v : Int} (h : validB k v = true) : 0 ≤ baseW (k, v) ∧ baseW (k, v) ≤ 9972 := by
  have := base_range (c := (k, v)) h
  exact ⟨by omega, by omega⟩

theorem runSt_ok : ∀ {ns : List Nd}, NdsOk ns → StkOk (runSt ns).2 ∧ (runSt ns).2.length ≤ ns.length
  | [], _ => ⟨fun x hx => (by cases hx), Nat.le_refl _⟩
  | n :: r, h => by
    obtain ⟨h1, h2⟩ := runSt_ok (ns := r) fun m hm => h m (List.mem_cons_of_mem _ hm)
    obtain ⟨hp, hv⟩ := h n (by simp)
    obtain ⟨g1, g2⟩ := popL_ok (p := n.p) h1 (base_ok hv)
    rw [runSt_cons]
    refine ⟨fun x hx => ?_, ?_⟩
    · rcases List.mem_cons.1 hx with rfl | hx
      · exact ⟨hp, g2⟩
      · exact g1 x hx
    · show (popL _ _ _).2.length + 1 ≤ _
      have := popL_len (p := n.p) (S := (runSt r).2) (n := baseW (n.k, n.v))
      simp only [List.length_cons]; omega

theorem runSt_ok' {ns : List Nd} (h : NdsOk ns) (i : Nat) : StkOk (runSt (ns.drop i)).2 ∧ (runSt (ns.drop i)).2.length ≤ ns.length - i := by
  have := runSt_ok (ns := ns.drop i) fun m hm => h m (List.mem_of_mem_drop hm)
  rwa [List.length_drop] at this

/-! ## The run over a tree -/

def lt4 (k : Nat) : UInt8 := UInt8.ofNat (97 + k)

theorem lt4_letter {k : Nat} (h : k < 4) : Pm.letter (lt4 k) = true := by
  rcases (by omega : k = 0 ∨ k = 1 ∨ k = 2 ∨ k = 3) with rfl | rfl | rfl | rfl <;> decide

theorem lt4_name {k : Nat} (h : k < 4) : ((lt4 k).toNat : Int) - 97 = k := by
  rcases (by omega : k = 0 ∨ k = 1 ∨ k = 2 ∨ k = 3) with rfl | rfl | rfl | rfl <;> decide

theorem lt4_inj {j k : Nat} (hj : j < 4) (hk : k < 4) (h : lt4 j = lt4 k) : j = k := by
  have h1 := lt4_name hj
  have h2 := lt4_name hk
  rw [h] at h1
  omega

theorem Wrd.snoc {w : List UInt8} (hw : Wrd w) (hl : w.length < 4) {k : Nat} (hk : k < 4) : Wrd (w ++ [lt4 k]) :=
  ⟨by simp; omega, fun x hx => by
    rcases List.mem_append.1 hx with hx | hx
    · exact hw.2 x hx
    · rw [List.mem_singleton.1 hx]; exact lt4_letter hk⟩

theorem flat_last : ∀ (w : List UInt8) (c : UInt8), (Pm.flat (w ++ [c])).getLast? = some c
  | [], c => rfl
  | x :: w, c => by
    show (47 :: x :: Pm.flat (w ++ [c])).getLast? = some c
    have := flat_last w c
    rw [List.getLast?_cons, List.getLast?_cons, this]
    rfl

theorem name_word (w : List UInt8) {k : Nat} (hk : k < 4) : nameN (pB (w ++ [lt4 k])) = k := by
  unfold nameN
  rw [pB_list]
  unfold Pm.pathOf
  rw [if_neg (by simp), flat_last]
  exact lt4_name hk

def kidK (G : List UInt8 → Int × Int) (d : Nat) (w : List UInt8) (k : Nat) : Stk :=
  if (G (w ++ [lt4 k])).1 = 0 then [] else [(pB (w ++ [lt4 k]), sumW G d (w ++ [lt4 k]))]

def kids (G : List UInt8 → Int × Int) : Nat → List UInt8 → Stk
  | 0, _ => []
  | d + 1, w => (List.range 4).flatMap (kidK G d w)

def AwayW (w : List UInt8) (S : Stk) : Prop := ∀ x ∈ S, ∃ v, Wrd v ∧ v ≠ [] ∧ x.1 = pB v ∧ ¬ (w <+: v)

theorem popL_away {w : List UInt8} (hw : Wrd w) {S : Stk} (h : AwayW w S) (n : Int) : popL (pB w) n S = (n, S) := by
  cases S with
  | nil => rfl
  | cons x r =>
    obtain ⟨v, hv, hn, e, hp⟩ := h x (List.mem_cons_self ..)
    unfold popL
    rw [if_neg]
    rw [e, parB_pB hv hn]
    intro q
    have := pB_inj hv.dropLast hw q
    exact hp (by rw [← this]; exact List.dropLast_prefix v)

theorem popL_kids (G : List UInt8 → Int × Int) (d : Nat) {w : List UInt8} (hw : Wrd w) (hl : w.length < 4) {S : Stk} (h : AwayW w S) : ∀ (ks : List Nat), (∀ k ∈ ks, k < 4) → ∀ n,
    popL (pB w) n (ks.flatMap (kidK G d w) ++ S) = (ks.foldl (fun n k => if (G (w ++ [lt4 k])).1 = 0 then n else stepW (sumW G d (w ++ [lt4 k])) k n) n, S)
  | [], _, n => by simpa using popL_away hw h n
  | k :: ks, hk, n => by
    have ih := popL_kids G d hw hl h ks (fun j hj => hk j (List.mem_cons_of_mem _ hj))
    have hk4 := hk k (List.mem_cons_self ..)
    rw [List.flatMap_cons, List.foldl_cons]
    unfold kidK
    by_cases hz : (G (w ++ [lt4 k])).1 = 0
    · rw [if_pos hz, if_pos hz]
      exact ih n
    · rw [if_neg hz, if_neg hz]
      show popL (pB w) n ((pB (w ++ [lt4 k]), sumW G d (w ++ [lt4 k])) :: (ks.flatMap (kidK G d w) ++ S)) = _
      unfold popL
      rw [if_pos]
      · rw [name_word w hk4]
        exact ih _
      · show parB (pB (w ++ [lt4 k])) = pB w
        rw [parB_pB (hw.snoc hl hk4) (by simp), List.dropLast_concat]

theorem kids_none {G : List UInt8 → Int × Int} {d : Nat} {w : List UInt8} (h : d ≠ 0 → ∀ k, k < 4 → (G (w ++ [lt4 k])).1 = 0) : kids G d w = [] := by
  cases d with
  | zero => rfl
  | succ d =>
    show (List.range 4).flatMap (kidK G d w) = []
    rw [List.flatMap_eq_nil_iff]
    intro k hk
    unfold kidK
    rw [if_pos (h (by omega) k (List.mem_range.1 hk))]

/-- What is somewhere has a directory ahead of it. -/
def Grown (G : List UInt8 → Int × Int) : Prop := ∀ w k, k < 4 → Wrd w → w.length < 4 → (G (w ++ [lt4 k])).1 ≠ 0 → (G w).1 = 1

/-- One node above what is behind it. -/
theorem popL_node {G : List UInt8 → Int × Int} (hG : Grown G) {d : Nat} {w : List UInt8} (hw : Wrd w) (hd : w.length + d = 4) {S : Stk} (h : AwayW w S) :
    popL (pB w) (baseW (G w)) (kids G d w ++ S) = (sumW G d w, S) := by
  cases d with
  | zero => exact popL_away hw h _
  | succ d =>
    have hl : w.length < 4 := by omega
    have := popL_kids G d hw hl h (List.range 4) (fun k hk => List.mem_range.1 hk) (baseW (G w))
    rw [show kids G (d + 1) w = (List.range 4).flatMap (kidK G d w) from rfl, this]
    have hp : partW G d w 4 = sumW G (d + 1) w := by
      by_cases h1 : (G w).1 = 1
      · exact (sumW_part _ _ _ h1).symm
      · rw [sumW_file _ _ _ h1]
        exact partW_none _ _ _ (fun k hk => Classical.byContradiction fun hz => h1 (hG w k hk hw hl hz)) 4 (Nat.le_refl _)
    rw [← hp]; rfl

def sumN (G : List UInt8 → Int × Int) (n : Nd) : Int := sumW G (4 - (wordOf n.p).length) (wordOf n.p)

theorem sumN_at {G : List UInt8 → Int × Int} {w : List UInt8} (hw : Wrd w) {d : Nat} (hd : w.length + d = 4) : sumN G (ndAt G w) = sumW G d w := by
  unfold sumN
  show sumW G (4 - (wordOf (pB w)).length) (wordOf (pB w)) = _
  rw [wordOf_pB hw.2, show 4 - w.length = d by omega]

theorem awayW_snoc {w : List UInt8} {S : Stk} (h : AwayW w S) (c : UInt8) : AwayW (w ++ [c]) S := fun x hx => by
  obtain ⟨v, h1, h2, h3, h4⟩ := h x hx
  exact ⟨v, h1, h2, h3, fun q => h4 ((List.prefix_append w [c]).trans q)⟩

theorem awayW_app {w : List UInt8} {S T : Stk} (h : AwayW w S) (h' : AwayW w T) : AwayW w (S ++ T) := fun x hx => by
  rcases List.mem_append.1 hx with hx | hx
  · exact h x hx
  · exact h' x hx

theorem awayW_kid (G : List UInt8 → Int × Int) (d : Nat) {w : List UInt8} (hw : Wrd w) (hl : w.length < 4) {j : Nat} (hj : j < 4) (ks : List Nat) (hk : ∀ k ∈ ks, k < 4 ∧ k ≠ j) : AwayW (w ++ [lt4 j]) (ks.flatMap (kidK G d w)) := fun x hx => by
  obtain ⟨k, hk', hx⟩ := List.mem_flatMap.1 hx
  obtain ⟨hk4, hkj⟩ := hk k hk'
  unfold kidK at hx
  split at hx
  · cases hx
  · rw [List.mem_singleton] at hx
    subst hx
    refine ⟨w ++ [lt4 k], hw.snoc hl hk4, by simp, rfl, fun q => hkj ?_⟩
    have e := q.eq_of_length (by simp)
    have := List.append_cancel_left e
    simp only [List.cons.injEq, and_true] at this
    exact (lt4_inj hj hk4 this).symm

theorem lst_range (G : List UInt8 → Int × Int) (d : Nat) (w : List UInt8) : lst G (d + 1) w = (List.range 4).flatMap (fun k => oneAt G (w ++ [lt4 k]) ++ lst G d (w ++ [lt4 k])) := rfl

theorem run_lst {G : List UInt8 → Int × Int} (hG : Grown G) : ∀ (d : Nat) (w : List UInt8), Wrd w → w.length + d = 4 → ∀ (A : List Int) (S : Stk), AwayW w S →
    (lst G d w).foldr stepNd (A, S) = ((lst G d w).map (sumN G) ++ A, kids G d w ++ S)
  | 0, w, hw, hd, A, S, hS => rfl
  | d + 1, w, hw, hd, A, S, hS => by
    have hl : w.length < 4 := by omega
    have hone : ∀ k, k < 4 → ∀ (A : List Int) (S : Stk), AwayW (w ++ [lt4 k]) S →
        (oneAt G (w ++ [lt4 k]) ++ lst G d (w ++ [lt4 k])).foldr stepNd (A, S) = ((oneAt G (w ++ [lt4 k]) ++ lst G d (w ++ [lt4 k])).map (sumN G) ++ A, kidK G d w k ++ S) := by
      intro k hk A S hS
      have hw' := hw.snoc hl hk
      have hd' : (w ++ [lt4 k]).length + d = 4 := by simp; omega
      rw [List.foldr_append, run_lst hG d _ hw' hd' A S hS]
      unfold oneAt kidK
      by_cases hz : (G (w ++ [lt4 k])).1 = 0
      · rw [if_pos hz, if_pos hz, kids_none]
        · rfl
        · intro hd0 j hj
          refine Classical.byContradiction fun hc => ?_
          have := hG _ j hj hw' (by omega) hc
          rw [hz] at this; cases this
      · rw [if_neg hz, if_neg hz]
        show stepNd (ndAt G (w ++ [lt4 k])) _ = _
        unfold stepNd
        have e := popL_node hG hw' hd' hS
        show ((popL (pB (w ++ [lt4 k])) (baseW (G (w ++ [lt4 k]))) _).1 :: _, _) = _
        show ((popL (pB (w ++ [lt4 k])) (baseW (G (w ++ [lt4 k]))) (kids G d (w ++ [lt4 k]) ++ S)).1 :: _, (pB (w ++ [lt4 k]), (popL (pB (w ++ [lt4 k])) (baseW (G (w ++ [lt4 k]))) (kids G d (w ++ [lt4 k]) ++ S)).1) :: (popL (pB (w ++ [lt4 k])) (baseW (G (w ++ [lt4 k]))) (kids G d (w ++ [lt4 k]) ++ S)).2) = _
        rw [e, List.map_append, List.map_cons, List.map_nil, sumN_at hw' hd']
        rfl
    have hall : ∀ (ks : List Nat), (∀ k ∈ ks, k < 4) → ks.Nodup →
        (ks.flatMap (fun k => oneAt G (w ++ [lt4 k]) ++ lst G d (w ++ [lt4 k]))).foldr stepNd (A, S) = ((ks.flatMap (fun k => oneAt G (w ++ [lt4 k]) ++ lst G d (w ++ [lt4 k]))).map (sumN G) ++ A, ks.flatMap (kidK G d w) ++ S) := by
      intro ks
      induction ks with
      | nil => intro _ _; rfl
      | cons k ks ih =>
        intro hk hn
        obtain ⟨hn1, hn2⟩ := List.nodup_cons.1 hn
        have hk4 := hk k (by simp)
        rw [List.flatMap_cons, List.flatMap_cons, List.foldr_append, ih (fun j hj => hk j (List.mem_cons_of_mem _ hj)) hn2,
          hone k hk4 _ _ (awayW_app (awayW_kid G d hw hl hk4 ks fun j hj => ⟨hk j (List.mem_cons_of_mem _ hj), fun e => hn1 (e ▸ hj)⟩) (awayW_snoc hS _))]
        simp only [List.map_append, List.append_assoc]
    rw [lst_range]
    exact hall (List.range 4) (fun k hk => List.mem_range.1 hk) List.nodup_range

theorem grown_of {ns : List Nd} (h : validT ns = true) : Grown (Fof ns) := by
  intro w k hk hw hl hz
  have hw' := hw.snoc hl hk
  have hm := node_of h hw' (by simp) hz
  have g := (((validT_iff ns).1 h).2.1 _ hm).2.2.2
  rw [show (ndAt (Fof ns) (w ++ [lt4 k])).p = pB (w ++ [lt4 k]) from rfl, parB_pB hw' (by simp), List.dropLast_concat] at g
  exact g

theorem all_lst {ns : List Nd} (h : validT ns = true) : lst (Fof ns) 4 [] = ns := by
  have := under_lst h Wrd.nil
  rw [show 4 - ([] : List UInt8).length = 4 from rfl] at this
  rw [this, List.filter_eq_self]
  intro n hn
  obtain ⟨w, hw, hne, e, _⟩ := node_word h hn
  rw [e, undB_pB Wrd.nil hw, decide_eq_true_eq]
  refine ⟨List.nil_prefix, ?_⟩
  have : w.length ≠ 0 := fun e => hne (List.length_eq_zero_iff.1 e)
  simp; omega

/-- The program's sums of a tree. -/
theorem run_tree {ns : List Nd} (h : validT ns = true) : runSt ns = (ns.map (fun n => treeSum ns n.p), kids (Fof ns) 4 []) := by
  have := run_lst (grown_of h) 4 [] Wrd.nil rfl [] [] (fun x hx => by cases hx)
  rw [all_lst h, List.append_nil, List.append_nil] at this
  show ns.foldr stepNd ([], []) = _
  rw [this]
  congr 1
  refine List.map_congr_left fun n hn => ?_
  unfold treeSum
  rw [h, (good_path h hn).2]
  rfl

theorem run_root {ns : List Nd} (h : validT ns = true) : (runSt (⟨rootB, 1, 0⟩ :: ns)).1 = treeSum ns rootB :: ns.map (fun n => treeSum ns n.p) := by
  rw [runSt_cons, run_tree h]
  unfold stepNd
  show (popL (pB []) (baseW (1, 0)) (kids (Fof ns) 4 [])).1 :: _ = _
  have e := popL_node (grown_of h) (d := 4) Wrd.nil rfl (S := []) (fun x hx => by cases hx)
  rw [List.append_nil, Fof_root] at e
  rw [e]
  have := treeSum_word h Wrd.nil
  rw [pB_root] at this
  rw [this]
  rfl

theorem nds_ok {ns : List Nd} (h : validT ns = true) : NdsOk ns := fun n hn =>
  ⟨(good_path h hn).2, (((validT_iff ns).1 h).2.1 n hn).2.1⟩

theorem nds_root {ns : List Nd} (h : validT ns = true) : NdsOk (⟨rootB, 1, 0⟩ :: ns) := fun n hn => by
  rcases List.mem_cons.1 hn with rfl | hn
  · exact ⟨by decide, by decide⟩
  · exact nds_ok h n hn

/-- A path that is in no node has the sum of nothing. -/
theorem sum_missing {ns : List Nd} {p : ByteArray} (h : validT ns = true) (hv : vpB p = true) (hr : p ≠ rootB) (hm : ∀ n ∈ ns, n.p ≠ p) : treeSum ns p = 1 := by
  obtain ⟨w, hw, rfl⟩ := vpB_word hv
  have e : Fof ns w = (0, 0) := getT_none hr hm
  rw [treeSum_word h hw, sumW_file _ _ _ (by rw [e]; decide), e]
  rfl

end Go.Proofs.YtncceljffcjoiaaGreatDoor

/-
  WALKS: the stack of paths: impl.contentSum, pathStack.top, pathStack.sum.
-/
namespace Go.Proofs.YtncceljffcjoiaaGreatDoor
open Go.RowKit
set_option linter.unusedVariables false

/-- What a walk leaves that ends in a number. -/
def IntPost (n : Int) (W : World) (e : Ending) (w' : World) : Prop := e = .returned (.int .i64 n) ∧ Below W.heap.size W w'

set_option maxHeartbeats 1000000 in
set_option maxRecDepth 100000 in
theorem contentSum_c (k v : Int) (h : validB k v = true) (W : World) : Calls Tryz.prog 47 #[con k v] W (IntPost (baseW (k, v)) W) := by
  unfold validB at h
  simp only [decide_eq_true_eq] at h
  have hk2 : k ≤ 2 := by omega
  have hk0 : 0 ≤ k := by omega
  have hv0 : 0 ≤ v := by omega
  have hv9 : v ≤ 99 := by omega
  have w1 : IntKind.i64.wrap (200 * k) = 200 * k := IntWalk.i64_in _ (by omega)
  have w2 : IntKind.i64.wrap (1 + 200 * k) = 1 + 200 * k := IntWalk.i64_in _ (by omega)
  have w3 : IntKind.i64.wrap (1 + 200 * k + v) = 1 + 200 * k + v := IntWalk.i64_in _ (by omega)
  clear h
  unfold con
  go_enter Tryz.func47, Tryz.ntmps47
  go_wp2
  refine bodyPost_ret (v := .int .i64 (1 + 200 * k + v)) (by simp [results, Tryz.f47, go_sem]) rfl ⟨rfl, below_box _ _⟩

theorem infoSummed : (Tryz.prog.info? 144).map (fun i => (i.zero, i.size, i.bytes)) = some (some (.agg #[.string ⟨#[]⟩, .int .i64 0]), 2, 24) := by kernel_rfl

/-- The cells of a stack, the lowest path first. -/
def flatS (st : Stk) : List Value := st.flatMap (fun x => [.string x.1, .int .i64 x.2])

theorem flatS_append (a b : Stk) : flatS (a ++ b) = flatS a ++ flatS b := by unfold flatS; rw [List.flatMap_append]
theorem flatS_one (x : ByteArray × Int) : flatS [x] = [.string x.1, .int .i64 x.2] := rfl
theorem flatS_length (st : Stk) : (flatS st).length = st.length * 2 := by
  induction st with
  | nil => rfl
  | cons n r ih =>
    have : flatS (n :: r) = [.string n.1, .int .i64 n.2] ++ flatS r := rfl
    rw [this, List.length_append, ih]
    simp; omega

/-- The path on top, or none. -/
def topQ (st : Stk) : ByteArray × Int := st.getLast?.getD (⟨#[]⟩, 0)

theorem topQ_nil : topQ [] = (⟨#[]⟩, 0) := rfl
theorem topQ_snoc (st : Stk) (x : ByteArray × Int) : topQ (st ++ [x]) = x := by unfold topQ; simp

def SumdRet (x : ByteArray × Int) (W : World) (e : Ending) (w' : World) : Prop := e = .returned (.agg #[.string x.1, .int .i64 x.2]) ∧ Below W.heap.size W w'

theorem sumd_results (fn : Func) (hf : fn.results = #[.cell 2 144]) (W : World) (n : Nat) (q : ByteArray) (s : Int) (tmps : Array Value) (ht : tmps[2]? = some (.pointer (some ⟨n, 0, none⟩)))
    (h : W.cell? ⟨n, 0, none⟩ = some (.string q) ∧ W.cell? ⟨n, 1, none⟩ = some (.int .i64 s)) : (results fn tmps).run Tryz.prog W = .ok (.agg #[.string q, .int .i64 s]) W := by
  obtain ⟨c0, c1⟩ := h
  simp [results, hf, go_sem, ht, c0, c1]

theorem sumd_new (fn : Func) (hf : fn.results = #[.cell 2 144]) {W : World} {q : ByteArray} {s : Int} {x : ByteArray × Int} (hx : x = (q, s)) {tmps : Array Value} (ht : tmps[2]? = some (.pointer (some ⟨W.heap.size, 0, none⟩))) :
    bodyPost Tryz.prog fn (SumdRet x W) .ret ⟨tmps, []⟩ (W.alloc (.cells #[.string q, .int .i64 s] 144)) := by
  subst hx
  have h2 := two_new W (.string q) (.int .i64 s) 144
  exact bodyPost_ret (sumd_results fn hf _ W.heap.size q s _ ht ⟨h2.1, h2.2.1⟩) rfl ⟨rfl, below_box _ _⟩

set_option maxHeartbeats 1000000 in
set_option maxRecDepth 100000 in
theorem top_empty (a : Option Addr) (cap : Nat) (W : World) : Calls Tryz.prog 99 #[.slice a 0 cap] W (SumdRet (topQ []) W) := by
  have HQ := Lib.hid topQ_nil
  have T1 := Lib.hid (two_new W (.string ⟨#[]⟩) (.int .i64 0) 144)
  obtain ⟨g0, g1, f0, f1, -⟩ := T1.out
  go_enter Tryz.func99, Tryz.ntmps99
  go_wp2
  exact sumd_new _ rfl HQ.out rfl

set_option maxHeartbeats 1000000 in
set_option maxRecDepth 100000 in
theorem top_c (base : Nat) (sl : Value) (st : Stk) (hl : st.length ≤ 2097152) (W : World) (ho : W.ownsRow base 144 2 sl st.length (flatS st)) :
    Calls Tryz.prog 99 #[sl] W (SumdRet (topQ st) W) := by
  rcases List.eq_nil_or_concat st with rfl | ⟨st', x, rfl⟩
  · rcases ho.2 with ⟨rfl, h0⟩ | ⟨g, cap, cur, rfl, h1, h2, h3, h4, h5, h6⟩
    · exact top_empty none 0 W
    · exact top_empty (some ⟨g, 0, none⟩) cap W
  · rw [List.concat_eq_append] at *
    rcases ho.2 with ⟨rfl, h0⟩ | ⟨g, cap, cur, rfl, h1, h2, h3, h4, h5, h6⟩
    · simp at h0
    · obtain ⟨q, s⟩ := x
      have HQ := Lib.hid (topQ_snoc st' (q, s))
      have hlen : (st' ++ [(q, s)]).length = st'.length + 1 := by simp
      have hfl := flatS_length st'
      have c0 := ho.cellAt (st'.length * 2) (by rw [hlen]; omega)
      have c1 := ho.cellAt (st'.length * 2 + 1) (by rw [hlen]; omega)
      rw [flatS_append, flatS_one, List.getElem?_append_right (by omega), hfl] at c0 c1
      rw [hlen] at hl h3 ⊢
      generalize st'.length = m at hl h3 c0 c1 ⊢
      simp only [Nat.sub_self, List.getElem?_cons_zero] at c0
      rw [show m * 2 + 1 - m * 2 = 1 by omega, List.getElem?_cons_succ, List.getElem?_cons_zero] at c1
      have hgl := World.block_lt_of_cell? W _ c0
      have T1 := Lib.hid (two_new W (.string ⟨#[]⟩) (.int .i64 0) 144)
      obtain ⟨g0, g1, f0, f1, -⟩ := T1.out
      clear ho h6 h5 h2 h4 hfl hlen
      have hm0 : (0 : Int) ≤ m := by omega
      have e0 : (((m + 1 : Nat) : Int) == 0) = false := beq_eq_false_iff_ne.2 (by omega)
      go_enter Tryz.func99, Tryz.ntmps99
      go_wp2
      exact sumd_new _ rfl HQ.out rfl

/-- What the stack's steps keep: all that lies below a base, but for the stack's own box; and whatever is no cells. -/
structure StkKept (B base : Nat) (W W' : World) : Prop where
  low : Below 0 W W'
  block : ∀ k, k < base → k ≠ B → W'.heap[k]? = W.heap[k]?
  others : KeepsOthers W W'

theorem StkKept.trans {B base : Nat} {W W1 W2 : World} (h : StkKept B base W W1) (k : StkKept B base W1 W2) : StkKept B base W W2 :=
  ⟨h.low.trans k.low, fun j hj hne => (k.block j hj hne).trans (h.block j hj hne), h.others.trans k.others⟩

theorem StkKept.of_below {B base : Nat} {W W' : World} (hb : base ≤ W.heap.size) (h : Below W.heap.size W W') : StkKept B base W W' :=
  ⟨h.mono (Nat.zero_le _), fun j hj _ => h.block j (by omega), ⟨h.size, fun k o hk _ => (h.block k (Array.getElem?_eq_some_iff.1 hk).1).trans hk⟩⟩

theorem StkKept.set {B base : Nat} (W : World) (i : Nat) (v : Value) : StkKept B base W (W.setCell ⟨B, i, none⟩ v) :=
  ⟨⟨rfl, rfl, rfl, by simp [World.setCell], fun k hk => absurd hk (Nat.not_lt_zero _)⟩, fun j _ hne => Below.heap_setCell _ _ _ _ hne, KeepsOthers.setCell _ _ _⟩

theorem StkKept.cell {B base : Nat} {W W' : World} (h : StkKept B base W W') {p : Addr} (hp : p.block < base) (hne : p.block ≠ B) {v : Value} (hc : W.cell? p = some v) : W'.cell? p = some v :=
  (World.cell?_of_block (h.block _ hp hne)).trans hc

/-- The stack in memory: its box, and its row beyond a base. -/
structure StkAt (B base : Nat) (W : World) (sl : Value) (st : Stk) : Prop where
  box : Boxed W B 115 sl
  row : W.ownsRow base 144 2 sl st.length (flatS st)
  lt : B < base
  le : base ≤ W.heap.size

theorem StkAt.below {B base : Nat} {W W' : World} {sl : Value} {st : Stk} (h : StkAt B base W sl st) (hb : Below W.heap.size W W') : StkAt B base W' sl st :=
  ⟨(hb.block _ (Nat.lt_of_lt_of_le h.lt h.le)).trans h.box, own_below h.row hb, h.lt, Nat.le_trans h.le hb.size⟩

/-- What pathStack.sum leaves. -/
def SumAct (B base : Nat) (st : Stk) (p : ByteArray) (k v : Int) (W : World) (e : Ending) (W' : World) : Prop :=
  ∃ sl', e = .returned (.int .i64 (popL p (baseW (k, v)) st.reverse).1) ∧ StkAt B base W' sl' ((popL p (baseW (k, v)) st.reverse).2.reverse ++ [(p, (popL p (baseW (k, v)) st.reverse).1)]) ∧ StkKept B base W W'

/-- How many paths a stack has. -/
def lenAt (W : World) (B : Nat) : Nat := match W.cell? ⟨B, 0, none⟩ with
  | some (.slice _ n _) => n
  | _ => 0

def PopRel (B base : Nat) (st : Stk) (p : ByteArray) (n0 : Int) (W : World) (n q : Value) (wr : World) : Prop :=
  ∃ (m : Int) (stk : Stk) (sl : Value) (c : Nat), n = .int .i64 m ∧ q = .pointer (some ⟨c, 0, none⟩) ∧ 0 ≤ m ∧ m ≤ 9972 ∧ Hid (popL p m stk.reverse = popL p n0 st.reverse) ∧ Hid (StkOk stk) ∧ Hid (stk.length ≤ st.length) ∧
    Two wr c (.string (topQ stk).1) (.int .i64 (topQ stk).2) ∧ Hid (StkAt B base wr sl stk) ∧ W.heap.size ≤ c ∧ wr.cell? ⟨W.heap.size, 0, none⟩ = some (.string p) ∧ Hid (StkKept B W.heap.size W wr ∧ StkKept B base W wr)

theorem vpB_size8 {p : ByteArray} (h : vpB p = true) : p.size ≤ 8 := by
  obtain ⟨w, hw, rfl⟩ := vpB_word h
  exact pB_size hw

theorem topQ_size {stk : Stk} (h : StkOk stk) : (topQ stk).1.size ≤ 8 := by
  rcases List.eq_nil_or_concat stk with rfl | ⟨st', x, rfl⟩
  · decide
  · rw [List.concat_eq_append] at *
    rw [topQ_snoc]
    exact vpB_size8 (h x (by simp)).1

/-- The last letter of a path whose parent is one. -/
theorem path_last {q p : ByteArray} (hq : vpB q = true) (hp : vpB p = true) (h : parB q = p) : ∃ (j kx : Nat) (hj : j < q.size), q.size = j + 1 ∧ kx ≤ 3 ∧ (q[j].toNat : Int) = 97 + kx ∧ nameN q = kx ∧ j ≤ 8 := by
  obtain ⟨w, hw, rfl⟩ := vpB_word hq
  have hsz := pB_size hw
  rcases List.eq_nil_or_concat w with rfl | ⟨v, c, rfl⟩
  · rw [← h] at hp; exact absurd hp (by decide)
  · rw [List.concat_eq_append] at *
    have hc := hw.2 c (by simp)
    obtain ⟨kx, hk, rfl⟩ : ∃ kx, kx < 4 ∧ c = lt4 kx := by
      have := (letter_iff c).1 hc
      simp only [letters, List.mem_cons, List.not_mem_nil, or_false] at this
      rcases this with rfl | rfl | rfl | rfl
      · exact ⟨0, by omega, rfl⟩
      · exact ⟨1, by omega, rfl⟩
      · exact ⟨2, by omega, rfl⟩
      · exact ⟨3, by omega, rfl⟩
    have hl : (pB (v ++ [lt4 kx])).data.toList.getLast? = some (lt4 kx) := by
      rw [pB_list]; unfold Pm.pathOf; rw [if_neg (by simp), flat_last]
    have h1 : 1 ≤ (pB (v ++ [lt4 kx])).size := by
      rw [Lib.size_eq]
      cases hd : (pB (v ++ [lt4 kx])).data.toList with
      | nil => rw [hd] at hl; cases hl
      | cons => simp
    refine ⟨(pB (v ++ [lt4 kx])).size - 1, kx, by omega, by omega, by omega, ?_, name_word v hk, by omega⟩
    have e : (pB (v ++ [lt4 kx])).data.toList[(pB (v ++ [lt4 kx])).size - 1]? = some (lt4 kx) := by
      rw [Lib.size_eq, ← List.getLast?_eq_getElem?]; exact hl
    rw [Pm.byte_getElem? _ _ (by omega)] at e
    have := lt4_name hk
    rw [Option.some.inj e]
    omega

theorem StkAt.top {B base : Nat} {W : World} {sl : Value} {st : Stk} {x : ByteArray × Int} (h : StkAt B base W sl (st ++ [x])) : ∃ g cap, sl = .slice (some ⟨g, 0, none⟩) (st.length + 1) cap ∧ st.length + 1 ≤ cap ∧ cap ≤ maxLen ∧
    StkAt B base (W.setCell ⟨B, 0, none⟩ (.slice (some ⟨g, 0, none⟩) st.length cap)) (.slice (some ⟨g, 0, none⟩) st.length cap) st := by
  obtain ⟨hb, hr, hlt, hle⟩ := h
  rw [List.length_append, List.length_singleton, flatS_append] at hr
  have hr' := hr
  rcases hr.2 with ⟨_, h0⟩ | ⟨g, cap, cur, rfl, h1, h2, h3, h4, h5, h6⟩
  · omega
  · refine ⟨g, cap, rfl, h3, h4, hb.set _, ?_, hlt, by simpa [World.setCell] using hle⟩
    exact ownsRow_setCell_below (ownsRow_pop (flatS_length st) hr') (by show B < base; exact hlt) _

theorem StkAt.drew {B base : Nat} {W : World} {sl : Value} {st : Stk} (h : StkAt B base W sl st) : StkAt B base W.drew sl st := ⟨h.box, h.row, h.lt, h.le⟩
theorem StkKept.drew {B base : Nat} {W W' : World} (h : StkKept B base W W') : StkKept B base W W'.drew := ⟨h.low.drew, h.block, h.others.trans ⟨Nat.le_refl _, fun _ _ h _ => h⟩⟩

theorem StkAt.far {B base : Nat} {W : World} {sl : Value} {st : Stk} (h : StkAt B base W sl st) {c : Nat} (hc : c ≠ B) (hs : sl.ownBlock ≠ some c) (i : Nat) (v : Value) (hcl : c < W.heap.size) : StkAt B base (W.setCell ⟨c, i, none⟩ v) sl st :=
  ⟨(Below.heap_setCell _ _ _ _ (fun e => hc e.symm)).trans h.box, h.row.kept (grownBy_setCell_at W c i v) (.inr hs), h.lt, by simpa [World.setCell] using h.le⟩

theorem StkAt.lenAt {B base : Nat} {W : World} {g n cap : Nat} {st : Stk} (h : StkAt B base W (.slice (some ⟨g, 0, none⟩) n cap) st) : lenAt W B = n := by
  unfold Go.Proofs.YtncceljffcjoiaaGreatDoor.lenAt
  rw [h.box.cell]

theorem StkKept.setFar {B base : Nat} (W : World) {c : Nat} (h : base ≤ c) (i : Nat) (v : Value) : StkKept B base W (W.setCell ⟨c, i, none⟩ v) :=
  ⟨⟨rfl, rfl, rfl, by simp [World.setCell], fun k hk => absurd hk (Nat.not_lt_zero _)⟩, fun j hj _ => Below.heap_setCell _ _ _ _ (by show j ≠ c; omega), KeepsOthers.setCell _ _ _⟩

theorem StkKept.grown {B base : Nat} {W W' : World} {e : TypeId} {size n : Nat} {v : Value} {xs : List Value} (h : W.ownsRow base e size v n xs) (hb : base ≤ W.heap.size) (hg : W.grownBy W' v.ownBlock) : StkKept B base W W' := by
  refine ⟨⟨hg.os, hg.tape, hg.output, hg.size, fun k hk => absurd hk (Nat.not_lt_zero _)⟩, fun k hk _ => ?_, KeepsOthers.of_grownBy hg fun j o hj ho => ?_⟩
  · exact hg.block k (by omega) fun e => by have := (h.lt k e.symm).1; omega
  · rcases h.2 with ⟨rfl, _⟩ | ⟨g, cap, cur, rfl, h1, h2, _⟩
    · cases hj
    · simp [Value.ownBlock] at hj
      subst hj
      rw [h2] at ho; cases ho; rfl

theorem flatS_snoc (stk : Stk) (p : ByteArray) (m : Int) : flatS (stk ++ [(p, m)]) = flatS stk ++ [.string p, .int .i64 m] := by rw [flatS_append]; rfl

theorem parB_empty {p : ByteArray} (hp : vpB p = true) : parB ⟨#[]⟩ ≠ p := by
  intro e
  rw [← e] at hp
  exact absurd hp (by decide)

/-- The end of pathStack.sum. -/
theorem sum_end {B base : Nat} {st stk : Stk} {p : ByteArray} {k v n0 m : Int} {W wr W5 w4 : World} {sl1 : Value} {g4 c4 : Nat} {tmps : Array Value}
    (hn0 : baseW (k, v) = n0) (hp : popL p m stk.reverse = popL p n0 st.reverse) (hp1 : popL p m stk.reverse = (m, stk.reverse))
    (hK : StkKept B base W wr) (hA4 : StkAt B base wr sl1 stk) (h5 : Below wr.heap.size wr W5) (ht : tmps[4]? = some (.int .i64 m))
    (ho4 : w4.ownsRow base 144 2 (.slice (some ⟨g4, 0, none⟩) (stk.length + 1) c4) (stk.length + 1) (flatS stk ++ [.string p, .int .i64 m]))
    (hg4 : ((W5.alloc (.cells #[.string p, .int .i64 m] 144)).drew).grownBy w4 sl1.ownBlock) :
    bodyPost Tryz.prog Tryz.f76 (SumAct B base st p k v W) .ret ⟨tmps, []⟩ (w4.setCell ⟨B, 0, none⟩ (.slice (some ⟨g4, 0, none⟩) (stk.length + 1) c4)) := by
  have A5 := hA4.below h5
  have A6 : StkAt B base (W5.alloc (.cells #[.string p, .int .i64 m] 144)).drew sl1 stk := (A5.below (below_box _ _)).drew
  have hne : some B ≠ sl1.ownBlock := fun e => by have := (A6.row.lt B e.symm).1; have := A6.lt; omega
  have hbx : Boxed w4 B 115 sl1 := A6.box.kept hg4 hne
  refine bodyPost_ret (v := .int .i64 m) (by simp [results, Tryz.f76, go_sem, ht]) rfl ?_
  have e : popL p (baseW (k, v)) st.reverse = (m, stk.reverse) := by rw [hn0, ← hp, hp1]
  refine ⟨.slice (some ⟨g4, 0, none⟩) (stk.length + 1) c4, by rw [e], ?_, ?_⟩
  · rw [e]
    show StkAt B base _ _ (stk.reverse.reverse ++ [(p, m)])
    rw [List.reverse_reverse]
    refine ⟨hbx.set _, ?_, A6.lt, ?_⟩
    · rw [List.length_append, flatS_snoc]
      exact ownsRow_setCell_below ho4 A6.lt _
    · have := A6.le
      have := hg4.size
      have e2 : (w4.setCell ⟨B, 0, none⟩ (.slice (some ⟨g4, 0, none⟩) (stk.length + 1) c4)).heap.size = w4.heap.size := by simp [World.setCell]
      omega
  · exact (((hK.trans (.of_below hA4.le h5)).trans ((StkKept.of_below A5.le (below_box W5 _)).drew)).trans (.grown A6.row A6.le hg4)).trans (.set _ _ _)

set_option maxHeartbeats 2000000 in
set_option maxRecDepth 100000 in
theorem stackSum_c (B base : Nat) (sl : Value) (st : Stk) (p : ByteArray) (k v : Int) (hl : st.length ≤ 2000000) (hok : StkOk st) (hp : vpB p = true) (hv : validB k v = true) (W : World) (hA : StkAt B base W sl st) :
    Calls Tryz.prog 76 #[.pointer (some ⟨B, 0, none⟩), .agg #[.string p, .int .i64 k, .int .i64 v]] W (SumAct B base st p k v W) := by
  have HA := Lib.hid hA
  have HOK := Lib.hid hok
  have HP := Lib.hid hp
  have HL := Lib.hid hl
  have hb0 := base_ok hv
  obtain ⟨n0, hn0⟩ : ∃ n0, baseW (k, v) = n0 := ⟨_, rfl⟩
  have HC := Lib.hid (fun W' => show Calls Tryz.prog 47 #[.agg #[.int .i64 k, .int .i64 v]] W' (IntPost n0 W') by rw [← hn0]; exact contentSum_c k v hv W')
  have HN0 := Lib.hid hn0
  rw [hn0] at hb0
  obtain ⟨z0, z1⟩ := hb0
  clear hA hok hp hl hv hn0
  go_enter Tryz.func76, Tryz.ntmps76
  go_wp2_with fail
  refine (HC.out _).mono ?_
  rintro e W1 ⟨rfl, hb1⟩
  have r0 := box3_cell hb1 0
  simp at r0
  have A1 := Lib.hid ((HA.out.below (below_box _ _)).below hb1)
  have B1 := Lib.hid (below_next (below_box W _) hb1)
  have hN1 : W.heap.size < W1.heap.size := by have := hb1.size; simp at this; omega
  have hbx := A1.out.box.cell
  have HT := Lib.hid (top_c base sl st (by have := HL.out; omega) W1 A1.out.row)
  clear hb1
  go_wp2_with fail
  refine HT.out.mono ?_
  rintro e W2 ⟨rfl, hb2⟩
  have s0 := cell_kept hb2 r0
  have A2 := Lib.hid (A1.out.below hb2)
  have B2 := Lib.hid (below_next B1.out hb2)
  have hN2 : W.heap.size < W2.heap.size := by have := hb2.size; omega
  clear r0 hbx hb2 hN1
  go_wp2_with fail
  have T3 := Lib.hid (two_new W2 (.string (topQ st).1) (.int .i64 (topQ st).2) 144)
  have A3 := Lib.hid (A2.out.below (below_box W2 (.cells #[.string (topQ st).1, .int .i64 (topQ st).2] 144)))
  have B3 := Lib.hid (below_next B2.out (below_box W2 (.cells #[.string (topQ st).1, .int .i64 (topQ st).2] 144)))
  have s3 := cell_kept (below_box W2 (.cells #[.string (topQ st).1, .int .i64 (topQ st).2] 144)) s0
  have hN3 : W2.heap.size < (W2.alloc (.cells #[.string (topQ st).1, .int .i64 (topQ st).2] 144)).heap.size := by simp
  generalize W2.alloc (.cells #[.string (topQ st).1, .int .i64 (topQ st).2] 144) = W3 at T3 A3 B3 s3 hN3 ⊢
  clear s0
  go_loopw [5, 6] (fun n q wr => PopRel B base st p n0 W n q wr) (fun _ _ wr => lenAt wr B)
  case atStart =>
    exact ⟨n0, st, sl, W2.heap.size, rfl, rfl, z0, z1, rfl, HOK.out, Nat.le_refl _, T3.out, A3.out, by omega, s3, .of_below (Nat.le_refl _) B3.out, .of_below HA.out.le B3.out⟩
  case round =>
    obtain ⟨m, stk, sl1, c, rfl, rfl, m0, m1, HPL, HOK1, HLN, T1, A4, hc, s4, HK⟩ := hrel
    have hqs := topQ_size HOK1.out
    obtain ⟨q, hq⟩ : ∃ q, (topQ stk).1 = q := ⟨_, rfl⟩
    obtain ⟨s, hs⟩ : ∃ s, (topQ stk).2 = s := ⟨_, rfl⟩
    rw [hq] at hqs
    rw [hq, hs] at T1
    have HQ := Lib.hid hq
    have HS := Lib.hid hs
    obtain ⟨pq, hpq⟩ : ∃ pq, parB q = pq := ⟨_, rfl⟩
    have HPP := Lib.hid (fun W' => show Calls Tryz.prog 80 #[.string q] W' (fun e w' => e = .returned (.string pq) ∧ Below W'.heap.size W' w') by rw [← hpq]; exact pathParent_c q (by omega) W')
    have HPQ := Lib.hid hpq
    have HT1 := Lib.hid T1
    obtain ⟨t0, t1, f0, f1, hcl⟩ := T1
    have hNw := World.block_lt_of_cell? wr _ s4
    have HC0 := Lib.hid hc
    have HSR := Lib.hid (And.intro t0 s4)
    have HW := Lib.hid hNw
    clear hq hs hpq hqs hc
    simp only at hNw
    have HS0 : Hid (wr.drew.cell? ⟨c, 0, none⟩ = some (.string q) ∧ wr.drew.cell? ⟨W.heap.size, 0, none⟩ = some (.string p) ∧ Below wr.heap.size wr wr.drew) := ⟨t0, s4, (Below.refl _ _).drew⟩
    have HKP : Hid (∀ w1 w2 : World, (w1.cell? ⟨c, 0, none⟩ = some (.string q) ∧ w1.cell? ⟨W.heap.size, 0, none⟩ = some (.string p) ∧ Below wr.heap.size wr w1) → Below w1.heap.size w1 w2 →
        (w2.cell? ⟨c, 0, none⟩ = some (.string q) ∧ w2.cell? ⟨W.heap.size, 0, none⟩ = some (.string p) ∧ Below wr.heap.size wr w2)) := fun w1 w2 h hb => ⟨cell_kept hb h.1, cell_kept hb h.2.1, below_next h.2.2 hb⟩
    clear t0 t1 f0 f1 s4 hNw hcl
    by_cases hpe : pq = p
    · have heq : (pq.toList == p.toList) = true := by rw [hpe]; simp
      have HPE := Lib.hid hpe
      clear hpe
      go_upto_region 3 with (fail)
      go_region_held3 (fun w' => w'.cell? ⟨c, 0, none⟩ = some (.string q) ∧ w'.cell? ⟨W.heap.size, 0, none⟩ = some (.string p) ∧ Below wr.heap.size wr w')
        (first | exact HS0.out | exact HKP.out _ _ HS0.out hb5)
        (first | (go_at_call 80; (with_reducible refine (HPP.out _).mono ?_); rintro e W5 ⟨rfl, hb5⟩))
      rename_i hS
      rcases List.eq_nil_or_concat stk with rfl | ⟨stk', x, rfl⟩
      · exfalso
        have : q = ⟨#[]⟩ := HQ.out.symm
        rw [this, HPE.out] at HPQ
        exact parB_empty HP.out HPQ.out
      · rw [List.concat_eq_append] at *
        have hx : x = (q, s) := by
          have h1 := HQ.out
          have h2 := HS.out
          rw [topQ_snoc] at h1 h2
          rw [← h1, ← h2]
        subst hx
        obtain ⟨hvq, s0', s1'⟩ := HOK1.out (q, s) (by simp)
        obtain ⟨j, kx, hj, hsz, hk3, hby, hnm, hj8⟩ := path_last hvq HP.out (by rw [HPQ.out, HPE.out])
        have A5 := A4.out.below hS.2.2
        obtain ⟨g, cap, rfl, hcap, hcm, HPOP⟩ := A5.top
        have HPOP' := Lib.hid HPOP
        have hbx := A5.box.cell
        have hbf := A5.box.frozen
        have hBc : B ≠ c := fun e => by have := HA.out.lt; have := HA.out.le; have := HC0.out; omega
        have hT5 := Two.below HT1.out hS.2.2
        obtain ⟨t0, t1, -, -, hcl⟩ := hT5
        have hn5 := hS.2.1
        have HN5 := Lib.hid hn5
        have HB5 := Lib.hid hS.2.2
        have HL5 := Lib.hid (show stk'.length + 1 ≤ st.length by have := HLN.out; simp at this; exact this)
        have HPN := Lib.hid (show popL p m (stk' ++ [(q, s)]).reverse = popL p ((31 * m + 7 * kx + 100 * s + 3) % 9973) stk'.reverse by
          rw [List.reverse_append, List.reverse_singleton, List.singleton_append]
          conv => lhs; unfold popL
          rw [if_pos (show parB q = p by rw [HPQ.out, HPE.out]), hnm])
        have hlst : stk'.length ≤ 2000000 := by have := HL5.out; have := HL.out; omega
        generalize hsl : stk'.length = n at HPOP' HL5 hcap hlst hbx ⊢
        have HN := Lib.hid hsl
        have HCL := Lib.hid hcl
        have HNB := Lib.hid hBc
        have HHJ := Lib.hid hj
        have hn2 : (n : Int) ≤ 2000000 := by omega
        have hk3' : (kx : Int) ≤ 3 := by omega
        have hj8' : (j : Int) ≤ 8 := by omega
        clear hsl HPOP A5 hS hb5 hnm hcl hvq hlst hk3
        go_upto_region 7 with (fail)
        go_region
        have A6 := Lib.hid HPOP'.out.drew
        have K6 := Lib.hid (StkKept.drew (StkKept.set (B := B) (base := base) W5 0 (.slice (some ⟨g, 0, none⟩) n cap)))
        have K6' := Lib.hid (StkKept.drew (StkKept.set (B := B) (base := W.heap.size) W5 0 (.slice (some ⟨g, 0, none⟩) n cap)))
        have u0 : (W5.setCell ⟨B, 0, none⟩ (.slice (some ⟨g, 0, none⟩) n cap)).drew.cell? ⟨c, 0, none⟩ = some (.string q) := (World.cell?_setCell_other _ _ _ _ (fun e => HNB.out (congrArg Addr.block e))).trans t0
        have u1 : (W5.setCell ⟨B, 0, none⟩ (.slice (some ⟨g, 0, none⟩) n cap)).drew.cell? ⟨c, 1, none⟩ = some (.int .i64 s) := (World.cell?_setCell_other _ _ _ _ (fun e => HNB.out (congrArg Addr.block e))).trans t1
        have hBn : B ≠ W.heap.size := fun e => by have := HA.out.lt; have := HA.out.le; omega
        have un : (W5.setCell ⟨B, 0, none⟩ (.slice (some ⟨g, 0, none⟩) n cap)).drew.cell? ⟨W.heap.size, 0, none⟩ = some (.string p) := (World.cell?_setCell_other _ _ _ _ (fun e => hBn (congrArg Addr.block e))).trans hn5
        have hz6 : c < (W5.setCell ⟨B, 0, none⟩ (.slice (some ⟨g, 0, none⟩) n cap)).drew.heap.size := by simpa [World.setCell] using HCL.out
        clear t0 t1 hbx hbf hn5 HPOP' hBn
        generalize (W5.setCell ⟨B, 0, none⟩ (.slice (some ⟨g, 0, none⟩) n cap)).drew = W6 at A6 K6 K6' u0 u1 un hz6 ⊢
        have A7 := Lib.hid (A6.out.below (below_box W6 (.cells #[.string q, .int .i64 s] 144)))
        have hb7 := A7.out.box.cell
        have hn7 := cell_kept (below_box W6 (.cells #[.string q, .int .i64 s] 144)) un
        have T7 := Lib.hid (two_new W6 (.string q) (.int .i64 s) 144)
        have HTOP := Lib.hid (fun hl => top_c base (.slice (some ⟨g, 0, none⟩) n cap) stk' hl (W6.alloc (.cells #[.string q, .int .i64 s] 144)) A7.out.row)
        have hlst : stk'.length ≤ 2097152 := by have := HN.out; omega
        have HTOP' := Lib.hid (HTOP.out hlst)
        clear un HTOP hlst
        go_wp2_with fail
        refine HTOP'.out.mono ?_
        rintro e W8 ⟨rfl, hb8⟩
        have hb8' := below_next (below_box W6 (.cells #[.string q, .int .i64 s] 144)) hb8
        have A8 := Lib.hid (A6.out.below hb8')
        have T8 := Lib.hid (T7.out.below hb8)
        have hn8 := cell_kept hb8 hn7
        have h68 : W6.heap.size < W8.heap.size := by have := hb8.size; simp at this; omega
        have hWc : W.heap.size < W6.heap.size := by have := HC0.out; omega
        have hbc : base ≤ W6.heap.size := A6.out.le
        have K8 := Lib.hid (((HK.out.1.trans (StkKept.of_below (Nat.le_of_lt HW.out) HB5.out)).trans K6'.out).trans (StkKept.of_below (Nat.le_of_lt hWc) hb8'))
        have K8' := Lib.hid (((HK.out.2.trans (StkKept.of_below A4.out.le HB5.out)).trans K6.out).trans (StkKept.of_below hbc hb8'))
        obtain ⟨g0, g1, f0, f1, -⟩ := T8.out
        have HNX := Lib.hid hn8
        have HLT := Lib.hid (And.intro h68 (And.intro hWc hbc))
        clear hb8 hb8' hn7 hn8 hb7 u0 u1 hz6
        go_wp2
        go_roundw
        case rel =>
          obtain ⟨h68, hWc, hbc⟩ := HLT.out
          refine ⟨_, stk', .slice (some ⟨g, 0, none⟩) n cap, W6.heap.size, rfl, rfl, by omega, by omega, ?_, fun x hx => HOK1.out x (by simp [hx]), by have := HL5.out; have := HN.out; show stk'.length ≤ _; omega, (T8.out.set0).set1, ?_, by omega, ?_, ?_, ?_⟩
          · show popL p _ _ = _
            rw [show ((97 : Int) + kx - 97) = kx by omega, ← HPN.out]; exact HPL.out
          · have hne : W6.heap.size ≠ B := fun e => by have := A6.out.lt; omega
            have hng : (Value.slice (some ⟨g, 0, none⟩) n cap).ownBlock ≠ some W6.heap.size := fun e => by have := (A6.out.row.lt _ e).2; omega
            exact (A8.out.far hne hng 0 _ h68).far hne hng 1 _ (by simpa [World.setCell] using h68)
          · rw [World.cell?_setCell_other _ _ _ _ (fun e => by have := congrArg Addr.block e; simp at this; omega), World.cell?_setCell_other _ _ _ _ (fun e => by have := congrArg Addr.block e; simp at this; omega)]
            exact HNX.out
          · exact (K8.out.trans (StkKept.setFar _ (Nat.le_of_lt hWc) _ _)).trans (StkKept.setFar _ (Nat.le_of_lt hWc) _ _)
          · exact (K8'.out.trans (StkKept.setFar _ hbc _ _)).trans (StkKept.setFar _ hbc _ _)
        case measure =>
          have h1 := A4.out.lenAt
          rw [h1]
          have hne : W6.heap.size ≠ B := fun e => by have := A6.out.lt; omega
          have hng : (Value.slice (some ⟨g, 0, none⟩) n cap).ownBlock ≠ some W6.heap.size := fun e => by have := (A6.out.row.lt _ e).2; omega
          rw [((A8.out.far hne hng 0 _ HLT.out.1).far hne hng 1 _ (by simpa [World.setCell] using HLT.out.1)).lenAt]
          have := HN.out; omega
    · have heq : (pq.toList == p.toList) = false := by
        rw [beq_eq_false_iff_ne, Lib.toList_data, Lib.toList_data]
        exact fun e => hpe (by rw [← Lib.mk_data pq, ← Lib.mk_data p, e])
      have HPL1 := Lib.hid (show popL p m stk.reverse = (m, stk.reverse) by
        rcases List.eq_nil_or_concat stk with rfl | ⟨stk', x, rfl⟩
        · rfl
        · rw [List.concat_eq_append] at *
          have h1 := HQ.out
          rw [topQ_snoc] at h1
          rw [List.reverse_append, List.reverse_singleton, List.singleton_append]
          unfold popL
          rw [if_neg (by rw [h1, HPQ.out]; exact hpe)])
      clear hpe
      go_upto_region 3 with (fail)
      go_region_held3 (fun w' => w'.cell? ⟨c, 0, none⟩ = some (.string q) ∧ w'.cell? ⟨W.heap.size, 0, none⟩ = some (.string p) ∧ Below wr.heap.size wr w')
        (first | exact HS0.out | exact HKP.out _ _ HS0.out hb5)
        (first | (go_at_call 80; (with_reducible refine (HPP.out _).mono ?_); rintro e W5 ⟨rfl, hb5⟩))
      rename_i hS
      obtain ⟨i0, hi, hz0, hz1, hz2⟩ := info_parts infoSummed
      have A5 := Lib.hid (A4.out.below hS.2.2)
      have hbx := A5.out.box.cell
      have hbf := A5.out.box.frozen
      have hn5 := hS.2.1
      have HB5 := Lib.hid hS.2.2
      clear hS hb5
      go_upto_region 10 with (fail)
      have HROW := Lib.hid (show ((W5.alloc (.cells #[.string p, .int .i64 m] 144)).drew).ownsRow base 144 2 sl1 stk.length (flatS stk) from A5.out.row.alloc _)
      have HCEL := Lib.hid (show ∀ j u, [Value.string p, .int .i64 m][j]? = some u → ((W5.alloc (.cells #[.string p, .int .i64 m] 144)).drew).cell? ((⟨W5.heap.size, 0, none⟩ : Addr).add j) = some u from cell_two_new W5 _ _ _)
      have hsm : stk.length ≤ 2000000 := by have := HLN.out; have := HL.out; show stk.length ≤ _; omega
      have HMX := Lib.hid (show stk.length + 1 ≤ maxLen ∧ (stk.length + 1) * 24 ≤ 140737488355328 by unfold maxLen; exact ⟨by omega, by omega⟩)
      have HBS := Lib.hid (show base ≤ ((W5.alloc (.cells #[.string p, .int .i64 m] 144)).drew).heap.size by have := A5.out.le; show base ≤ (W5.alloc _).heap.size; rw [World.size_alloc]; omega)
      have HBX := Lib.hid (show Boxed ((W5.alloc (.cells #[.string p, .int .i64 m] 144)).drew) B 115 sl1 from A5.out.box.alloc _)
      have HNE := Lib.hid (show some B ≠ sl1.ownBlock from fun e => by have := (A5.out.row.lt B e.symm).1; have := A5.out.lt; omega)
      have hbxA : (W5.alloc (.cells #[.string p, .int .i64 m] 144)).cell? ⟨B, 0, none⟩ = some sl1 := (A5.out.box.alloc _).cell
      clear hsm
      go_region_law (rw [if_pos (by rfl)]; refine wp_append_own _ _ _ 115 rfl base 144 i0 (.agg #[.string ⟨#[]⟩, .int .i64 0]) 2 24 Tryz.underlying115 hi hz0 hz1 hz2 rfl (by decide) _ _ _ rfl HROW.out ⟨W5.heap.size, 0, none⟩ 1 1 [.string p, .int .i64 m] rfl rfl HCEL.out (by simp [Value.oneCell']) HMX.out.1 HMX.out.2 HBS.out ?_; intro v4 w4 ho4 hg4 hn4; obtain ⟨g4, c4, rfl⟩ := ownsRow_succ ho4; have hbx4 := (HBX.out.kept hg4 HNE.out).cell; have hbf4 := (HBX.out.kept hg4 HNE.out).frozen)
      all_goals
        clear HROW HCEL HMX HBS HBX HNE hbx4 hbf4 hbxA hbx hbf hn5
        go_wp2
        exact sum_end HN0.out HPL.out HPL1.out HK.out.2 A4.out HB5.out rfl ho4 hg4

end Go.Proofs.YtncceljffcjoiaaGreatDoor

/-
  PLAIN MATHEMATICS OF FRAMES: bodies, their sums, frames, and what a scan finds.
-/
namespace Go.Proofs.YtncceljffcjoiaaGreatDoor

def byteOk (x : Int) : Bool := decide (0 ≤ x ∧ x ≤ 255)
def bodyOk (b : List Int) : Bool := b.all byteOk && decide (1 ≤ b.length ∧ b.length ≤ 16)
def sumStep (n x : Int) : Int := (31 * n + x) % 251
def sumB (b : List Int) : Int := b.foldl sumStep 7
def bodySum (b : List Int) : Int := if bodyOk b = true then sumB b else -1
def frame (b : List Int) : List Int := (b.length : Int) :: (b ++ [sumB b])
def frameOf (b : List Int) : List Int := if bodyOk b = true then frame b else []
def framesL (bs : List (List Int)) : List Int := bs.flatMap frame
def framesOf (bs : List (List Int)) : Option (List Int) := if (bs.all bodyOk && decide (bs.length ≤ 40)) = true then some (framesL bs) else none

theorem frame_length (b : List Int) : (frame b).length = b.length + 2 := by simp [frame]
theorem framesL_append (a b : List (List Int)) : framesL (a ++ b) = framesL a ++ framesL b := by unfold framesL; rw [List.flatMap_append]
theorem framesL_cons (b : List Int) (bs : List (List Int)) : framesL (b :: bs) = frame b ++ framesL bs := rfl
theorem framesL_one (b : List Int) : framesL [b] = frame b := by simp [framesL]

theorem bodyOk_len {b : List Int} (h : bodyOk b = true) : 1 ≤ b.length ∧ b.length ≤ 16 := by
  unfold bodyOk at h
  simp only [Bool.and_eq_true, decide_eq_true_eq] at h
  exact h.2
theorem bodyOk_byte {b : List Int} (h : bodyOk b = true) {x : Int} (hx : x ∈ b) : 0 ≤ x ∧ x ≤ 255 := by
  unfold bodyOk at h
  simp only [Bool.and_eq_true, List.all_eq_true] at h
  have := h.1 x hx
  unfold byteOk at this
  simpa using this

theorem sumStep_range (n x : Int) : 0 ≤ sumStep n x ∧ sumStep n x ≤ 250 := by unfold sumStep; omega
theorem foldl_range : ∀ (b : List Int) (n : Int), 0 ≤ n → n ≤ 250 → 0 ≤ b.foldl sumStep n ∧ b.foldl sumStep n ≤ 250
  | [], _, h1, h2 => ⟨h1, h2⟩
  | x :: r, n, _, _ => by
    obtain ⟨a, b⟩ := sumStep_range n x
    exact foldl_range r _ a b
theorem sumB_range (b : List Int) : 0 ≤ sumB b ∧ sumB b ≤ 250 := foldl_range b 7 (by omega) (by omega)

theorem foldl_inj : ∀ (b : List Int) (n m : Int), 0 ≤ n → n ≤ 250 → 0 ≤ m → m ≤ 250 → n ≠ m → b.foldl sumStep n ≠ b.foldl sumStep m
  | [], _, _, _, _, _, _, h => h
  | x :: r, n, m, h1, h2, h3, h4, h => by
    obtain ⟨a, b⟩ := sumStep_range n x
    obtain ⟨c, d⟩ := sumStep_range m x
    refine foldl_inj r _ _ a b c d ?_
    unfold sumStep
    omega

/-- A changed byte changes the sum. -/
theorem sum_changed {b : List Int} {k : Nat} {x y : Int} (hk : b[k]? = some x) (hxy : y = x + 1 ∨ y = x - 1) : sumB (b.set k y) ≠ sumB b := by
  have hl := (List.getElem?_eq_some_iff.1 hk).1
  have hx := (List.getElem?_eq_some_iff.1 hk).2
  have e1 : b = b.take k ++ x :: b.drop (k + 1) := by
    rw [← hx, List.getElem_cons_drop, List.take_append_drop]
  have e2 : b.set k y = b.take k ++ y :: b.drop (k + 1) := List.set_eq_take_append_cons_drop.trans (if_pos hl)
  rw [e2]
  conv => rhs; rw [e1]
  unfold sumB
  rw [List.foldl_append, List.foldl_append, List.foldl_cons, List.foldl_cons]
  obtain ⟨a, b'⟩ := foldl_range (b.take k) 7 (by omega) (by omega)
  generalize (b.take k).foldl sumStep 7 = n at a b'
  obtain ⟨p, q⟩ := sumStep_range n y
  obtain ⟨r, s⟩ := sumStep_range n x
  refine foldl_inj _ _ _ p q r s ?_
  unfold sumStep
  omega

/-! ## Scanning -/

/-- A whole frame at the beginning: its body. -/
def headOk (n : Int) (rest : List Int) : Bool :=
  decide (1 ≤ n ∧ n ≤ 16) && (decide (n.toNat + 1 ≤ rest.length) && (bodyOk (rest.take n.toNat) && decide (rest[n.toNat]? = some (sumB (rest.take n.toNat)))))

def scanF : Nat → List Int → List (List Int) × Nat
  | 0, _ => ([], 0)
  | _ + 1, [] => ([], 0)
  | f + 1, n :: rest => if headOk n rest = true then ((rest.take n.toNat) :: (scanF f (rest.drop (n.toNat + 1))).1, n.toNat + 2 + (scanF f (rest.drop (n.toNat + 1))).2) else ([], 0)

def scanL (l : List Int) : List (List Int) × Nat := scanF l.length l

theorem headOk_iff (n : Int) (rest : List Int) : headOk n rest = true ↔ (1 ≤ n ∧ n ≤ 16) ∧ n.toNat + 1 ≤ rest.length ∧ bodyOk (rest.take n.toNat) = true ∧ rest[n.toNat]? = some (sumB (rest.take n.toNat)) := by
  unfold headOk
  simp only [Bool.and_eq_true, decide_eq_true_eq]

theorem scanF_more : ∀ (f g : Nat) (l : List Int), l.length ≤ f → l.length ≤ g → scanF f l = scanF g l
  | 0, 0, _, _, _ => rfl
  | 0, g + 1, [], _, _ => rfl
  | f + 1, 0, [], _, _ => rfl
  | f + 1, g + 1, [], _, _ => rfl
  | f + 1, g + 1, n :: rest, h1, h2 => by
    unfold scanF
    have : scanF f (rest.drop (n.toNat + 1)) = scanF g (rest.drop (n.toNat + 1)) := scanF_more f g _ (by rw [List.length_drop]; simp at h1; omega) (by rw [List.length_drop]; simp at h2; omega)
    rw [this]

theorem scanL_cons (n : Int) (rest : List Int) : scanL (n :: rest) = if headOk n rest = true then ((rest.take n.toNat) :: (scanL (rest.drop (n.toNat + 1))).1, n.toNat + 2 + (scanL (rest.drop (n.toNat + 1))).2) else ([], 0) := by
  unfold scanL
  show scanF (rest.length + 1) (n :: rest) = _
  conv => lhs; unfold scanF
  rw [scanF_more rest.length (rest.drop (n.toNat + 1)).length _ (by rw [List.length_drop]; omega) (Nat.le_refl _)]

theorem scanL_nil : scanL [] = ([], 0) := rfl

theorem head_frame {b : List Int} (h : bodyOk b = true) (rest : List Int) : headOk (b.length : Int) (b ++ [sumB b] ++ rest) = true := by
  rw [headOk_iff]
  have hl := bodyOk_len h
  have e : (b.length : Int).toNat = b.length := by omega
  rw [e]
  have ht : (b ++ [sumB b] ++ rest).take b.length = b := by rw [List.append_assoc, List.take_left']; rfl
  refine ⟨by omega, by simp, by rw [ht]; exact h, ?_⟩
  rw [ht, List.append_assoc, List.getElem?_append_right (Nat.le_refl _)]
  simp

theorem scan_frame {b : List Int} (h : bodyOk b = true) (rest : List Int) : scanL (frame b ++ rest) = (b :: (scanL rest).1, b.length + 2 + (scanL rest).2) := by
  unfold frame
  rw [List.cons_append, scanL_cons, if_pos (head_frame h rest)]
  have e : (b.length : Int).toNat = b.length := by omega
  rw [e]
  have ht : (b ++ [sumB b] ++ rest).take b.length = b := by rw [List.append_assoc, List.take_left']; rfl
  have hd : (b ++ [sumB b] ++ rest).drop (b.length + 1) = rest := by
    rw [List.drop_left']; simp
  rw [ht, hd]

/-- What was framed is found. -/
theorem scan_frames : ∀ {bs : List (List Int)}, bs.all bodyOk = true → ∀ rest, scanL (framesL bs ++ rest) = (bs ++ (scanL rest).1, (framesL bs).length + (scanL rest).2)
  | [], _, rest => by simp [framesL]
  | b :: bs, h, rest => by
    simp only [List.all_cons, Bool.and_eq_true] at h
    rw [framesL_cons, List.append_assoc, scan_frame h.1, scan_frames h.2]
    simp [frame_length]
    omega

theorem scan_all {bs : List (List Int)} (h : bs.all bodyOk = true) : scanL (framesL bs) = (bs, (framesL bs).length) := by
  have := scan_frames h []
  rw [List.append_nil, scanL_nil] at this
  simpa using this

/-- A frame that lacks its last number is none. -/
theorem scan_torn {b : List Int} (h : bodyOk b = true) : scanL (frame b).dropLast = ([], 0) := by
  unfold frame
  have hl := bodyOk_len h
  have : ((b.length : Int) :: (b ++ [sumB b])).dropLast = (b.length : Int) :: b := by
    rw [← List.cons_append, List.dropLast_concat]
  rw [this, scanL_cons, if_neg]
  rw [headOk_iff]
  rintro ⟨_, h2, _⟩
  have e : (b.length : Int).toNat = b.length := by omega
  omega

theorem scan_torn_all {bs : List (List Int)} {b : List Int} (h : (bs ++ [b]).all bodyOk = true) : scanL (framesL (bs ++ [b])).dropLast = (bs, (framesL bs).length) := by
  simp only [List.all_append, Bool.and_eq_true, List.all_cons, List.all_nil, and_true] at h
  rw [framesL_append, framesL_one, List.dropLast_append_of_ne_nil (by simp [frame]), scan_frames h.1, scan_torn h.2]
  simp

/-- What is found was framed. -/
theorem scan_sound : ∀ (l : List Int), (scanL l).1.all bodyOk = true ∧ framesL (scanL l).1 = l.take (scanL l).2 ∧ (scanL l).2 ≤ l.length := by
  intro l
  generalize hn : l.length = m
  induction m using Nat.strongRecOn generalizing l with
  | ind m ih =>
    match l with
    | [] => exact ⟨rfl, rfl, by simp [scanL_nil]⟩
    | n :: rest =>
      rw [scanL_cons]
      by_cases h : headOk n rest = true
      · rw [if_pos h]
        obtain ⟨h1, h2, h3, h4⟩ := (headOk_iff _ _).1 h
        obtain ⟨i1, i2, i3⟩ := ih (rest.drop (n.toNat + 1)).length (by rw [List.length_drop]; simp at hn; omega) _ rfl
        have hdl : (rest.drop (n.toNat + 1)).length = rest.length - (n.toNat + 1) := List.length_drop
        have htl : (rest.take n.toNat).length = n.toNat := by rw [List.length_take]; omega
        have hfr : frame (rest.take n.toNat) = n :: rest.take (n.toNat + 1) := by
          unfold frame
          rw [htl, List.take_add_one, h4, show ((n.toNat : Nat) : Int) = n by omega]
          rfl
        refine ⟨by simp only [List.all_cons, Bool.and_eq_true]; exact ⟨h3, i1⟩, ?_, ?_⟩
        · show framesL (_ :: _) = _
          rw [framesL_cons, i2, hfr]
          show n :: (rest.take (n.toNat + 1) ++ _) = _
          have ej : n.toNat + 2 + (scanL (rest.drop (n.toNat + 1))).2 = (n.toNat + 1 + (scanL (rest.drop (n.toNat + 1))).2) + 1 := by omega
          rw [ej, List.take_succ_cons]
          congr 1
          generalize (scanL (rest.drop (n.toNat + 1))).2 = j
          exact (List.take_add (l := rest) (i := n.toNat + 1) (j := j)).symm
        · show n.toNat + 2 + _ ≤ m
          simp at hn
          omega
      · rw [if_neg h]
        exact ⟨rfl, rfl, Nat.zero_le _⟩

/-- Good frames stay good. -/
theorem scan_more (l : List Int) {b : List Int} (h : bodyOk b = true) : scanL (l.take (scanL l).2 ++ frame b) = ((scanL l).1 ++ [b], (scanL l).2 + b.length + 2) := by
  obtain ⟨h1, h2, h3⟩ := scan_sound l
  have hl : (framesL (scanL l).1).length = (scanL l).2 := by rw [h2, List.length_take]; omega
  rw [← h2, ← framesL_one b, ← framesL_append, scan_all (by rw [List.all_append, h1]; simp [h]), framesL_append, List.length_append, hl, framesL_one, frame_length]
  rfl

/-- A part of the numbers has a part of the bodies. -/
theorem scan_part : ∀ (l : List Int) (k : Nat), (scanL (l.take k)).2 ≤ k ∧ (scanL (l.take k)).2 ≤ (scanL l).2 ∧ (scanL (l.take k)).1 <+: (scanL l).1 := by
  intro l
  generalize hn : l.length = m
  induction m using Nat.strongRecOn generalizing l with
  | ind m ih =>
    intro k
    have hk : (scanL (l.take k)).2 ≤ k := Nat.le_trans (scan_sound (l.take k)).2.2 (by rw [List.length_take]; omega)
    refine ⟨hk, ?_⟩
    clear hk
    match l, k with
    | [], k => simp [scanL_nil]
    | n :: rest, 0 => simp [scanL_nil]
    | n :: rest, k + 1 =>
      rw [List.take_succ_cons, scanL_cons]
      by_cases h : headOk n (rest.take k) = true
      · obtain ⟨h1, h2, h3, h4⟩ := (headOk_iff _ _).1 h
        rw [List.length_take] at h2
        have e1 : (rest.take k).take n.toNat = rest.take n.toNat := by rw [List.take_take, Nat.min_eq_left (by omega)]
        have e2 : (rest.take k).drop (n.toNat + 1) = (rest.drop (n.toNat + 1)).take (k - (n.toNat + 1)) := by rw [List.drop_take]
        have e3 : (rest.take k)[n.toNat]? = rest[n.toNat]? := by rw [List.getElem?_take, if_pos (by omega)]
        have h' : headOk n rest = true := (headOk_iff _ _).2 ⟨h1, by omega, by rw [← e1]; exact h3, by rw [← e3, ← e1]; exact h4⟩
        rw [if_pos h, scanL_cons n rest, if_pos h', e1, e2]
        obtain ⟨_, i2, i3⟩ := ih (rest.drop (n.toNat + 1)).length (by rw [List.length_drop]; simp at hn; omega) _ rfl (k - (n.toNat + 1))
        refine ⟨by show _ + _ ≤ _ + _; omega, ?_⟩
        obtain ⟨t, ht⟩ := i3
        exact ⟨t, by show (_ :: _) ++ t = _ :: _; rw [List.cons_append, ht]⟩
      · rw [if_neg h]
        exact ⟨Nat.zero_le _, List.nil_prefix⟩

theorem framesOf_some {bs : List (List Int)} {out : List Int} (h : framesOf bs = some out) : bs.all bodyOk = true ∧ bs.length ≤ 40 ∧ out = framesL bs := by
  unfold framesOf at h
  split at h
  · rename_i hc
    simp only [Bool.and_eq_true, decide_eq_true_eq] at hc
    exact ⟨hc.1, hc.2, (Option.some.inj h).symm⟩
  · cases h

theorem framesOf_take {bs : List (List Int)} {out : List Int} (h : framesOf bs = some out) (k : Nat) : framesOf (bs.take k) = some (framesL (bs.take k)) ∧ framesOf (bs.drop k) = some (framesL (bs.drop k)) ∧ framesL (bs.take k) ++ framesL (bs.drop k) = out := by
  obtain ⟨h1, h2, h3⟩ := framesOf_some h
  have ha : ∀ c : List (List Int), (∀ x ∈ c, x ∈ bs) → c.all bodyOk = true := fun c hc => List.all_eq_true.2 fun x hx => List.all_eq_true.1 h1 x (hc x hx)
  refine ⟨?_, ?_, ?_⟩
  · unfold framesOf
    rw [ha _ (fun x hx => List.mem_of_mem_take hx), decide_eq_true (by rw [List.length_take]; omega)]; rfl
  · unfold framesOf
    rw [ha _ (fun x hx => List.mem_of_mem_drop hx), decide_eq_true (by rw [List.length_drop]; omega)]; rfl
  · rw [← framesL_append, List.take_append_drop, h3]

end Go.Proofs.YtncceljffcjoiaaGreatDoor

/-
  WALKS: lists of numbers; spec.l6In, l4Bytes, l4Body, l4Sum, BodySum.
-/
namespace Go.Proofs.YtncceljffcjoiaaGreatDoor
open Go.RowKit
set_option linter.unusedVariables false

/-- A list of numbers, wherever it lies. -/
def IntsAt (W : World) (a : Option Addr) (len : Nat) (zs : List Int) : Prop :=
  zs.length = len ∧ (len = 0 ∨ ∃ b off, a = some ⟨b, off, none⟩ ∧ ∀ i z, zs[i]? = some z → W.cell? ⟨b, off + i, none⟩ = some (.int .i64 z))

theorem IntsAt.keep {W W' : World} {a : Option Addr} {len : Nat} {zs : List Int} (h : IntsAt W a len zs) (hb : Below W.heap.size W W') : IntsAt W' a len zs := by
  obtain ⟨h1, h0 | ⟨b, off, ha, hc⟩⟩ := h
  · exact ⟨h1, .inl h0⟩
  · exact ⟨h1, .inr ⟨b, off, ha, fun i x hx => cell_kept hb (hc i x hx)⟩⟩

theorem IntsAt.at {W : World} {a : Option Addr} {len : Nat} {zs : List Int} (h : IntsAt W a len zs) {i : Nat} (hi : i < len) :
    ∃ b off z, a = some ⟨b, off, none⟩ ∧ zs[i]? = some z ∧ W.cell? ⟨b, off + i, none⟩ = some (.int .i64 z) := by
  obtain ⟨h1, h0 | ⟨b, off, ha, hc⟩⟩ := h
  · omega
  · obtain ⟨x, hx⟩ : ∃ x, zs[i]? = some x := ⟨_, List.getElem?_eq_getElem (by omega)⟩
    exact ⟨b, off, x, ha, hx, hc i x hx⟩

def intsV (zs : List Int) : List Value := zs.map (Value.int .i64)

theorem ints_of_own {W : World} {base : Nat} {e : TypeId} {v : Value} {zs : List Int} (h : W.ownsRow base e 1 v zs.length (intsV zs)) :
    ∃ a cap, v = .slice a zs.length cap ∧ IntsAt W a zs.length zs := by
  rcases h.2 with ⟨rfl, h0⟩ | ⟨g, cap, cur, rfl, h1, h2, h3, h4, h5, h6⟩
  · exact ⟨none, 0, by rw [h0], rfl, .inl h0⟩
  · refine ⟨some ⟨g, 0, none⟩, cap, rfl, rfl, .inr ⟨g, 0, rfl, fun i x hx => ?_⟩⟩
    have hi := (List.getElem?_eq_some_iff.1 hx).1
    rw [Nat.zero_add, h.cellAt i (by omega)]
    unfold intsV
    rw [List.getElem?_map, hx]; rfl

theorem retb {a b : Bool} (h : a = b) : Ending.returned (.bool a) = .returned (.bool b) := by rw [h]

set_option maxHeartbeats 400000 in
theorem l6In_c (n lo hi : Int) (w : World) : Calls Tryz.prog 89 #[.int .i64 n, .int .i64 lo, .int .i64 hi] w fun e w' => e = .returned (.bool (decide (lo ≤ n ∧ n ≤ hi))) ∧ w' = w := by
  by_cases h1 : lo ≤ n
  · by_cases h2 : n ≤ hi
    · have hr := Lib.hid (show true = decide (lo ≤ n ∧ n ≤ hi) from (decide_eq_true ⟨h1, h2⟩).symm)
      have d1 : decide (lo ≤ n) = true := decide_eq_true h1
      have d2 : decide (n ≤ hi) = true := decide_eq_true h2
      go_enter Tryz.func89, Tryz.ntmps89
      go_wp2
      go_ret
      exact ⟨retb hr.out, rfl⟩
    · have hr := Lib.hid (show false = decide (lo ≤ n ∧ n ≤ hi) from (decide_eq_false (fun h => h2 h.2)).symm)
      have d1 : decide (lo ≤ n) = true := decide_eq_true h1
      have d2 : decide (n ≤ hi) = false := decide_eq_false h2
      have h2' : hi < n := by omega
      clear h2
      go_enter Tryz.func89, Tryz.ntmps89
      go_wp2
      go_ret
      exact ⟨retb hr.out, rfl⟩
  · have hr := Lib.hid (show false = decide (lo ≤ n ∧ n ≤ hi) from (decide_eq_false (fun h => h1 h.1)).symm)
    have d1 : decide (lo ≤ n) = false := decide_eq_false h1
    have h1' : n < lo := by omega
    clear h1
    go_enter Tryz.func89, Tryz.ntmps89
    go_wp2
    go_ret
    exact ⟨retb hr.out, rfl⟩

def BytesRel (zs : List Int) (W : World) (i : Value) (wr : World) : Prop := ∃ n : Nat, i = .int .i64 n ∧ n ≤ zs.length ∧ Hid ((zs.take n).all byteOk = true) ∧ wr = W

theorem take_all {zs : List Int} {i : Nat} {z : Int} (h : zs[i]? = some z) : (zs.take (i + 1)).all byteOk = ((zs.take i).all byteOk && byteOk z) := by
  rw [List.take_add_one, h]
  simp [List.all_append]

theorem all_take_false {zs : List Int} {i : Nat} (h : (zs.take i).all byteOk = false) : zs.all byteOk = false := by
  rw [Bool.eq_false_iff] at h ⊢
  intro hc
  exact h (List.all_eq_true.2 fun x hx => List.all_eq_true.1 hc x (List.mem_of_mem_take hx))

def SumRel (zs : List Int) (W : World) (n i : Value) (wr : World) : Prop := ∃ k : Nat, i = .int .i64 k ∧ k ≤ zs.length ∧ n = .int .i64 (sumB (zs.take k)) ∧ wr = W

theorem sumB_next {zs : List Int} {i : Nat} {z : Int} (h : zs[i]? = some z) : sumB (zs.take (i + 1)) = (31 * sumB (zs.take i) + z) % 251 := by
  unfold sumB
  rw [List.take_add_one, h, List.foldl_append]
  rfl

end Go.Proofs.YtncceljffcjoiaaGreatDoor

/-
  WALKS: spec.FrameOf.
-/
namespace Go.Proofs.YtncceljffcjoiaaGreatDoor
open Go.RowKit
set_option linter.unusedVariables false

theorem infoInt : (Tryz.prog.info? 3).map (fun i => (i.zero, i.size, i.bytes)) = some (some (.int .i64 0), 1, 8) := by kernel_rfl

/-- A list of numbers that the call has made. -/
def OwnsInts (base : Nat) (zs : List Int) (e : Ending) (w' : World) : Prop := ∃ sl, e = .returned sl ∧ w'.ownsRow base 3 1 sl zs.length (intsV zs)

theorem intsV_append (a b : List Int) : intsV (a ++ b) = intsV a ++ intsV b := by unfold intsV; rw [List.map_append]
theorem intsV_length (a : List Int) : (intsV a).length = a.length := by unfold intsV; rw [List.length_map]
theorem intsV_cells (zs : List Int) : ∀ u ∈ intsV zs, u.oneCell' = true := by
  intro u hu
  unfold intsV at hu
  obtain ⟨z, _, rfl⟩ := List.mem_map.1 hu
  rfl

theorem own_join1 {W : World} {b : Nat} {e : TypeId} {v : Value} {acc more : List Int} (h : W.ownsRow b e 1 v (acc.length + more.length) (intsV acc ++ intsV more)) : W.ownsRow b e 1 v (acc ++ more).length (intsV (acc ++ more)) := by
  rw [intsV_append, List.length_append]; exact h

theorem own_below1 {W W' : World} {base : Nat} {e : TypeId} {size n : Nat} {v : Value} {xs : List Value} (h : W.ownsRow base e size v n xs) (hg : Below W.heap.size W W') : W'.ownsRow base e size v n xs :=
  h.kept (below_grown hg) (by cases hv : v.ownBlock <;> simp)

theorem own_mono1 {W : World} {b c : Nat} {e : TypeId} {size n : Nat} {v : Value} {xs : List Value} (h : W.ownsRow c e size v n xs) (hbc : b ≤ c) : W.ownsRow b e size v n xs := by
  obtain ⟨h1, h2 | ⟨g, cap, cur, h3, h4, h5⟩⟩ := h
  · exact ⟨h1, .inl h2⟩
  · exact ⟨h1, .inr ⟨g, cap, cur, h3, Nat.le_trans hbc h4, h5⟩⟩

theorem add_off (b off j : Nat) : ((⟨b, off, none⟩ : Addr).add j) = ⟨b, off + j, none⟩ := by
  unfold Addr.add
  split
  · rename_i h; rw [h]; rfl
  · rfl

theorem ints_cells {W : World} {b off len : Nat} {zs : List Int} (h : IntsAt W (some ⟨b, off, none⟩) len zs) : ∀ j u, (intsV zs)[j]? = some u → W.cell? ((⟨b, off, none⟩ : Addr).add j) = some u := by
  intro j u hj
  unfold intsV at hj
  rw [List.getElem?_map] at hj
  obtain ⟨z, hz, rfl⟩ := Option.map_eq_some_iff.1 hj
  obtain ⟨h1, h0 | ⟨b', off', ha, hc⟩⟩ := h
  · have := (List.getElem?_eq_some_iff.1 hz).1; omega
  · simp at ha
    obtain ⟨rfl, rfl⟩ := ha
    rw [add_off]; exact hc j z hz

theorem cell_int_new (w : World) (v : Value) (t : TypeId) : ∀ j u, [v][j]? = some u → (w.alloc (.cells #[v] t)).cell? ((⟨w.heap.size, 0, none⟩ : Addr).add j) = some u := by
  intro j u hj
  match j, hj with
  | 0, hj => simp at hj; subst hj; simp [Addr.add]

end Go.Proofs.YtncceljffcjoiaaGreatDoor

/-
  WALKS: impl.sumsOf.
-/
namespace Go.Proofs.YtncceljffcjoiaaGreatDoor
open Go.RowKit
set_option linter.unusedVariables false

attribute [local go_sem] Oper.semAt_some

/-- One round: a sum is written, and the stack moves on. -/
def stepB {ns : List Nd} (a : List Int × Stk) (x : Elt ns) : List Int × Stk :=
  (a.1.set x.i (popL x.n.p (baseW (x.n.k, x.n.v)) a.2).1, (x.n.p, (popL x.n.p (baseW (x.n.k, x.n.v)) a.2).1) :: (popL x.n.p (baseW (x.n.k, x.n.v)) a.2).2)

theorem set_last (j : Nat) (r : Int) (A : List Int) : (List.replicate (j + 1) (0 : Int) ++ A).set j r = List.replicate j 0 ++ r :: A := by
  rw [List.replicate_succ', List.append_assoc, List.set_append_right _ _ (by simp)]
  simp

theorem fold_back (ns : List Nd) : ∀ (j : Nat) (h : j ≤ ns.length), (backE ns j h).foldl stepB (List.replicate j 0 ++ (runSt (ns.drop j)).1, (runSt (ns.drop j)).2) = runSt ns
  | 0, _ => by simp [backE]
  | j + 1, h => by
    have hd : ns.drop j = ns[j] :: ns.drop (j + 1) := List.drop_eq_getElem_cons (by omega)
    have e : runSt (ns.drop j) = stepNd ns[j] (runSt (ns.drop (j + 1))) := by rw [hd, runSt_cons]
    have ih := fold_back ns j (by omega)
    rw [e] at ih
    show List.foldl stepB (stepB _ ⟨j, ns[j], _⟩) (backE ns j _) = _
    unfold stepB
    simp only
    rw [set_last]
    exact ih

theorem fold_all (ns : List Nd) : (backE ns ns.length (Nat.le_refl _)).foldl stepB (List.replicate ns.length 0, []) = runSt ns := by
  have := fold_back ns ns.length (Nat.le_refl _)
  rw [List.drop_length] at this
  simpa [runSt] using this

theorem infoInt3 : (Tryz.prog.info? 3).map (fun i => (i.zero, i.size, i.bytes)) = some (some (.int .i64 0), 1, 8) := by kernel_rfl

/-- Between two rounds: the row of sums and its box, the stack. -/
def SumsI (ns : List Nd) (len : Nat) (W : World) (pre : List (Elt ns)) (W' : World) : Prop :=
  ∃ (sl : Value) (stk : Stk) (zs : List Int), Boxed W' (W.heap.size + 1) 70 (.slice (some ⟨W.heap.size, 0, none⟩) len len) ∧ W'.ownsRow W.heap.size 3 1 (.slice (some ⟨W.heap.size, 0, none⟩) len len) len (intsV zs) ∧
    StkAt (W.heap.size + 1 + 1) (W.heap.size + 1 + 1 + 1 + 1) W' sl stk ∧ (zs, stk.reverse) = pre.foldl stepB (List.replicate len 0, []) ∧ stk.length ≤ pre.length ∧ StkOk stk

theorem SumsI.own (ns : List Nd) (len : Nat) (W : World) : Own (SumsI ns len W) := by
  rintro pre A B row ⟨sl, stk, zs, h1, h2, h3, h4, h5, h6⟩ hg hr
  have hnc : ∀ {b : Nat} {cs : Array Value} {t : TypeId} {fr : Nat × Nat}, A.heap[b]? = some (.cells cs t fr) → some b ≠ row := fun h e => by
    obtain ⟨o, ho, hc⟩ := hr _ e.symm
    rw [h] at ho; cases ho; cases hc
  have hrow : ∀ {base : Nat} {e : TypeId} {size : Nat} {v : Value} {n : Nat} {xs : List Value}, A.ownsRow base e size v n xs → B.ownsRow base e size v n xs := fun h => by
    refine h.kept hg ?_
    rcases h.2 with ⟨rfl, _⟩ | ⟨g, cap, cur, rfl, _, hgb, _⟩
    · exact .inl rfl
    · exact .inr (hnc hgb)
  exact ⟨sl, stk, zs, h1.kept hg (hnc h1), hrow h2, ⟨h3.box.kept hg (hnc h3.box), hrow h3.row, h3.lt, Nat.le_trans h3.le hg.size⟩, h4, h5, h6⟩

theorem made_row (W : World) (len : Nat) (hm : len ≤ maxLen) : (W.alloc (.cells (madeCells #[.int .i64 0] len) 3)).ownsRow W.heap.size 3 1 (.slice (some ⟨W.heap.size, 0, none⟩) len len) len (intsV (List.replicate len 0)) := by
  refine ⟨by rw [intsV_length, List.length_replicate, Nat.mul_one], .inr ⟨W.heap.size, len, _, rfl, Nat.le_refl _, World.alloc_heap_new W _, Nat.le_refl _, hm, by rw [size_madeCells, Nat.mul_one], ?_⟩⟩
  rw [Nat.mul_one, List.take_of_length_le (by rw [Array.length_toList, size_madeCells]; omega)]
  unfold madeCells intsV
  rw [List.map_replicate, List.eq_replicate_iff]
  refine ⟨by simp, fun v hv => ?_⟩
  simp [Nat.mod_one] at hv
  exact hv.2.symm

theorem sums_start (ns : List Nd) (len cap : Nat) (a : Option Addr) (W : World) (hm : len ≤ maxLen) : SumsI ns len W [] ((((W.alloc (.cells (madeCells #[.int .i64 0] len) 3)).alloc (.cells #[.slice (some ⟨W.heap.size, 0, none⟩) len len] 70)).alloc (.cells #[.slice none 0 0] 115)).alloc (.cells #[.slice a len cap] 23)) := by
  have b1 := Boxed.new (W.alloc (.cells (madeCells #[.int .i64 0] len) 3)) 70 (.slice (some ⟨W.heap.size, 0, none⟩) len len)
  have b2 := Boxed.new ((W.alloc (.cells (madeCells #[.int .i64 0] len) 3)).alloc (.cells #[.slice (some ⟨W.heap.size, 0, none⟩) len len] 70)) 115 (.slice none 0 0)
  rw [World.size_alloc] at b1 b2
  rw [World.size_alloc] at b2
  exact ⟨.slice none 0 0, [], List.replicate len 0, (b1.alloc _).alloc _, (((made_row W len hm).alloc _).alloc _).alloc _, ⟨b2.alloc _, World.ownsRow_nil _ _ _ _, by omega, by simp⟩, rfl, Nat.le_refl _, fun x hx => by cases hx⟩

theorem StkKept.row {B base : Nat} {W W' : World} (h : StkKept B base W W') {g0 b0 n cap size : Nat} {e : TypeId} {xs : List Value} (hg : g0 < base) (hne : g0 ≠ B) (ho : W.ownsRow b0 e size (.slice (some ⟨g0, 0, none⟩) n cap) n xs) : W'.ownsRow b0 e size (.slice (some ⟨g0, 0, none⟩) n cap) n xs := by
  refine ⟨ho.1, ?_⟩
  rcases ho.2 with ⟨h0, _⟩ | ⟨g, cap', cur, hv, h1, h2, h3⟩
  · cases h0
  · cases hv
    exact .inr ⟨g0, cap, cur, rfl, h1, (h.block g0 hg hne).trans h2, h3⟩

theorem intsV_set (zs : List Int) (i : Nat) (r : Int) : (intsV zs).set i (.int .i64 r) = intsV (zs.set i r) := by unfold intsV; rw [List.map_set]

theorem sums_round {ns : List Nd} {len i : Nat} {p : ByteArray} {k v : Int} {W W1 W6 : World} {pre : List (Elt ns)} {x : Elt ns} {sl sl6 : Value} {stk : Stk} {zs : List Int}
    (g1 : Boxed W1 (W.heap.size + 1) 70 (.slice (some ⟨W.heap.size, 0, none⟩) len len)) (g2 : W1.ownsRow W.heap.size 3 1 (.slice (some ⟨W.heap.size, 0, none⟩) len len) len (intsV zs))
    (g3 : StkAt (W.heap.size + 1 + 1) (W.heap.size + 1 + 1 + 1 + 1) W1 sl stk) (g4 : (zs, stk.reverse) = pre.foldl stepB (List.replicate len 0, [])) (g5 : stk.length ≤ pre.length)
    (g6 : StkOk stk ∧ vpB p = true ∧ validB k v = true) (hx : x.i = i ∧ x.n = ⟨p, k, v⟩) (hz : zs.length = len ∧ i < len) (hb1 : Below W.heap.size W W1)
    (hA6 : StkAt (W.heap.size + 1 + 1) (W.heap.size + 1 + 1 + 1 + 1) W6 sl6 ((popL p (baseW (k, v)) stk.reverse).2.reverse ++ [(p, (popL p (baseW (k, v)) stk.reverse).1)]))
    (hK6 : StkKept (W.heap.size + 1 + 1) (W.heap.size + 1 + 1 + 1 + 1) W1.drew W6) {Bl : Nat} :
    KeepsFrom Bl W1 (W6.setCell ⟨W.heap.size, i, none⟩ (.int .i64 (popL p (baseW (k, v)) stk.reverse).1)) ∧
    BackK W.heap.size (W.heap.size + 1 + 1 + 1) W1 (W6.setCell ⟨W.heap.size, i, none⟩ (.int .i64 (popL p (baseW (k, v)) stk.reverse).1)) ∧
    (SumsI ns len W (pre ++ [x]) (W6.setCell ⟨W.heap.size, i, none⟩ (.int .i64 (popL p (baseW (k, v)) stk.reverse).1)) ∧ Below W.heap.size W (W6.setCell ⟨W.heap.size, i, none⟩ (.int .i64 (popL p (baseW (k, v)) stk.reverse).1))) := by
  have hB : Below W.heap.size W1 (W6.setCell ⟨W.heap.size, i, none⟩ (.int .i64 (popL p (baseW (k, v)) stk.reverse).1)) :=
    below_setCell (show Below W.heap.size W1 W6 from ⟨hK6.low.os, hK6.low.tape, hK6.low.output, hK6.low.size, fun j hj => hK6.block j (by omega) (by omega)⟩) _ _ (Nat.le_refl _)
  have hko : KeepsOthers W1 W6 := ⟨hK6.others.size, hK6.others.same⟩
  refine ⟨(hko.trans (KeepsOthers.setCell _ _ _)).from _, ⟨hB, (Below.heap_setCell _ _ _ _ (by show W.heap.size + 1 + 1 + 1 ≠ W.heap.size; omega)).trans (hK6.block _ (by omega) (by omega))⟩, ?_, hb1.trans hB⟩
  have hrow := hK6.row (g0 := W.heap.size) (by omega) (by omega) (show W1.drew.ownsRow _ _ _ _ _ _ from g2)
  have hrow2 := (hrow.stored i (.int .i64 (popL p (baseW (k, v)) stk.reverse).1)).1
  rw [intsV_set] at hrow2
  have hr0 := popL_ok (p := p) (S := stk.reverse) (fun y hy => g6.1 y (List.mem_reverse.1 hy)) (base_ok g6.2.2)
  have hl0 := popL_len (p := p) (S := stk.reverse) (n := baseW (k, v))
  refine ⟨sl6, _, zs.set i (popL p (baseW (k, v)) stk.reverse).1, ?_, hrow2, hA6.far (by omega) (fun e => by have := (hA6.row.lt _ e).1; omega) i _ (by have := hA6.le; omega), ?_, ?_, ?_⟩
  · exact (Below.heap_setCell _ _ _ _ (by show W.heap.size + 1 ≠ W.heap.size; omega)).trans ((hK6.block _ (by omega) (by omega)).trans g1)
  · rw [List.foldl_append, ← g4]
    show _ = stepB (zs, stk.reverse) x
    unfold stepB
    rw [hx.1, hx.2, List.reverse_append, List.reverse_reverse]
    rfl
  · rw [List.length_append, List.length_append, List.length_reverse]
    simp only [List.length_reverse, List.length_singleton] at hl0 ⊢
    omega
  · intro y hy
    rcases List.mem_append.1 hy with hy | hy
    · exact hr0.1 y (List.mem_reverse.1 hy)
    · rw [List.mem_singleton.1 hy]
      exact ⟨g6.2.1, hr0.2⟩

/-- The loop's variable lies in a box of its own. -/
def NdBox {ns : List Nd} (B0 : Nat) (tm : Nat → Elt ns → Array Value) (x : Elt ns) (a' : Act) (W : World) : Prop :=
  ∃ Bx, B0 ≤ Bx ∧ W.heap[Bx]? = some (.cells #[.string x.n.p, .int .i64 x.n.k, .int .i64 x.n.v] 52 (0, 0)) ∧ a' = { tmps := tm Bx x, defers := [] }

theorem NdBox.own {ns : List Nd} (B0 : Nat) (tm : Nat → Elt ns → Array Value) (x : Elt ns) (a' : Act) : Own (fun (_ : Unit) W => NdBox B0 tm x a' W) := by
  rintro _ A B row ⟨Bx, h0, h1, h2⟩ hg hr
  refine ⟨Bx, h0, (hg.block Bx (Array.getElem?_eq_some_iff.1 h1).1 fun e => ?_).trans h1, h2⟩
  obtain ⟨o, ho, hc⟩ := hr _ e.symm
  rw [h1] at ho; cases ho; cases hc

set_option maxHeartbeats 2000000 in
set_option maxRecDepth 100000 in
theorem sumsOf_in (a : Option Addr) (len cap : Nat) (ns : List Nd) (hl : len ≤ 2000000) (hok : NdsOk ns) (W : World) (hN : NodesAt W a len ns) :
    CallsIn Fence.wide 6 Tryz.prog 46 #[.slice a len cap] W fun e W' => OwnsInts W.heap.size (runSt ns).1 e W' ∧ Below W.heap.size W W' := by
  obtain ⟨i0, hi, hz0, hz1, hz2⟩ := info_parts infoInt3
  have hmk := fun (w : World) => run_make (P := Tryz.prog) w 70 3 i0 (.int .i64 0) Tryz.underlying70 hi hz0 .i64 .i64 len len (by omega) (by omega) (by rw [hz2]; omega) (by omega)
  simp only [Int.toNat_natCast, hz1] at hmk
  have HN := Lib.hid hN
  have HE := Lib.hid hN.1
  have HOK := Lib.hid hok
  have HL := Lib.hid hl
  clear hN hok hl
  refine callsIn_of_wp_marks Tryz.func46 rfl trivial ?_ rfl
  simp only [Tryz.ntmps46, List.size_toArray, List.length_cons, List.length_nil, Nat.reduceAdd, Nat.reduceSub, Array.replicate_succ, Array.replicate_zero, List.push_toArray, List.append_toArray, List.nil_append, List.cons_append]
  gi_wp2_with (refine ⟨trivial, ?_⟩; gi_at_call 75; refine (backward_in _ _ _ _ _).mono ?_; rintro e w' ⟨rfl, rfl⟩)
  have hlow := nodes_lt HN.out
  obtain ⟨X, hX⟩ : ∃ X, X = W.heap.size := ⟨_, rfl⟩
  have hB0 : Below W.heap.size W ((((W.alloc (.cells (madeCells #[.int .i64 0] len) 3)).alloc (.cells #[.slice (some ⟨W.heap.size, 0, none⟩) len len] 70)).alloc (.cells #[.slice none 0 0] 115)).alloc (.cells #[.slice a len cap] 23)) :=
    ((((Below.refl _ W).alloc (Nat.le_refl _) _).alloc (by simp) _).alloc (by simp; omega) _).alloc (by simp; omega) _
  have hI0 : SumsI ns len W [] ((((W.alloc (.cells (madeCells #[.int .i64 0] len) 3)).alloc (.cells #[.slice (some ⟨W.heap.size, 0, none⟩) len len] 70)).alloc (.cells #[.slice none 0 0] 115)).alloc (.cells #[.slice a len cap] 23)) := sums_start ns len cap a W (by have := HL.out; unfold maxLen; omega)
  have hsz : ((((W.alloc (.cells (madeCells #[.int .i64 0] len) 3)).alloc (.cells #[.slice (some ⟨W.heap.size, 0, none⟩) len len] 70)).alloc (.cells #[.slice none 0 0] 115)).alloc (.cells #[.slice a len cap] 23)).heap.size = W.heap.size + 1 + 1 + 1 + 1 := by simp
  have hbk : ((((W.alloc (.cells (madeCells #[.int .i64 0] len) 3)).alloc (.cells #[.slice (some ⟨W.heap.size, 0, none⟩) len len] 70)).alloc (.cells #[.slice none 0 0] 115)).alloc (.cells #[.slice a len cap] 23)).cell? ⟨W.heap.size + 1 + 1 + 1, 0, none⟩ = some (.slice a len cap) := by
    have := (Boxed.new (((W.alloc (.cells (madeCells #[.int .i64 0] len) 3)).alloc (.cells #[.slice (some ⟨W.heap.size, 0, none⟩) len len] 70)).alloc (.cells #[.slice none 0 0] 115)) 23 (.slice a len cap)).cell
    simpa only [World.size_alloc] using this
  generalize ((((W.alloc (.cells (madeCells #[.int .i64 0] len) 3)).alloc (.cells #[.slice (some ⟨W.heap.size, 0, none⟩) len len] 70)).alloc (.cells #[.slice none 0 0] 115)).alloc (.cells #[.slice a len cap] 23)) = Wl at hB0 hI0 hsz hbk ⊢
  clear hmk
  have HSZ := Lib.hid hsz
  refine wpIn_rangeFunc_ownH rfl (by omega) (gf := 98) (lb := #[.pointer (some ⟨W.heap.size + 1 + 1 + 1, 0, none⟩)]) rfl trivial (enters_of Tryz.func98 (by kernel_rfl) rfl)
    (backward_stops _ (by omega) (W.heap.size + 1 + 1 + 1) W.heap.size a len cap ns (by have := HL.out; omega) hlow Wl hB0.size (by rw [hsz]; omega) hbk (HN.out.keep hB0))
    (fun h k => ⟨h.1.trans k.1, k.2.trans h.2⟩)
    (fun W' l o o' hl _ _ _ => by
      rw [HSZ.out] at hl
      exact ⟨⟨rfl, rfl, rfl, by simp, fun k hk => World.putObj_heap_other (by omega)⟩, World.putObj_heap_other (by omega)⟩)
    (Below.refl _ _) (fun _ => rfl)
    (fun pre W' => SumsI ns len W pre W' ∧ Below W.heap.size W W') (fun _ _ _ => False)
    (OwnFrom.and (Own.from (SumsI.own ns len W) _) (ownFrom_below (Nat.le_refl _) hB0.size)) (fun _ _ _ _ _ h _ _ => h.elim)
    ⟨hI0, hB0⟩
    (NdBox Wl.heap.size (fun Bx x => #[.slice a len cap, undef, .slice none 0 0, .pointer (some ⟨W.heap.size + 1, 0, none⟩), .pointer (some ⟨W.heap.size + 1 + 1, 0, none⟩), .int .i64 x.i, .pointer (some ⟨Bx, 0, none⟩), .slice a len cap, .int .i64 len, .slice (some ⟨W.heap.size, 0, none⟩) len len, .slice a len cap, .func (.func 98) #[] #[.pointer (some ⟨W.heap.size + 1 + 1 + 1, 0, none⟩)], .int .i64 x.i, .agg #[.string x.n.p, .int .i64 x.n.k, .int .i64 x.n.v], undef, undef, undef, undef, undef, undef]))
    (fun x a' => Own.from (NdBox.own _ _ x a') _)
    ?assign ?body ?done ?stop
  case assign =>
    rintro l pre x W1 K ⟨hi1, hb1⟩ hK
    unfold ndV
    gi_wp2
    obtain ⟨_, _, _, _, _, hst, _⟩ := id hi1
    have hle := hst.le
    exact hK _ _ ((KeepsOthers.alloc _ _).from _) ⟨(Below.refl _ _).alloc hb1.size _, Below.heap_alloc _ _ _ (by omega)⟩ ⟨(SumsI.own ns len W).alloc _ hi1, hb1.alloc hb1.size _⟩ ⟨W1.heap.size, by rw [HSZ.out]; exact hle, World.alloc_heap_new W1 _, rfl⟩
  case body =>
    rintro l pre x a' W1 hl ⟨r, hr⟩ ⟨hi1, hb1⟩ ⟨Bx, hBx, hbx, rfl⟩ hlt
    obtain ⟨sl, stk, zs, g1, g2, g3, g4, g5, g6⟩ := hi1
    obtain ⟨i, ⟨p, k, v⟩, hat⟩ := x
    obtain ⟨x, hx⟩ : ∃ x : Elt ns, x = ⟨i, ⟨p, k, v⟩, hat⟩ := ⟨_, rfl⟩
    rw [← hx]
    have HX := Lib.hid (show x.i = i ∧ x.n = ⟨p, k, v⟩ by rw [hx]; exact ⟨rfl, rfl⟩)
    simp only at hbx
    dsimp only
    obtain ⟨hvp, hvc⟩ := HOK.out _ (List.mem_of_getElem? hat)
    simp only at hvp hvc
    have hil : i < len := by have := (List.getElem?_eq_some_iff.1 hat).1; have := HE.out; omega
    have HSUM := Lib.hid (stackSum_c (W.heap.size + 1 + 1) (W.heap.size + 1 + 1 + 1 + 1) sl stk p k v (by have := HE.out; have := HL.out; omega) g6 hvp hvc W1.drew g3.drew)
    have hil' : (i : Int) < len := by omega
    have c0 : W1.cell? ⟨Bx, 0, none⟩ = some (.string p) := by simp [World.cell?, hbx]
    have c1 : W1.cell? ⟨Bx, 1, none⟩ = some (.int .i64 k) := by simp [World.cell?, hbx]
    have c2 : W1.cell? ⟨Bx, 2, none⟩ = some (.int .i64 v) := by simp [World.cell?, hbx]
    have s0 := g1.cell
    have HG1 := Lib.hid g1
    have HG2 := Lib.hid g2
    have HG3 := Lib.hid g3
    have HG4 := Lib.hid g4
    have HG5 := Lib.hid g5
    have HG6 := Lib.hid (And.intro g6 (And.intro hvp hvc))
    have HR := Lib.hid hr
    have HB1 := Lib.hid hb1
    have hlz : zs.length = len := by have := g2.1; rwa [intsV_length, Nat.mul_one] at this
    obtain ⟨u0, e0⟩ : ∃ u, W1.cell? ⟨W.heap.size, i, none⟩ = some u := by
      rw [g2.cellAt _ (by omega)]
      exact ⟨_, List.getElem?_eq_getElem (by rw [intsV_length]; omega)⟩
    have y0 := g2.frozenAt i
    have HLZ := Lib.hid (And.intro hlz hil)
    clear hx hbx hr g1 g2 g3 g4 g5 g6 hat hvp hvc hb1 hlz hlt hl hBx hbk hB0 hI0 hX hlow
    obtain ⟨hxi, hxn⟩ := HX.out
    simp only [hxi, hxn]
    clear hxi hxn
    gi_wp2
    refine region_round (F := Fence.wide) l rfl (by kernel_rfl) (by kernel_rfl) ?_
    refine wpAnyIn_take (i := 1) (v := ?_) rfl rfl (by kernel_rfl) (by kernel_rfl) (by kernel_rfl) (fun _ _ _ h => h) ⟨Or.inl ⟨by rfl, ?_⟩, fun _ => rfl⟩ ?_
    rotate_left
    · (intro w; go_simp; try with_reducible rfl)
    try simp only [Act.put, List.getElem_toArray, List.getElem_cons_zero, List.getElem_cons_succ, List.setIfInBounds_toArray, List.set_cons_zero, List.set_cons_succ]
    refine wpAnyIn_ready (rs := [0, 2]) (by kernel_rfl) (by simp) ?_
    refine AllReadyIn.cons rfl (fun K hK => ?_) (AllReadyIn.cons rfl (fun K hK => ?_) AllReadyIn.nil)
    · go_simp
      refine hK _ _ ?_
      clear hK K
      try simp only [Act.put, List.getElem_toArray, List.getElem_cons_zero, List.getElem_cons_succ, List.setIfInBounds_toArray, List.set_cons_zero, List.set_cons_succ]
      refine wpAnyIn_ready (rs := [2]) (by kernel_rfl) (by simp) ?_
      refine AllReadyIn.cons rfl (fun K hK => ?_) AllReadyIn.nil
      go_simp
      refine hK _ _ ?_
      clear hK K
      try simp only [Act.put, List.getElem_toArray, List.getElem_cons_zero, List.getElem_cons_succ, List.setIfInBounds_toArray, List.set_cons_zero, List.set_cons_succ]
      refine wpAnyIn_ready (rs := [3]) (by kernel_rfl) (by simp) ?_
      refine AllReadyIn.cons rfl (fun K hK => ?_) AllReadyIn.nil
      go_simp
      gi_wp2_with (refine ⟨trivial, ?_⟩; gi_at_call 76; refine (callsIn_wide.2 HSUM.out).mono ?_; rintro e W6 ⟨sl6, rfl, hA6, hK6⟩; have e6 := hK6.cell (p := ⟨W.heap.size, i, none⟩) (by show W.heap.size < _; omega) (by show W.heap.size ≠ _; omega) e0; have y6 := (World.frozen?_of_block (a := ⟨W.heap.size, i, none⟩) (hK6.block W.heap.size (by omega) (by omega))).trans y0; have s6 := hK6.cell (p := ⟨W.heap.size + 1, 0, none⟩) (by show W.heap.size + 1 < _; omega) (by show W.heap.size + 1 ≠ _; omega) s0)
      refine wpAnyIn_ready (rs := [4]) (by kernel_rfl) (by simp) ?_
      refine AllReadyIn.cons rfl (fun K hK => ?_) AllReadyIn.nil
      go_simp
      refine hK _ _ ?_
      clear hK K
      try simp only [Act.put, List.getElem_toArray, List.getElem_cons_zero, List.getElem_cons_succ, List.setIfInBounds_toArray, List.set_cons_zero, List.set_cons_succ]
      refine wpAnyIn_ready (rs := [5]) (by kernel_rfl) (by simp) ?_
      refine AllReadyIn.cons rfl (fun K hK => ?_) AllReadyIn.nil
      go_simp
      refine hK _ _ ?_
      clear hK K
      try simp only [Act.put, List.getElem_toArray, List.getElem_cons_zero, List.getElem_cons_succ, List.setIfInBounds_toArray, List.set_cons_zero, List.set_cons_succ]
      refine wpAnyIn_done (by kernel_rfl) ?_ _
      exact sums_round HG1.out HG2.out HG3.out HG4.out HG5.out HG6.out HX.out HLZ.out HB1.out hA6 hK6
    · go_simp
      refine hK _ _ ?_
      clear hK K
      try simp only [Act.put, List.getElem_toArray, List.getElem_cons_zero, List.getElem_cons_succ, List.setIfInBounds_toArray, List.set_cons_zero, List.set_cons_succ]
      refine wpAnyIn_ready (rs := [0, 3]) (by kernel_rfl) (by simp) ?_
      refine AllReadyIn.cons rfl (fun K hK => ?_) (AllReadyIn.cons rfl (fun K hK => ?_) AllReadyIn.nil)
      · go_simp
        refine hK _ _ ?_
        clear hK K
        try simp only [Act.put, List.getElem_toArray, List.getElem_cons_zero, List.getElem_cons_succ, List.setIfInBounds_toArray, List.set_cons_zero, List.set_cons_succ]
        refine wpAnyIn_ready (rs := [3]) (by kernel_rfl) (by simp) ?_
        refine AllReadyIn.cons rfl (fun K hK => ?_) AllReadyIn.nil
        go_simp
        gi_wp2_with (refine ⟨trivial, ?_⟩; gi_at_call 76; refine (callsIn_wide.2 HSUM.out).mono ?_; rintro e W6 ⟨sl6, rfl, hA6, hK6⟩; have e6 := hK6.cell (p := ⟨W.heap.size, i, none⟩) (by show W.heap.size < _; omega) (by show W.heap.size ≠ _; omega) e0; have y6 := (World.frozen?_of_block (a := ⟨W.heap.size, i, none⟩) (hK6.block W.heap.size (by omega) (by omega))).trans y0; have s6 := hK6.cell (p := ⟨W.heap.size + 1, 0, none⟩) (by show W.heap.size + 1 < _; omega) (by show W.heap.size + 1 ≠ _; omega) s0)
        refine wpAnyIn_ready (rs := [4]) (by kernel_rfl) (by simp) ?_
        refine AllReadyIn.cons rfl (fun K hK => ?_) AllReadyIn.nil
        go_simp
        refine hK _ _ ?_
        clear hK K
        try simp only [Act.put, List.getElem_toArray, List.getElem_cons_zero, List.getElem_cons_succ, List.setIfInBounds_toArray, List.set_cons_zero, List.set_cons_succ]
        refine wpAnyIn_ready (rs := [5]) (by kernel_rfl) (by simp) ?_
        refine AllReadyIn.cons rfl (fun K hK => ?_) AllReadyIn.nil
        go_simp
        refine hK _ _ ?_
        clear hK K
        try simp only [Act.put, List.getElem_toArray, List.getElem_cons_zero, List.getElem_cons_succ, List.setIfInBounds_toArray, List.set_cons_zero, List.set_cons_succ]
        refine wpAnyIn_done (by kernel_rfl) ?_ _
        exact sums_round HG1.out HG2.out HG3.out HG4.out HG5.out HG6.out HX.out HLZ.out HB1.out hA6 hK6
      · go_simp
        gi_wp2_with (refine ⟨trivial, ?_⟩; gi_at_call 76; refine (callsIn_wide.2 HSUM.out).mono ?_; rintro e W6 ⟨sl6, rfl, hA6, hK6⟩; have e6 := hK6.cell (p := ⟨W.heap.size, i, none⟩) (by show W.heap.size < _; omega) (by show W.heap.size ≠ _; omega) e0; have y6 := (World.frozen?_of_block (a := ⟨W.heap.size, i, none⟩) (hK6.block W.heap.size (by omega) (by omega))).trans y0; have s6 := hK6.cell (p := ⟨W.heap.size + 1, 0, none⟩) (by show W.heap.size + 1 < _; omega) (by show W.heap.size + 1 ≠ _; omega) s0)
        refine wpAnyIn_ready (rs := [0]) (by kernel_rfl) (by simp) ?_
        refine AllReadyIn.cons rfl (fun K hK => ?_) AllReadyIn.nil
        go_simp
        refine hK _ _ ?_
        clear hK K
        try simp only [Act.put, List.getElem_toArray, List.getElem_cons_zero, List.getElem_cons_succ, List.setIfInBounds_toArray, List.set_cons_zero, List.set_cons_succ]
        refine wpAnyIn_ready (rs := [4]) (by kernel_rfl) (by simp) ?_
        refine AllReadyIn.cons rfl (fun K hK => ?_) AllReadyIn.nil
        go_simp
        refine hK _ _ ?_
        clear hK K
        try simp only [Act.put, List.getElem_toArray, List.getElem_cons_zero, List.getElem_cons_succ, List.setIfInBounds_toArray, List.set_cons_zero, List.set_cons_succ]
        refine wpAnyIn_ready (rs := [5]) (by kernel_rfl) (by simp) ?_
        refine AllReadyIn.cons rfl (fun K hK => ?_) AllReadyIn.nil
        go_simp
        refine hK _ _ ?_
        clear hK K
        try simp only [Act.put, List.getElem_toArray, List.getElem_cons_zero, List.getElem_cons_succ, List.setIfInBounds_toArray, List.set_cons_zero, List.set_cons_succ]
        refine wpAnyIn_done (by kernel_rfl) ?_ _
        exact sums_round HG1.out HG2.out HG3.out HG4.out HG5.out HG6.out HX.out HLZ.out HB1.out hA6 hK6
  case done =>
    rintro D ys W' hD rfl ⟨⟨sl, stk, zs, h1, h2, h3, h4, h5, h6⟩, hb⟩ hK
    have c0 := h1.cell
    have H2 := Lib.hid h2
    have HB := Lib.hid hb
    have HZ := Lib.hid (show zs = (runSt ns).1 by
      have e := fold_all ns
      have h4' : (zs, stk.reverse) = runSt ns := by rw [h4, ← show ns.length = len from HE.out]; exact e
      rw [← h4'])
    clear h1 h2 h3 h4 h5 h6 hb hbk hB0 hI0 hX hlow
    gi_wp2
    refine ⟨by simp, .inl ⟨_, _, rfl, run_takeDeferred hK, ?_⟩⟩
    have hD' : W.heap.size ≤ D := by rw [HSZ.out] at hD; omega
    refine ⟨.slice (some ⟨W.heap.size, 0, none⟩) len len, by simp [results, Tryz.f46, go_sem], ⟨_, rfl, ?_⟩, HB.out.trans ⟨rfl, rfl, rfl, by simp, fun k hk => World.putObj_heap_other (by omega)⟩⟩
    rw [← HZ.out]
    have hl : zs.length = len := by have := H2.out.1; rwa [intsV_length, Nat.mul_one] at this
    rw [hl]
    exact ownsRow_putObj H2.out _ hK rfl
  case stop =>
    rintro D c pre W' hD hpre hf
    exact hf.elim

theorem sumsOf_c (a : Option Addr) (len cap : Nat) (ns : List Nd) (hl : len ≤ 2000000) (hok : NdsOk ns) (W : World) (hN : NodesAt W a len ns) :
    Calls Tryz.prog 46 #[.slice a len cap] W fun e W' => OwnsInts W.heap.size (runSt ns).1 e W' ∧ Below W.heap.size W W' := callsIn_wide.1 (sumsOf_in a len cap ns hl hok W hN)

end Go.Proofs.YtncceljffcjoiaaGreatDoor

/-
  WALKS: spec.l5Sum, TreeSum, TreeSums.
-/
namespace Go.Proofs.YtncceljffcjoiaaGreatDoor
open Go.RowKit
set_option linter.unusedVariables false

theorem convLetter (w : World) (c : Nat) : (convert 22 9 (.slice (some ⟨w.heap.size, 0, none⟩) 1 1)).run Tryz.prog (w.alloc (.cells #[.int .u8 (97 + (c : Int))] 5)) =
    .ok (.string ⟨#[UInt8.ofNat (97 + c)]⟩) (w.alloc (.cells #[.int .u8 (97 + (c : Int))] 5)) := by
  rw [run_convert_bytes_string _ _ _ _ _ _ _ Tryz.underlying22 Tryz.underlying5 Tryz.underlying9, run_bytesToString _ _ _ _ [97 + (c : Int)] ?_]
  · simp only [List.foldl_cons, List.foldl_nil]
    have : (97 + (c : Int)).toNat = 97 + c := by omega
    rw [this]; rfl
  · simp [loadCells, go_sem, Addr.add]

theorem pB_len {v : List UInt8} : (pB v).size ≤ 2 * v.length + 1 := by
  show (Pm.pathOf v).length ≤ _
  unfold Pm.pathOf
  split
  · simp
  · rw [Pm.flat_length]; omega

theorem mk_app (x y : ByteArray) : (x ++ y).data.toList = x.data.toList ++ y.data.toList := by simp [ByteArray.data_append]

theorem child_root (c : UInt8) : (⟨#[47]⟩ : ByteArray) ++ ⟨#[c]⟩ = pB [c] := by
  rw [← Lib.mk_data ((⟨#[47]⟩ : ByteArray) ++ ⟨#[c]⟩), mk_app]; rfl

theorem child_path {w : List UInt8} (hw : w ≠ []) (c : UInt8) : pB w ++ ⟨#[47]⟩ ++ ⟨#[c]⟩ = pB (w ++ [c]) := by
  rw [← Lib.mk_data (pB w ++ ⟨#[47]⟩ ++ ⟨#[c]⟩), mk_app, mk_app, pB_list]
  unfold pB Pm.pathOf
  rw [if_neg hw, if_neg (by simp), Pm.flat_append]
  simp [Pm.flat]

/-- What a sum's walk leaves: a number. -/
def NumPost (n : Int) (W : World) (e : Ending) (w' : World) : Prop := e = .returned (.int .i64 n) ∧ Below W.heap.size W w'

def L5Rel (G : List UInt8 → Int × Int) (d : Nat) (w : List UInt8) (W : World) (n k : Value) (wr : World) : Prop :=
  ∃ m : Nat, k = .int .i64 m ∧ m ≤ 4 ∧ n = .int .i64 (partW G d w m) ∧ Hid (Below W.heap.size W wr)

theorem letter_ofNat {k : Nat} (hk : k < 4) : Pm.letter (UInt8.ofNat (97 + k)) = true := by
  rcases (by omega : k = 0 ∨ k = 1 ∨ k = 2 ∨ k = 3) with rfl | rfl | rfl | rfl <;> decide

theorem word_next {w : List UInt8} (hw : Wrd w) (h : w.length < 4) {k : Nat} (hk : k < 4) : Wrd (w ++ [UInt8.ofNat (97 + k)]) :=
  ⟨by rw [List.length_append]; show w.length + 1 ≤ 4; omega, fun x hx => by
    rcases List.mem_append.1 hx with hx | hx
    · exact hw.2 x hx
    · rw [List.mem_singleton.1 hx]; exact letter_ofNat hk⟩

def SumsRel (ns : List Nd) (W1 : World) (o i : Value) (wr : World) : Prop :=
  ∃ n : Nat, i = .int .i64 n ∧ n ≤ ns.length ∧ Hid (validT ns = true ∨ n = 0) ∧ wr.ownsRow W1.heap.size 3 1 o ((ns.take n).map (fun x => treeSum ns x.p)).length (intsV ((ns.take n).map (fun x => treeSum ns x.p))) ∧ Hid (Below W1.heap.size W1 wr)

end Go.Proofs.YtncceljffcjoiaaGreatDoor

/-
  WALKS: impl.TreeSums, impl.TreeSum.
-/
namespace Go.Proofs.YtncceljffcjoiaaGreatDoor
open Go.RowKit
set_option linter.unusedVariables false

theorem sums_valid {ns : List Nd} (h : validT ns = true) : (runSt ns).1 = treeSums ns := by
  rw [run_tree h]
  unfold treeSums
  rw [if_pos h]

theorem sums_bad {ns : List Nd} (h : validT ns = false) : treeSums ns = [] := by
  unfold treeSums
  rw [if_neg (by rw [h]; decide)]

theorem root_map {ns : List Nd} (h : validT ns = true) : (runSt (⟨rootB, 1, 0⟩ :: ns)).1 = (⟨rootB, 1, 0⟩ :: ns : List Nd).map (fun n => treeSum ns n.p) := by
  rw [run_root h]; rfl

theorem rows_two (W : World) {a1 a2 : Option Addr} {l1 c1 l2 c2 : Nat} {n1 n2 : List Nd} (h1 : NodesAt W a1 l1 n1) (h2 : NodesAt W a2 l2 n2) (t : TypeId) :
    RowsAt (W.alloc (.cells #[.slice a1 l1 c1, .slice a2 l2 c2] t)) W.heap.size 0 [⟨a1, l1, c1, n1⟩, ⟨a2, l2, c2, n2⟩] := by
  intro i r hr
  have hb := below_box W (.cells #[.slice a1 l1 c1, .slice a2 l2 c2] t)
  match i, hr with
  | 0, hr =>
    simp at hr; subst hr
    exact ⟨by simp, h1.keep hb⟩
  | 1, hr =>
    simp at hr; subst hr
    exact ⟨by simp, h2.keep hb⟩
  | i + 2, hr => simp at hr

theorem one_node (W : World) (p : ByteArray) (k v : Int) (t : TypeId) : NodesAt (W.alloc (.cells #[.string p, .int .i64 k, .int .i64 v] t)) (some ⟨W.heap.size, 0, none⟩) 1 [⟨p, k, v⟩] := by
  refine ⟨rfl, .inr ⟨W.heap.size, 0, rfl, fun i n hn => ?_⟩⟩
  match i, hn with
  | 0, hn => simp at hn; subst hn; simp
  | i + 1, hn => simp at hn

theorem look_sum {ns L : List Nd} (hL : L = ⟨rootB, 1, 0⟩ :: ns) (hv : validT ns = true) {i : Nat} {m : Nd} (hm : L[i]? = some m) {z : Int} (hz : (runSt L).1[i]? = some z) : z = treeSum ns m.p := by
  subst hL
  rw [root_map hv, List.getElem?_map, hm] at hz
  exact (Option.some.inj hz).symm

theorem look_miss {ns L : List Nd} {p : ByteArray} (hL : L = ⟨rootB, 1, 0⟩ :: ns) (hv : validT ns = true) (hp : vpB p = true) (h : ∀ j m, j < L.length → L[j]? = some m → m.p ≠ p) : treeSum ns p = 1 := by
  have hm : ∀ m ∈ L, m.p ≠ p := fun m hm => by
    obtain ⟨j, hj⟩ := List.getElem?_of_mem hm
    exact h j m (List.getElem?_eq_some_iff.1 hj).1 hj
  subst hL
  refine sum_missing hv hp (fun e => hm ⟨rootB, 1, 0⟩ (by simp) e.symm) fun n hn => hm n (by simp [hn])

def LookRel (L : List Nd) (p : ByteArray) (W : World) (i : Value) (wr : World) : Prop := ∃ n : Nat, i = .int .i64 n ∧ n ≤ L.length ∧ Hid (∀ j m, j < n → L[j]? = some m → m.p ≠ p) ∧ W = wr

theorem sum_bad {ns : List Nd} {p : ByteArray} (h : validT ns = false ∨ vpB p = false) : treeSum ns p = -1 := by
  unfold treeSum
  rcases h with h | h <;> simp [h]

set_option maxHeartbeats 2000000 in
set_option maxRecDepth 100000 in
theorem implTreeSum_c (a : Option Addr) (len cap : Nat) (ns : List Nd) (p : ByteArray) (hl : len ≤ 2097152) (hs : Short 2097152 ns) (hp : p.size ≤ 2097152) (W : World) (hN : NodesAt W a len ns) :
    Calls Tryz.prog 13 #[.slice a len cap, .string p] W (NumPost (treeSum ns p) W) := by
  obtain ⟨vt, hvt⟩ : ∃ vt, validT ns = vt := ⟨_, rfl⟩
  obtain ⟨vp, hvp⟩ : ∃ vp, vpB p = vp := ⟨_, rfl⟩
  have HV := Lib.hid (show Calls Tryz.prog 41 #[.slice a len cap] W (BoolPost vt W) by rw [← hvt]; exact implTreeValid_c a len cap ns hl hs W hN)
  have HP := Lib.hid (fun W1 => show Calls Tryz.prog 44 #[.string p] W1 (BoolPost vp W1) by rw [← hvp]; exact pathValid_c p (by omega) W1)
  cases vt with
  | false =>
    have HB := Lib.hid (sum_bad (p := p) (.inl hvt))
    clear hN hs hvt hvp
    go_enter Tryz.func13, Tryz.ntmps13
    go_wp2_with fail
    refine HV.out.mono ?_
    rintro e W2 ⟨rfl, hb2⟩
    go_wp2
    refine bodyPost_ret (v := .int .i64 (-1)) (by simp [results, Tryz.f13, go_sem]) rfl ⟨by rw [HB.out], hb2⟩
  | true =>
    cases vp with
    | false =>
      have HB := Lib.hid (sum_bad (ns := ns) (.inr hvp))
      clear hN hs hvt hvp
      go_enter Tryz.func13, Tryz.ntmps13
      go_wp2_with fail
      refine HV.out.mono ?_
      rintro e W2 ⟨rfl, hb2⟩
      have HB2 := Lib.hid hb2
      clear hb2
      go_wp2_with fail
      refine (HP.out _).mono ?_
      rintro e W3 ⟨rfl, hb3⟩
      have HB3 := Lib.hid (below_next HB2.out hb3)
      clear hb3
      go_wp2
      refine bodyPost_ret (v := .int .i64 (-1)) (by simp [results, Tryz.f13, go_sem]) rfl ⟨by rw [HB.out], HB3.out⟩
    | true =>
      have h10 : len ≤ 10 := by have := ((validT_iff ns).1 hvt).2.2; have := hN.1; omega
      have HN := Lib.hid hN
      have HL := Lib.hid h10
      have HVT := Lib.hid hvt
      have HVP := Lib.hid hvp
      clear hN hs hvt hvp h10
      go_enter Tryz.func13, Tryz.ntmps13
      go_wp2_with fail
      refine HV.out.mono ?_
      rintro e W2 ⟨rfl, hb2⟩
      have HB2 := Lib.hid hb2
      clear hb2
      go_wp2_with fail
      refine (HP.out _).mono ?_
      rintro e W3 ⟨rfl, hb3⟩
      have HB3 := Lib.hid (below_next HB2.out hb3)
      clear hb3
      go_wp2_with fail
      have HR := Lib.hid (rows_two (c1 := 1) (c2 := cap) (W3.alloc (.cells #[.string ⟨#[47]⟩, .int .i64 1, .int .i64 0] 52)) (one_node W3 ⟨#[47]⟩ 1 0 52) ((HN.out.keep HB3.out).keep (below_box W3 (.cells #[.string ⟨#[47]⟩, .int .i64 1, .int .i64 0] 52))) 23)
      have HB5 := Lib.hid (below_next (below_next HB3.out (below_box W3 (.cells #[.string ⟨#[47]⟩, .int .i64 1, .int .i64 0] 52))) (below_box (W3.alloc (.cells #[.string ⟨#[47]⟩, .int .i64 1, .int .i64 0] 52)) (.cells #[.slice (some ⟨W3.heap.size, 0, none⟩) 1 1, .slice a len cap] 23)))
      have hg : (W3.alloc (.cells #[.string ⟨#[47]⟩, .int .i64 1, .int .i64 0] 52)).heap.size = W3.heap.size + 1 := World.size_alloc _ _
      rw [hg] at HR
      clear hg
      generalize ((W3.alloc (.cells #[.string ⟨#[47]⟩, .int .i64 1, .int .i64 0] 52)).alloc (.cells #[.slice (some ⟨W3.heap.size, 0, none⟩) 1 1, .slice a len cap] 23)) = W5 at HR HB5 ⊢
      obtain ⟨L, hL⟩ : ∃ L : List Nd, L = ⟨rootB, 1, 0⟩ :: ns := ⟨_, rfl⟩
      have HLL := Lib.hid hL
      have hLl : L.length ≤ 11 := by rw [hL, List.length_cons]; have := HN.out.1; have := HL.out; omega
      have HC := Lib.hid (show Calls Tryz.prog 45 #[.slice (some ⟨W3.heap.size + 1, 0, none⟩) 2 2] W5 (fun e W' => OwnsNodes W5.heap.size L e W' ∧ Below W5.heap.size W5 W') by
        have e : allN [⟨some ⟨W3.heap.size, 0, none⟩, 1, 1, [⟨⟨#[47]⟩, 1, 0⟩]⟩, ⟨a, len, cap, ns⟩] = L := by rw [hL]; simp [allN, rootB]
        have := concatN_c (W3.heap.size + 1) 0 2 [⟨some ⟨W3.heap.size, 0, none⟩, 1, 1, [⟨⟨#[47]⟩, 1, 0⟩]⟩, ⟨a, len, cap, ns⟩] (by simp) (by rw [e]; omega) W5 HR.out
        rw [e] at this
        exact this)
      have HOK := Lib.hid (show NdsOk L by rw [hL]; exact nds_root HVT.out)
      have HLN := Lib.hid hLl
      clear hL
      refine HC.out.mono ?_
      rintro e W6 ⟨⟨s6, rfl, ho6⟩, hb6⟩
      obtain ⟨a6, c6, rfl, hn6⟩ := nodes_of_own ho6
      have HN6 := Lib.hid hn6
      have HB6 := Lib.hid (below_next HB5.out hb6)
      have HSU := Lib.hid (sumsOf_c a6 L.length c6 L (by omega) HOK.out W6 hn6)
      clear ho6 hb6 hn6
      go_wp2_with fail
      refine HSU.out.mono ?_
      rintro e W7 ⟨⟨s7, rfl, ho7⟩, hb7⟩
      obtain ⟨a7, c7, rfl, hi7⟩ := ints_of_own ho7
      have HI7 := Lib.hid hi7
      have HN7 := Lib.hid (HN6.out.keep hb7)
      have HB7 := Lib.hid (below_next HB6.out hb7)
      have hl7 := runSt_length L
      rw [hl7]
      have HL7 := Lib.hid hl7
      clear ho7 hb7 hi7 hl7
      go_wp2_with fail
      go_loopw [25] (fun i wr => LookRel L p W7 i wr) (fun i _ => L.length - (intOf i).toNat)
      case atStart => exact ⟨0, rfl, by omega, fun j m hj => absurd hj (Nat.not_lt_zero _), rfl⟩
      case round =>
        obtain ⟨i, rfl, hi, HM, rfl⟩ := hrel
        by_cases hlt : i < L.length
        · obtain ⟨b, off, m, rfl, hm, c0, c1, c2⟩ := HN7.out.node hlt
          obtain ⟨b7, off7, z, rfl, hz, d0⟩ := HI7.out.at (i := i) (by rw [HL7.out]; exact hlt)
          have HZ := Lib.hid (look_sum HLL.out HVT.out hm hz)
          have hlt' : (i : Int) < L.length := by omega
          have hi11 : (i : Int) ≤ 11 := by omega
          have HLT := Lib.hid hlt
          have HMM := Lib.hid hm
          by_cases hpe : m.p = p
          · have heq : (m.p.toList == p.toList) = true := by rw [hpe]; simp
            have HR2 := Lib.hid (show z = treeSum ns p by rw [HZ.out, hpe])
            clear hlt hi hm hz hpe hLl
            go_wp2
            refine bodyPost_ret (v := .int .i64 z) (by simp [results, Tryz.f13, go_sem]) rfl ⟨by rw [HR2.out], HB7.out⟩
          · have heq : (m.p.toList == p.toList) = false := by
              rw [beq_eq_false_iff_ne, Lib.toList_data, Lib.toList_data]
              exact fun e => hpe (by rw [← Lib.mk_data m.p, ← Lib.mk_data p, e])
            have HPE := Lib.hid hpe
            clear hlt hi hm hz hpe hLl
            go_wp2
            go_roundw
            case rel =>
              refine ⟨i + 1, by push_cast; rfl, by have := HLT.out; omega, fun j m' hj hm' => ?_, rfl⟩
              rcases Nat.lt_succ_iff_lt_or_eq.1 hj with h | rfl
              · exact HM.out j m' h hm'
              · have := HMM.out
                rw [this] at hm'
                rw [← Option.some.inj hm']
                exact HPE.out
            case measure => have := HLT.out; simp [intOf]; omega
        · have hieq : i = L.length := by omega
          subst hieq
          have HR2 := Lib.hid (look_miss HLL.out HVT.out HVP.out HM.out)
          have hge : (L.length : Int) ≤ L.length := by omega
          have HCS := Lib.hid (fun W' => contentSum_c 0 0 (by decide) W')
          clear hlt hi
          unfold con at HCS
          go_wp2_with fail
          refine (HCS.out _).mono ?_
          rintro e W8 ⟨rfl, hb8⟩
          have HB8 := Lib.hid (below_next HB7.out hb8)
          clear hb8
          go_wp2
          refine bodyPost_ret (v := .int .i64 1) (by simp [results, Tryz.f13, go_sem, baseW]) rfl ⟨by rw [HR2.out], HB8.out⟩

end Go.Proofs.YtncceljffcjoiaaGreatDoor

/-
  WALKS: impl.TreeUnder.
-/
namespace Go.Proofs.YtncceljffcjoiaaGreatDoor
open Go.RowKit
set_option linter.unusedVariables false

theorem treeUnder_bad {ns : List Nd} {p : ByteArray} (h : validT ns = false ∨ vpB p = false) : treeUnder ns p = [] := by
  unfold treeUnder
  rcases h with h | h <;> simp [h]

theorem texts_nil {xs : List ByteArray} {W w : World} (h : xs = []) (hB : Below W.heap.size W w) : TextsPost xs W (.returned (.slice none 0 0)) w := by
  subst h; exact ⟨⟨_, rfl, World.ownsRow_nil _ _ _ _⟩, hB⟩

def pathVals (out : List Nd) (n : Nat) : List Value := ((out.take n).map Nd.p).map Value.string
theorem pathVals_next {out : List Nd} {n : Nat} {x : Nd} (h : out[n]? = some x) : pathVals out (n + 1) = pathVals out n ++ [.string x.p] := by
  unfold pathVals; rw [take_next h]; simp

/-- The loop that takes the paths. -/
def PathsRel (out : List Nd) (W : World) (W8 : World) (o i : Value) (wr : World) : Prop :=
  ∃ n : Nat, i = .int .i64 n ∧ n ≤ out.length ∧ wr.ownsRow W8.heap.size 9 1 o n (pathVals out n) ∧ Hid (Below W8.heap.size W8 wr)

end Go.Proofs.YtncceljffcjoiaaGreatDoor

/-
  WALKS: lists of lists of numbers; spec.FramesOf.
-/
namespace Go.Proofs.YtncceljffcjoiaaGreatDoor
open Go.RowKit
set_option linter.unusedVariables false

/-- A list of lists of numbers, wherever it lies. -/
def TabAt (W : World) (a : Option Addr) (len : Nat) (bs : List (List Int)) : Prop :=
  bs.length = len ∧ (len = 0 ∨ ∃ b off, a = some ⟨b, off, none⟩ ∧ ∀ i z, bs[i]? = some z → ∃ ai ci, W.cell? ⟨b, off + i, none⟩ = some (.slice ai z.length ci) ∧ IntsAt W ai z.length z)

theorem TabAt.keep {W W' : World} {a : Option Addr} {len : Nat} {bs : List (List Int)} (h : TabAt W a len bs) (hb : Below W.heap.size W W') : TabAt W' a len bs := by
  obtain ⟨h1, h0 | ⟨b, off, ha, hc⟩⟩ := h
  · exact ⟨h1, .inl h0⟩
  · refine ⟨h1, .inr ⟨b, off, ha, fun i x hx => ?_⟩⟩
    obtain ⟨ai, ci, h2, h3⟩ := hc i x hx
    exact ⟨ai, ci, cell_kept hb h2, h3.keep hb⟩

theorem TabAt.at {W : World} {a : Option Addr} {len : Nat} {bs : List (List Int)} (h : TabAt W a len bs) {i : Nat} (hi : i < len) :
    ∃ b off z ai ci, a = some ⟨b, off, none⟩ ∧ bs[i]? = some z ∧ W.cell? ⟨b, off + i, none⟩ = some (.slice ai z.length ci) ∧ IntsAt W ai z.length z := by
  obtain ⟨h1, h0 | ⟨b, off, ha, hc⟩⟩ := h
  · omega
  · obtain ⟨x, hx⟩ : ∃ x, bs[i]? = some x := ⟨_, List.getElem?_eq_getElem (by omega)⟩
    obtain ⟨ai, ci, h2, h3⟩ := hc i x hx
    exact ⟨b, off, x, ai, ci, ha, hx, h2, h3⟩

/-- The lists are short. -/
def ShortT (m : Nat) (bs : List (List Int)) : Prop := ∀ b ∈ bs, b.length ≤ m

/-- A list of numbers or a failure. -/
def FPost (r : Option (List Int)) (W : World) (e : Ending) (w' : World) : Prop :=
  ∃ (sl : Value) (out : List Int) (b : Bool), e = .returned (.tuple #[sl, .bool b]) ∧ ((b = true ∧ r = some out) ∨ (b = false ∧ r = none ∧ out = [])) ∧ w'.ownsRow W.heap.size 3 1 sl out.length (intsV out) ∧ Below W.heap.size W w'

theorem framesL_len : ∀ {bs : List (List Int)}, bs.all bodyOk = true → (framesL bs).length ≤ 18 * bs.length
  | [], _ => by simp [framesL]
  | b :: bs, h => by
    simp only [List.all_cons, Bool.and_eq_true] at h
    have := bodyOk_len h.1
    have ih := framesL_len h.2
    rw [framesL_cons, List.length_append, frame_length, List.length_cons]
    omega

def FramesRel (bs : List (List Int)) (W1 : World) (o i : Value) (wr : World) : Prop :=
  ∃ n : Nat, i = .int .i64 n ∧ n ≤ bs.length ∧ Hid ((bs.take n).all bodyOk = true) ∧ wr.ownsRow W1.heap.size 3 1 o (framesL (bs.take n)).length (intsV (framesL (bs.take n))) ∧ Hid (Below W1.heap.size W1 wr)

theorem framesOf_none {bs : List (List Int)} {i : Nat} {z : List Int} (h : bs[i]? = some z) (hz : bodyOk z = false) : framesOf bs = none := by
  unfold framesOf
  rw [if_neg]
  intro hc
  simp only [Bool.and_eq_true] at hc
  have := List.all_eq_true.1 hc.1 z (List.mem_of_getElem? h)
  rw [hz] at this; cases this

theorem takeT_next {bs : List (List Int)} {i : Nat} {z : List Int} (h : bs[i]? = some z) : bs.take (i + 1) = bs.take i ++ [z] := by
  rw [List.take_add_one, h]; rfl

theorem own_casesT {W : World} {base : Nat} {e : TypeId} {size n : Nat} {v : Value} {xs : List Value} (h : W.ownsRow base e size v n xs) : (v = .slice none 0 0 ∧ n = 0) ∨ ∃ g cap, v = .slice (some ⟨g, 0, none⟩) n cap := by
  rcases h.2 with h | ⟨g, cap, _, h, _⟩
  · exact .inl h
  · exact .inr ⟨g, cap, h⟩

theorem own_cells1 {W : World} {base : Nat} {e : TypeId} {zs : List Int} {g cap : Nat} (h : W.ownsRow base e 1 (.slice (some ⟨g, 0, none⟩) zs.length cap) zs.length (intsV zs)) :
    ∀ j u, (intsV zs)[j]? = some u → W.cell? ((⟨g, 0, none⟩ : Addr).add j) = some u := by
  intro j u hj
  have hj' := (List.getElem?_eq_some_iff.1 hj).1
  rw [intsV_length] at hj'
  have := h.cellAt j (by omega)
  rw [add_off, Nat.zero_add, this]
  exact hj

end Go.Proofs.YtncceljffcjoiaaGreatDoor

/-
  WALKS: spec.FramesScan.
-/
namespace Go.Proofs.YtncceljffcjoiaaGreatDoor
open Go.RowKit
set_option linter.unusedVariables false

theorem infoInts : (Tryz.prog.info? 70).map (fun i => (i.zero, i.size, i.bytes)) = some (some (.slice none 0 0), 1, 24) := by kernel_rfl

/-- The lists in a table that the call has made: each owned, no two in one block. -/
def Inner (W : World) (base : Nat) (vs : List Value) (bs : List (List Int)) : Prop :=
  vs.length = bs.length ∧ (∀ (i : Nat) (z : List Int) (v : Value), bs[i]? = some z → vs[i]? = some v → W.ownsRow base 3 1 v z.length (intsV z)) ∧ vs.Pairwise (fun u v => ∀ k, u.ownBlock = some k → v.ownBlock ≠ some k)

theorem Inner.below {W W' : World} {base : Nat} {vs : List Value} {bs : List (List Int)} (h : Inner W base vs bs) (hb : Below W.heap.size W W') : Inner W' base vs bs :=
  ⟨h.1, fun i z v hz hv => own_below1 (h.2.1 i z v hz hv) hb, h.2.2⟩

/-- Two owned lists of different element types lie in different blocks. -/
theorem own_types {W : World} {b b' : Nat} {e e' : TypeId} {s s' n n' : Nat} {u v : Value} {xs ys : List Value} (h : W.ownsRow b e s u n xs) (h' : W.ownsRow b' e' s' v n' ys) (he : e ≠ e') : ∀ k, u.ownBlock = some k → v.ownBlock ≠ some k := by
  intro k h1 h2
  rcases h.2 with ⟨rfl, _⟩ | ⟨g, cap, cur, rfl, _, hg, _⟩
  · cases h1
  · rcases h'.2 with ⟨rfl, _⟩ | ⟨g', cap', cur', rfl, _, hg', _⟩
    · cases h2
    · have e1 : g = k := by simpa [Value.ownBlock] using h1
      have e2 : g' = k := by simpa [Value.ownBlock] using h2
      subst e1; subst e2
      rw [hg] at hg'
      cases hg'
      exact he rfl

theorem own_farT {W W' : World} {b : Nat} {e : TypeId} {size n : Nat} {v : Value} {xs : List Value} (h : W.ownsRow b e size v n xs) {row : Value} (hg : W.grownBy W' row.ownBlock) (hd : ∀ k, v.ownBlock = some k → row.ownBlock ≠ some k) : W'.ownsRow b e size v n xs := by
  refine h.kept hg ?_
  cases hv : v.ownBlock with
  | none => exact .inl rfl
  | some k => right; exact fun e => hd k hv e.symm

theorem Inner.grown {W W' : World} {base b n : Nat} {vs ys : List Value} {bs : List (List Int)} {o : Value} (h : Inner W base vs bs) (ho : W.ownsRow b 70 1 o n ys) (hg : W.grownBy W' o.ownBlock) : Inner W' base vs bs :=
  ⟨h.1, fun i z v hz hv => own_farT (h.2.1 i z v hz hv) hg (own_types (h.2.1 i z v hz hv) ho (by decide)), h.2.2⟩

theorem Inner.push {W : World} {base : Nat} {vs : List Value} {bs : List (List Int)} {v : Value} {z : List Int} (h : Inner W base vs bs) (hv : W.ownsRow base 3 1 v z.length (intsV z)) (hd : ∀ u ∈ vs, ∀ k, u.ownBlock = some k → v.ownBlock ≠ some k) : Inner W base (vs ++ [v]) (bs ++ [z]) := by
  obtain ⟨h1, h2, h3⟩ := h
  refine ⟨by simp [h1], fun i z' v' hz hv' => ?_, List.pairwise_append.2 ⟨h3, List.pairwise_singleton _ _, fun u hu w hw => by rw [List.mem_singleton.1 hw]; exact hd u hu⟩⟩
  by_cases hi : i < bs.length
  · rw [List.getElem?_append_left hi] at hz
    rw [List.getElem?_append_left (by omega)] at hv'
    exact h2 i z' v' hz hv'
  · have e1 : i = bs.length := by
      have := (List.getElem?_eq_some_iff.1 hz).1
      simp at this; omega
    subst e1
    rw [List.getElem?_append_right (Nat.le_refl _)] at hz
    rw [← h1, List.getElem?_append_right (Nat.le_refl _)] at hv'
    simp at hz hv'
    subst hz; subst hv'
    exact hv

/-- Every block of the lists in a table stands below the heap's end. -/
theorem Inner.lt {W : World} {base : Nat} {vs : List Value} {bs : List (List Int)} (h : Inner W base vs bs) : ∀ u ∈ vs, ∀ k, u.ownBlock = some k → k < W.heap.size := by
  intro u hu k hk
  obtain ⟨i, hi⟩ := List.getElem?_of_mem hu
  have hl := (List.getElem?_eq_some_iff.1 hi).1
  obtain ⟨z, hz⟩ : ∃ z, bs[i]? = some z := ⟨_, List.getElem?_eq_getElem (by have := h.1; omega)⟩
  exact ((h.2.1 i z u hz hi).lt k hk).2

/-- What a scan returns. -/
def ScanPost (r : List (List Int) × Nat) (W : World) (e : Ending) (w' : World) : Prop :=
  ∃ (sl : Value) (vs : List Value), e = .returned (.tuple #[sl, .int .i64 r.2]) ∧ w'.ownsRow W.heap.size 70 1 sl r.1.length vs ∧ Inner w' W.heap.size vs r.1 ∧ Below W.heap.size W w'

def ScanRel (zs : List Int) (W : World) (o p : Value) (wr : World) : Prop :=
  ∃ (n : Nat) (acc : List (List Int)) (vs : List Value), p = .int .i64 n ∧ n ≤ zs.length ∧ Hid (acc.length ≤ n) ∧ Hid (scanL zs = (acc ++ (scanL (zs.drop n)).1, n + (scanL (zs.drop n)).2)) ∧
    wr.ownsRow W.heap.size 70 1 o acc.length vs ∧ Hid (Inner wr W.heap.size vs acc) ∧ Hid (Below W.heap.size W wr)

theorem scan_end {zs : List Int} {n : Nat} {acc : List (List Int)} {vs : List Value} {W wr : World} {o : Value} (hs : scanL zs = (acc ++ (scanL (zs.drop n)).1, n + (scanL (zs.drop n)).2)) (he : scanL (zs.drop n) = ([], 0))
    (ho : wr.ownsRow W.heap.size 70 1 o acc.length vs) (hi : Inner wr W.heap.size vs acc) (hb : Below W.heap.size W wr) : ScanPost (scanL zs) W (.returned (.tuple #[o, .int .i64 n])) wr := by
  rw [he] at hs
  simp only [List.append_nil, Nat.add_zero] at hs
  rw [hs]
  exact ⟨o, vs, rfl, ho, hi, hb⟩

theorem drewN_below (W : World) (n : Nat) : Below W.heap.size W (W.drewN n) := by
  have e := (drewN_cell W n ⟨0, 0, none⟩).2.2
  exact ⟨rfl, rfl, rfl, by rw [e]; exact Nat.le_refl _, fun j _ => by rw [e]⟩

theorem drop_consI {zs : List Int} {n : Nat} {z : Int} (h : zs[n]? = some z) : zs.drop n = z :: zs.drop (n + 1) := by
  obtain ⟨h1, h2⟩ := List.getElem?_eq_some_iff.1 h
  rw [List.drop_eq_getElem_cons h1, h2]

theorem scan_stop {zs : List Int} {n : Nat} {z : Int} (h : zs[n]? = some z) (hh : headOk z (zs.drop (n + 1)) = false) : scanL (zs.drop n) = ([], 0) := by
  rw [drop_consI h, scanL_cons, if_neg (by rw [hh]; simp)]

theorem scan_go {zs : List Int} {n m : Nat} (h : zs[n]? = some (m : Int)) (hh : headOk (m : Int) (zs.drop (n + 1)) = true) {acc : List (List Int)} (hs : scanL zs = (acc ++ (scanL (zs.drop n)).1, n + (scanL (zs.drop n)).2)) :
    scanL zs = ((acc ++ [(zs.drop (n + 1)).take m]) ++ (scanL (zs.drop (n + m + 2))).1, (n + m + 2) + (scanL (zs.drop (n + m + 2))).2) := by
  rw [drop_consI h, scanL_cons, if_pos hh] at hs
  have e1 : (m : Int).toNat = m := by omega
  rw [e1, List.drop_drop, show n + 1 + (m + 1) = n + m + 2 by omega] at hs
  rw [hs]
  simp
  omega

end Go.Proofs.YtncceljffcjoiaaGreatDoor

/-
  WALKS: spec.l5Paths, TreeChanged.
-/
namespace Go.Proofs.YtncceljffcjoiaaGreatDoor
open Go.RowKit
set_option linter.unusedVariables false

theorem drop_cons' {α : Type} {l : List α} {n : Nat} {z : α} (h : l[n]? = some z) : l.drop n = z :: l.drop (n + 1) := by
  obtain ⟨h1, h2⟩ := List.getElem?_eq_some_iff.1 h
  rw [List.drop_eq_getElem_cons h1, h2]

theorem merge_left {a b : List Nd} {p q : Nat} {x : Nd} (hx : a[p]? = some x) (h : q = b.length ∨ ∃ y, b[q]? = some y ∧ ltB x.p y.p = true) : mergeP (a.drop p) (b.drop q) = x.p :: mergeP (a.drop (p + 1)) (b.drop q) := by
  rw [drop_cons' hx]
  rcases h with h | ⟨y, hy, hl⟩
  · rw [h, List.drop_length, mergeP_nil', mergeP_nil']; rfl
  · rw [drop_cons' hy, mergeP_cons, if_pos hl]

theorem merge_right {a b : List Nd} {p q : Nat} {y : Nd} (hy : b[q]? = some y) (h : p = a.length ∨ ∃ x, a[p]? = some x ∧ ltB x.p y.p = false ∧ ltB y.p x.p = true) : mergeP (a.drop p) (b.drop q) = y.p :: mergeP (a.drop p) (b.drop (q + 1)) := by
  rw [drop_cons' hy]
  rcases h with h | ⟨x, hx, hl, hr⟩
  · rw [h, List.drop_length, mergeP_nil, mergeP_nil]; rfl
  · rw [drop_cons' hx, mergeP_cons, if_neg (by rw [hl]; simp), if_pos hr]

theorem merge_both {a b : List Nd} {p q : Nat} {x y : Nd} (hx : a[p]? = some x) (hy : b[q]? = some y) (hl : ltB x.p y.p = false) (hr : ltB y.p x.p = false) : mergeP (a.drop p) (b.drop q) = x.p :: mergeP (a.drop (p + 1)) (b.drop (q + 1)) := by
  rw [drop_cons' hx, drop_cons' hy, mergeP_cons, if_neg (by rw [hl]; simp), if_neg (by rw [hr]; simp)]

theorem cell_str_new (w : World) (v : Value) (t : TypeId) : ∀ j u, [v][j]? = some u → (w.alloc (.cells #[v] t)).cell? ((⟨w.heap.size, 0, none⟩ : Addr).add j) = some u := cell_int_new w v t

theorem own_text {W : World} {b : Nat} {e : TypeId} {v : Value} {acc : List ByteArray} {x : ByteArray} (h : W.ownsRow b e 1 v (acc.length + 1) (acc.map Value.string ++ [.string x])) : W.ownsRow b e 1 v (acc ++ [x]).length ((acc ++ [x]).map Value.string) := by
  rw [List.map_append, List.length_append]; exact h

def MergeRel (a b : List Nd) (W : World) (o i k : Value) (wr : World) : Prop :=
  ∃ (p q : Nat) (done : List ByteArray), i = .int .i64 p ∧ k = .int .i64 q ∧ p ≤ a.length ∧ q ≤ b.length ∧ Hid (mergeP a b = done ++ mergeP (a.drop p) (b.drop q)) ∧ Hid (done.length ≤ p + q) ∧
    wr.ownsRow W.heap.size 9 1 o done.length (done.map Value.string) ∧ Hid (Below W.heap.size W wr)

end Go.Proofs.YtncceljffcjoiaaGreatDoor

/-
  WALKS: spec.TreeChanged.
-/
namespace Go.Proofs.YtncceljffcjoiaaGreatDoor
open Go.RowKit
set_option linter.unusedVariables false

theorem conNeq (k v k' v' : Int) (w : World) : (binOp .neq 35 (.agg #[.int .i64 k, .int .i64 v]) (.agg #[.int .i64 k', .int .i64 v'])).run Tryz.prog w = .ok (.bool (!(k == k' && v == v'))) w := by
  by_cases h : k = k'
  · subst h
    by_cases h2 : v = v'
    · subst h2
      simp [binOp, go_sem, Op.equal, Op.maxDepth]
    · have : (v == v') = false := beq_eq_false_iff_ne.2 h2
      simp [binOp, go_sem, Op.equal, Op.maxDepth, h2]
  · have : (k == k') = false := beq_eq_false_iff_ne.2 h
    simp [binOp, go_sem, Op.equal, Op.maxDepth, this]

theorem diff_bool (a b : List Nd) (p : ByteArray) {k v k' v' : Int} (h1 : getT a p = (k, v)) (h2 : getT b p = (k', v')) : diffB a b p = !(k == k' && v == v') := by
  unfold diffB
  rw [h1, h2]
  by_cases h : k = k' <;> by_cases g : v = v' <;> simp [h, g]

def chgAcc (ns ms : List Nd) (i : Nat) : List ByteArray := ((mergeP ns ms).take i).filter (diffB ns ms)

theorem chgAcc_yes {ns ms : List Nd} {i : Nat} {x : ByteArray} (hx : (mergeP ns ms)[i]? = some x) (h : diffB ns ms x = true) : chgAcc ns ms (i + 1) = chgAcc ns ms i ++ [x] := by
  unfold chgAcc
  rw [List.take_add_one, hx]
  simp [List.filter_append, h]
theorem chgAcc_no {ns ms : List Nd} {i : Nat} {x : ByteArray} (hx : (mergeP ns ms)[i]? = some x) (h : diffB ns ms x = false) : chgAcc ns ms (i + 1) = chgAcc ns ms i := by
  unfold chgAcc
  rw [List.take_add_one, hx]
  simp [List.filter_append, h]
theorem chgAcc_len (ns ms : List Nd) (i : Nat) : (chgAcc ns ms i).length ≤ i := by
  unfold chgAcc
  exact Nat.le_trans (List.length_filter_le _ _) (by rw [List.length_take]; omega)

def ChgRel (ns ms : List Nd) (W W2 : World) (s4 : Value) (ml : Nat) (o i : Value) (wr : World) : Prop :=
  ∃ n : Nat, i = .int .i64 n ∧ n ≤ ml ∧ Hid (wr.ownsRow W.heap.size 9 1 o (chgAcc ns ms n).length ((chgAcc ns ms n).map Value.string)) ∧ Hid (wr.ownsRow W2.heap.size 9 1 s4 ml ((mergeP ns ms).map Value.string)) ∧
    Hid (∀ k, o.ownBlock = some k → s4.ownBlock ≠ some k) ∧ Hid (Below W.heap.size W wr)

theorem texts_own {W : World} {base len c : Nat} {e : TypeId} {a : Option Addr} {zs : List ByteArray} (hz : zs.length = len) (h : W.ownsRow base e 1 (.slice a len c) len (zs.map Value.string)) : TextsAt W a len zs := by
  subst hz
  obtain ⟨a', c', he, hi⟩ := texts_of_own h
  cases he
  exact hi

end Go.Proofs.YtncceljffcjoiaaGreatDoor

/-
  WALKS: impl.TreeChanged.
-/
namespace Go.Proofs.YtncceljffcjoiaaGreatDoor
open Go.RowKit
set_option linter.unusedVariables false

/-- Two trees in memory that share no place. -/
structure TwoT (base : Nat) (ns ms : List Nd) (r1 r2 : Nat) (W : World) (A1 A2 : List UInt8 → Option Nat) : Prop where
  t1 : Trie W A1 (Fof ns)
  t2 : Trie W A2 (Fof ms)
  a1 : A1 [] = some r1
  a2 : A2 [] = some r2
  far : ∀ u w b, A1 u = some b → A2 w ≠ some b
  lo1 : ∀ u b, A1 u = some b → base ≤ b
  lo2 : ∀ u b, A2 u = some b → base ≤ b

/-- What a step keeps: all below a base, and all cells that are no places. -/
structure KeptP (base : Nat) (W W' : World) : Prop where
  low : Below base W W'
  typ : ∀ (k : Nat) (cs : Array Value) (t : TypeId) (fr : Nat × Nat), W.heap[k]? = some (.cells cs t fr) → t ≠ 81 → W'.heap[k]? = W.heap[k]?

theorem KeptP.trans {base : Nat} {W W1 W2 : World} (h : KeptP base W W1) (k : KeptP base W1 W2) : KeptP base W W2 :=
  ⟨h.low.trans k.low, fun j cs t fr hj ht => (k.typ j cs t fr ((h.typ j cs t fr hj ht).trans hj) ht).trans (h.typ j cs t fr hj ht)⟩

theorem KeptP.row {base b0 : Nat} {W W' : World} (h : KeptP base W W') {e : TypeId} {size n : Nat} {v : Value} {xs : List Value} (ho : W.ownsRow b0 e size v n xs) (he : e ≠ 81) : W'.ownsRow b0 e size v n xs := by
  refine ⟨ho.1, ?_⟩
  rcases ho.2 with h0 | ⟨g, cap, cur, hv, h1, h2, h3⟩
  · exact .inl h0
  · exact .inr ⟨g, cap, cur, hv, h1, (h.typ g cur e (0, 0) h2 he).trans h2, h3⟩

theorem KeptP.cell {base : Nat} {W W' : World} (h : KeptP base W W') {k : Nat} {cs : Array Value} {t : TypeId} (hk : W.heap[k]? = some (.cells cs t (0, 0))) (ht : t ≠ 81) (i : Nat) : W'.cell? ⟨k, i, none⟩ = W.cell? ⟨k, i, none⟩ :=
  World.cell?_of_block (h.typ k cs t (0, 0) hk ht)

theorem KeptP.of_below {base : Nat} {W W' : World} (hb : base ≤ W.heap.size) (h : Below W.heap.size W W') : KeptP base W W' :=
  ⟨h.mono hb, fun k cs t fr hk _ => h.block k (Array.getElem?_eq_some_iff.1 hk).1⟩

theorem KeptP.of_off {base : Nat} {A : List UInt8 → Option Nat} {F : List UInt8 → Int × Int} {W W' : World} (hT : Trie W A F) (hb : base ≤ W.heap.size) (hA : ∀ u c, A u = some c → base ≤ c) (h : Off A W.heap.size W W') : KeptP base W W' :=
  ⟨h.below hb hA, fun k cs t fr hk ht => h.block k (Array.getElem?_eq_some_iff.1 hk).1 fun u e => by
    have := hT.cells u k e
    rw [hk] at this
    cases this
    exact ht rfl⟩

theorem TwoT.below {base : Nat} {ns ms : List Nd} {r1 r2 : Nat} {W W' : World} {A1 A2 : List UInt8 → Option Nat} (h : TwoT base ns ms r1 r2 W A1 A2) (hb : Below W.heap.size W W') : TwoT base ns ms r1 r2 W' A1 A2 :=
  ⟨h.t1.below hb, h.t2.below hb, h.a1, h.a2, h.far, h.lo1, h.lo2⟩

/-- An append to a row of another type. -/
theorem TwoT.grown {base b0 : Nat} {ns ms : List Nd} {r1 r2 : Nat} {W W' : World} {A1 A2 : List UInt8 → Option Nat} (h : TwoT base ns ms r1 r2 W A1 A2) {e : TypeId} {size n : Nat} {v : Value} {xs : List Value} (ho : W.ownsRow b0 e size v n xs) (he : e ≠ 81)
    (hg : W.grownBy W' v.ownBlock) : TwoT base ns ms r1 r2 W' A1 A2 := by
  have hne : ∀ (A : List UInt8 → Option Nat) (F : List UInt8 → Int × Int), Trie W A F → ∀ u b, A u = some b → some b ≠ v.ownBlock := by
    intro A F hT u b hb e1
    rcases ho.2 with ⟨rfl, _⟩ | ⟨g, cap, cur, rfl, _, h2, _⟩
    · cases e1
    · simp [Value.ownBlock] at e1
      subst e1
      have := hT.cells u b hb
      rw [h2] at this
      cases this
      exact he rfl
  exact ⟨h.t1.kept fun u b hb => hg.block b (h.t1.lt hb) (hne _ _ h.t1 u b hb), h.t2.kept fun u b hb => hg.block b (h.t2.lt hb) (hne _ _ h.t2 u b hb), h.a1, h.a2, h.far, h.lo1, h.lo2⟩

/-- A row is kept while another one of another type grows. -/
theorem row_apart {W W' : World} {b1 b2 : Nat} {e1 e2 : TypeId} {s1 s2 n1 n2 : Nat} {v1 v2 : Value} {x1 x2 : List Value} (h1 : W.ownsRow b1 e1 s1 v1 n1 x1) (h2 : W.ownsRow b2 e2 s2 v2 n2 x2) (he : e1 ≠ e2) (hg : W.grownBy W' v2.ownBlock) : W'.ownsRow b1 e1 s1 v1 n1 x1 := by
  refine h1.kept hg ?_
  rcases h1.2 with ⟨rfl, _⟩ | ⟨g, cap, cur, rfl, _, q1, _⟩
  · exact .inl rfl
  · right
    intro e
    rcases h2.2 with ⟨rfl, _⟩ | ⟨g', cap', cur', rfl, _, q2, _⟩
    · cases e
    · simp [Value.ownBlock] at e
      subst e
      rw [q1] at q2
      cases q2
      exact he rfl

/-- The place of a path in the one tree or in the other one. -/
def FoundP (base : Nat) (ns ms : List Nd) (r1 r2 : Nat) (fst : Bool) (w : List UInt8) (c : Int × Int) (A1 A2 : List UInt8 → Option Nat) (W : World) (e : Ending) (W' : World) : Prop :=
  ∃ A1' A2' b, e = .returned (.pointer (some ⟨b, 0, none⟩)) ∧ TwoT base ns ms r1 r2 W' A1' A2' ∧ KeptP base W W' ∧ W'.cell? ⟨b, 0, none⟩ = some (.int .i64 c.1) ∧ W'.cell? ⟨b, 1, none⟩ = some (.int .i64 c.2) ∧
    (fst = true → A1' w = some b) ∧ (fst = false → A1' = A1)

theorem trie_two {W : World} {A : List UInt8 → Option Nat} {F : List UInt8 → Int × Int} (h : Trie W A F) {w : List UInt8} {b : Nat} (hb : A w = some b) {c : Int × Int} (hc : F w = c) : W.cell? ⟨b, 0, none⟩ = some (.int .i64 c.1) ∧ W.cell? ⟨b, 1, none⟩ = some (.int .i64 c.2) := by
  subst hc
  exact ⟨h.cell hb 0, h.cell hb 1⟩

theorem at_first {base : Nat} {ns ms : List Nd} {r1 r2 : Nat} {w : List UInt8} (hw : Wrd w) {c : Int × Int} (hc : Fof ns w = c) {A1 A2 : List UInt8 → Option Nat} {W : World} (h : TwoT base ns ms r1 r2 W A1 A2) (hb : base ≤ W.heap.size) :
    Calls Tryz.prog 52 #[.pointer (some ⟨r1, 0, none⟩), .string (pB w)] W (FoundP base ns ms r1 r2 true w c A1 A2 W) := by
  refine (at_c A1 (Fof ns) w hw W h.t1 r1 h.a1).mono ?_
  rintro e W' ⟨A', b, rfl, hb', hT', hX, hO⟩
  obtain ⟨c0, c1⟩ := trie_two hT' hb' hc
  refine ⟨A', A2, b, rfl, ⟨hT', h.t2.kept fun u x hx => hO.block x (h.t2.lt hx) fun u' e' => h.far u' u x e' hx, (hX [] r1).1 h.a1, h.a2, fun u v x hx hv => ?_, ext_from hX hb h.lo1, h.lo2⟩, .of_off h.t1 hb h.lo1 hO, c0, c1, fun _ => hb', fun e => (by cases e)⟩
  rcases (hX u x).2 hx with q | q
  · exact h.far u v x q hv
  · have := h.t2.lt hv; omega

theorem at_second {base : Nat} {ns ms : List Nd} {r1 r2 : Nat} {w : List UInt8} (hw : Wrd w) {c : Int × Int} (hc : Fof ms w = c) {A1 A2 : List UInt8 → Option Nat} {W : World} (h : TwoT base ns ms r1 r2 W A1 A2) (hb : base ≤ W.heap.size) :
    Calls Tryz.prog 52 #[.pointer (some ⟨r2, 0, none⟩), .string (pB w)] W (FoundP base ns ms r1 r2 false w c A1 A2 W) := by
  refine (at_c A2 (Fof ms) w hw W h.t2 r2 h.a2).mono ?_
  rintro e W' ⟨A', b, rfl, hb', hT', hX, hO⟩
  obtain ⟨c0, c1⟩ := trie_two hT' hb' hc
  refine ⟨A1, A', b, rfl, ⟨h.t1.kept fun u x hx => hO.block x (h.t1.lt hx) fun u' e' => h.far u u' x hx e', hT', h.a1, (hX [] r2).1 h.a2, fun u v x hx hv => ?_, h.lo1, ext_from hX hb h.lo2⟩, .of_off h.t2 hb h.lo2 hO, c0, c1, fun e => (by cases e), fun _ => rfl⟩
  rcases (hX v x).2 hv with q | q
  · exact h.far u v x hx q
  · have := h.t1.lt hx; omega

/-! ## The paths that differ -/

def difL (ns ms L : List Nd) : List ByteArray := (L.filter (fun m => diffB ns ms m.p)).map Nd.p

theorem difL_yes {ns ms L : List Nd} {i : Nat} {m : Nd} (hm : L[i]? = some m) (h : diffB ns ms m.p = true) : difL ns ms (L.take (i + 1)) = difL ns ms (L.take i) ++ [m.p] := by
  unfold difL
  rw [List.take_add_one, hm, List.filter_append, List.map_append]
  simp [h]

theorem difL_no {ns ms L : List Nd} {i : Nat} {m : Nd} (hm : L[i]? = some m) (h : diffB ns ms m.p = false) : difL ns ms (L.take (i + 1)) = difL ns ms (L.take i) := by
  unfold difL
  rw [List.take_add_one, hm, List.filter_append, List.map_append]
  simp [h]

theorem difL_len (ns ms L : List Nd) (i : Nat) : (difL ns ms (L.take i)).length ≤ i := by
  unfold difL
  rw [List.length_map]
  exact Nat.le_trans (List.length_filter_le _ _) (by rw [List.length_take]; omega)

theorem chg_eq {ns ms : List Nd} (h1 : validT ns = true) (h2 : validT ms = true) {zs : List ByteArray} (ha : AscP zs) (hm : ∀ p, p ∈ zs ↔ p ∈ difL ns ms (ns ++ ms)) : zs = chgL ns ms := by
  refine ascP_ext ha chg_asc fun p => ?_
  rw [hm]
  unfold chgL difL
  rw [h1, h2]
  simp only [Bool.and_self, if_true, List.mem_map, List.mem_filter, List.mem_append]
  rw [mergeP_mem _ ns ms (Nat.le_refl _)]
  constructor
  · rintro ⟨m, ⟨hm | hm, hd⟩, rfl⟩
    · exact ⟨.inl ⟨m, hm, rfl⟩, hd⟩
    · exact ⟨.inr ⟨m, hm, rfl⟩, hd⟩
  · rintro ⟨⟨m, hm, rfl⟩ | ⟨m, hm, rfl⟩, hd⟩
    · exact ⟨m, ⟨.inl hm, hd⟩, rfl⟩
    · exact ⟨m, ⟨.inr hm, hd⟩, rfl⟩

theorem chg_bad {ns ms : List Nd} (h : validT ns = false ∨ validT ms = false) : chgL ns ms = [] := by
  unfold chgL
  rcases h with h | h <;> simp [h]

def DifRel (ns ms L : List Nd) (r1 r2 : Nat) (sL : Value) (W : World) (o i : Value) (wr : World) : Prop :=
  ∃ (n : Nat) (A1 A2 : List UInt8 → Option Nat), i = .int .i64 n ∧ n ≤ L.length ∧ Hid (wr.ownsRow W.heap.size 9 1 o (difL ns ms (L.take n)).length ((difL ns ms (L.take n)).map Value.string)) ∧
    Hid (TwoT W.heap.size ns ms r1 r2 wr A1 A2) ∧ Hid (wr.ownsRow W.heap.size 52 3 sL L.length (flatN L)) ∧ Hid (Below W.heap.size W wr)

end Go.Proofs.YtncceljffcjoiaaGreatDoor

/-
  The program's three functions of stage 5, for the laws.
-/
namespace Go.Proofs.YtncceljffcjoiaaGreatDoor
end Go.Proofs.YtncceljffcjoiaaGreatDoor
