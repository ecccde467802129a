/-
  Texts of this proof, one behind the other: Bk, Sk, Se, Ss, Cc, Sv, Is, Iu, Ic, Iv, Fe, Sh, On, Eq, Tc, To, En.
-/
import Derived.RangeFuncNested
import Derived.RangeFuncBound
import Derived.RangeFuncCalls
import Derived.RangeFuncLeaves
import Derived.OwnWalkIn
import Derived.TacticsInMore
import Derived.LoopNIn
import Derived.LoopIn
import Derived.Lib.HexFns2
import Derived.Laws.Cover1
import Derived.StillTailTactics
import Derived.Deep.RegionHeld3
import Derived.Deep.Cut
import Derived.Deep.RegionLaw
import Derived.WalkSmall
import Derived.Lib.AppendZerosOnto
import Derived.Lib.Walk
import Derived.Laws.StructEq
import Derived.Deep.Slices
import Derived.Deep.Fields
import Derived.ChangeSame
import Derived.ChangeArms
import Derived.Test.YtmdidhlfpaganaaK3
/-
  WALKS: slices.Backward over a list of nodes.
-/
namespace Go.Proofs.Ytmdidhlfpaganaa
open Go.RowKit
set_option linter.unusedVariables false

attribute [local go_sem] Oper.semAt_some

/-- A node of a list, with its place. -/
structure Elt (ns : List Nd) where
  i : Nat
  n : Nd
  at_ : ns[i]? = some n

/-- The nodes ahead of a place, the last one first. -/
def backE (ns : List Nd) : (j : Nat) → j ≤ ns.length → List (Elt ns)
  | 0, _ => []
  | j + 1, h => ⟨j, ns[j], by simp⟩ :: backE ns j (by omega)

theorem backE_length (ns : List Nd) : ∀ (j : Nat) (h : j ≤ ns.length), (backE ns j h).length = j
  | 0, _ => rfl
  | j + 1, h => by show (backE ns j _).length + 1 = _; rw [backE_length ns j]

def ndV (n : Nd) : Value := .agg #[.string n.p, .int .i64 n.k, .int .i64 n.v]

set_option maxRecDepth 100000 in
set_option maxHeartbeats 2000000 in
/-- The closure's walk, for whatever loop body. -/
theorem back1_in (n : Nat) (hn : 1 ≤ n) (l Bn : Nat) (a : Option Addr) (len cap : Nat) (ns : List Nd) (hl : len ≤ 2097152) (Kp : World → World → Prop)
    (hKc : ∀ W W', Kp W W' → W.cell? ⟨Bn, 0, none⟩ = some (.slice a len cap) → W'.cell? ⟨Bn, 0, none⟩ = some (.slice a len cap)) (hKn : ∀ W W', Kp W W' → NodesAt W a len ns → NodesAt W' a len ns)
    (J Jx : List (Elt ns) → World → Prop)
    (hY : ∀ pre x W, J pre W → pre.length < ns.length → YieldAt Fence.wide (n - 1) Try.prog l #[.int .i64 x.i, ndV x.n] W fun e W' =>
      (e = .returned (.bool true) ∧ J (pre ++ [x]) W' ∧ Kp W W') ∨ (e = .returned (.bool false) ∧ Jx (pre ++ [x]) W'))
    (W : World) (hBn : W.cell? ⟨Bn, 0, none⟩ = some (.slice a len cap)) (hN : NodesAt W a len ns) (h0 : J [] W) :
    CallsIn Fence.wide n Try.prog 92 #[.func (.yield l) #[] #[], .pointer (some ⟨Bn, 0, none⟩)] W fun e W' => (∃ v, e = .returned v) ∧
      ((∃ ys, ys = backE ns ns.length (Nat.le_refl _) ∧ J ys W') ∨ (∃ pre, pre <+: backE ns ns.length (Nat.le_refl _) ∧ Jx pre W')) := by
  have hlen := hN.1
  have HN := Lib.hid hN
  have HLE := Lib.hid hlen
  have hl' : (len : Int) ≤ 2097152 := by omega
  have HKC := Lib.hid hKc
  have HKN := Lib.hid hKn
  have HY := Lib.hid hY
  clear hN hlen hKc hKn hY
  refine callsIn_of_wp Try.func92 rfl trivial ?_ rfl
  simp only [Try.ntmps92, List.size_toArray, List.length_cons, List.length_nil, Nat.reduceAdd, Nat.reduceSub, Array.replicate_succ, Array.replicate_zero, List.push_toArray, List.append_toArray, List.nil_append, List.cons_append]
  gi_wp2
  gi_loopw [3] (fun i wr => ∃ (pre : List (Elt ns)) (j : Nat) (hj : j ≤ ns.length), i = .int .i64 ((j : Int) - 1) ∧ Hid (backE ns ns.length (Nat.le_refl _) = pre ++ backE ns j hj) ∧ J pre wr ∧ wr.cell? ⟨Bn, 0, none⟩ = some (.slice a len cap) ∧ Hid (NodesAt wr a len ns))
    (fun i _ => (intOf i + 1).toNat)
  case atStart =>
    exact ⟨[], ns.length, Nat.le_refl _, by rw [HLE.out], rfl, h0, hBn, HN.out⟩
  case round =>
    obtain ⟨pre, j, hj, rfl, HX, hJs, hc, HNr⟩ := hrel
    cases j with
    | zero =>
      gi_wp2
      go_end0
      exact ⟨⟨_, rfl⟩, .inl ⟨pre, by have := HX.out; simpa [backE] using this.symm, hJs⟩⟩
    | succ j =>
      obtain ⟨b, off, nd, hab, hnd, c0, c1, c2⟩ := HNr.out.node (i := j) (by have := HLE.out; omega)
      have hlt : pre.length < ns.length := by
        have := congrArg List.length HX.out
        rw [List.length_append, backE_length, backE_length] at this
        omega
      obtain ⟨x, hxi, hxn⟩ : ∃ x : Elt ns, x.i = j ∧ x.n = nd := ⟨⟨j, nd, hnd⟩, rfl, rfl⟩
      have HX2 := Lib.hid (show backE ns ns.length (Nat.le_refl _) = pre ++ [x] ++ backE ns j (Nat.le_of_succ_le hj) by
        rw [HX.out, List.append_assoc]
        show pre ++ (⟨j, ns[j], _⟩ :: backE ns j _) = pre ++ (x :: backE ns j _)
        have e : ns[j] = nd := by have := List.getElem?_eq_some_iff.1 hnd; exact this.2
        obtain ⟨xi, xn, xa⟩ := x
        simp only at hxi hxn
        subst hxi; subst hxn
        congr 2
        congr 1)
      obtain ⟨fn, tmps, assign, body, hy, hR⟩ := HY.out pre x wr hJs hlt
      rw [hxi, hxn] at hy
      dsimp only [ndV] at hy
      have hjl : (j : Int) < len := by have := HLE.out; omega
      have hjl2 : j < len := by have := HLE.out; omega
      subst hab
      have HJ := Lib.hid hj
      have HC := Lib.hid hc
      clear hnd hlt hxi hxn
      gi_wp2
      refine hR.mono ?_
      rintro e W3 (⟨rfl, hJ3, hk3⟩ | ⟨rfl, hJx3⟩)
      · have c3 := HKC.out _ _ hk3 HC.out
        have N3 := Lib.hid (HKN.out _ _ hk3 HNr.out)
        gi_wp2
        go_roundw
        case rel => exact ⟨pre ++ [x], j, by have := HJ.out; omega, by simp, HX2.out, hJ3, c3, N3.out⟩
        case measure => simp [intOf]
      · gi_wp2
        refine bodyPost_ret (results_none rfl _ _ _) rfl ?_
        exact ⟨⟨_, rfl⟩, .inr ⟨pre ++ [x], by rw [HX2.out]; exact List.prefix_append _ _, hJx3⟩⟩

set_option maxHeartbeats 1000000 in
set_option maxRecDepth 100000 in
/-- slices.Backward: the slice is boxed; the function value captures the box. -/
theorem backward_in (n : Nat) (a : Option Addr) (len cap : Nat) (w : World) :
    CallsIn Fence.wide n Try.prog 74 #[.slice a len cap] w fun e w' => e = .returned (.func (.func 92) #[] #[.pointer (some ⟨w.heap.size, 0, none⟩)]) ∧ w' = w.alloc (.cells #[.slice a len cap] 23) := by
  refine callsIn_of_wp Try.func74 rfl trivial ?_ rfl
  simp only [Try.ntmps74, List.size_toArray, List.length_cons, List.length_nil, Nat.reduceAdd, Nat.reduceSub, Array.replicate_succ, Array.replicate_zero, List.push_toArray, List.append_toArray, List.nil_append, List.cons_append]
  gi_wp2
  go_ret
  exact ⟨rfl, rfl⟩

/-- What a round keeps: what lay below, and the box of the list. -/
def BackK (n₀ Bn : Nat) (W W' : World) : Prop := Below n₀ W W' ∧ W'.heap[Bn]? = W.heap[Bn]?

theorem nodes_below {n₀ : Nat} {W W' : World} {a : Option Addr} {len : Nat} {ns : List Nd} (h : NodesAt W a len ns) (hl : ∀ b off, a = some ⟨b, off, none⟩ → len ≠ 0 → b < n₀) (hb : Below n₀ W W') : NodesAt W' a len ns := by
  obtain ⟨h1, h0 | ⟨b, off, ha, hc⟩⟩ := h
  · exact ⟨h1, .inl h0⟩
  · by_cases h0 : len = 0
    · exact ⟨h1, .inl h0⟩
    · have hbn := hl b off ha h0
      exact ⟨h1, .inr ⟨b, off, ha, fun i n hn => ⟨(hb.cell (p := ⟨b, _, none⟩) hbn).trans (hc i n hn).1, (hb.cell (p := ⟨b, _, none⟩) hbn).trans (hc i n hn).2.1, (hb.cell (p := ⟨b, _, none⟩) hbn).trans (hc i n hn).2.2⟩⟩⟩

theorem nodes_lt {W : World} {a : Option Addr} {len : Nat} {ns : List Nd} (h : NodesAt W a len ns) : ∀ b off, a = some ⟨b, off, none⟩ → len ≠ 0 → b < W.heap.size := by
  intro b off ha h0
  obtain ⟨b', off', n, ha', _, hc, _⟩ := h.node (i := 0) (by omega)
  rw [ha] at ha'
  cases ha'
  exact World.block_lt_of_cell? W _ hc

theorem backward_stops (n : Nat) (hn : 1 ≤ n) (Bn n₀ : Nat) (a : Option Addr) (len cap : Nat) (ns : List Nd) (hl : len ≤ 2097152) (hlow : ∀ b off, a = some ⟨b, off, none⟩ → len ≠ 0 → b < n₀) (w : World) (hn₀ : n₀ ≤ w.heap.size) (hBn : Bn < w.heap.size)
    (hc : w.cell? ⟨Bn, 0, none⟩ = some (.slice a len cap)) (hN : NodesAt w a len ns) :
    SeqStopsK Fence.wide n Try.prog 92 #[.pointer (some ⟨Bn, 0, none⟩)] (fun x : Elt ns => #[Value.int .i64 x.i, ndV x.n]) (BackK n₀ Bn) (fun ys => ys = backE ns ns.length (Nat.le_refl _)) (fun pre => pre <+: backE ns ns.length (Nat.le_refl _)) ns.length w := fun l J Jx W hW hJ _ hY h0 =>
  back1_in n hn l Bn a len cap ns hl (BackK n₀ Bn) (fun W W' hk h => (World.cell?_of_block (a := ⟨Bn, 0, none⟩) hk.2).trans h) (fun W W' hk h => nodes_below h hlow hk.1) J Jx hY W
    ((hW.cell (p := ⟨Bn, 0, none⟩) hBn).trans hc) (nodes_below hN hlow (hW.mono hn₀)) h0

end Go.Proofs.Ytmdidhlfpaganaa

/-
  PLAIN MATHEMATICS OF A STACK OF SUMS: nodes from the last to the first one; the paths that wait for their parent are on top.
-/
namespace Go.Proofs.Ytmdidhlfpaganaa

/-- The number of a path's last letter. -/
def nameN (q : ByteArray) : Int := ((q.data.toList.getLast?.getD 97).toNat : Int) - 97

abbrev Stk := List (ByteArray × Int)

/-- The paths just behind p are taken off, one sum after the other. -/
def popL (p : ByteArray) : Int → Stk → Int × Stk
  | n, [] => (n, [])
  | n, x :: r => if parB x.1 = p then popL p ((31 * n + 7 * nameN x.1 + 100 * x.2 + 3) % 9973) r else (n, x :: r)

def stepNd (n : Nd) (a : List Int × Stk) : List Int × Stk :=
  ((popL n.p (baseW (n.k, n.v)) a.2).1 :: a.1, (n.p, (popL n.p (baseW (n.k, n.v)) a.2).1) :: (popL n.p (baseW (n.k, n.v)) a.2).2)

/-- The sums of a list of nodes, and the stack that is left. -/
def runL (ns : List Nd) : List Int × Stk := ns.foldr stepNd ([], [])

theorem runL_cons (n : Nd) (r : List Nd) : runL (n :: r) = stepNd n (runL r) := rfl

theorem runL_length : ∀ ns : List Nd, (runL ns).1.length = ns.length
  | [] => rfl
  | n :: r => by rw [runL_cons]; show (runL r).1.length + 1 = _; rw [runL_length r]; rfl

/-! ## What is on a stack -/

def StkOk (S : Stk) : Prop := ∀ x ∈ S, vpB x.1 = true ∧ 0 ≤ x.2 ∧ x.2 ≤ 9972

theorem popL_ok {p : ByteArray} : ∀ {S : Stk} {n : Int}, StkOk S → 0 ≤ n ∧ n ≤ 9972 → StkOk (popL p n S).2 ∧ (0 ≤ (popL p n S).1 ∧ (popL p n S).1 ≤ 9972)
  | [], n, h, hn => ⟨h, hn⟩
  | x :: r, n, h, hn => by
    unfold popL
    split
    · exact popL_ok (fun y hy => h y (List.mem_cons_of_mem _ hy)) (by omega)
    · exact ⟨h, hn⟩

theorem popL_len {p : ByteArray} : ∀ {S : Stk} {n : Int}, (popL p n S).2.length ≤ S.length
  | [], n => Nat.le_refl _
  | x :: r, n => by
    unfold popL
    split
    · exact Nat.le_trans (popL_len (S := r)) (by simp)
    · exact Nat.le_refl _

/-- Nodes that a run can start from. -/
def NdsOk (ns : List Nd) : Prop := ∀ n ∈ ns, vpB n.p = true ∧ validB n.k n.v = true

theorem base_ok {k v : Int} (h : validB k v = true) : 0 ≤ baseW (k, v) ∧ baseW (k, v) ≤ 9972 := by
  have := base_range (c := (k, v)) h
  exact ⟨by omega, by omega⟩

theorem runL_ok : ∀ {ns : List Nd}, NdsOk ns → StkOk (runL ns).2 ∧ (runL ns).2.length ≤ ns.length
  | [], _ => ⟨fun x hx => (by cases hx), Nat.le_refl _⟩
  | n :: r, h => by
    obtain ⟨h1, h2⟩ := runL_ok (ns := r) fun m hm => h m (List.mem_cons_of_mem _ hm)
    obtain ⟨hp, hv⟩ := h n (by simp)
    obtain ⟨g1, g2⟩ := popL_ok (p := n.p) h1 (base_ok hv)
    rw [runL_cons]
    refine ⟨fun x hx => ?_, ?_⟩
    · rcases List.mem_cons.1 hx with rfl | hx
      · exact ⟨hp, g2⟩
      · exact g1 x hx
    · show (popL _ _ _).2.length + 1 ≤ _
      have := popL_len (p := n.p) (S := (runL r).2) (n := baseW (n.k, n.v))
      simp only [List.length_cons]; omega

theorem runL_ok' {ns : List Nd} (h : NdsOk ns) (i : Nat) : StkOk (runL (ns.drop i)).2 ∧ (runL (ns.drop i)).2.length ≤ ns.length - i := by
  have := runL_ok (ns := ns.drop i) fun m hm => h m (List.mem_of_mem_drop hm)
  rwa [List.length_drop] at this

/-! ## The run over a tree -/

def lt4 (k : Nat) : UInt8 := UInt8.ofNat (97 + k)

theorem lt4_letter {k : Nat} (h : k < 4) : Pm.letter (lt4 k) = true := by
  rcases (by omega : k = 0 ∨ k = 1 ∨ k = 2 ∨ k = 3) with rfl | rfl | rfl | rfl <;> decide

theorem lt4_name {k : Nat} (h : k < 4) : ((lt4 k).toNat : Int) - 97 = k := by
  rcases (by omega : k = 0 ∨ k = 1 ∨ k = 2 ∨ k = 3) with rfl | rfl | rfl | rfl <;> decide

theorem lt4_inj {j k : Nat} (hj : j < 4) (hk : k < 4) (h : lt4 j = lt4 k) : j = k := by
  have h1 := lt4_name hj
  have h2 := lt4_name hk
  rw [h] at h1
  omega

theorem Wrd.snoc {w : List UInt8} (hw : Wrd w) (hl : w.length < 4) {k : Nat} (hk : k < 4) : Wrd (w ++ [lt4 k]) :=
  ⟨by simp; omega, fun x hx => by
    rcases List.mem_append.1 hx with hx | hx
    · exact hw.2 x hx
    · rw [List.mem_singleton.1 hx]; exact lt4_letter hk⟩

theorem flat_last : ∀ (w : List UInt8) (c : UInt8), (Pm.flat (w ++ [c])).getLast? = some c
  | [], c => rfl
  | x :: w, c => by
    show (47 :: x :: Pm.flat (w ++ [c])).getLast? = some c
    have := flat_last w c
    rw [List.getLast?_cons, List.getLast?_cons, this]
    rfl

theorem name_word (w : List UInt8) {k : Nat} (hk : k < 4) : nameN (pB (w ++ [lt4 k])) = k := by
  unfold nameN
  rw [pB_list]
  unfold Pm.pathOf
  rw [if_neg (by simp), flat_last]
  exact lt4_name hk

def kidK (G : List UInt8 → Int × Int) (d : Nat) (w : List UInt8) (k : Nat) : Stk :=
  if (G (w ++ [lt4 k])).1 = 0 then [] else [(pB (w ++ [lt4 k]), sumW G d (w ++ [lt4 k]))]

def kids (G : List UInt8 → Int × Int) : Nat → List UInt8 → Stk
  | 0, _ => []
  | d + 1, w => (List.range 4).flatMap (kidK G d w)

def AwayW (w : List UInt8) (S : Stk) : Prop := ∀ x ∈ S, ∃ v, Wrd v ∧ v ≠ [] ∧ x.1 = pB v ∧ ¬ (w <+: v)

theorem popL_away {w : List UInt8} (hw : Wrd w) {S : Stk} (h : AwayW w S) (n : Int) : popL (pB w) n S = (n, S) := by
  cases S with
  | nil => rfl
  | cons x r =>
    obtain ⟨v, hv, hn, e, hp⟩ := h x (List.mem_cons_self ..)
    unfold popL
    rw [if_neg]
    rw [e, parB_pB hv hn]
    intro q
    have := pB_inj hv.dropLast hw q
    exact hp (by rw [← this]; exact List.dropLast_prefix v)

theorem popL_kids (G : List UInt8 → Int × Int) (d : Nat) {w : List UInt8} (hw : Wrd w) (hl : w.length < 4) {S : Stk} (h : AwayW w S) : ∀ (ks : List Nat), (∀ k ∈ ks, k < 4) → ∀ n,
    popL (pB w) n (ks.flatMap (kidK G d w) ++ S) = (ks.foldl (fun n k => if (G (w ++ [lt4 k])).1 = 0 then n else stepW (sumW G d (w ++ [lt4 k])) k n) n, S)
  | [], _, n => by simpa using popL_away hw h n
  | k :: ks, hk, n => by
    have ih := popL_kids G d hw hl h ks (fun j hj => hk j (List.mem_cons_of_mem _ hj))
    have hk4 := hk k (List.mem_cons_self ..)
    rw [List.flatMap_cons, List.foldl_cons]
    unfold kidK
    by_cases hz : (G (w ++ [lt4 k])).1 = 0
    · rw [if_pos hz, if_pos hz]
      exact ih n
    · rw [if_neg hz, if_neg hz]
      show popL (pB w) n ((pB (w ++ [lt4 k]), sumW G d (w ++ [lt4 k])) :: (ks.flatMap (kidK G d w) ++ S)) = _
      unfold popL
      rw [if_pos]
      · rw [name_word w hk4]
        exact ih _
      · show parB (pB (w ++ [lt4 k])) = pB w
        rw [parB_pB (hw.snoc hl hk4) (by simp), List.dropLast_concat]

theorem kids_none {G : List UInt8 → Int × Int} {d : Nat} {w : List UInt8} (h : d ≠ 0 → ∀ k, k < 4 → (G (w ++ [lt4 k])).1 = 0) : kids G d w = [] := by
  cases d with
  | zero => rfl
  | succ d =>
    show (List.range 4).flatMap (kidK G d w) = []
    rw [List.flatMap_eq_nil_iff]
    intro k hk
    unfold kidK
    rw [if_pos (h (by omega) k (List.mem_range.1 hk))]

/-- What is somewhere has a directory ahead of it. -/
def Grown (G : List UInt8 → Int × Int) : Prop := ∀ w k, k < 4 → Wrd w → w.length < 4 → (G (w ++ [lt4 k])).1 ≠ 0 → (G w).1 = 1

/-- One node above what is behind it. -/
theorem popL_node {G : List UInt8 → Int × Int} (hG : Grown G) {d : Nat} {w : List UInt8} (hw : Wrd w) (hd : w.length + d = 4) {S : Stk} (h : AwayW w S) :
    popL (pB w) (baseW (G w)) (kids G d w ++ S) = (sumW G d w, S) := by
  cases d with
  | zero => exact popL_away hw h _
  | succ d =>
    have hl : w.length < 4 := by omega
    have := popL_kids G d hw hl h (List.range 4) (fun k hk => List.mem_range.1 hk) (baseW (G w))
    rw [show kids G (d + 1) w = (List.range 4).flatMap (kidK G d w) from rfl, this]
    have hp : partW G d w 4 = sumW G (d + 1) w := by
      by_cases h1 : (G w).1 = 1
      · exact (sumW_part _ _ _ h1).symm
      · rw [sumW_file _ _ _ h1]
        exact partW_none _ _ _ (fun k hk => Classical.byContradiction fun hz => h1 (hG w k hk hw hl hz)) 4 (Nat.le_refl _)
    rw [← hp]; rfl

def sumN (G : List UInt8 → Int × Int) (n : Nd) : Int := sumW G (4 - (wordOf n.p).length) (wordOf n.p)

theorem sumN_at {G : List UInt8 → Int × Int} {w : List UInt8} (hw : Wrd w) {d : Nat} (hd : w.length + d = 4) : sumN G (ndAt G w) = sumW G d w := by
  unfold sumN
  show sumW G (4 - (wordOf (pB w)).length) (wordOf (pB w)) = _
  rw [wordOf_pB hw.2, show 4 - w.length = d by omega]

theorem awayW_snoc {w : List UInt8} {S : Stk} (h : AwayW w S) (c : UInt8) : AwayW (w ++ [c]) S := fun x hx => by
  obtain ⟨v, h1, h2, h3, h4⟩ := h x hx
  exact ⟨v, h1, h2, h3, fun q => h4 ((List.prefix_append w [c]).trans q)⟩

theorem awayW_app {w : List UInt8} {S T : Stk} (h : AwayW w S) (h' : AwayW w T) : AwayW w (S ++ T) := fun x hx => by
  rcases List.mem_append.1 hx with hx | hx
  · exact h x hx
  · exact h' x hx

theorem awayW_kid (G : List UInt8 → Int × Int) (d : Nat) {w : List UInt8} (hw : Wrd w) (hl : w.length < 4) {j : Nat} (hj : j < 4) (ks : List Nat) (hk : ∀ k ∈ ks, k < 4 ∧ k ≠ j) : AwayW (w ++ [lt4 j]) (ks.flatMap (kidK G d w)) := fun x hx => by
  obtain ⟨k, hk', hx⟩ := List.mem_flatMap.1 hx
  obtain ⟨hk4, hkj⟩ := hk k hk'
  unfold kidK at hx
  split at hx
  · cases hx
  · rw [List.mem_singleton] at hx
    subst hx
    refine ⟨w ++ [lt4 k], hw.snoc hl hk4, by simp, rfl, fun q => hkj ?_⟩
    have e := q.eq_of_length (by simp)
    have := List.append_cancel_left e
    simp only [List.cons.injEq, and_true] at this
    exact (lt4_inj hj hk4 this).symm

theorem lst_range (G : List UInt8 → Int × Int) (d : Nat) (w : List UInt8) : lst G (d + 1) w = (List.range 4).flatMap (fun k => oneAt G (w ++ [lt4 k]) ++ lst G d (w ++ [lt4 k])) := rfl

theorem run_lst {G : List UInt8 → Int × Int} (hG : Grown G) : ∀ (d : Nat) (w : List UInt8), Wrd w → w.length + d = 4 → ∀ (A : List Int) (S : Stk), AwayW w S →
    (lst G d w).foldr stepNd (A, S) = ((lst G d w).map (sumN G) ++ A, kids G d w ++ S)
  | 0, w, hw, hd, A, S, hS => rfl
  | d + 1, w, hw, hd, A, S, hS => by
    have hl : w.length < 4 := by omega
    have hone : ∀ k, k < 4 → ∀ (A : List Int) (S : Stk), AwayW (w ++ [lt4 k]) S →
        (oneAt G (w ++ [lt4 k]) ++ lst G d (w ++ [lt4 k])).foldr stepNd (A, S) = ((oneAt G (w ++ [lt4 k]) ++ lst G d (w ++ [lt4 k])).map (sumN G) ++ A, kidK G d w k ++ S) := by
      intro k hk A S hS
      have hw' := hw.snoc hl hk
      have hd' : (w ++ [lt4 k]).length + d = 4 := by simp; omega
      rw [List.foldr_append, run_lst hG d _ hw' hd' A S hS]
      unfold oneAt kidK
      by_cases hz : (G (w ++ [lt4 k])).1 = 0
      · rw [if_pos hz, if_pos hz, kids_none]
        · rfl
        · intro hd0 j hj
          refine Classical.byContradiction fun hc => ?_
          have := hG _ j hj hw' (by omega) hc
          rw [hz] at this; cases this
      · rw [if_neg hz, if_neg hz]
        show stepNd (ndAt G (w ++ [lt4 k])) _ = _
        unfold stepNd
        have e := popL_node hG hw' hd' hS
        show ((popL (pB (w ++ [lt4 k])) (baseW (G (w ++ [lt4 k]))) _).1 :: _, _) = _
        show ((popL (pB (w ++ [lt4 k])) (baseW (G (w ++ [lt4 k]))) (kids G d (w ++ [lt4 k]) ++ S)).1 :: _, (pB (w ++ [lt4 k]), (popL (pB (w ++ [lt4 k])) (baseW (G (w ++ [lt4 k]))) (kids G d (w ++ [lt4 k]) ++ S)).1) :: (popL (pB (w ++ [lt4 k])) (baseW (G (w ++ [lt4 k]))) (kids G d (w ++ [lt4 k]) ++ S)).2) = _
        rw [e, List.map_append, List.map_cons, List.map_nil, sumN_at hw' hd']
        rfl
    have hall : ∀ (ks : List Nat), (∀ k ∈ ks, k < 4) → ks.Nodup →
        (ks.flatMap (fun k => oneAt G (w ++ [lt4 k]) ++ lst G d (w ++ [lt4 k]))).foldr stepNd (A, S) = ((ks.flatMap (fun k => oneAt G (w ++ [lt4 k]) ++ lst G d (w ++ [lt4 k]))).map (sumN G) ++ A, ks.flatMap (kidK G d w) ++ S) := by
      intro ks
      induction ks with
      | nil => intro _ _; rfl
      | cons k ks ih =>
        intro hk hn
        obtain ⟨hn1, hn2⟩ := List.nodup_cons.1 hn
        have hk4 := hk k (by simp)
        rw [List.flatMap_cons, List.flatMap_cons, List.foldr_append, ih (fun j hj => hk j (List.mem_cons_of_mem _ hj)) hn2,
          hone k hk4 _ _ (awayW_app (awayW_kid G d hw hl hk4 ks fun j hj => ⟨hk j (List.mem_cons_of_mem _ hj), fun e => hn1 (e ▸ hj)⟩) (awayW_snoc hS _))]
        simp only [List.map_append, List.append_assoc]
    rw [lst_range]
    exact hall (List.range 4) (fun k hk => List.mem_range.1 hk) List.nodup_range

theorem grown_of {ns : List Nd} (h : validT ns = true) : Grown (Fof ns) := by
  intro w k hk hw hl hz
  have hw' := hw.snoc hl hk
  have hm := node_of h hw' (by simp) hz
  have g := (((validT_iff ns).1 h).2.1 _ hm).2.2.2
  rw [show (ndAt (Fof ns) (w ++ [lt4 k])).p = pB (w ++ [lt4 k]) from rfl, parB_pB hw' (by simp), List.dropLast_concat] at g
  exact g

theorem all_lst {ns : List Nd} (h : validT ns = true) : lst (Fof ns) 4 [] = ns := by
  have := under_lst h Wrd.nil
  rw [show 4 - ([] : List UInt8).length = 4 from rfl] at this
  rw [this, List.filter_eq_self]
  intro n hn
  obtain ⟨w, hw, hne, e, _⟩ := node_word h hn
  rw [e, undB_pB Wrd.nil hw, decide_eq_true_eq]
  refine ⟨List.nil_prefix, ?_⟩
  have : w.length ≠ 0 := fun e => hne (List.length_eq_zero_iff.1 e)
  simp; omega

/-- The program's sums of a tree. -/
theorem run_tree {ns : List Nd} (h : validT ns = true) : runL ns = (ns.map (fun n => treeSum ns n.p), kids (Fof ns) 4 []) := by
  have := run_lst (grown_of h) 4 [] Wrd.nil rfl [] [] (fun x hx => by cases hx)
  rw [all_lst h, List.append_nil, List.append_nil] at this
  show ns.foldr stepNd ([], []) = _
  rw [this]
  congr 1
  refine List.map_congr_left fun n hn => ?_
  unfold treeSum
  rw [h, (good_path h hn).2]
  rfl

theorem run_root {ns : List Nd} (h : validT ns = true) : (runL (⟨rootB, 1, 0⟩ :: ns)).1 = treeSum ns rootB :: ns.map (fun n => treeSum ns n.p) := by
  rw [runL_cons, run_tree h]
  unfold stepNd
  show (popL (pB []) (baseW (1, 0)) (kids (Fof ns) 4 [])).1 :: _ = _
  have e := popL_node (grown_of h) (d := 4) Wrd.nil rfl (S := []) (fun x hx => by cases hx)
  rw [List.append_nil, Fof_root] at e
  rw [e]
  have := treeSum_word h Wrd.nil
  rw [pB_root] at this
  rw [this]
  rfl

theorem nds_ok {ns : List Nd} (h : validT ns = true) : NdsOk ns := fun n hn =>
  ⟨(good_path h hn).2, (((validT_iff ns).1 h).2.1 n hn).2.1⟩

theorem nds_root {ns : List Nd} (h : validT ns = true) : NdsOk (⟨rootB, 1, 0⟩ :: ns) := fun n hn => by
  rcases List.mem_cons.1 hn with rfl | hn
  · exact ⟨by decide, by decide⟩
  · exact nds_ok h n hn

/-- A path that is in no node has the sum of nothing. -/
theorem sum_missing {ns : List Nd} {p : ByteArray} (h : validT ns = true) (hv : vpB p = true) (hr : p ≠ rootB) (hm : ∀ n ∈ ns, n.p ≠ p) : treeSum ns p = 1 := by
  obtain ⟨w, hw, rfl⟩ := vpB_word hv
  have e : Fof ns w = (0, 0) := getT_none hr hm
  rw [treeSum_word h hw, sumW_file _ _ _ (by rw [e]; decide), e]
  rfl

end Go.Proofs.Ytmdidhlfpaganaa

/-
  WALKS: the stack of paths: impl.contentSum, pathStack.top, pathStack.sum.
-/
namespace Go.Proofs.Ytmdidhlfpaganaa
open Go.RowKit
set_option linter.unusedVariables false

/-- What a walk leaves that ends in a number. -/
def IntPost (n : Int) (W : World) (e : Ending) (w' : World) : Prop := e = .returned (.int .i64 n) ∧ Below W.heap.size W w'

set_option maxHeartbeats 1000000 in
set_option maxRecDepth 100000 in
theorem contentSum_c (k v : Int) (h : validB k v = true) (W : World) : Calls Try.prog 46 #[con k v] W (IntPost (baseW (k, v)) W) := by
  unfold validB at h
  simp only [decide_eq_true_eq] at h
  have hk2 : k ≤ 2 := by omega
  have hk0 : 0 ≤ k := by omega
  have hv0 : 0 ≤ v := by omega
  have hv9 : v ≤ 99 := by omega
  have w1 : IntKind.i64.wrap (200 * k) = 200 * k := IntWalk.i64_in _ (by omega)
  have w2 : IntKind.i64.wrap (1 + 200 * k) = 1 + 200 * k := IntWalk.i64_in _ (by omega)
  have w3 : IntKind.i64.wrap (1 + 200 * k + v) = 1 + 200 * k + v := IntWalk.i64_in _ (by omega)
  clear h
  unfold con
  go_enter Try.func46, Try.ntmps46
  go_wp2
  refine bodyPost_ret (v := .int .i64 (1 + 200 * k + v)) (by simp [results, Try.f46, go_sem]) rfl ⟨rfl, below_box _ _⟩

theorem infoSummed : (Try.prog.info? 123).map (fun i => (i.zero, i.size, i.bytes)) = some (some (.agg #[.string ⟨#[]⟩, .int .i64 0]), 2, 24) := by kernel_rfl

/-- The cells of a stack, the lowest path first. -/
def flatS (st : Stk) : List Value := st.flatMap (fun x => [.string x.1, .int .i64 x.2])

theorem flatS_append (a b : Stk) : flatS (a ++ b) = flatS a ++ flatS b := by unfold flatS; rw [List.flatMap_append]
theorem flatS_one (x : ByteArray × Int) : flatS [x] = [.string x.1, .int .i64 x.2] := rfl
theorem flatS_length (st : Stk) : (flatS st).length = st.length * 2 := by
  induction st with
  | nil => rfl
  | cons n r ih =>
    have : flatS (n :: r) = [.string n.1, .int .i64 n.2] ++ flatS r := rfl
    rw [this, List.length_append, ih]
    simp; omega

/-- The path on top, or none. -/
def topQ (st : Stk) : ByteArray × Int := st.getLast?.getD (⟨#[]⟩, 0)

theorem topQ_nil : topQ [] = (⟨#[]⟩, 0) := rfl
theorem topQ_snoc (st : Stk) (x : ByteArray × Int) : topQ (st ++ [x]) = x := by unfold topQ; simp

def SumdRet (x : ByteArray × Int) (W : World) (e : Ending) (w' : World) : Prop := e = .returned (.agg #[.string x.1, .int .i64 x.2]) ∧ Below W.heap.size W w'

theorem sumd_results (fn : Func) (hf : fn.results = #[.cell 2 123]) (W : World) (n : Nat) (q : ByteArray) (s : Int) (tmps : Array Value) (ht : tmps[2]? = some (.pointer (some ⟨n, 0, none⟩)))
    (h : W.cell? ⟨n, 0, none⟩ = some (.string q) ∧ W.cell? ⟨n, 1, none⟩ = some (.int .i64 s)) : (results fn tmps).run Try.prog W = .ok (.agg #[.string q, .int .i64 s]) W := by
  obtain ⟨c0, c1⟩ := h
  simp [results, hf, go_sem, ht, c0, c1]

theorem sumd_new (fn : Func) (hf : fn.results = #[.cell 2 123]) {W : World} {q : ByteArray} {s : Int} {x : ByteArray × Int} (hx : x = (q, s)) {tmps : Array Value} (ht : tmps[2]? = some (.pointer (some ⟨W.heap.size, 0, none⟩))) :
    bodyPost Try.prog fn (SumdRet x W) .ret ⟨tmps, []⟩ (W.alloc (.cells #[.string q, .int .i64 s] 123)) := by
  subst hx
  have h2 := two_new W (.string q) (.int .i64 s) 123
  exact bodyPost_ret (sumd_results fn hf _ W.heap.size q s _ ht ⟨h2.1, h2.2.1⟩) rfl ⟨rfl, below_box _ _⟩

set_option maxHeartbeats 1000000 in
set_option maxRecDepth 100000 in
theorem top_empty (a : Option Addr) (cap : Nat) (W : World) : Calls Try.prog 93 #[.slice a 0 cap] W (SumdRet (topQ []) W) := by
  have HQ := Lib.hid topQ_nil
  have T1 := Lib.hid (two_new W (.string ⟨#[]⟩) (.int .i64 0) 123)
  obtain ⟨g0, g1, f0, f1, -⟩ := T1.out
  go_enter Try.func93, Try.ntmps93
  go_wp2
  exact sumd_new _ rfl HQ.out rfl

set_option maxHeartbeats 1000000 in
set_option maxRecDepth 100000 in
theorem top_c (base : Nat) (sl : Value) (st : Stk) (hl : st.length ≤ 2097152) (W : World) (ho : W.ownsRow base 123 2 sl st.length (flatS st)) :
    Calls Try.prog 93 #[sl] W (SumdRet (topQ st) W) := by
  rcases List.eq_nil_or_concat st with rfl | ⟨st', x, rfl⟩
  · rcases ho.2 with ⟨rfl, h0⟩ | ⟨g, cap, cur, rfl, h1, h2, h3, h4, h5, h6⟩
    · exact top_empty none 0 W
    · exact top_empty (some ⟨g, 0, none⟩) cap W
  · rw [List.concat_eq_append] at *
    rcases ho.2 with ⟨rfl, h0⟩ | ⟨g, cap, cur, rfl, h1, h2, h3, h4, h5, h6⟩
    · simp at h0
    · obtain ⟨q, s⟩ := x
      have HQ := Lib.hid (topQ_snoc st' (q, s))
      have hlen : (st' ++ [(q, s)]).length = st'.length + 1 := by simp
      have hfl := flatS_length st'
      have c0 := ho.cellAt (st'.length * 2) (by rw [hlen]; omega)
      have c1 := ho.cellAt (st'.length * 2 + 1) (by rw [hlen]; omega)
      rw [flatS_append, flatS_one, List.getElem?_append_right (by omega), hfl] at c0 c1
      rw [hlen] at hl h3 ⊢
      generalize st'.length = m at hl h3 c0 c1 ⊢
      simp only [Nat.sub_self, List.getElem?_cons_zero] at c0
      rw [show m * 2 + 1 - m * 2 = 1 by omega, List.getElem?_cons_succ, List.getElem?_cons_zero] at c1
      have hgl := World.block_lt_of_cell? W _ c0
      have T1 := Lib.hid (two_new W (.string ⟨#[]⟩) (.int .i64 0) 123)
      obtain ⟨g0, g1, f0, f1, -⟩ := T1.out
      clear ho h6 h5 h2 h4 hfl hlen
      have hm0 : (0 : Int) ≤ m := by omega
      have e0 : (((m + 1 : Nat) : Int) == 0) = false := beq_eq_false_iff_ne.2 (by omega)
      go_enter Try.func93, Try.ntmps93
      go_wp2
      exact sumd_new _ rfl HQ.out rfl

/-- What the stack's steps keep: all that lies below a base, but for the stack's own box; and whatever is no cells. -/
structure StkKept (B base : Nat) (W W' : World) : Prop where
  low : Below 0 W W'
  block : ∀ k, k < base → k ≠ B → W'.heap[k]? = W.heap[k]?
  others : KeepsOthers W W'

theorem StkKept.trans {B base : Nat} {W W1 W2 : World} (h : StkKept B base W W1) (k : StkKept B base W1 W2) : StkKept B base W W2 :=
  ⟨h.low.trans k.low, fun j hj hne => (k.block j hj hne).trans (h.block j hj hne), h.others.trans k.others⟩

theorem StkKept.of_below {B base : Nat} {W W' : World} (hb : base ≤ W.heap.size) (h : Below W.heap.size W W') : StkKept B base W W' :=
  ⟨h.mono (Nat.zero_le _), fun j hj _ => h.block j (by omega), ⟨h.size, fun k o hk _ => (h.block k (Array.getElem?_eq_some_iff.1 hk).1).trans hk⟩⟩

theorem StkKept.set {B base : Nat} (W : World) (i : Nat) (v : Value) : StkKept B base W (W.setCell ⟨B, i, none⟩ v) :=
  ⟨⟨rfl, rfl, rfl, by simp [World.setCell], fun k hk => absurd hk (Nat.not_lt_zero _)⟩, fun j _ hne => Below.heap_setCell _ _ _ _ hne, KeepsOthers.setCell _ _ _⟩

theorem StkKept.cell {B base : Nat} {W W' : World} (h : StkKept B base W W') {p : Addr} (hp : p.block < base) (hne : p.block ≠ B) {v : Value} (hc : W.cell? p = some v) : W'.cell? p = some v :=
  (World.cell?_of_block (h.block _ hp hne)).trans hc

/-- The stack in memory: its box, and its row beyond a base. -/
structure StkAt (B base : Nat) (W : World) (sl : Value) (st : Stk) : Prop where
  box : Boxed W B 94 sl
  row : W.ownsRow base 123 2 sl st.length (flatS st)
  lt : B < base
  le : base ≤ W.heap.size

theorem StkAt.below {B base : Nat} {W W' : World} {sl : Value} {st : Stk} (h : StkAt B base W sl st) (hb : Below W.heap.size W W') : StkAt B base W' sl st :=
  ⟨(hb.block _ (Nat.lt_of_lt_of_le h.lt h.le)).trans h.box, own_below h.row hb, h.lt, Nat.le_trans h.le hb.size⟩

/-- What pathStack.sum leaves. -/
def SumAct (B base : Nat) (st : Stk) (p : ByteArray) (k v : Int) (W : World) (e : Ending) (W' : World) : Prop :=
  ∃ sl', e = .returned (.int .i64 (popL p (baseW (k, v)) st.reverse).1) ∧ StkAt B base W' sl' ((popL p (baseW (k, v)) st.reverse).2.reverse ++ [(p, (popL p (baseW (k, v)) st.reverse).1)]) ∧ StkKept B base W W'

/-- How many paths a stack has. -/
def lenAt (W : World) (B : Nat) : Nat := match W.cell? ⟨B, 0, none⟩ with
  | some (.slice _ n _) => n
  | _ => 0

def PopRel (B base : Nat) (st : Stk) (p : ByteArray) (n0 : Int) (W : World) (n q : Value) (wr : World) : Prop :=
  ∃ (m : Int) (stk : Stk) (sl : Value) (c : Nat), n = .int .i64 m ∧ q = .pointer (some ⟨c, 0, none⟩) ∧ 0 ≤ m ∧ m ≤ 9972 ∧ Hid (popL p m stk.reverse = popL p n0 st.reverse) ∧ Hid (StkOk stk) ∧ Hid (stk.length ≤ st.length) ∧
    Two wr c (.string (topQ stk).1) (.int .i64 (topQ stk).2) ∧ Hid (StkAt B base wr sl stk) ∧ W.heap.size ≤ c ∧ wr.cell? ⟨W.heap.size, 0, none⟩ = some (.string p) ∧ Hid (StkKept B W.heap.size W wr ∧ StkKept B base W wr)

theorem vpB_size8 {p : ByteArray} (h : vpB p = true) : p.size ≤ 8 := by
  obtain ⟨w, hw, rfl⟩ := vpB_word h
  exact pB_size hw

theorem topQ_size {stk : Stk} (h : StkOk stk) : (topQ stk).1.size ≤ 8 := by
  rcases List.eq_nil_or_concat stk with rfl | ⟨st', x, rfl⟩
  · decide
  · rw [List.concat_eq_append] at *
    rw [topQ_snoc]
    exact vpB_size8 (h x (by simp)).1

/-- The last letter of a path whose parent is one. -/
theorem path_last {q p : ByteArray} (hq : vpB q = true) (hp : vpB p = true) (h : parB q = p) : ∃ (j kx : Nat) (hj : j < q.size), q.size = j + 1 ∧ kx ≤ 3 ∧ (q[j].toNat : Int) = 97 + kx ∧ nameN q = kx ∧ j ≤ 8 := by
  obtain ⟨w, hw, rfl⟩ := vpB_word hq
  have hsz := pB_size hw
  rcases List.eq_nil_or_concat w with rfl | ⟨v, c, rfl⟩
  · rw [← h] at hp; exact absurd hp (by decide)
  · rw [List.concat_eq_append] at *
    have hc := hw.2 c (by simp)
    obtain ⟨kx, hk, rfl⟩ : ∃ kx, kx < 4 ∧ c = lt4 kx := by
      have := (letter_iff c).1 hc
      simp only [letters, List.mem_cons, List.not_mem_nil, or_false] at this
      rcases this with rfl | rfl | rfl | rfl
      · exact ⟨0, by omega, rfl⟩
      · exact ⟨1, by omega, rfl⟩
      · exact ⟨2, by omega, rfl⟩
      · exact ⟨3, by omega, rfl⟩
    have hl : (pB (v ++ [lt4 kx])).data.toList.getLast? = some (lt4 kx) := by
      rw [pB_list]; unfold Pm.pathOf; rw [if_neg (by simp), flat_last]
    have h1 : 1 ≤ (pB (v ++ [lt4 kx])).size := by
      rw [Lib.size_eq]
      cases hd : (pB (v ++ [lt4 kx])).data.toList with
      | nil => rw [hd] at hl; cases hl
      | cons => simp
    refine ⟨(pB (v ++ [lt4 kx])).size - 1, kx, by omega, by omega, by omega, ?_, name_word v hk, by omega⟩
    have e : (pB (v ++ [lt4 kx])).data.toList[(pB (v ++ [lt4 kx])).size - 1]? = some (lt4 kx) := by
      rw [Lib.size_eq, ← List.getLast?_eq_getElem?]; exact hl
    rw [Pm.byte_getElem? _ _ (by omega)] at e
    have := lt4_name hk
    rw [Option.some.inj e]
    omega

theorem StkAt.top {B base : Nat} {W : World} {sl : Value} {st : Stk} {x : ByteArray × Int} (h : StkAt B base W sl (st ++ [x])) : ∃ g cap, sl = .slice (some ⟨g, 0, none⟩) (st.length + 1) cap ∧ st.length + 1 ≤ cap ∧ cap ≤ maxLen ∧
    StkAt B base (W.setCell ⟨B, 0, none⟩ (.slice (some ⟨g, 0, none⟩) st.length cap)) (.slice (some ⟨g, 0, none⟩) st.length cap) st := by
  obtain ⟨hb, hr, hlt, hle⟩ := h
  rw [List.length_append, List.length_singleton, flatS_append] at hr
  have hr' := hr
  rcases hr.2 with ⟨_, h0⟩ | ⟨g, cap, cur, rfl, h1, h2, h3, h4, h5, h6⟩
  · omega
  · refine ⟨g, cap, rfl, h3, h4, hb.set _, ?_, hlt, by simpa [World.setCell] using hle⟩
    exact ownsRow_setCell_below (ownsRow_pop (flatS_length st) hr') (by show B < base; exact hlt) _

theorem StkAt.drew {B base : Nat} {W : World} {sl : Value} {st : Stk} (h : StkAt B base W sl st) : StkAt B base W.drew sl st := ⟨h.box, h.row, h.lt, h.le⟩
theorem StkKept.drew {B base : Nat} {W W' : World} (h : StkKept B base W W') : StkKept B base W W'.drew := ⟨h.low.drew, h.block, h.others.trans ⟨Nat.le_refl _, fun _ _ h _ => h⟩⟩

theorem StkAt.far {B base : Nat} {W : World} {sl : Value} {st : Stk} (h : StkAt B base W sl st) {c : Nat} (hc : c ≠ B) (hs : sl.ownBlock ≠ some c) (i : Nat) (v : Value) (hcl : c < W.heap.size) : StkAt B base (W.setCell ⟨c, i, none⟩ v) sl st :=
  ⟨(Below.heap_setCell _ _ _ _ (fun e => hc e.symm)).trans h.box, h.row.kept (grownBy_setCell_at W c i v) (.inr hs), h.lt, by simpa [World.setCell] using h.le⟩

theorem StkAt.lenAt {B base : Nat} {W : World} {g n cap : Nat} {st : Stk} (h : StkAt B base W (.slice (some ⟨g, 0, none⟩) n cap) st) : lenAt W B = n := by
  unfold Go.Proofs.Ytmdidhlfpaganaa.lenAt
  rw [h.box.cell]

theorem StkKept.setFar {B base : Nat} (W : World) {c : Nat} (h : base ≤ c) (i : Nat) (v : Value) : StkKept B base W (W.setCell ⟨c, i, none⟩ v) :=
  ⟨⟨rfl, rfl, rfl, by simp [World.setCell], fun k hk => absurd hk (Nat.not_lt_zero _)⟩, fun j hj _ => Below.heap_setCell _ _ _ _ (by show j ≠ c; omega), KeepsOthers.setCell _ _ _⟩

theorem StkKept.grown {B base : Nat} {W W' : World} {e : TypeId} {size n : Nat} {v : Value} {xs : List Value} (h : W.ownsRow base e size v n xs) (hb : base ≤ W.heap.size) (hg : W.grownBy W' v.ownBlock) : StkKept B base W W' := by
  refine ⟨⟨hg.os, hg.tape, hg.output, hg.size, fun k hk => absurd hk (Nat.not_lt_zero _)⟩, fun k hk _ => ?_, KeepsOthers.of_grownBy hg fun j o hj ho => ?_⟩
  · exact hg.block k (by omega) fun e => by have := (h.lt k e.symm).1; omega
  · rcases h.2 with ⟨rfl, _⟩ | ⟨g, cap, cur, rfl, h1, h2, _⟩
    · cases hj
    · simp [Value.ownBlock] at hj
      subst hj
      rw [h2] at ho; cases ho; rfl

theorem flatS_snoc (stk : Stk) (p : ByteArray) (m : Int) : flatS (stk ++ [(p, m)]) = flatS stk ++ [.string p, .int .i64 m] := by rw [flatS_append]; rfl

theorem parB_empty {p : ByteArray} (hp : vpB p = true) : parB ⟨#[]⟩ ≠ p := by
  intro e
  rw [← e] at hp
  exact absurd hp (by decide)

/-- The end of pathStack.sum. -/
theorem sum_end {B base : Nat} {st stk : Stk} {p : ByteArray} {k v n0 m : Int} {W wr W5 w4 : World} {sl1 : Value} {g4 c4 : Nat} {tmps : Array Value}
    (hn0 : baseW (k, v) = n0) (hp : popL p m stk.reverse = popL p n0 st.reverse) (hp1 : popL p m stk.reverse = (m, stk.reverse))
    (hK : StkKept B base W wr) (hA4 : StkAt B base wr sl1 stk) (h5 : Below wr.heap.size wr W5) (ht : tmps[4]? = some (.int .i64 m))
    (ho4 : w4.ownsRow base 123 2 (.slice (some ⟨g4, 0, none⟩) (stk.length + 1) c4) (stk.length + 1) (flatS stk ++ [.string p, .int .i64 m]))
    (hg4 : ((W5.alloc (.cells #[.string p, .int .i64 m] 123)).drew).grownBy w4 sl1.ownBlock) :
    bodyPost Try.prog Try.f75 (SumAct B base st p k v W) .ret ⟨tmps, []⟩ (w4.setCell ⟨B, 0, none⟩ (.slice (some ⟨g4, 0, none⟩) (stk.length + 1) c4)) := by
  have A5 := hA4.below h5
  have A6 : StkAt B base (W5.alloc (.cells #[.string p, .int .i64 m] 123)).drew sl1 stk := (A5.below (below_box _ _)).drew
  have hne : some B ≠ sl1.ownBlock := fun e => by have := (A6.row.lt B e.symm).1; have := A6.lt; omega
  have hbx : Boxed w4 B 94 sl1 := A6.box.kept hg4 hne
  refine bodyPost_ret (v := .int .i64 m) (by simp [results, Try.f75, go_sem, ht]) rfl ?_
  have e : popL p (baseW (k, v)) st.reverse = (m, stk.reverse) := by rw [hn0, ← hp, hp1]
  refine ⟨.slice (some ⟨g4, 0, none⟩) (stk.length + 1) c4, by rw [e], ?_, ?_⟩
  · rw [e]
    show StkAt B base _ _ (stk.reverse.reverse ++ [(p, m)])
    rw [List.reverse_reverse]
    refine ⟨hbx.set _, ?_, A6.lt, ?_⟩
    · rw [List.length_append, flatS_snoc]
      exact ownsRow_setCell_below ho4 A6.lt _
    · have := A6.le
      have := hg4.size
      have e2 : (w4.setCell ⟨B, 0, none⟩ (.slice (some ⟨g4, 0, none⟩) (stk.length + 1) c4)).heap.size = w4.heap.size := by simp [World.setCell]
      omega
  · exact (((hK.trans (.of_below hA4.le h5)).trans ((StkKept.of_below A5.le (below_box W5 _)).drew)).trans (.grown A6.row A6.le hg4)).trans (.set _ _ _)

set_option maxHeartbeats 2000000 in
set_option maxRecDepth 100000 in
theorem stackSum_c (B base : Nat) (sl : Value) (st : Stk) (p : ByteArray) (k v : Int) (hl : st.length ≤ 2000000) (hok : StkOk st) (hp : vpB p = true) (hv : validB k v = true) (W : World) (hA : StkAt B base W sl st) :
    Calls Try.prog 75 #[.pointer (some ⟨B, 0, none⟩), .agg #[.string p, .int .i64 k, .int .i64 v]] W (SumAct B base st p k v W) := by
  have HA := Lib.hid hA
  have HOK := Lib.hid hok
  have HP := Lib.hid hp
  have HL := Lib.hid hl
  have hb0 := base_ok hv
  obtain ⟨n0, hn0⟩ : ∃ n0, baseW (k, v) = n0 := ⟨_, rfl⟩
  have HC := Lib.hid (fun W' => show Calls Try.prog 46 #[.agg #[.int .i64 k, .int .i64 v]] W' (IntPost n0 W') by rw [← hn0]; exact contentSum_c k v hv W')
  have HN0 := Lib.hid hn0
  rw [hn0] at hb0
  obtain ⟨z0, z1⟩ := hb0
  clear hA hok hp hl hv hn0
  go_enter Try.func75, Try.ntmps75
  go_wp2_with fail
  refine (HC.out _).mono ?_
  rintro e W1 ⟨rfl, hb1⟩
  have r0 := box3_cell hb1 0
  simp at r0
  have A1 := Lib.hid ((HA.out.below (below_box _ _)).below hb1)
  have B1 := Lib.hid (below_next (below_box W _) hb1)
  have hN1 : W.heap.size < W1.heap.size := by have := hb1.size; simp at this; omega
  have hbx := A1.out.box.cell
  have HT := Lib.hid (top_c base sl st (by have := HL.out; omega) W1 A1.out.row)
  clear hb1
  go_wp2_with fail
  refine HT.out.mono ?_
  rintro e W2 ⟨rfl, hb2⟩
  have s0 := cell_kept hb2 r0
  have A2 := Lib.hid (A1.out.below hb2)
  have B2 := Lib.hid (below_next B1.out hb2)
  have hN2 : W.heap.size < W2.heap.size := by have := hb2.size; omega
  clear r0 hbx hb2 hN1
  go_wp2_with fail
  have T3 := Lib.hid (two_new W2 (.string (topQ st).1) (.int .i64 (topQ st).2) 123)
  have A3 := Lib.hid (A2.out.below (below_box W2 (.cells #[.string (topQ st).1, .int .i64 (topQ st).2] 123)))
  have B3 := Lib.hid (below_next B2.out (below_box W2 (.cells #[.string (topQ st).1, .int .i64 (topQ st).2] 123)))
  have s3 := cell_kept (below_box W2 (.cells #[.string (topQ st).1, .int .i64 (topQ st).2] 123)) s0
  have hN3 : W2.heap.size < (W2.alloc (.cells #[.string (topQ st).1, .int .i64 (topQ st).2] 123)).heap.size := by simp
  generalize W2.alloc (.cells #[.string (topQ st).1, .int .i64 (topQ st).2] 123) = W3 at T3 A3 B3 s3 hN3 ⊢
  clear s0
  go_loopw [5, 6] (fun n q wr => PopRel B base st p n0 W n q wr) (fun _ _ wr => lenAt wr B)
  case atStart =>
    exact ⟨n0, st, sl, W2.heap.size, rfl, rfl, z0, z1, rfl, HOK.out, Nat.le_refl _, T3.out, A3.out, by omega, s3, .of_below (Nat.le_refl _) B3.out, .of_below HA.out.le B3.out⟩
  case round =>
    obtain ⟨m, stk, sl1, c, rfl, rfl, m0, m1, HPL, HOK1, HLN, T1, A4, hc, s4, HK⟩ := hrel
    have hqs := topQ_size HOK1.out
    obtain ⟨q, hq⟩ : ∃ q, (topQ stk).1 = q := ⟨_, rfl⟩
    obtain ⟨s, hs⟩ : ∃ s, (topQ stk).2 = s := ⟨_, rfl⟩
    rw [hq] at hqs
    rw [hq, hs] at T1
    have HQ := Lib.hid hq
    have HS := Lib.hid hs
    obtain ⟨pq, hpq⟩ : ∃ pq, parB q = pq := ⟨_, rfl⟩
    have HPP := Lib.hid (fun W' => show Calls Try.prog 78 #[.string q] W' (fun e w' => e = .returned (.string pq) ∧ Below W'.heap.size W' w') by rw [← hpq]; exact pathParent_c q (by omega) W')
    have HPQ := Lib.hid hpq
    have HT1 := Lib.hid T1
    obtain ⟨t0, t1, f0, f1, hcl⟩ := T1
    have hNw := World.block_lt_of_cell? wr _ s4
    have HC0 := Lib.hid hc
    have HSR := Lib.hid (And.intro t0 s4)
    have HW := Lib.hid hNw
    clear hq hs hpq hqs hc
    simp only at hNw
    have HS0 : Hid (wr.drew.cell? ⟨c, 0, none⟩ = some (.string q) ∧ wr.drew.cell? ⟨W.heap.size, 0, none⟩ = some (.string p) ∧ Below wr.heap.size wr wr.drew) := ⟨t0, s4, (Below.refl _ _).drew⟩
    have HKP : Hid (∀ w1 w2 : World, (w1.cell? ⟨c, 0, none⟩ = some (.string q) ∧ w1.cell? ⟨W.heap.size, 0, none⟩ = some (.string p) ∧ Below wr.heap.size wr w1) → Below w1.heap.size w1 w2 →
        (w2.cell? ⟨c, 0, none⟩ = some (.string q) ∧ w2.cell? ⟨W.heap.size, 0, none⟩ = some (.string p) ∧ Below wr.heap.size wr w2)) := fun w1 w2 h hb => ⟨cell_kept hb h.1, cell_kept hb h.2.1, below_next h.2.2 hb⟩
    clear t0 t1 f0 f1 s4 hNw hcl
    by_cases hpe : pq = p
    · have heq : (pq.toList == p.toList) = true := by rw [hpe]; simp
      have HPE := Lib.hid hpe
      clear hpe
      go_upto_region 3 with (fail)
      go_region_held3 (fun w' => w'.cell? ⟨c, 0, none⟩ = some (.string q) ∧ w'.cell? ⟨W.heap.size, 0, none⟩ = some (.string p) ∧ Below wr.heap.size wr w')
        (first | exact HS0.out | exact HKP.out _ _ HS0.out hb5)
        (first | (go_at_call 78; (with_reducible refine (HPP.out _).mono ?_); rintro e W5 ⟨rfl, hb5⟩))
      rename_i hS
      rcases List.eq_nil_or_concat stk with rfl | ⟨stk', x, rfl⟩
      · exfalso
        have : q = ⟨#[]⟩ := HQ.out.symm
        rw [this, HPE.out] at HPQ
        exact parB_empty HP.out HPQ.out
      · rw [List.concat_eq_append] at *
        have hx : x = (q, s) := by
          have h1 := HQ.out
          have h2 := HS.out
          rw [topQ_snoc] at h1 h2
          rw [← h1, ← h2]
        subst hx
        obtain ⟨hvq, s0', s1'⟩ := HOK1.out (q, s) (by simp)
        obtain ⟨j, kx, hj, hsz, hk3, hby, hnm, hj8⟩ := path_last hvq HP.out (by rw [HPQ.out, HPE.out])
        have A5 := A4.out.below hS.2.2
        obtain ⟨g, cap, rfl, hcap, hcm, HPOP⟩ := A5.top
        have HPOP' := Lib.hid HPOP
        have hbx := A5.box.cell
        have hbf := A5.box.frozen
        have hBc : B ≠ c := fun e => by have := HA.out.lt; have := HA.out.le; have := HC0.out; omega
        have hT5 := Two.below HT1.out hS.2.2
        obtain ⟨t0, t1, -, -, hcl⟩ := hT5
        have hn5 := hS.2.1
        have HN5 := Lib.hid hn5
        have HB5 := Lib.hid hS.2.2
        have HL5 := Lib.hid (show stk'.length + 1 ≤ st.length by have := HLN.out; simp at this; exact this)
        have HPN := Lib.hid (show popL p m (stk' ++ [(q, s)]).reverse = popL p ((31 * m + 7 * kx + 100 * s + 3) % 9973) stk'.reverse by
          rw [List.reverse_append, List.reverse_singleton, List.singleton_append]
          conv => lhs; unfold popL
          rw [if_pos (show parB q = p by rw [HPQ.out, HPE.out]), hnm])
        have hlst : stk'.length ≤ 2000000 := by have := HL5.out; have := HL.out; omega
        generalize hsl : stk'.length = n at HPOP' HL5 hcap hlst hbx ⊢
        have HN := Lib.hid hsl
        have HCL := Lib.hid hcl
        have HNB := Lib.hid hBc
        have HHJ := Lib.hid hj
        have hn2 : (n : Int) ≤ 2000000 := by omega
        have hk3' : (kx : Int) ≤ 3 := by omega
        have hj8' : (j : Int) ≤ 8 := by omega
        clear hsl HPOP A5 hS hb5 hnm hcl hvq hlst hk3
        go_upto_region 7 with (fail)
        go_region
        have A6 := Lib.hid HPOP'.out.drew
        have K6 := Lib.hid (StkKept.drew (StkKept.set (B := B) (base := base) W5 0 (.slice (some ⟨g, 0, none⟩) n cap)))
        have K6' := Lib.hid (StkKept.drew (StkKept.set (B := B) (base := W.heap.size) W5 0 (.slice (some ⟨g, 0, none⟩) n cap)))
        have u0 : (W5.setCell ⟨B, 0, none⟩ (.slice (some ⟨g, 0, none⟩) n cap)).drew.cell? ⟨c, 0, none⟩ = some (.string q) := (World.cell?_setCell_other _ _ _ _ (fun e => HNB.out (congrArg Addr.block e))).trans t0
        have u1 : (W5.setCell ⟨B, 0, none⟩ (.slice (some ⟨g, 0, none⟩) n cap)).drew.cell? ⟨c, 1, none⟩ = some (.int .i64 s) := (World.cell?_setCell_other _ _ _ _ (fun e => HNB.out (congrArg Addr.block e))).trans t1
        have hBn : B ≠ W.heap.size := fun e => by have := HA.out.lt; have := HA.out.le; omega
        have un : (W5.setCell ⟨B, 0, none⟩ (.slice (some ⟨g, 0, none⟩) n cap)).drew.cell? ⟨W.heap.size, 0, none⟩ = some (.string p) := (World.cell?_setCell_other _ _ _ _ (fun e => hBn (congrArg Addr.block e))).trans hn5
        have hz6 : c < (W5.setCell ⟨B, 0, none⟩ (.slice (some ⟨g, 0, none⟩) n cap)).drew.heap.size := by simpa [World.setCell] using HCL.out
        clear t0 t1 hbx hbf hn5 HPOP' hBn
        generalize (W5.setCell ⟨B, 0, none⟩ (.slice (some ⟨g, 0, none⟩) n cap)).drew = W6 at A6 K6 K6' u0 u1 un hz6 ⊢
        have A7 := Lib.hid (A6.out.below (below_box W6 (.cells #[.string q, .int .i64 s] 123)))
        have hb7 := A7.out.box.cell
        have hn7 := cell_kept (below_box W6 (.cells #[.string q, .int .i64 s] 123)) un
        have T7 := Lib.hid (two_new W6 (.string q) (.int .i64 s) 123)
        have HTOP := Lib.hid (fun hl => top_c base (.slice (some ⟨g, 0, none⟩) n cap) stk' hl (W6.alloc (.cells #[.string q, .int .i64 s] 123)) A7.out.row)
        have hlst : stk'.length ≤ 2097152 := by have := HN.out; omega
        have HTOP' := Lib.hid (HTOP.out hlst)
        clear un HTOP hlst
        go_wp2_with fail
        refine HTOP'.out.mono ?_
        rintro e W8 ⟨rfl, hb8⟩
        have hb8' := below_next (below_box W6 (.cells #[.string q, .int .i64 s] 123)) hb8
        have A8 := Lib.hid (A6.out.below hb8')
        have T8 := Lib.hid (T7.out.below hb8)
        have hn8 := cell_kept hb8 hn7
        have h68 : W6.heap.size < W8.heap.size := by have := hb8.size; simp at this; omega
        have hWc : W.heap.size < W6.heap.size := by have := HC0.out; omega
        have hbc : base ≤ W6.heap.size := A6.out.le
        have K8 := Lib.hid (((HK.out.1.trans (StkKept.of_below (Nat.le_of_lt HW.out) HB5.out)).trans K6'.out).trans (StkKept.of_below (Nat.le_of_lt hWc) hb8'))
        have K8' := Lib.hid (((HK.out.2.trans (StkKept.of_below A4.out.le HB5.out)).trans K6.out).trans (StkKept.of_below hbc hb8'))
        obtain ⟨g0, g1, f0, f1, -⟩ := T8.out
        have HNX := Lib.hid hn8
        have HLT := Lib.hid (And.intro h68 (And.intro hWc hbc))
        clear hb8 hb8' hn7 hn8 hb7 u0 u1 hz6
        go_wp2
        go_roundw
        case rel =>
          obtain ⟨h68, hWc, hbc⟩ := HLT.out
          refine ⟨_, stk', .slice (some ⟨g, 0, none⟩) n cap, W6.heap.size, rfl, rfl, by omega, by omega, ?_, fun x hx => HOK1.out x (by simp [hx]), by have := HL5.out; have := HN.out; show stk'.length ≤ _; omega, (T8.out.set0).set1, ?_, by omega, ?_, ?_, ?_⟩
          · show popL p _ _ = _
            rw [show ((97 : Int) + kx - 97) = kx by omega, ← HPN.out]; exact HPL.out
          · have hne : W6.heap.size ≠ B := fun e => by have := A6.out.lt; omega
            have hng : (Value.slice (some ⟨g, 0, none⟩) n cap).ownBlock ≠ some W6.heap.size := fun e => by have := (A6.out.row.lt _ e).2; omega
            exact (A8.out.far hne hng 0 _ h68).far hne hng 1 _ (by simpa [World.setCell] using h68)
          · rw [World.cell?_setCell_other _ _ _ _ (fun e => by have := congrArg Addr.block e; simp at this; omega), World.cell?_setCell_other _ _ _ _ (fun e => by have := congrArg Addr.block e; simp at this; omega)]
            exact HNX.out
          · exact (K8.out.trans (StkKept.setFar _ (Nat.le_of_lt hWc) _ _)).trans (StkKept.setFar _ (Nat.le_of_lt hWc) _ _)
          · exact (K8'.out.trans (StkKept.setFar _ hbc _ _)).trans (StkKept.setFar _ hbc _ _)
        case measure =>
          have h1 := A4.out.lenAt
          rw [h1]
          have hne : W6.heap.size ≠ B := fun e => by have := A6.out.lt; omega
          have hng : (Value.slice (some ⟨g, 0, none⟩) n cap).ownBlock ≠ some W6.heap.size := fun e => by have := (A6.out.row.lt _ e).2; omega
          rw [((A8.out.far hne hng 0 _ HLT.out.1).far hne hng 1 _ (by simpa [World.setCell] using HLT.out.1)).lenAt]
          have := HN.out; omega
    · have heq : (pq.toList == p.toList) = false := by
        rw [beq_eq_false_iff_ne, Lib.toList_data, Lib.toList_data]
        exact fun e => hpe (by rw [← Lib.mk_data pq, ← Lib.mk_data p, e])
      have HPL1 := Lib.hid (show popL p m stk.reverse = (m, stk.reverse) by
        rcases List.eq_nil_or_concat stk with rfl | ⟨stk', x, rfl⟩
        · rfl
        · rw [List.concat_eq_append] at *
          have h1 := HQ.out
          rw [topQ_snoc] at h1
          rw [List.reverse_append, List.reverse_singleton, List.singleton_append]
          unfold popL
          rw [if_neg (by rw [h1, HPQ.out]; exact hpe)])
      clear hpe
      go_upto_region 3 with (fail)
      go_region_held3 (fun w' => w'.cell? ⟨c, 0, none⟩ = some (.string q) ∧ w'.cell? ⟨W.heap.size, 0, none⟩ = some (.string p) ∧ Below wr.heap.size wr w')
        (first | exact HS0.out | exact HKP.out _ _ HS0.out hb5)
        (first | (go_at_call 78; (with_reducible refine (HPP.out _).mono ?_); rintro e W5 ⟨rfl, hb5⟩))
      rename_i hS
      obtain ⟨i0, hi, hz0, hz1, hz2⟩ := info_parts infoSummed
      have A5 := Lib.hid (A4.out.below hS.2.2)
      have hbx := A5.out.box.cell
      have hbf := A5.out.box.frozen
      have hn5 := hS.2.1
      have HB5 := Lib.hid hS.2.2
      clear hS hb5
      go_upto_region 10 with (fail)
      have HROW := Lib.hid (show ((W5.alloc (.cells #[.string p, .int .i64 m] 123)).drew).ownsRow base 123 2 sl1 stk.length (flatS stk) from A5.out.row.alloc _)
      have HCEL := Lib.hid (show ∀ j u, [Value.string p, .int .i64 m][j]? = some u → ((W5.alloc (.cells #[.string p, .int .i64 m] 123)).drew).cell? ((⟨W5.heap.size, 0, none⟩ : Addr).add j) = some u from cell_two_new W5 _ _ _)
      have hsm : stk.length ≤ 2000000 := by have := HLN.out; have := HL.out; show stk.length ≤ _; omega
      have HMX := Lib.hid (show stk.length + 1 ≤ maxLen ∧ (stk.length + 1) * 24 ≤ 140737488355328 by unfold maxLen; exact ⟨by omega, by omega⟩)
      have HBS := Lib.hid (show base ≤ ((W5.alloc (.cells #[.string p, .int .i64 m] 123)).drew).heap.size by have := A5.out.le; show base ≤ (W5.alloc _).heap.size; rw [World.size_alloc]; omega)
      have HBX := Lib.hid (show Boxed ((W5.alloc (.cells #[.string p, .int .i64 m] 123)).drew) B 94 sl1 from A5.out.box.alloc _)
      have HNE := Lib.hid (show some B ≠ sl1.ownBlock from fun e => by have := (A5.out.row.lt B e.symm).1; have := A5.out.lt; omega)
      have hbxA : (W5.alloc (.cells #[.string p, .int .i64 m] 123)).cell? ⟨B, 0, none⟩ = some sl1 := (A5.out.box.alloc _).cell
      clear hsm
      go_region_law (rw [if_pos (by rfl)]; refine wp_append_own _ _ _ 94 rfl base 123 i0 (.agg #[.string ⟨#[]⟩, .int .i64 0]) 2 24 Try.underlying94 hi hz0 hz1 hz2 rfl (by decide) _ _ _ rfl HROW.out ⟨W5.heap.size, 0, none⟩ 1 1 [.string p, .int .i64 m] rfl rfl HCEL.out (by simp [Value.oneCell']) HMX.out.1 HMX.out.2 HBS.out ?_; intro v4 w4 ho4 hg4 hn4; obtain ⟨g4, c4, rfl⟩ := ownsRow_succ ho4; have hbx4 := (HBX.out.kept hg4 HNE.out).cell; have hbf4 := (HBX.out.kept hg4 HNE.out).frozen)
      all_goals
        clear HROW HCEL HMX HBS HBX HNE hbx4 hbf4 hbxA hbx hbf hn5
        go_wp2
        exact sum_end HN0.out HPL.out HPL1.out HK.out.2 A4.out HB5.out rfl ho4 hg4

end Go.Proofs.Ytmdidhlfpaganaa

/-
  WALKS: impl.sumsOf.
-/
namespace Go.Proofs.Ytmdidhlfpaganaa
open Go.RowKit
set_option linter.unusedVariables false

attribute [local go_sem] Oper.semAt_some

/-- One round: a sum is written, and the stack moves on. -/
def stepB {ns : List Nd} (a : List Int × Stk) (x : Elt ns) : List Int × Stk :=
  (a.1.set x.i (popL x.n.p (baseW (x.n.k, x.n.v)) a.2).1, (x.n.p, (popL x.n.p (baseW (x.n.k, x.n.v)) a.2).1) :: (popL x.n.p (baseW (x.n.k, x.n.v)) a.2).2)

theorem set_last (j : Nat) (r : Int) (A : List Int) : (List.replicate (j + 1) (0 : Int) ++ A).set j r = List.replicate j 0 ++ r :: A := by
  rw [List.replicate_succ', List.append_assoc, List.set_append_right _ _ (by simp)]
  simp

theorem fold_back (ns : List Nd) : ∀ (j : Nat) (h : j ≤ ns.length), (backE ns j h).foldl stepB (List.replicate j 0 ++ (runL (ns.drop j)).1, (runL (ns.drop j)).2) = runL ns
  | 0, _ => by simp [backE]
  | j + 1, h => by
    have hd : ns.drop j = ns[j] :: ns.drop (j + 1) := List.drop_eq_getElem_cons (by omega)
    have e : runL (ns.drop j) = stepNd ns[j] (runL (ns.drop (j + 1))) := by rw [hd, runL_cons]
    have ih := fold_back ns j (by omega)
    rw [e] at ih
    show List.foldl stepB (stepB _ ⟨j, ns[j], _⟩) (backE ns j _) = _
    unfold stepB
    simp only
    rw [set_last]
    exact ih

theorem fold_all (ns : List Nd) : (backE ns ns.length (Nat.le_refl _)).foldl stepB (List.replicate ns.length 0, []) = runL ns := by
  have := fold_back ns ns.length (Nat.le_refl _)
  rw [List.drop_length] at this
  simpa [runL] using this

theorem infoInt3 : (Try.prog.info? 3).map (fun i => (i.zero, i.size, i.bytes)) = some (some (.int .i64 0), 1, 8) := by kernel_rfl

/-- Between two rounds: the row of sums and its box, the stack. -/
def SumsI (ns : List Nd) (len : Nat) (W : World) (pre : List (Elt ns)) (W' : World) : Prop :=
  ∃ (sl : Value) (stk : Stk) (zs : List Int), Boxed W' (W.heap.size + 1) 37 (.slice (some ⟨W.heap.size, 0, none⟩) len len) ∧ W'.ownsRow W.heap.size 3 1 (.slice (some ⟨W.heap.size, 0, none⟩) len len) len (intsV zs) ∧
    StkAt (W.heap.size + 1 + 1) (W.heap.size + 1 + 1 + 1 + 1) W' sl stk ∧ (zs, stk.reverse) = pre.foldl stepB (List.replicate len 0, []) ∧ stk.length ≤ pre.length ∧ StkOk stk

theorem SumsI.own (ns : List Nd) (len : Nat) (W : World) : Own (SumsI ns len W) := by
  rintro pre A B row ⟨sl, stk, zs, h1, h2, h3, h4, h5, h6⟩ hg hr
  have hnc : ∀ {b : Nat} {cs : Array Value} {t : TypeId} {fr : Nat × Nat}, A.heap[b]? = some (.cells cs t fr) → some b ≠ row := fun h e => by
    obtain ⟨o, ho, hc⟩ := hr _ e.symm
    rw [h] at ho; cases ho; cases hc
  have hrow : ∀ {base : Nat} {e : TypeId} {size : Nat} {v : Value} {n : Nat} {xs : List Value}, A.ownsRow base e size v n xs → B.ownsRow base e size v n xs := fun h => by
    refine h.kept hg ?_
    rcases h.2 with ⟨rfl, _⟩ | ⟨g, cap, cur, rfl, _, hgb, _⟩
    · exact .inl rfl
    · exact .inr (hnc hgb)
  exact ⟨sl, stk, zs, h1.kept hg (hnc h1), hrow h2, ⟨h3.box.kept hg (hnc h3.box), hrow h3.row, h3.lt, Nat.le_trans h3.le hg.size⟩, h4, h5, h6⟩

theorem made_row (W : World) (len : Nat) (hm : len ≤ maxLen) : (W.alloc (.cells (madeCells #[.int .i64 0] len) 3)).ownsRow W.heap.size 3 1 (.slice (some ⟨W.heap.size, 0, none⟩) len len) len (intsV (List.replicate len 0)) := by
  refine ⟨by rw [intsV_length, List.length_replicate, Nat.mul_one], .inr ⟨W.heap.size, len, _, rfl, Nat.le_refl _, World.alloc_heap_new W _, Nat.le_refl _, hm, by rw [size_madeCells, Nat.mul_one], ?_⟩⟩
  rw [Nat.mul_one, List.take_of_length_le (by rw [Array.length_toList, size_madeCells]; omega)]
  unfold madeCells intsV
  rw [List.map_replicate, List.eq_replicate_iff]
  refine ⟨by simp, fun v hv => ?_⟩
  simp [Nat.mod_one] at hv
  exact hv.2.symm

theorem sums_start (ns : List Nd) (len cap : Nat) (a : Option Addr) (W : World) (hm : len ≤ maxLen) : SumsI ns len W [] ((((W.alloc (.cells (madeCells #[.int .i64 0] len) 3)).alloc (.cells #[.slice (some ⟨W.heap.size, 0, none⟩) len len] 37)).alloc (.cells #[.slice none 0 0] 94)).alloc (.cells #[.slice a len cap] 23)) := by
  have b1 := Boxed.new (W.alloc (.cells (madeCells #[.int .i64 0] len) 3)) 37 (.slice (some ⟨W.heap.size, 0, none⟩) len len)
  have b2 := Boxed.new ((W.alloc (.cells (madeCells #[.int .i64 0] len) 3)).alloc (.cells #[.slice (some ⟨W.heap.size, 0, none⟩) len len] 37)) 94 (.slice none 0 0)
  rw [World.size_alloc] at b1 b2
  rw [World.size_alloc] at b2
  exact ⟨.slice none 0 0, [], List.replicate len 0, (b1.alloc _).alloc _, (((made_row W len hm).alloc _).alloc _).alloc _, ⟨b2.alloc _, World.ownsRow_nil _ _ _ _, by omega, by simp⟩, rfl, Nat.le_refl _, fun x hx => by cases hx⟩

theorem StkKept.row {B base : Nat} {W W' : World} (h : StkKept B base W W') {g0 b0 n cap size : Nat} {e : TypeId} {xs : List Value} (hg : g0 < base) (hne : g0 ≠ B) (ho : W.ownsRow b0 e size (.slice (some ⟨g0, 0, none⟩) n cap) n xs) : W'.ownsRow b0 e size (.slice (some ⟨g0, 0, none⟩) n cap) n xs := by
  refine ⟨ho.1, ?_⟩
  rcases ho.2 with ⟨h0, _⟩ | ⟨g, cap', cur, hv, h1, h2, h3⟩
  · cases h0
  · cases hv
    exact .inr ⟨g0, cap, cur, rfl, h1, (h.block g0 hg hne).trans h2, h3⟩

theorem intsV_set (zs : List Int) (i : Nat) (r : Int) : (intsV zs).set i (.int .i64 r) = intsV (zs.set i r) := by unfold intsV; rw [List.map_set]

theorem sums_round {ns : List Nd} {len i : Nat} {p : ByteArray} {k v : Int} {W W1 W6 : World} {pre : List (Elt ns)} {x : Elt ns} {sl sl6 : Value} {stk : Stk} {zs : List Int}
    (g1 : Boxed W1 (W.heap.size + 1) 37 (.slice (some ⟨W.heap.size, 0, none⟩) len len)) (g2 : W1.ownsRow W.heap.size 3 1 (.slice (some ⟨W.heap.size, 0, none⟩) len len) len (intsV zs))
    (g3 : StkAt (W.heap.size + 1 + 1) (W.heap.size + 1 + 1 + 1 + 1) W1 sl stk) (g4 : (zs, stk.reverse) = pre.foldl stepB (List.replicate len 0, [])) (g5 : stk.length ≤ pre.length)
    (g6 : StkOk stk ∧ vpB p = true ∧ validB k v = true) (hx : x.i = i ∧ x.n = ⟨p, k, v⟩) (hz : zs.length = len ∧ i < len) (hb1 : Below W.heap.size W W1)
    (hA6 : StkAt (W.heap.size + 1 + 1) (W.heap.size + 1 + 1 + 1 + 1) W6 sl6 ((popL p (baseW (k, v)) stk.reverse).2.reverse ++ [(p, (popL p (baseW (k, v)) stk.reverse).1)]))
    (hK6 : StkKept (W.heap.size + 1 + 1) (W.heap.size + 1 + 1 + 1 + 1) W1.drew W6) {Bl : Nat} :
    KeepsFrom Bl W1 (W6.setCell ⟨W.heap.size, i, none⟩ (.int .i64 (popL p (baseW (k, v)) stk.reverse).1)) ∧
    BackK W.heap.size (W.heap.size + 1 + 1 + 1) W1 (W6.setCell ⟨W.heap.size, i, none⟩ (.int .i64 (popL p (baseW (k, v)) stk.reverse).1)) ∧
    (SumsI ns len W (pre ++ [x]) (W6.setCell ⟨W.heap.size, i, none⟩ (.int .i64 (popL p (baseW (k, v)) stk.reverse).1)) ∧ Below W.heap.size W (W6.setCell ⟨W.heap.size, i, none⟩ (.int .i64 (popL p (baseW (k, v)) stk.reverse).1))) := by
  have hB : Below W.heap.size W1 (W6.setCell ⟨W.heap.size, i, none⟩ (.int .i64 (popL p (baseW (k, v)) stk.reverse).1)) :=
    below_setCell (show Below W.heap.size W1 W6 from ⟨hK6.low.os, hK6.low.tape, hK6.low.output, hK6.low.size, fun j hj => hK6.block j (by omega) (by omega)⟩) _ _ (Nat.le_refl _)
  have hko : KeepsOthers W1 W6 := ⟨hK6.others.size, hK6.others.same⟩
  refine ⟨(hko.trans (KeepsOthers.setCell _ _ _)).from _, ⟨hB, (Below.heap_setCell _ _ _ _ (by show W.heap.size + 1 + 1 + 1 ≠ W.heap.size; omega)).trans (hK6.block _ (by omega) (by omega))⟩, ?_, hb1.trans hB⟩
  have hrow := hK6.row (g0 := W.heap.size) (by omega) (by omega) (show W1.drew.ownsRow _ _ _ _ _ _ from g2)
  have hrow2 := (hrow.stored i (.int .i64 (popL p (baseW (k, v)) stk.reverse).1)).1
  rw [intsV_set] at hrow2
  have hr0 := popL_ok (p := p) (S := stk.reverse) (fun y hy => g6.1 y (List.mem_reverse.1 hy)) (base_ok g6.2.2)
  have hl0 := popL_len (p := p) (S := stk.reverse) (n := baseW (k, v))
  refine ⟨sl6, _, zs.set i (popL p (baseW (k, v)) stk.reverse).1, ?_, hrow2, hA6.far (by omega) (fun e => by have := (hA6.row.lt _ e).1; omega) i _ (by have := hA6.le; omega), ?_, ?_, ?_⟩
  · exact (Below.heap_setCell _ _ _ _ (by show W.heap.size + 1 ≠ W.heap.size; omega)).trans ((hK6.block _ (by omega) (by omega)).trans g1)
  · rw [List.foldl_append, ← g4]
    show _ = stepB (zs, stk.reverse) x
    unfold stepB
    rw [hx.1, hx.2, List.reverse_append, List.reverse_reverse]
    rfl
  · rw [List.length_append, List.length_append, List.length_reverse]
    simp only [List.length_reverse, List.length_singleton] at hl0 ⊢
    omega
  · intro y hy
    rcases List.mem_append.1 hy with hy | hy
    · exact hr0.1 y (List.mem_reverse.1 hy)
    · rw [List.mem_singleton.1 hy]
      exact ⟨g6.2.1, hr0.2⟩

/-- The loop's variable lies in a box of its own. -/
def NdBox {ns : List Nd} (B0 : Nat) (tm : Nat → Elt ns → Array Value) (x : Elt ns) (a' : Act) (W : World) : Prop :=
  ∃ Bx, B0 ≤ Bx ∧ W.heap[Bx]? = some (.cells #[.string x.n.p, .int .i64 x.n.k, .int .i64 x.n.v] 42 (0, 0)) ∧ a' = { tmps := tm Bx x, defers := [] }

theorem NdBox.own {ns : List Nd} (B0 : Nat) (tm : Nat → Elt ns → Array Value) (x : Elt ns) (a' : Act) : Own (fun (_ : Unit) W => NdBox B0 tm x a' W) := by
  rintro _ A B row ⟨Bx, h0, h1, h2⟩ hg hr
  refine ⟨Bx, h0, (hg.block Bx (Array.getElem?_eq_some_iff.1 h1).1 fun e => ?_).trans h1, h2⟩
  obtain ⟨o, ho, hc⟩ := hr _ e.symm
  rw [h1] at ho; cases ho; cases hc

set_option maxHeartbeats 2000000 in
set_option maxRecDepth 100000 in
theorem sumsOf_in (a : Option Addr) (len cap : Nat) (ns : List Nd) (hl : len ≤ 2000000) (hok : NdsOk ns) (W : World) (hN : NodesAt W a len ns) :
    CallsIn Fence.wide 6 Try.prog 45 #[.slice a len cap] W fun e W' => OwnsInts W.heap.size (runL ns).1 e W' ∧ Below W.heap.size W W' := by
  obtain ⟨i0, hi, hz0, hz1, hz2⟩ := info_parts infoInt3
  have hmk := fun (w : World) => run_make (P := Try.prog) w 37 3 i0 (.int .i64 0) Try.underlying37 hi hz0 .i64 .i64 len len (by omega) (by omega) (by rw [hz2]; omega) (by omega)
  simp only [Int.toNat_natCast, hz1] at hmk
  have HN := Lib.hid hN
  have HE := Lib.hid hN.1
  have HOK := Lib.hid hok
  have HL := Lib.hid hl
  clear hN hok hl
  refine callsIn_of_wp_marks Try.func45 rfl trivial ?_ rfl
  simp only [Try.ntmps45, List.size_toArray, List.length_cons, List.length_nil, Nat.reduceAdd, Nat.reduceSub, Array.replicate_succ, Array.replicate_zero, List.push_toArray, List.append_toArray, List.nil_append, List.cons_append]
  gi_wp2_with (refine ⟨trivial, ?_⟩; gi_at_call 74; refine (backward_in _ _ _ _ _).mono ?_; rintro e w' ⟨rfl, rfl⟩)
  have hlow := nodes_lt HN.out
  obtain ⟨X, hX⟩ : ∃ X, X = W.heap.size := ⟨_, rfl⟩
  have hB0 : Below W.heap.size W ((((W.alloc (.cells (madeCells #[.int .i64 0] len) 3)).alloc (.cells #[.slice (some ⟨W.heap.size, 0, none⟩) len len] 37)).alloc (.cells #[.slice none 0 0] 94)).alloc (.cells #[.slice a len cap] 23)) :=
    ((((Below.refl _ W).alloc (Nat.le_refl _) _).alloc (by simp) _).alloc (by simp; omega) _).alloc (by simp; omega) _
  have hI0 : SumsI ns len W [] ((((W.alloc (.cells (madeCells #[.int .i64 0] len) 3)).alloc (.cells #[.slice (some ⟨W.heap.size, 0, none⟩) len len] 37)).alloc (.cells #[.slice none 0 0] 94)).alloc (.cells #[.slice a len cap] 23)) := sums_start ns len cap a W (by have := HL.out; unfold maxLen; omega)
  have hsz : ((((W.alloc (.cells (madeCells #[.int .i64 0] len) 3)).alloc (.cells #[.slice (some ⟨W.heap.size, 0, none⟩) len len] 37)).alloc (.cells #[.slice none 0 0] 94)).alloc (.cells #[.slice a len cap] 23)).heap.size = W.heap.size + 1 + 1 + 1 + 1 := by simp
  have hbk : ((((W.alloc (.cells (madeCells #[.int .i64 0] len) 3)).alloc (.cells #[.slice (some ⟨W.heap.size, 0, none⟩) len len] 37)).alloc (.cells #[.slice none 0 0] 94)).alloc (.cells #[.slice a len cap] 23)).cell? ⟨W.heap.size + 1 + 1 + 1, 0, none⟩ = some (.slice a len cap) := by
    have := (Boxed.new (((W.alloc (.cells (madeCells #[.int .i64 0] len) 3)).alloc (.cells #[.slice (some ⟨W.heap.size, 0, none⟩) len len] 37)).alloc (.cells #[.slice none 0 0] 94)) 23 (.slice a len cap)).cell
    simpa only [World.size_alloc] using this
  generalize ((((W.alloc (.cells (madeCells #[.int .i64 0] len) 3)).alloc (.cells #[.slice (some ⟨W.heap.size, 0, none⟩) len len] 37)).alloc (.cells #[.slice none 0 0] 94)).alloc (.cells #[.slice a len cap] 23)) = Wl at hB0 hI0 hsz hbk ⊢
  clear hmk
  have HSZ := Lib.hid hsz
  refine wpIn_rangeFunc_ownH rfl (by omega) (gf := 92) (lb := #[.pointer (some ⟨W.heap.size + 1 + 1 + 1, 0, none⟩)]) rfl trivial (enters_of Try.func92 (by kernel_rfl) rfl)
    (backward_stops _ (by omega) (W.heap.size + 1 + 1 + 1) W.heap.size a len cap ns (by have := HL.out; omega) hlow Wl hB0.size (by rw [hsz]; omega) hbk (HN.out.keep hB0))
    (fun h k => ⟨h.1.trans k.1, k.2.trans h.2⟩)
    (fun W' l o o' hl _ _ _ => by
      rw [HSZ.out] at hl
      exact ⟨⟨rfl, rfl, rfl, by simp, fun k hk => World.putObj_heap_other (by omega)⟩, World.putObj_heap_other (by omega)⟩)
    (Below.refl _ _) (fun _ => rfl)
    (fun pre W' => SumsI ns len W pre W' ∧ Below W.heap.size W W') (fun _ _ _ => False)
    (OwnFrom.and (Own.from (SumsI.own ns len W) _) (ownFrom_below (Nat.le_refl _) hB0.size)) (fun _ _ _ _ _ h _ _ => h.elim)
    ⟨hI0, hB0⟩
    (NdBox Wl.heap.size (fun Bx x => #[.slice a len cap, undef, .slice none 0 0, .pointer (some ⟨W.heap.size + 1, 0, none⟩), .pointer (some ⟨W.heap.size + 1 + 1, 0, none⟩), .int .i64 x.i, .pointer (some ⟨Bx, 0, none⟩), .slice a len cap, .int .i64 len, .slice (some ⟨W.heap.size, 0, none⟩) len len, .slice a len cap, .func (.func 92) #[] #[.pointer (some ⟨W.heap.size + 1 + 1 + 1, 0, none⟩)], .int .i64 x.i, .agg #[.string x.n.p, .int .i64 x.n.k, .int .i64 x.n.v], undef, undef, undef, undef, undef, undef]))
    (fun x a' => Own.from (NdBox.own _ _ x a') _)
    ?assign ?body ?done ?stop
  case assign =>
    rintro l pre x W1 K ⟨hi1, hb1⟩ hK
    unfold ndV
    gi_wp2
    obtain ⟨_, _, _, _, _, hst, _⟩ := id hi1
    have hle := hst.le
    exact hK _ _ ((KeepsOthers.alloc _ _).from _) ⟨(Below.refl _ _).alloc hb1.size _, Below.heap_alloc _ _ _ (by omega)⟩ ⟨(SumsI.own ns len W).alloc _ hi1, hb1.alloc hb1.size _⟩ ⟨W1.heap.size, by rw [HSZ.out]; exact hle, World.alloc_heap_new W1 _, rfl⟩
  case body =>
    rintro l pre x a' W1 hl ⟨r, hr⟩ ⟨hi1, hb1⟩ ⟨Bx, hBx, hbx, rfl⟩ hlt
    obtain ⟨sl, stk, zs, g1, g2, g3, g4, g5, g6⟩ := hi1
    obtain ⟨i, ⟨p, k, v⟩, hat⟩ := x
    obtain ⟨x, hx⟩ : ∃ x : Elt ns, x = ⟨i, ⟨p, k, v⟩, hat⟩ := ⟨_, rfl⟩
    rw [← hx]
    have HX := Lib.hid (show x.i = i ∧ x.n = ⟨p, k, v⟩ by rw [hx]; exact ⟨rfl, rfl⟩)
    simp only at hbx
    dsimp only
    obtain ⟨hvp, hvc⟩ := HOK.out _ (List.mem_of_getElem? hat)
    simp only at hvp hvc
    have hil : i < len := by have := (List.getElem?_eq_some_iff.1 hat).1; have := HE.out; omega
    have HSUM := Lib.hid (stackSum_c (W.heap.size + 1 + 1) (W.heap.size + 1 + 1 + 1 + 1) sl stk p k v (by have := HE.out; have := HL.out; omega) g6 hvp hvc W1.drew g3.drew)
    have hil' : (i : Int) < len := by omega
    have c0 : W1.cell? ⟨Bx, 0, none⟩ = some (.string p) := by simp [World.cell?, hbx]
    have c1 : W1.cell? ⟨Bx, 1, none⟩ = some (.int .i64 k) := by simp [World.cell?, hbx]
    have c2 : W1.cell? ⟨Bx, 2, none⟩ = some (.int .i64 v) := by simp [World.cell?, hbx]
    have s0 := g1.cell
    have HG1 := Lib.hid g1
    have HG2 := Lib.hid g2
    have HG3 := Lib.hid g3
    have HG4 := Lib.hid g4
    have HG5 := Lib.hid g5
    have HG6 := Lib.hid (And.intro g6 (And.intro hvp hvc))
    have HR := Lib.hid hr
    have HB1 := Lib.hid hb1
    have hlz : zs.length = len := by have := g2.1; rwa [intsV_length, Nat.mul_one] at this
    obtain ⟨u0, e0⟩ : ∃ u, W1.cell? ⟨W.heap.size, i, none⟩ = some u := by
      rw [g2.cellAt _ (by omega)]
      exact ⟨_, List.getElem?_eq_getElem (by rw [intsV_length]; omega)⟩
    have y0 := g2.frozenAt i
    have HLZ := Lib.hid (And.intro hlz hil)
    clear hx hbx hr g1 g2 g3 g4 g5 g6 hat hvp hvc hb1 hlz hlt hl hBx hbk hB0 hI0 hX hlow
    obtain ⟨hxi, hxn⟩ := HX.out
    simp only [hxi, hxn]
    clear hxi hxn
    gi_wp2
    refine region_round (F := Fence.wide) l rfl (by kernel_rfl) (by kernel_rfl) ?_
    refine wpAnyIn_take (i := 1) (v := ?_) rfl rfl (by kernel_rfl) (by kernel_rfl) (by kernel_rfl) (fun _ _ _ h => h) ⟨Or.inl ⟨by rfl, ?_⟩, fun _ => rfl⟩ ?_
    rotate_left
    · (intro w; go_simp; try with_reducible rfl)
    try simp only [Act.put, List.getElem_toArray, List.getElem_cons_zero, List.getElem_cons_succ, List.setIfInBounds_toArray, List.set_cons_zero, List.set_cons_succ]
    refine wpAnyIn_ready (rs := [0, 2]) (by kernel_rfl) (by simp) ?_
    refine AllReadyIn.cons rfl (fun K hK => ?_) (AllReadyIn.cons rfl (fun K hK => ?_) AllReadyIn.nil)
    · go_simp
      refine hK _ _ ?_
      clear hK K
      try simp only [Act.put, List.getElem_toArray, List.getElem_cons_zero, List.getElem_cons_succ, List.setIfInBounds_toArray, List.set_cons_zero, List.set_cons_succ]
      refine wpAnyIn_ready (rs := [2]) (by kernel_rfl) (by simp) ?_
      refine AllReadyIn.cons rfl (fun K hK => ?_) AllReadyIn.nil
      go_simp
      refine hK _ _ ?_
      clear hK K
      try simp only [Act.put, List.getElem_toArray, List.getElem_cons_zero, List.getElem_cons_succ, List.setIfInBounds_toArray, List.set_cons_zero, List.set_cons_succ]
      refine wpAnyIn_ready (rs := [3]) (by kernel_rfl) (by simp) ?_
      refine AllReadyIn.cons rfl (fun K hK => ?_) AllReadyIn.nil
      go_simp
      gi_wp2_with (refine ⟨trivial, ?_⟩; gi_at_call 75; refine (callsIn_wide.2 HSUM.out).mono ?_; rintro e W6 ⟨sl6, rfl, hA6, hK6⟩; have e6 := hK6.cell (p := ⟨W.heap.size, i, none⟩) (by show W.heap.size < _; omega) (by show W.heap.size ≠ _; omega) e0; have y6 := (World.frozen?_of_block (a := ⟨W.heap.size, i, none⟩) (hK6.block W.heap.size (by omega) (by omega))).trans y0; have s6 := hK6.cell (p := ⟨W.heap.size + 1, 0, none⟩) (by show W.heap.size + 1 < _; omega) (by show W.heap.size + 1 ≠ _; omega) s0)
      refine wpAnyIn_ready (rs := [4]) (by kernel_rfl) (by simp) ?_
      refine AllReadyIn.cons rfl (fun K hK => ?_) AllReadyIn.nil
      go_simp
      refine hK _ _ ?_
      clear hK K
      try simp only [Act.put, List.getElem_toArray, List.getElem_cons_zero, List.getElem_cons_succ, List.setIfInBounds_toArray, List.set_cons_zero, List.set_cons_succ]
      refine wpAnyIn_ready (rs := [5]) (by kernel_rfl) (by simp) ?_
      refine AllReadyIn.cons rfl (fun K hK => ?_) AllReadyIn.nil
      go_simp
      refine hK _ _ ?_
      clear hK K
      try simp only [Act.put, List.getElem_toArray, List.getElem_cons_zero, List.getElem_cons_succ, List.setIfInBounds_toArray, List.set_cons_zero, List.set_cons_succ]
      refine wpAnyIn_done (by kernel_rfl) ?_ _
      exact sums_round HG1.out HG2.out HG3.out HG4.out HG5.out HG6.out HX.out HLZ.out HB1.out hA6 hK6
    · go_simp
      refine hK _ _ ?_
      clear hK K
      try simp only [Act.put, List.getElem_toArray, List.getElem_cons_zero, List.getElem_cons_succ, List.setIfInBounds_toArray, List.set_cons_zero, List.set_cons_succ]
      refine wpAnyIn_ready (rs := [0, 3]) (by kernel_rfl) (by simp) ?_
      refine AllReadyIn.cons rfl (fun K hK => ?_) (AllReadyIn.cons rfl (fun K hK => ?_) AllReadyIn.nil)
      · go_simp
        refine hK _ _ ?_
        clear hK K
        try simp only [Act.put, List.getElem_toArray, List.getElem_cons_zero, List.getElem_cons_succ, List.setIfInBounds_toArray, List.set_cons_zero, List.set_cons_succ]
        refine wpAnyIn_ready (rs := [3]) (by kernel_rfl) (by simp) ?_
        refine AllReadyIn.cons rfl (fun K hK => ?_) AllReadyIn.nil
        go_simp
        gi_wp2_with (refine ⟨trivial, ?_⟩; gi_at_call 75; refine (callsIn_wide.2 HSUM.out).mono ?_; rintro e W6 ⟨sl6, rfl, hA6, hK6⟩; have e6 := hK6.cell (p := ⟨W.heap.size, i, none⟩) (by show W.heap.size < _; omega) (by show W.heap.size ≠ _; omega) e0; have y6 := (World.frozen?_of_block (a := ⟨W.heap.size, i, none⟩) (hK6.block W.heap.size (by omega) (by omega))).trans y0; have s6 := hK6.cell (p := ⟨W.heap.size + 1, 0, none⟩) (by show W.heap.size + 1 < _; omega) (by show W.heap.size + 1 ≠ _; omega) s0)
        refine wpAnyIn_ready (rs := [4]) (by kernel_rfl) (by simp) ?_
        refine AllReadyIn.cons rfl (fun K hK => ?_) AllReadyIn.nil
        go_simp
        refine hK _ _ ?_
        clear hK K
        try simp only [Act.put, List.getElem_toArray, List.getElem_cons_zero, List.getElem_cons_succ, List.setIfInBounds_toArray, List.set_cons_zero, List.set_cons_succ]
        refine wpAnyIn_ready (rs := [5]) (by kernel_rfl) (by simp) ?_
        refine AllReadyIn.cons rfl (fun K hK => ?_) AllReadyIn.nil
        go_simp
        refine hK _ _ ?_
        clear hK K
        try simp only [Act.put, List.getElem_toArray, List.getElem_cons_zero, List.getElem_cons_succ, List.setIfInBounds_toArray, List.set_cons_zero, List.set_cons_succ]
        refine wpAnyIn_done (by kernel_rfl) ?_ _
        exact sums_round HG1.out HG2.out HG3.out HG4.out HG5.out HG6.out HX.out HLZ.out HB1.out hA6 hK6
      · go_simp
        gi_wp2_with (refine ⟨trivial, ?_⟩; gi_at_call 75; refine (callsIn_wide.2 HSUM.out).mono ?_; rintro e W6 ⟨sl6, rfl, hA6, hK6⟩; have e6 := hK6.cell (p := ⟨W.heap.size, i, none⟩) (by show W.heap.size < _; omega) (by show W.heap.size ≠ _; omega) e0; have y6 := (World.frozen?_of_block (a := ⟨W.heap.size, i, none⟩) (hK6.block W.heap.size (by omega) (by omega))).trans y0; have s6 := hK6.cell (p := ⟨W.heap.size + 1, 0, none⟩) (by show W.heap.size + 1 < _; omega) (by show W.heap.size + 1 ≠ _; omega) s0)
        refine wpAnyIn_ready (rs := [0]) (by kernel_rfl) (by simp) ?_
        refine AllReadyIn.cons rfl (fun K hK => ?_) AllReadyIn.nil
        go_simp
        refine hK _ _ ?_
        clear hK K
        try simp only [Act.put, List.getElem_toArray, List.getElem_cons_zero, List.getElem_cons_succ, List.setIfInBounds_toArray, List.set_cons_zero, List.set_cons_succ]
        refine wpAnyIn_ready (rs := [4]) (by kernel_rfl) (by simp) ?_
        refine AllReadyIn.cons rfl (fun K hK => ?_) AllReadyIn.nil
        go_simp
        refine hK _ _ ?_
        clear hK K
        try simp only [Act.put, List.getElem_toArray, List.getElem_cons_zero, List.getElem_cons_succ, List.setIfInBounds_toArray, List.set_cons_zero, List.set_cons_succ]
        refine wpAnyIn_ready (rs := [5]) (by kernel_rfl) (by simp) ?_
        refine AllReadyIn.cons rfl (fun K hK => ?_) AllReadyIn.nil
        go_simp
        refine hK _ _ ?_
        clear hK K
        try simp only [Act.put, List.getElem_toArray, List.getElem_cons_zero, List.getElem_cons_succ, List.setIfInBounds_toArray, List.set_cons_zero, List.set_cons_succ]
        refine wpAnyIn_done (by kernel_rfl) ?_ _
        exact sums_round HG1.out HG2.out HG3.out HG4.out HG5.out HG6.out HX.out HLZ.out HB1.out hA6 hK6
  case done =>
    rintro D ys W' hD rfl ⟨⟨sl, stk, zs, h1, h2, h3, h4, h5, h6⟩, hb⟩ hK
    have c0 := h1.cell
    have H2 := Lib.hid h2
    have HB := Lib.hid hb
    have HZ := Lib.hid (show zs = (runL ns).1 by
      have e := fold_all ns
      have h4' : (zs, stk.reverse) = runL ns := by rw [h4, ← show ns.length = len from HE.out]; exact e
      rw [← h4'])
    clear h1 h2 h3 h4 h5 h6 hb hbk hB0 hI0 hX hlow
    gi_wp2
    refine ⟨by simp, .inl ⟨_, _, rfl, run_takeDeferred hK, ?_⟩⟩
    have hD' : W.heap.size ≤ D := by rw [HSZ.out] at hD; omega
    refine ⟨.slice (some ⟨W.heap.size, 0, none⟩) len len, by simp [results, Try.f45, go_sem], ⟨_, rfl, ?_⟩, HB.out.trans ⟨rfl, rfl, rfl, by simp, fun k hk => World.putObj_heap_other (by omega)⟩⟩
    rw [← HZ.out]
    have hl : zs.length = len := by have := H2.out.1; rwa [intsV_length, Nat.mul_one] at this
    rw [hl]
    exact ownsRow_putObj H2.out _ hK rfl
  case stop =>
    rintro D c pre W' hD hpre hf
    exact hf.elim

theorem sumsOf_c (a : Option Addr) (len cap : Nat) (ns : List Nd) (hl : len ≤ 2000000) (hok : NdsOk ns) (W : World) (hN : NodesAt W a len ns) :
    Calls Try.prog 45 #[.slice a len cap] W fun e W' => OwnsInts W.heap.size (runL ns).1 e W' ∧ Below W.heap.size W W' := callsIn_wide.1 (sumsOf_in a len cap ns hl hok W hN)

end Go.Proofs.Ytmdidhlfpaganaa

/-
  WALKS: slices.Grow and slices.Concat of lists of nodes, empty ones and nil too.
-/
namespace Go.Proofs.Ytmdidhlfpaganaa
open Go.RowKit
set_option linter.unusedVariables false

set_option maxHeartbeats 1000000 in
set_option maxRecDepth 100000 in
/-- slices.Grow of nothing: room for n nodes. -/
theorem growNd_c (n : Nat) (hn : n ≤ 2097152) (W : World) :
    Calls Try.prog 73 #[.slice none 0 0, .int .i64 n] W fun e W' => OwnsNodes W.heap.size [] e W' ∧ Below W.heap.size W W' := by
  by_cases h0 : n = 0
  · subst h0
    go_enter Try.func73, Try.ntmps73
    go_wp2
    refine bodyPost_ret (v := .slice none 0 0) (by simp [results, Try.f73, go_sem]) rfl ⟨⟨_, rfl, World.ownsRow_nil _ _ _ _⟩, Below.refl _ _⟩
  · have h1 : 1 ≤ n := by omega
    obtain ⟨i0, hi, hz0, hz1, hz2⟩ := info_parts infoNode
    have hold : (Builtin.firstCells i0.size 0 (.slice none 0 0)).run Try.prog W.drew = .ok (([] : List Value)).toArray W.drew := run_firstCells_none W.drew i0.size 0 0 0
    have hrz : ∀ ty, (Builtin.append_ #[23, 3] ty #[.slice none 0 0, .int .i64 n]).run Try.prog W =
        .ok (.slice (some ⟨W.heap.size, 0, none⟩) (0 + n) (grownCap W (0 + n) 0 42)) (W.drew.alloc (.cells (([] : List Value).toArray ++ Builtin.zeroCells (Value.agg #[.string ⟨#[]⟩, .int .i64 0, .int .i64 0]).cells n ++ Builtin.zeroCells (Value.agg #[.string ⟨#[]⟩, .int .i64 0, .int .i64 0]).cells (grownCap W (0 + n) 0 42 - (0 + n))) 42)) := fun ty =>
      Lib.run_append_grow_zeros W 23 3 ty 42 i0 (.agg #[.string ⟨#[]⟩, .int .i64 0, .int .i64 0]) .i64 .i64 Try.underlying23 Try.underlying3 hi hz0 none 0 0 [] hold n (by omega) (by omega) (by omega) (by omega) (by rw [hz2]; omega) (growslice_fits (by omega) (by rw [hz2]; omega))
    have hGn : 0 + n ≤ grownCap W (0 + n) 0 42 := grownCap_ge W _ _ _
    have hGm : grownCap W (0 + n) 0 42 ≤ maxLen := grownCap_le_maxLen W (0 + n) 0 42 (by unfold maxLen; omega)
    rw [Nat.zero_add] at hrz hGn hGm
    obtain ⟨G, hG⟩ : ∃ G, G = grownCap W n 0 42 := ⟨_, rfl⟩
    rw [← hG] at hrz hGn hGm
    have HGN := Lib.hid hGn
    have HGM := Lib.hid hGm
    have n0 : 0 < (n : Int) := by omega
    have hn' : (n : Int) ≤ 2097152 := by omega
    have hG63 : G ≤ 9223372036854775807 := by unfold maxLen at hGm; omega
    clear hold hG hGn hGm
    go_enter Try.func73, Try.ntmps73
    go_wp2_with (at_builtin; refine Lib.wpList_append_run _ rfl _ _ _ _ rfl _ _ rfl rfl _ _ (hrz _) ?_)
    refine bodyPost_ret (v := .slice (some ⟨W.heap.size, 0, none⟩) 0 G) (by simp [results, Try.f73, go_sem]) rfl ⟨⟨_, rfl, ?_⟩, ((Below.refl _ W).alloc (Nat.le_refl _) _).drew⟩
    exact World.ownsRow_made (e := 42) (size := 3) W _ G (Nat.le_refl _) HGM.out (by
      rw [Array.size_append, size_zeroCells, size_zeroCells]
      have := HGN.out
      simp
      omega)

/-- A list of nodes among the arguments of slices.Concat. -/
structure NRow where
  a : Option Addr
  len : Nat
  cap : Nat
  ns : List Nd

/-- A slice of lists of nodes in memory. -/
def RowsAt (W : World) (g off : Nat) (rows : List NRow) : Prop := ∀ i r, rows[i]? = some r → W.cell? ⟨g, off + i, none⟩ = some (.slice r.a r.len r.cap) ∧ NodesAt W r.a r.len r.ns

theorem RowsAt.keep {W W' : World} {g off : Nat} {rows : List NRow} (h : RowsAt W g off rows) (hb : Below W.heap.size W W') : RowsAt W' g off rows := fun i r hr =>
  ⟨cell_kept hb (h i r hr).1, (h i r hr).2.keep hb⟩

def allN (rows : List NRow) : List Nd := rows.flatMap NRow.ns

theorem allN_next {rows : List NRow} {i : Nat} {r : NRow} (h : rows[i]? = some r) : allN (rows.take (i + 1)) = allN (rows.take i) ++ r.ns := by
  unfold allN
  rw [List.take_add_one, h, List.flatMap_append]
  simp

theorem allN_le (rows : List NRow) (i : Nat) : (allN (rows.take i)).length ≤ (allN rows).length := by
  conv => rhs; rw [← List.take_append_drop i rows]
  unfold allN
  rw [List.flatMap_append, List.length_append]
  omega

theorem flatN_cell1 (ns : List Nd) : ∀ u ∈ flatN ns, u.oneCell' = true := by
  intro u hu
  unfold flatN at hu
  obtain ⟨n, _, hn⟩ := List.mem_flatMap.1 hu
  simp at hn
  rcases hn with rfl | rfl | rfl <;> rfl

theorem addr_addN (b off j : Nat) : ((⟨b, off, none⟩ : Addr).add j) = ⟨b, off + j, none⟩ := by
  unfold Addr.add
  split
  · rename_i h; rw [h]; rfl
  · rfl

theorem flatN_at : ∀ (ns : List Nd) (j : Nat) (u : Value), (flatN ns)[j]? = some u → ∃ i n, ns[i]? = some n ∧ ((j = i * 3 ∧ u = .string n.p) ∨ (j = i * 3 + 1 ∧ u = .int .i64 n.k) ∨ (j = i * 3 + 2 ∧ u = .int .i64 n.v))
  | [], j, u, h => by simp [flatN] at h
  | m :: r, 0, u, h => ⟨0, m, rfl, .inl ⟨rfl, by simpa [flatN] using h.symm⟩⟩
  | m :: r, 1, u, h => ⟨0, m, rfl, .inr (.inl ⟨rfl, by simpa [flatN] using h.symm⟩)⟩
  | m :: r, 2, u, h => ⟨0, m, rfl, .inr (.inr ⟨rfl, by simpa [flatN] using h.symm⟩)⟩
  | m :: r, j + 3, u, h => by
    obtain ⟨i, n, h1, h2⟩ := flatN_at r j u (by simpa [flatN] using h)
    refine ⟨i + 1, n, by simpa using h1, ?_⟩
    rcases h2 with ⟨rfl, e⟩ | ⟨rfl, e⟩ | ⟨rfl, e⟩
    · exact .inl ⟨by omega, e⟩
    · exact .inr (.inl ⟨by omega, e⟩)
    · exact .inr (.inr ⟨by omega, e⟩)

theorem nodes_cells {W : World} {ad : Addr} {len : Nat} {ns : List Nd} (h : NodesAt W (some ad) len ns) : ∀ j u, (flatN ns)[j]? = some u → W.cell? (ad.add j) = some u := by
  intro j u hj
  obtain ⟨i, n, hn, hc⟩ := flatN_at ns j u hj
  obtain ⟨h1, h0 | ⟨b, off, ha, hh⟩⟩ := h
  · have := (List.getElem?_eq_some_iff.1 hn).1; omega
  · cases ha
    rw [addr_addN]
    obtain ⟨c0, c1, c2⟩ := hh i n hn
    rcases hc with ⟨rfl, rfl⟩ | ⟨rfl, rfl⟩ | ⟨rfl, rfl⟩
    · exact c0
    · exact c1
    · exact c2

theorem run_append_owned_nil {W : World} (base : Nat) (ty : TypeId) (i : TypeInfo) (hi : Try.prog.info? 42 = some i) (v : Value) (n : Nat) (xs : List Value) (hown : W.ownsRow base 42 3 v n xs) (cap : Nat) :
    (Builtin.append_ #[23, 23] ty #[v, .slice none 0 cap]).run Try.prog W = .ok v W := by
  have ht := Try.underlying23
  rcases hown.2 with ⟨rfl, rfl⟩ | ⟨g, cap', cur, rfl, _, _, hnc, _⟩
  · simp [Builtin.append_, run_underlying ht, sizeOf, typeInfo, hi, Builtin.lenOf, Builtin.firstCells]
  · simp [Builtin.append_, run_underlying ht, sizeOf, typeInfo, hi, Builtin.lenOf, Builtin.firstCells, hnc, storeCells]

theorem wpList_append_nodes {w : World} {ops : Array Oper} {rest : List Oper} {o : Oper} {a : Act} {Q : Exit → Act → World → Prop} (hgd : o.guard = none) (s x : Operand)
    (ho : o.op = .call { callee := .builtin .append, args := #[s, x], argTypes := #[23, 23] })
    (base : Nat) (v : Value) (acc : List Nd) (hs : a.eval s = v) (hown : w.ownsRow base 42 3 v acc.length (flatN acc))
    (ad : Option Addr) (len cap : Nat) (zs : List Nd) (hx : a.eval x = .slice ad len cap) (hi : NodesAt w ad len zs) (hlen : acc.length + zs.length ≤ 2097152) (hb : base ≤ w.heap.size)
    (h : ∀ v3 w3, w3.ownsRow base 42 3 v3 (acc ++ zs).length (flatN (acc ++ zs)) → w.grownBy w3 v.ownBlock → wpList Try.prog ops Q rest (a.put o.dst v3) w3) : wpList Try.prog ops Q (o :: rest) a w := by
  obtain ⟨i0, hi0, hz0, hz1, hz2⟩ := info_parts infoNode
  have hl := hi.1
  refine wpList_plain hgd fun K hK => ?_
  match ad, hx, hi with
  | none, hx, hi =>
    have h0 : len = 0 := by
      obtain ⟨_, h0 | ⟨b, off, ha, _⟩⟩ := hi
      · exact h0
      · cases ha
    have hz : zs = [] := List.length_eq_zero_iff.1 (by omega)
    subst hz; subst h0
    have hrun := run_append_owned_nil (W := w) base o.type i0 hi0 v acc.length (flatN acc) hown cap
    unfold Oper.wp
    simp [execOp, ho, resolve, invoke, builtin, hs, hx, hrun, Result.andThen]
    exact hK _ _ (h v w (by rw [List.append_nil]; exact hown) ⟨rfl, rfl, rfl, Nat.le_refl _, fun _ _ _ => rfl⟩)
  | some ad, hx, hi =>
    exact wp_append_own w s x 23 ho base 42 i0 (.agg #[.string ⟨#[]⟩, .int .i64 0, .int .i64 0]) 3 32 Try.underlying23 hi0 hz0 hz1 hz2 rfl (by decide) v acc.length (flatN acc) hs hown ad len cap (flatN zs) hx (by rw [flatN_length]; omega) (nodes_cells hi) (flatN_cell1 _) (by unfold maxLen; omega) (by omega) hb fun v' w' h1 h2 _ => hK _ _ (h v' w' (by rw [flatN_append, List.length_append, hl]; exact h1) h2)

def SizeN (rows : List NRow) (W : World) (s i : Value) (wr : World) : Prop :=
  ∃ n : Nat, i = .int .i64 n ∧ n ≤ rows.length ∧ s = .int .i64 ((allN (rows.take n)).length : Nat) ∧ W = wr

def JoinN (rows : List NRow) (W : World) (o i : Value) (wr : World) : Prop :=
  ∃ n : Nat, i = .int .i64 n ∧ n ≤ rows.length ∧ wr.ownsRow W.heap.size 42 3 o (allN (rows.take n)).length (flatN (allN (rows.take n))) ∧ Hid (Below W.heap.size W wr)

set_option maxHeartbeats 2000000 in
set_option maxRecDepth 100000 in
/-- slices.Concat of lists of nodes. -/
theorem concatN_c (g off cap : Nat) (rows : List NRow) (hl : rows.length ≤ 2097152) (ht : (allN rows).length ≤ 2097152) (W : World) (hN : RowsAt W g off rows) :
    Calls Try.prog 44 #[.slice (some ⟨g, off, none⟩) rows.length cap] W fun e W' => OwnsNodes W.heap.size (allN rows) e W' ∧ Below W.heap.size W W' := by
  have HN := Lib.hid hN
  have HT := Lib.hid ht
  obtain ⟨tot, htot⟩ : ∃ tot, tot = (allN rows).length := ⟨_, rfl⟩
  have HG := Lib.hid (fun W' => show Calls Try.prog 73 #[.slice none 0 0, .int .i64 tot] W' (fun e W'' => OwnsNodes W'.heap.size [] e W'' ∧ Below W'.heap.size W' W'') from growNd_c tot (by omega) W')
  have HTO := Lib.hid htot
  obtain ⟨len, hlen⟩ : ∃ len, len = rows.length := ⟨_, rfl⟩
  rw [← hlen] at hl ⊢
  have HE := Lib.hid hlen
  have hl' : (len : Int) ≤ 2097152 := by omega
  clear hN ht htot hlen
  go_enter Try.func44, Try.ntmps44
  go_wp2_with fail
  go_loopw [3, 11] (fun s i wr => SizeN rows W s i wr) (fun _ i _ => len - (intOf i).toNat)
  case atStart => exact ⟨0, rfl, by omega, rfl, rfl⟩
  case round =>
    obtain ⟨i, rfl, hi1, rfl, rfl⟩ := hrel
    by_cases hlt : i < len
    · obtain ⟨r, hr⟩ : ∃ r, rows[i]? = some r := ⟨_, List.getElem?_eq_getElem (by have := HE.out; omega)⟩
      obtain ⟨c0, hzi⟩ := HN.out i r hr
      have HLR := Lib.hid hzi.1
      have hlt' : (i : Int) < len := by omega
      have hil : (i : Int) ≤ 2097152 := by omega
      have HLT := Lib.hid hlt
      have HFN := Lib.hid (allN_next hr)
      have hf1 := allN_le rows (i + 1)
      rw [HFN.out, List.length_append, hzi.1] at hf1
      have hf2 := HT.out
      obtain ⟨s, hs⟩ : ∃ s, s = (allN (rows.take i)).length := ⟨_, rfl⟩
      rw [← hs] at hf1 ⊢
      have HS := Lib.hid hs
      obtain ⟨rl, hrl⟩ : ∃ rl, rl = r.len := ⟨_, rfl⟩
      rw [← hrl] at c0 hf1
      have HRL := Lib.hid hrl
      have hsz : (s : Int) + rl ≤ 2097152 := by omega
      have hsz0 : (0 : Int) ≤ (s : Int) + rl := by omega
      clear hlt hi1 hr hzi hf1 hf2 hs hrl
      go_wp2_with fail
      go_roundw
      case rel => exact ⟨i + 1, by push_cast; rfl, by have := HE.out; have := HLT.out; omega, by rw [HFN.out, List.length_append, ← HS.out, HLR.out, ← HRL.out]; push_cast; rfl, rfl⟩
      case measure => have := HLT.out; simp [intOf]; omega
    · have hge : (len : Int) ≤ i := by omega
      have htk : rows.take i = rows := List.take_of_length_le (by have := HE.out; omega)
      rw [htk, ← HTO.out]
      clear hi1 hlt htk
      go_wp2_with fail
      refine (HG.out _).mono ?_
      rintro e W2 ⟨⟨s2, rfl, ho2⟩, hb2⟩
      have HO2 := Lib.hid ho2
      have HB2 := Lib.hid hb2
      clear ho2 hb2 hge
      go_wp2_with fail
      go_loopw [6, 27] (fun o i w3 => JoinN rows W o i w3) (fun _ i _ => len - (intOf i).toNat)
      case atStart => exact ⟨0, rfl, by omega, HO2.out, HB2.out⟩
      case round =>
        obtain ⟨j, rfl, hi1, hown, HB⟩ := hrel
        by_cases hlt : j < len
        · obtain ⟨r, hr⟩ : ∃ r, rows[j]? = some r := ⟨_, List.getElem?_eq_getElem (by have := HE.out; omega)⟩
          obtain ⟨c0, hzi⟩ := (HN.out.keep HB.out) j r hr
          have hlt' : (j : Int) < len := by omega
          have hil : (j : Int) ≤ 2097152 := by omega
          have HLT := Lib.hid hlt
          have HFN := Lib.hid (allN_next hr)
          have hf1 := allN_le rows (j + 1)
          rw [HFN.out, List.length_append] at hf1
          have HF1 := Lib.hid hf1
          have HZI := Lib.hid hzi
          have HO := Lib.hid hown
          have hlt0 := HO.out.lt
          clear hlt hi1 hr hzi hf1 hown
          go_wp2_with (at_builtin; refine wpList_append_nodes rfl _ _ rfl W.heap.size _ _ rfl HO.out _ _ _ _ rfl HZI.out (by have := HF1.out; have := HT.out; omega) HB.out.size ?_; intro v5 w5 ho5 hg5)
          have B5 : Below W.heap.size W w5 := HB.out.grown hg5 HB.out.size (fun g e => (hlt0 g e).1)
          go_roundw
          case rel => exact ⟨j + 1, by push_cast; rfl, by have := HE.out; have := HLT.out; omega, by rw [HFN.out]; exact ho5, B5⟩
          case measure => have := HLT.out; simp [intOf]; omega
        · have hge : (len : Int) ≤ j := by omega
          have htk : rows.take j = rows := List.take_of_length_le (by have := HE.out; omega)
          rw [htk] at hown
          have HO := Lib.hid hown
          clear hi1 hlt htk hown
          go_wp2
          refine bodyPost_ret (v := u6) (by simp [results, Try.f44, go_sem]) rfl ⟨⟨_, rfl, HO.out⟩, HB.out⟩

end Go.Proofs.Ytmdidhlfpaganaa

/-
  WALKS: spec.l5Sum, TreeSum, TreeSums.
-/
namespace Go.Proofs.Ytmdidhlfpaganaa
open Go.RowKit
set_option linter.unusedVariables false

theorem convLetter (w : World) (c : Nat) : (convert 22 9 (.slice (some ⟨w.heap.size, 0, none⟩) 1 1)).run Try.prog (w.alloc (.cells #[.int .u8 (97 + (c : Int))] 5)) =
    .ok (.string ⟨#[UInt8.ofNat (97 + c)]⟩) (w.alloc (.cells #[.int .u8 (97 + (c : Int))] 5)) := by
  rw [run_convert_bytes_string _ _ _ _ _ _ _ Try.underlying22 Try.underlying5 Try.underlying9, run_bytesToString _ _ _ _ [97 + (c : Int)] ?_]
  · simp only [List.foldl_cons, List.foldl_nil]
    have : (97 + (c : Int)).toNat = 97 + c := by omega
    rw [this]; rfl
  · simp [loadCells, go_sem, Addr.add]

theorem pB_len {v : List UInt8} : (pB v).size ≤ 2 * v.length + 1 := by
  show (Pm.pathOf v).length ≤ _
  unfold Pm.pathOf
  split
  · simp
  · rw [Pm.flat_length]; omega

theorem mk_app (x y : ByteArray) : (x ++ y).data.toList = x.data.toList ++ y.data.toList := by simp [ByteArray.data_append]

theorem child_root (c : UInt8) : (⟨#[47]⟩ : ByteArray) ++ ⟨#[c]⟩ = pB [c] := by
  rw [← Lib.mk_data ((⟨#[47]⟩ : ByteArray) ++ ⟨#[c]⟩), mk_app]; rfl

theorem child_path {w : List UInt8} (hw : w ≠ []) (c : UInt8) : pB w ++ ⟨#[47]⟩ ++ ⟨#[c]⟩ = pB (w ++ [c]) := by
  rw [← Lib.mk_data (pB w ++ ⟨#[47]⟩ ++ ⟨#[c]⟩), mk_app, mk_app, pB_list]
  unfold pB Pm.pathOf
  rw [if_neg hw, if_neg (by simp), Pm.flat_append]
  simp [Pm.flat]

/-- What a sum's walk leaves: a number. -/
def NumPost (n : Int) (W : World) (e : Ending) (w' : World) : Prop := e = .returned (.int .i64 n) ∧ Below W.heap.size W w'

def L5Rel (G : List UInt8 → Int × Int) (d : Nat) (w : List UInt8) (W : World) (n k : Value) (wr : World) : Prop :=
  ∃ m : Nat, k = .int .i64 m ∧ m ≤ 4 ∧ n = .int .i64 (partW G d w m) ∧ Hid (Below W.heap.size W wr)

set_option maxHeartbeats 2000000 in
set_option maxRecDepth 100000 in
theorem l5Sum_step (a : Option Addr) (len cap : Nat) (ns : List Nd) (hl : len ≤ 2097152) (hv : validT ns = true) (d : Nat) (w : List UInt8) (hw : Wrd w)
    (hrec : ∀ k, k < 4 → (Fof ns (w ++ [UInt8.ofNat (97 + k)])).1 ≠ 0 → ∀ W', NodesAt W' a len ns → Calls Try.prog 48 #[.slice a len cap, .string (pB (w ++ [UInt8.ofNat (97 + k)]))] W' (NumPost (sumW (Fof ns) d (w ++ [UInt8.ofNat (97 + k)])) W'))
    (W : World) (hN : NodesAt W a len ns) :
    Calls Try.prog 48 #[.slice a len cap, .string (pB w)] W (NumPost (if (Fof ns w).1 = 1 then partW (Fof ns) d w 4 else baseW (Fof ns w)) W) := by
  have HN := Lib.hid hN
  have HG := Lib.hid (fun p W' (h : NodesAt W' a len ns) => l3Get_c a len cap ns p hl W' h)
  have HREC := Lib.hid hrec
  have HFV := Lib.hid (fun u => Fof_valid hv u)
  have hbr := base_range (Fof_valid hv w)
  have HPR := Lib.hid (fun m => partW_range (fun u => Fof_valid hv u) d w m)
  have hsz := pB_len (v := w)
  have hw4 := hw.1
  obtain ⟨s, hs⟩ : ∃ s, s = pB w := ⟨_, rfl⟩
  obtain ⟨k0, v0, hkv⟩ : ∃ k v, Fof ns w = (k, v) := ⟨_, _, rfl⟩
  have hkv' : getT ns (pB w) = (k0, v0) := hkv
  rw [hkv] at hbr ⊢
  have HG0 := Lib.hid (show Calls Try.prog 59 #[.slice a len cap, .string s] W (ConRet k0 v0 W) by have := HG.out (pB w) W hN; rw [hkv'] at this; rw [hs]; exact this)
  have HB := Lib.hid (show baseW (k0, v0) = 1 + 200 * k0 + v0 from rfl)
  have hval := Fof_valid hv w
  rw [hkv] at hval
  unfold validB at hval
  simp only [decide_eq_true_eq] at hval
  have hk2 : k0 ≤ 2 := by omega
  have hk00 : 0 ≤ k0 := by omega
  have hv0 : 0 ≤ v0 := by omega
  have hv99 : v0 ≤ 99 := by omega
  have HKV := Lib.hid hkv
  have HS := Lib.hid hs
  have HW := Lib.hid hw
  have hsize : s.size ≤ 9 := by rw [hs]; omega
  rw [← hs]
  obtain ⟨r, hr⟩ : ∃ r, (if (k0, v0).1 = 1 then partW (Fof ns) d w 4 else baseW (k0, v0)) = r := ⟨_, rfl⟩
  rw [hr]
  have HR := Lib.hid hr
  clear hN hrec hv hkv hkv' hval hbr hw hs hr hw4 hsz
  by_cases h1 : k0 = 1
  · subst h1
    try unfold con at HG0
    go_enter Try.func48, Try.ntmps48
    go_wp2_with fail
    refine HG0.out.mono ?_
    rintro e W1 ⟨rfl, hb1⟩
    have HB1 := Lib.hid hb1
    clear hb1
    unfold con
    go_wp2_with fail
    have hb2 := below_box W1 (.cells #[.int .i64 1, .int .i64 v0] 31)
    have x0 : (W1.alloc (.cells #[.int .i64 1, .int .i64 v0] 31)).cell? ⟨W1.heap.size, 0, none⟩ = some (.int .i64 1) := by simp
    have x1 : (W1.alloc (.cells #[.int .i64 1, .int .i64 v0] 31)).cell? ⟨W1.heap.size, 1, none⟩ = some (.int .i64 v0) := by simp
    have HX := Lib.hid x0
    have HB2 := Lib.hid (below_next HB1.out hb2)
    have hsz2 : W1.heap.size < (W1.alloc (.cells #[.int .i64 1, .int .i64 v0] 31)).heap.size := by simp
    have HZ2 := Lib.hid hsz2
    generalize W1.alloc (.cells #[.int .i64 1, .int .i64 v0] 31) = W2 at HX HB2 HZ2 ⊢
    clear hb2 x0 x1 hsz2
    go_loopw [6, 7] (fun n k wr => L5Rel (Fof ns) d w W2 n k wr) (fun _ k _ => 4 - (intOf k).toNat)
    case atStart => exact ⟨0, rfl, by omega, by rw [partW_zero, HKV.out, show baseW (1, v0) = 201 + v0 by rw [HB.out]; omega], Below.refl _ _⟩
    case round =>
      obtain ⟨i, rfl, hi, rfl, HBi⟩ := hrel
      have c0 := cell_kept HBi.out HX.out
      obtain ⟨n, hn⟩ : ∃ n, n = partW (Fof ns) d w i := ⟨_, rfl⟩
      rw [← hn]
      obtain ⟨n0, n1⟩ := HPR.out i
      rw [← hn] at n0 n1
      have HNN := Lib.hid hn
      by_cases hlt : i < 4
      · have hlt' : (i : Int) < 4 := by omega
        have hi3 : (i : Int) ≤ 3 := by omega
        have HLT := Lib.hid hlt
        have HNX := Lib.hid (partW_next (Fof ns) d w i)
        obtain ⟨cb, hcb⟩ : ∃ cb, cb = UInt8.ofNat (97 + i) := ⟨_, rfl⟩
        have hcv := convLetter wr i
        rw [← hcb] at hcv HNX
        obtain ⟨t, ht⟩ : ∃ t, t = pB (w ++ [cb]) := ⟨_, rfl⟩
        obtain ⟨kc, vc, hc⟩ : ∃ kc vc, Fof ns (w ++ [cb]) = (kc, vc) := ⟨_, _, rfl⟩
        have HNl := Lib.hid (HN.out.keep (below_next HB2.out HBi.out))
        have HGC := Lib.hid (fun W' (hb : Below wr.heap.size wr W') => show Calls Try.prog 59 #[.slice a len cap, .string t] W' (ConRet kc vc W') by
          have := HG.out (pB (w ++ [cb])) W' (HNl.out.keep hb)
          have hc' : getT ns (pB (w ++ [cb])) = (kc, vc) := hc
          rw [hc'] at this
          rw [ht]; exact this)
        try unfold con at HGC
        have HC := Lib.hid hc
        have HKB := Lib.hid (show kc ≠ 0 → ∀ W', NodesAt W' a len ns → Calls Try.prog 48 #[.slice a len cap, .string t] W' (NumPost (sumW (Fof ns) d (w ++ [cb])) W') from fun hk W' hW => by
          rw [ht, hcb]
          exact HREC.out i HLT.out (by rw [← hcb, hc]; exact hk) W' hW)
        obtain ⟨s1, hs1⟩ : ∃ s1, s1 = sumW (Fof ns) d (w ++ [cb]) := ⟨_, rfl⟩
        obtain ⟨r0, r1⟩ := sumW_range (fun u => HFV.out u) d (w ++ [cb])
        rw [← hs1] at r0 r1 HKB HNX
        rw [← hn] at HNX
        have w1 : IntKind.i64.wrap (31 * n) = 31 * n := IntWalk.i64_in _ (by omega)
        have w2 : IntKind.i64.wrap (7 * (i : Int)) = 7 * (i : Int) := IntWalk.i64_in _ (by omega)
        have w3 : IntKind.i64.wrap (31 * n + 7 * (i : Int)) = 31 * n + 7 * (i : Int) := IntWalk.i64_in _ (by omega)
        have w4 : IntKind.i64.wrap (100 * s1) = 100 * s1 := IntWalk.i64_in _ (by omega)
        have w5 : IntKind.i64.wrap (31 * n + 7 * (i : Int) + 100 * s1) = 31 * n + 7 * (i : Int) + 100 * s1 := IntWalk.i64_in _ (by omega)
        have w6 : IntKind.i64.wrap (31 * n + 7 * (i : Int) + 100 * s1 + 3) = 31 * n + 7 * (i : Int) + 100 * s1 + 3 := IntWalk.i64_in _ (by omega)
        obtain ⟨q, hq⟩ : ∃ q, q = stepW s1 i n := ⟨_, rfl⟩
        have hrem : (31 * n + 7 * (i : Int) + 100 * s1 + 3).tmod 9973 = q := by
          rw [hq, Int.tmod_eq_emod_of_nonneg (by omega)]; rfl
        rw [← hq] at HNX
        have HQ := Lib.hid hq
        by_cases hw0 : w = []
        · have hroot : (s.toList == [47]) = true := by rw [HS.out, hw0, Lib.toList_data]; rfl
          have hch : (⟨#[47]⟩ : ByteArray) ++ ⟨#[cb]⟩ = t := by rw [ht, hw0]; exact child_root cb
          clear hlt hi hn hcb ht hc hs1 hq hw0
          go_wp2_with fail
          refine (HGC.out _ (below_box _ _)).mono ?_
          rintro e W5 ⟨rfl, hb5⟩
          have HB5 := Lib.hid (below_next HBi.out (below_next (below_box _ _) hb5))
          have HN5 := Lib.hid (HNl.out.keep (below_next (below_box _ _) hb5))
          clear hb5
          unfold con
          have hfk := fun w => field_kind kc vc w
          by_cases hkc : kc = 0
          · have HKC := Lib.hid hkc
            subst hkc
            go_wp2_with fail
            go_roundw
            case rel => exact ⟨i + 1, by push_cast; rfl, by have := HLT.out; omega, by rw [HNX.out, HC.out]; rfl, HB5.out⟩
            case measure => have := HLT.out; simp [intOf]; omega
          · have HKC := Lib.hid hkc
            have hk0 : (kc != 0) = true := by simpa using hkc
            have hk0' : (kc == 0) = false := by simpa using hkc
            have HRC := Lib.hid (HKB.out hkc W5 HN5.out)
            clear hkc
            go_wp2_with fail
            refine HRC.out.mono ?_
            rintro e W6 ⟨rfl, hb6⟩
            have HB6 := Lib.hid (below_next HB5.out hb6)
            clear hb6
            go_wp2_with fail
            go_roundw
            case rel => exact ⟨i + 1, by push_cast; rfl, by have := HLT.out; omega, by rw [HNX.out, HC.out, if_neg (show ¬ kc = 0 from HKC.out)], HB6.out⟩
            case measure => have := HLT.out; simp [intOf]; omega
        · have hroot : (s.toList == [47]) = false := by
            rw [HS.out]
            have hne : pB w ≠ (⟨#[47]⟩ : ByteArray) := fun e => hw0 (pB_inj' (e.trans pB_root.symm))
            have := toList_ne hne
            rwa [show (⟨#[47]⟩ : ByteArray).toList = [47] by rw [Lib.toList_data]] at this
          have hch : s ++ (⟨#[47]⟩ : ByteArray) ++ ⟨#[cb]⟩ = t := by rw [ht, HS.out]; exact child_path hw0 cb
          clear hlt hi hn hcb ht hc hs1 hq hw0
          go_wp2_with fail
          refine (HGC.out _ (below_box _ _)).mono ?_
          rintro e W5 ⟨rfl, hb5⟩
          have HB5 := Lib.hid (below_next HBi.out (below_next (below_box _ _) hb5))
          have HN5 := Lib.hid (HNl.out.keep (below_next (below_box _ _) hb5))
          clear hb5
          unfold con
          have hfk := fun w => field_kind kc vc w
          by_cases hkc : kc = 0
          · have HKC := Lib.hid hkc
            subst hkc
            go_wp2_with fail
            go_roundw
            case rel => exact ⟨i + 1, by push_cast; rfl, by have := HLT.out; omega, by rw [HNX.out, HC.out]; rfl, HB5.out⟩
            case measure => have := HLT.out; simp [intOf]; omega
          · have HKC := Lib.hid hkc
            have hk0 : (kc != 0) = true := by simpa using hkc
            have hk0' : (kc == 0) = false := by simpa using hkc
            have HRC := Lib.hid (HKB.out hkc W5 HN5.out)
            clear hkc
            go_wp2_with fail
            refine HRC.out.mono ?_
            rintro e W6 ⟨rfl, hb6⟩
            have HB6 := Lib.hid (below_next HB5.out hb6)
            clear hb6
            go_wp2_with fail
            go_roundw
            case rel => exact ⟨i + 1, by push_cast; rfl, by have := HLT.out; omega, by rw [HNX.out, HC.out, if_neg (show ¬ kc = 0 from HKC.out)], HB6.out⟩
            case measure => have := HLT.out; simp [intOf]; omega
      · have hge : i = 4 := by omega
        subst hge
        have HE := Lib.hid (show n = r by rw [HNN.out, ← HR.out]; simp)
        have HBE := Lib.hid (below_next HB2.out HBi.out)
        clear hlt hi hn
        go_wp2
        refine bodyPost_ret (v := .int .i64 n) (by simp [results, Try.f48, go_sem]) rfl ⟨by rw [HE.out], HBE.out⟩
  · have HR1 := Lib.hid (show baseW (k0, v0) = r by rw [← HR.out]; exact (if_neg h1).symm)
    have hk1 : (k0 == 1) = false := beq_eq_false_iff_ne.2 h1
    clear h1
    try unfold con at HG0
    go_enter Try.func48, Try.ntmps48
    go_wp2_with fail
    refine HG0.out.mono ?_
    rintro e W1 ⟨rfl, hb1⟩
    have HB1 := Lib.hid hb1
    clear hb1
    unfold con
    go_wp2_with fail
    have hb2 := below_box W1 (.cells #[.int .i64 k0, .int .i64 v0] 31)
    have x0 : (W1.alloc (.cells #[.int .i64 k0, .int .i64 v0] 31)).cell? ⟨W1.heap.size, 0, none⟩ = some (.int .i64 k0) := by simp
    have x1 : (W1.alloc (.cells #[.int .i64 k0, .int .i64 v0] 31)).cell? ⟨W1.heap.size, 1, none⟩ = some (.int .i64 v0) := by simp
    have HX := Lib.hid x0
    have HB2 := Lib.hid (below_next HB1.out hb2)
    have hsz2 : W1.heap.size < (W1.alloc (.cells #[.int .i64 k0, .int .i64 v0] 31)).heap.size := by simp
    have HZ2 := Lib.hid hsz2
    generalize W1.alloc (.cells #[.int .i64 k0, .int .i64 v0] 31) = W2 at HX HB2 HZ2 ⊢
    clear hb2 x0 x1 hsz2
    go_loopw [6, 7] (fun n k wr => n = .int .i64 (baseW (k0, v0)) ∧ k = .int .i64 0 ∧ wr = W2) (fun _ k _ => 4 - (intOf k).toNat)
    case atStart => exact ⟨by rw [HB.out], rfl, rfl⟩
    case round =>
      obtain ⟨rfl, rfl, rfl⟩ := hrel
      have c0 := HX.out
      obtain ⟨n, hn⟩ : ∃ n, n = baseW (k0, v0) := ⟨_, rfl⟩
      rw [← hn]
      have HE := Lib.hid (show n = r by rw [hn, HR1.out])
      clear hn
      go_wp2
      refine bodyPost_ret (v := .int .i64 n) (by simp [results, Try.f48, go_sem]) rfl ⟨by rw [HE.out], HB2.out⟩

theorem letter_ofNat {k : Nat} (hk : k < 4) : Pm.letter (UInt8.ofNat (97 + k)) = true := by
  rcases (by omega : k = 0 ∨ k = 1 ∨ k = 2 ∨ k = 3) with rfl | rfl | rfl | rfl <;> decide

theorem word_next {w : List UInt8} (hw : Wrd w) (h : w.length < 4) {k : Nat} (hk : k < 4) : Wrd (w ++ [UInt8.ofNat (97 + k)]) :=
  ⟨by rw [List.length_append]; show w.length + 1 ≤ 4; omega, fun x hx => by
    rcases List.mem_append.1 hx with hx | hx
    · exact hw.2 x hx
    · rw [List.mem_singleton.1 hx]; exact letter_ofNat hk⟩

theorem l5Sum_c (ns : List Nd) (hv : validT ns = true) (a : Option Addr) (len cap : Nat) (hl : len ≤ 2097152) : ∀ (d : Nat) (w : List UInt8), w.length + d = 4 → Wrd w → ∀ W, NodesAt W a len ns →
    Calls Try.prog 48 #[.slice a len cap, .string (pB w)] W (NumPost (sumW (Fof ns) d w) W)
  | 0, w, h4, hw, W, hN => by
    have hnone : ∀ k, k < 4 → (Fof ns (w ++ [UInt8.ofNat (97 + k)])).1 = 0 := fun k _ => by
      rw [deep_none hv (by rw [List.length_append]; show 4 < w.length + 1; omega)]
    have h := l5Sum_step a len cap ns hl hv 0 w hw (fun k hk h => absurd (hnone k hk) h) W hN
    rw [partW_none _ _ _ hnone 4 (Nat.le_refl _)] at h
    simpa [sumW] using h
  | d + 1, w, h4, hw, W, hN => by
    have h := l5Sum_step a len cap ns hl hv d w hw (fun k hk _ W' hW => l5Sum_c ns hv a len cap hl d (w ++ [UInt8.ofNat (97 + k)]) (by rw [List.length_append]; show w.length + 1 + d = 4; omega) (word_next hw (by omega) hk) W' hW) W hN
    by_cases h1 : (Fof ns w).1 = 1
    · rw [if_pos h1] at h
      rw [sumW_part _ _ _ h1]; exact h
    · rw [if_neg h1] at h
      rw [sumW_file _ _ _ h1]; exact h

/-- spec.l5Sum at a valid path of a valid tree. -/
theorem l5Sum_at (ns : List Nd) (hv : validT ns = true) (p : ByteArray) (hp : vpB p = true) (a : Option Addr) (len cap : Nat) (hl : len ≤ 2097152) (W : World) (hN : NodesAt W a len ns) :
    Calls Try.prog 48 #[.slice a len cap, .string p] W (NumPost (treeSum ns p) W) := by
  obtain ⟨w, hw, rfl⟩ := vpB_word hp
  rw [treeSum_word hv hw]
  exact l5Sum_c ns hv a len cap hl (4 - w.length) w (by have := hw.1; omega) hw W hN

set_option maxHeartbeats 1000000 in
set_option maxRecDepth 100000 in
theorem specTreeSum_c (a : Option Addr) (len cap : Nat) (ns : List Nd) (p : ByteArray) (hl : len ≤ 2097152) (hs : Short 2097152 ns) (hp : p.size ≤ 2097152) (W : World) (hN : NodesAt W a len ns) :
    Calls Try.prog 14 #[.slice a len cap, .string p] W (NumPost (treeSum ns p) W) := by
  obtain ⟨vt, hvt⟩ : ∃ vt, validT ns = vt := ⟨_, rfl⟩
  obtain ⟨vp, hvp⟩ : ∃ vp, vpB p = vp := ⟨_, rfl⟩
  have HV := Lib.hid (show Calls Try.prog 22 #[.slice a len cap] W (BoolPost vt W) by rw [← hvt]; exact specTreeValid_c a len cap ns hl hs W hN)
  have HP := Lib.hid (fun W' => show Calls Try.prog 47 #[.string p] W' (BoolPost vp W') by rw [← hvp]; exact specValid_c p hp W')
  have HS := Lib.hid (show vt = true → vp = true → ∀ W' (hb : Below W.heap.size W W'), Calls Try.prog 48 #[.slice a len cap, .string p] W' (NumPost (treeSum ns p) W') from fun h1 h2 W' hb => l5Sum_at ns (by rw [hvt]; exact h1) p (by rw [hvp]; exact h2) a len cap hl W' (hN.keep hb))
  obtain ⟨r, hr⟩ : ∃ r, treeSum ns p = r := ⟨_, rfl⟩
  rw [hr] at HS ⊢
  have HB := Lib.hid (show (vt && vp) = false → r = -1 from fun h => by rw [← hr]; unfold treeSum; rw [hvt, hvp, h]; rfl)
  clear hvt hvp hr hN hs hp
  go_enter Try.func14, Try.ntmps14
  go_wp2_with fail
  refine HV.out.mono ?_
  rintro e W1 ⟨rfl, hb1⟩
  have HB1 := Lib.hid hb1
  clear hb1
  cases vt with
  | false =>
    go_wp2
    refine bodyPost_ret (v := .int .i64 (-1)) (by simp [results, Try.f14, go_sem]) rfl ⟨by rw [HB.out rfl], HB1.out⟩
  | true =>
    go_wp2_with fail
    refine (HP.out _).mono ?_
    rintro e W2 ⟨rfl, hb2⟩
    have HB2 := Lib.hid (below_next HB1.out hb2)
    clear hb2
    cases vp with
    | false =>
      go_wp2
      refine bodyPost_ret (v := .int .i64 (-1)) (by simp [results, Try.f14, go_sem]) rfl ⟨by rw [HB.out rfl], HB2.out⟩
    | true =>
      go_wp2_with fail
      refine (HS.out (by trivial) (by trivial) _ HB2.out).mono ?_
      rintro e W3 ⟨rfl, hb3⟩
      have HB3 := Lib.hid (below_next HB2.out hb3)
      clear hb3
      go_wp2
      refine bodyPost_ret (v := .int .i64 r) (by simp [results, Try.f14, go_sem]) rfl ⟨rfl, HB3.out⟩

def SumsRel (ns : List Nd) (W1 : World) (o i : Value) (wr : World) : Prop :=
  ∃ n : Nat, i = .int .i64 n ∧ n ≤ ns.length ∧ Hid (validT ns = true ∨ n = 0) ∧ wr.ownsRow W1.heap.size 3 1 o ((ns.take n).map (fun x => treeSum ns x.p)).length (intsV ((ns.take n).map (fun x => treeSum ns x.p))) ∧ Hid (Below W1.heap.size W1 wr)

set_option maxHeartbeats 2000000 in
set_option maxRecDepth 100000 in
theorem specTreeSums_c (a : Option Addr) (len cap : Nat) (ns : List Nd) (hl : len ≤ 2097152) (hs : Short 2097152 ns) (W : World) (hN : NodesAt W a len ns) :
    Calls Try.prog 20 #[.slice a len cap] W fun e W' => OwnsInts W.heap.size (treeSums ns) e W' ∧ Below W.heap.size W W' := by
  obtain ⟨i0, hi0, hz0, hz1, hz2⟩ := info_parts infoInt
  obtain ⟨vt, hvt⟩ : ∃ vt, validT ns = vt := ⟨_, rfl⟩
  have HV := Lib.hid (fun W' (hb : Below W.heap.size W W') => show Calls Try.prog 22 #[.slice a len cap] W' (BoolPost vt W') by rw [← hvt]; exact specTreeValid_c a len cap ns hl hs W' (hN.keep hb))
  have HN := Lib.hid hN
  have HE := Lib.hid hN.1
  have HVT := Lib.hid hvt
  have hl' : (len : Int) ≤ 2097152 := by omega
  have HL := Lib.hid hl
  clear hN hs hvt
  go_enter Try.func20, Try.ntmps20
  go_wp2_with fail
  go_loopw [3, 4] (fun o i wr => SumsRel ns W o i wr) (fun _ i _ => len - (intOf i).toNat)
  case atStart => exact ⟨0, rfl, by omega, .inr rfl, World.ownsRow_lit (e := 3) (size := 1) W #[] 0 (Nat.le_refl _) (by simp [maxLen]) rfl, below_box _ _⟩
  case round =>
    obtain ⟨i, rfl, hi, HV0, hown, HB⟩ := hrel
    have HO := Lib.hid hown
    clear hown
    by_cases hlt : i < len
    · have hlt' : (i : Int) < len := by omega
      have hil : (i : Int) ≤ 2097152 := by omega
      have HLT := Lib.hid hlt
      clear hlt hi
      go_wp2_with fail
      refine (HV.out _ HB.out).mono ?_
      rintro e W1 ⟨rfl, hb1⟩
      have HB1 := Lib.hid (below_next HB.out hb1)
      have HO1 := Lib.hid (own_below1 HO.out hb1)
      clear hb1
      cases vt with
      | false =>
        have HI0 := Lib.hid (show i = 0 from by
          rcases HV0.out with h | h
          · rw [HVT.out] at h; cases h
          · exact h)
        go_wp2
        refine bodyPost_ret (v := u3) (by simp [results, Try.f20, go_sem]) rfl ⟨⟨u3, rfl, ?_⟩, HB1.out⟩
        have h7 := HO1.out
        rw [HI0.out] at h7
        have h8 : treeSums ns = [] := by unfold treeSums; rw [HVT.out]; rfl
        rw [h8]; exact h7
      | true =>
        obtain ⟨b, off, n, rfl, hn, x0, -, -⟩ := (HN.out.keep HB1.out).node HLT.out
        have hpv := (good_path HVT.out (List.mem_of_getElem? hn)).2
        have HS := Lib.hid (l5Sum_at ns HVT.out n.p hpv (some ⟨b, off, none⟩) len cap HL.out W1 (HN.out.keep HB1.out))
        have HTK := Lib.hid (show (ns.take (i + 1)).map (fun x => treeSum ns x.p) = (ns.take i).map (fun x => treeSum ns x.p) ++ [treeSum ns n.p] by rw [List.take_add_one, hn, List.map_append]; rfl)
        obtain ⟨s, hs⟩ : ∃ s, treeSum ns n.p = s := ⟨_, rfl⟩
        rw [hs] at HS HTK
        have HML := Lib.hid (show ((ns.take i).map (fun x => treeSum ns x.p)).length ≤ 2097152 by rw [List.length_map, List.length_take]; have := HE.out; have := HL.out; omega)
        have HLN := Lib.hid (show len ≤ 10 by have := ((validT_iff ns).1 HVT.out).2.2; have := HE.out; omega)
        clear hn hpv hs
        go_wp2_with fail
        refine HS.out.mono ?_
        rintro e W2 ⟨rfl, hb2⟩
        have HB2 := Lib.hid (below_next HB1.out hb2)
        have HO2 := Lib.hid (own_below1 HO1.out hb2)
        have hlt0 := HO2.out.lt
        clear hb2 x0
        go_wp2_with (at_builtin; refine wpList_append_own _ rfl _ _ 37 rfl W.heap.size 3 i0 (.int .i64 0) 1 8 Try.underlying37 hi0 hz0 hz1 hz2 rfl (by decide) _ _ _ rfl (HO2.out.alloc _) ⟨W2.heap.size, 0, none⟩ 1 1 [.int .i64 s] rfl rfl (cell_int_new _ _ _) (fun x hx => by simp at hx; subst hx; rfl) (by have := HML.out; unfold maxLen; omega) (by have := HML.out; omega) (by have := HB2.out.size; simp; omega) ?_; intro v5 w5 ho5 hg5 hn5)
        have B5 : Below W.heap.size W w5 := (HB2.out.alloc HB2.out.size _).grown hg5 (by have := HB2.out.size; simp; omega) (fun g e => (hlt0 g e).1)
        go_roundw
        case rel => exact ⟨i + 1, by push_cast; rfl, by have := HE.out; have := HLT.out; omega, .inl HVT.out, by rw [HTK.out]; exact own_join1 (more := [s]) ho5, B5⟩
        case measure => have := HLT.out; simp [intOf]; omega
    · have hge : (len : Int) ≤ i := by omega
      have HR := Lib.hid (show (ns.take i).map (fun x => treeSum ns x.p) = treeSums ns from by
        rcases HV0.out with h | h
        · unfold treeSums
          rw [h, List.take_of_length_le (by have := HE.out; omega)]; rfl
        · have h9 : ns = [] := List.length_eq_zero_iff.1 (by have := HE.out; omega)
          rw [h9]; unfold treeSums; split <;> simp)
      clear hi hlt
      go_wp2
      refine bodyPost_ret (v := u3) (by simp [results, Try.f20, go_sem]) rfl ⟨⟨u3, rfl, ?_⟩, HB.out⟩
      rw [← HR.out]; exact HO.out

end Go.Proofs.Ytmdidhlfpaganaa

/-
  WALKS: impl.TreeSums, impl.TreeSum.
-/
namespace Go.Proofs.Ytmdidhlfpaganaa
open Go.RowKit
set_option linter.unusedVariables false

theorem sums_valid {ns : List Nd} (h : validT ns = true) : (runL ns).1 = treeSums ns := by
  rw [run_tree h]
  unfold treeSums
  rw [if_pos h]

theorem sums_bad {ns : List Nd} (h : validT ns = false) : treeSums ns = [] := by
  unfold treeSums
  rw [if_neg (by rw [h]; decide)]

set_option maxHeartbeats 1000000 in
set_option maxRecDepth 100000 in
theorem implTreeSums_c (a : Option Addr) (len cap : Nat) (ns : List Nd) (hl : len ≤ 2097152) (hs : Short 2097152 ns) (W : World) (hN : NodesAt W a len ns) :
    Calls Try.prog 19 #[.slice a len cap] W fun e W' => OwnsInts W.heap.size (treeSums ns) e W' ∧ Below W.heap.size W W' := by
  obtain ⟨vt, hvt⟩ : ∃ vt, validT ns = vt := ⟨_, rfl⟩
  have HV := Lib.hid (show Calls Try.prog 42 #[.slice a len cap] W (BoolPost vt W) by rw [← hvt]; exact implTreeValid_c a len cap ns hl hs W hN)
  cases vt with
  | false =>
    have HB := Lib.hid (sums_bad hvt)
    clear hN hs hvt
    go_enter Try.func19, Try.ntmps19
    go_wp2_with fail
    refine HV.out.mono ?_
    rintro e W2 ⟨rfl, hb2⟩
    go_wp2
    refine bodyPost_ret (v := .slice none 0 0) (by simp [results, Try.f19, go_sem]) rfl ⟨⟨_, rfl, ?_⟩, hb2⟩
    rw [HB.out]
    exact World.ownsRow_nil _ _ _ _
  | true =>
    have h10 : len ≤ 10 := by have := ((validT_iff ns).1 hvt).2.2; have := hN.1; omega
    have HS := Lib.hid (fun W' (hb : Below W.heap.size W W') => sumsOf_c a len cap ns (by omega) (nds_ok hvt) W' (hN.keep hb))
    have HE := Lib.hid (sums_valid hvt)
    clear hN hs hvt h10
    go_enter Try.func19, Try.ntmps19
    go_wp2_with fail
    refine HV.out.mono ?_
    rintro e W2 ⟨rfl, hb2⟩
    have HS2 := Lib.hid (HS.out W2 hb2)
    have HB2 := Lib.hid hb2
    clear hb2
    go_wp2_with fail
    refine HS2.out.mono ?_
    rintro e W3 ⟨⟨sl, rfl, ho⟩, hb3⟩
    have HO := Lib.hid ho
    have HB3 := Lib.hid (below_next HB2.out hb3)
    have HB2' := Lib.hid HB2.out.size
    clear ho hb3
    go_wp2
    refine bodyPost_ret (v := sl) (by simp [results, Try.f19, go_sem]) rfl ⟨⟨_, rfl, ?_⟩, HB3.out⟩
    have := own_mono HO.out HB2'.out
    rwa [HE.out] at this

theorem root_map {ns : List Nd} (h : validT ns = true) : (runL (⟨rootB, 1, 0⟩ :: ns)).1 = (⟨rootB, 1, 0⟩ :: ns : List Nd).map (fun n => treeSum ns n.p) := by
  rw [run_root h]; rfl

theorem rows_two (W : World) {a1 a2 : Option Addr} {l1 c1 l2 c2 : Nat} {n1 n2 : List Nd} (h1 : NodesAt W a1 l1 n1) (h2 : NodesAt W a2 l2 n2) (t : TypeId) :
    RowsAt (W.alloc (.cells #[.slice a1 l1 c1, .slice a2 l2 c2] t)) W.heap.size 0 [⟨a1, l1, c1, n1⟩, ⟨a2, l2, c2, n2⟩] := by
  intro i r hr
  have hb := below_box W (.cells #[.slice a1 l1 c1, .slice a2 l2 c2] t)
  match i, hr with
  | 0, hr =>
    simp at hr; subst hr
    exact ⟨by simp, h1.keep hb⟩
  | 1, hr =>
    simp at hr; subst hr
    exact ⟨by simp, h2.keep hb⟩
  | i + 2, hr => simp at hr

theorem one_node (W : World) (p : ByteArray) (k v : Int) (t : TypeId) : NodesAt (W.alloc (.cells #[.string p, .int .i64 k, .int .i64 v] t)) (some ⟨W.heap.size, 0, none⟩) 1 [⟨p, k, v⟩] := by
  refine ⟨rfl, .inr ⟨W.heap.size, 0, rfl, fun i n hn => ?_⟩⟩
  match i, hn with
  | 0, hn => simp at hn; subst hn; simp
  | i + 1, hn => simp at hn

theorem look_sum {ns L : List Nd} (hL : L = ⟨rootB, 1, 0⟩ :: ns) (hv : validT ns = true) {i : Nat} {m : Nd} (hm : L[i]? = some m) {z : Int} (hz : (runL L).1[i]? = some z) : z = treeSum ns m.p := by
  subst hL
  rw [root_map hv, List.getElem?_map, hm] at hz
  exact (Option.some.inj hz).symm

theorem look_miss {ns L : List Nd} {p : ByteArray} (hL : L = ⟨rootB, 1, 0⟩ :: ns) (hv : validT ns = true) (hp : vpB p = true) (h : ∀ j m, j < L.length → L[j]? = some m → m.p ≠ p) : treeSum ns p = 1 := by
  have hm : ∀ m ∈ L, m.p ≠ p := fun m hm => by
    obtain ⟨j, hj⟩ := List.getElem?_of_mem hm
    exact h j m (List.getElem?_eq_some_iff.1 hj).1 hj
  subst hL
  refine sum_missing hv hp (fun e => hm ⟨rootB, 1, 0⟩ (by simp) e.symm) fun n hn => hm n (by simp [hn])

def LookRel (L : List Nd) (p : ByteArray) (W : World) (i : Value) (wr : World) : Prop := ∃ n : Nat, i = .int .i64 n ∧ n ≤ L.length ∧ Hid (∀ j m, j < n → L[j]? = some m → m.p ≠ p) ∧ W = wr

theorem sum_bad {ns : List Nd} {p : ByteArray} (h : validT ns = false ∨ vpB p = false) : treeSum ns p = -1 := by
  unfold treeSum
  rcases h with h | h <;> simp [h]

set_option maxHeartbeats 2000000 in
set_option maxRecDepth 100000 in
theorem implTreeSum_c (a : Option Addr) (len cap : Nat) (ns : List Nd) (p : ByteArray) (hl : len ≤ 2097152) (hs : Short 2097152 ns) (hp : p.size ≤ 2097152) (W : World) (hN : NodesAt W a len ns) :
    Calls Try.prog 13 #[.slice a len cap, .string p] W (NumPost (treeSum ns p) W) := by
  obtain ⟨vt, hvt⟩ : ∃ vt, validT ns = vt := ⟨_, rfl⟩
  obtain ⟨vp, hvp⟩ : ∃ vp, vpB p = vp := ⟨_, rfl⟩
  have HV := Lib.hid (show Calls Try.prog 42 #[.slice a len cap] W (BoolPost vt W) by rw [← hvt]; exact implTreeValid_c a len cap ns hl hs W hN)
  have HP := Lib.hid (fun W1 => show Calls Try.prog 43 #[.string p] W1 (BoolPost vp W1) by rw [← hvp]; exact pathValid_c p (by omega) W1)
  cases vt with
  | false =>
    have HB := Lib.hid (sum_bad (p := p) (.inl hvt))
    clear hN hs hvt hvp
    go_enter Try.func13, Try.ntmps13
    go_wp2_with fail
    refine HV.out.mono ?_
    rintro e W2 ⟨rfl, hb2⟩
    go_wp2
    refine bodyPost_ret (v := .int .i64 (-1)) (by simp [results, Try.f13, go_sem]) rfl ⟨by rw [HB.out], hb2⟩
  | true =>
    cases vp with
    | false =>
      have HB := Lib.hid (sum_bad (ns := ns) (.inr hvp))
      clear hN hs hvt hvp
      go_enter Try.func13, Try.ntmps13
      go_wp2_with fail
      refine HV.out.mono ?_
      rintro e W2 ⟨rfl, hb2⟩
      have HB2 := Lib.hid hb2
      clear hb2
      go_wp2_with fail
      refine (HP.out _).mono ?_
      rintro e W3 ⟨rfl, hb3⟩
      have HB3 := Lib.hid (below_next HB2.out hb3)
      clear hb3
      go_wp2
      refine bodyPost_ret (v := .int .i64 (-1)) (by simp [results, Try.f13, go_sem]) rfl ⟨by rw [HB.out], HB3.out⟩
    | true =>
      have h10 : len ≤ 10 := by have := ((validT_iff ns).1 hvt).2.2; have := hN.1; omega
      have HN := Lib.hid hN
      have HL := Lib.hid h10
      have HVT := Lib.hid hvt
      have HVP := Lib.hid hvp
      clear hN hs hvt hvp h10
      go_enter Try.func13, Try.ntmps13
      go_wp2_with fail
      refine HV.out.mono ?_
      rintro e W2 ⟨rfl, hb2⟩
      have HB2 := Lib.hid hb2
      clear hb2
      go_wp2_with fail
      refine (HP.out _).mono ?_
      rintro e W3 ⟨rfl, hb3⟩
      have HB3 := Lib.hid (below_next HB2.out hb3)
      clear hb3
      go_wp2_with fail
      have HR := Lib.hid (rows_two (c1 := 1) (c2 := cap) (W3.alloc (.cells #[.string ⟨#[47]⟩, .int .i64 1, .int .i64 0] 42)) (one_node W3 ⟨#[47]⟩ 1 0 42) ((HN.out.keep HB3.out).keep (below_box W3 (.cells #[.string ⟨#[47]⟩, .int .i64 1, .int .i64 0] 42))) 23)
      have HB5 := Lib.hid (below_next (below_next HB3.out (below_box W3 (.cells #[.string ⟨#[47]⟩, .int .i64 1, .int .i64 0] 42))) (below_box (W3.alloc (.cells #[.string ⟨#[47]⟩, .int .i64 1, .int .i64 0] 42)) (.cells #[.slice (some ⟨W3.heap.size, 0, none⟩) 1 1, .slice a len cap] 23)))
      have hg : (W3.alloc (.cells #[.string ⟨#[47]⟩, .int .i64 1, .int .i64 0] 42)).heap.size = W3.heap.size + 1 := World.size_alloc _ _
      rw [hg] at HR
      clear hg
      generalize ((W3.alloc (.cells #[.string ⟨#[47]⟩, .int .i64 1, .int .i64 0] 42)).alloc (.cells #[.slice (some ⟨W3.heap.size, 0, none⟩) 1 1, .slice a len cap] 23)) = W5 at HR HB5 ⊢
      obtain ⟨L, hL⟩ : ∃ L : List Nd, L = ⟨rootB, 1, 0⟩ :: ns := ⟨_, rfl⟩
      have HLL := Lib.hid hL
      have hLl : L.length ≤ 11 := by rw [hL, List.length_cons]; have := HN.out.1; have := HL.out; omega
      have HC := Lib.hid (show Calls Try.prog 44 #[.slice (some ⟨W3.heap.size + 1, 0, none⟩) 2 2] W5 (fun e W' => OwnsNodes W5.heap.size L e W' ∧ Below W5.heap.size W5 W') by
        have e : allN [⟨some ⟨W3.heap.size, 0, none⟩, 1, 1, [⟨⟨#[47]⟩, 1, 0⟩]⟩, ⟨a, len, cap, ns⟩] = L := by rw [hL]; simp [allN, rootB]
        have := concatN_c (W3.heap.size + 1) 0 2 [⟨some ⟨W3.heap.size, 0, none⟩, 1, 1, [⟨⟨#[47]⟩, 1, 0⟩]⟩, ⟨a, len, cap, ns⟩] (by simp) (by rw [e]; omega) W5 HR.out
        rw [e] at this
        exact this)
      have HOK := Lib.hid (show NdsOk L by rw [hL]; exact nds_root HVT.out)
      have HLN := Lib.hid hLl
      clear hL
      refine HC.out.mono ?_
      rintro e W6 ⟨⟨s6, rfl, ho6⟩, hb6⟩
      obtain ⟨a6, c6, rfl, hn6⟩ := nodes_of_own ho6
      have HN6 := Lib.hid hn6
      have HB6 := Lib.hid (below_next HB5.out hb6)
      have HSU := Lib.hid (sumsOf_c a6 L.length c6 L (by omega) HOK.out W6 hn6)
      clear ho6 hb6 hn6
      go_wp2_with fail
      refine HSU.out.mono ?_
      rintro e W7 ⟨⟨s7, rfl, ho7⟩, hb7⟩
      obtain ⟨a7, c7, rfl, hi7⟩ := ints_of_own ho7
      have HI7 := Lib.hid hi7
      have HN7 := Lib.hid (HN6.out.keep hb7)
      have HB7 := Lib.hid (below_next HB6.out hb7)
      have hl7 := runL_length L
      rw [hl7]
      have HL7 := Lib.hid hl7
      clear ho7 hb7 hi7 hl7
      go_wp2_with fail
      go_loopw [25] (fun i wr => LookRel L p W7 i wr) (fun i _ => L.length - (intOf i).toNat)
      case atStart => exact ⟨0, rfl, by omega, fun j m hj => absurd hj (Nat.not_lt_zero _), rfl⟩
      case round =>
        obtain ⟨i, rfl, hi, HM, rfl⟩ := hrel
        by_cases hlt : i < L.length
        · obtain ⟨b, off, m, rfl, hm, c0, c1, c2⟩ := HN7.out.node hlt
          obtain ⟨b7, off7, z, rfl, hz, d0⟩ := HI7.out.at (i := i) (by rw [HL7.out]; exact hlt)
          have HZ := Lib.hid (look_sum HLL.out HVT.out hm hz)
          have hlt' : (i : Int) < L.length := by omega
          have hi11 : (i : Int) ≤ 11 := by omega
          have HLT := Lib.hid hlt
          have HMM := Lib.hid hm
          by_cases hpe : m.p = p
          · have heq : (m.p.toList == p.toList) = true := by rw [hpe]; simp
            have HR2 := Lib.hid (show z = treeSum ns p by rw [HZ.out, hpe])
            clear hlt hi hm hz hpe hLl
            go_wp2
            refine bodyPost_ret (v := .int .i64 z) (by simp [results, Try.f13, go_sem]) rfl ⟨by rw [HR2.out], HB7.out⟩
          · have heq : (m.p.toList == p.toList) = false := by
              rw [beq_eq_false_iff_ne, Lib.toList_data, Lib.toList_data]
              exact fun e => hpe (by rw [← Lib.mk_data m.p, ← Lib.mk_data p, e])
            have HPE := Lib.hid hpe
            clear hlt hi hm hz hpe hLl
            go_wp2
            go_roundw
            case rel =>
              refine ⟨i + 1, by push_cast; rfl, by have := HLT.out; omega, fun j m' hj hm' => ?_, rfl⟩
              rcases Nat.lt_succ_iff_lt_or_eq.1 hj with h | rfl
              · exact HM.out j m' h hm'
              · have := HMM.out
                rw [this] at hm'
                rw [← Option.some.inj hm']
                exact HPE.out
            case measure => have := HLT.out; simp [intOf]; omega
        · have hieq : i = L.length := by omega
          subst hieq
          have HR2 := Lib.hid (look_miss HLL.out HVT.out HVP.out HM.out)
          have hge : (L.length : Int) ≤ L.length := by omega
          have HCS := Lib.hid (fun W' => contentSum_c 0 0 (by decide) W')
          clear hlt hi
          unfold con at HCS
          go_wp2_with fail
          refine (HCS.out _).mono ?_
          rintro e W8 ⟨rfl, hb8⟩
          have HB8 := Lib.hid (below_next HB7.out hb8)
          clear hb8
          go_wp2
          refine bodyPost_ret (v := .int .i64 1) (by simp [results, Try.f13, go_sem, baseW]) rfl ⟨by rw [HR2.out], HB8.out⟩

end Go.Proofs.Ytmdidhlfpaganaa

/-
  WALKS: impl.TreeUnder.
-/
namespace Go.Proofs.Ytmdidhlfpaganaa
open Go.RowKit
set_option linter.unusedVariables false

theorem treeUnder_bad {ns : List Nd} {p : ByteArray} (h : validT ns = false ∨ vpB p = false) : treeUnder ns p = [] := by
  unfold treeUnder
  rcases h with h | h <;> simp [h]

theorem texts_nil {xs : List ByteArray} {W w : World} (h : xs = []) (hB : Below W.heap.size W w) : TextsPost xs W (.returned (.slice none 0 0)) w := by
  subst h; exact ⟨⟨_, rfl, World.ownsRow_nil _ _ _ _⟩, hB⟩

def pathVals (out : List Nd) (n : Nat) : List Value := ((out.take n).map Nd.p).map Value.string
theorem pathVals_next {out : List Nd} {n : Nat} {x : Nd} (h : out[n]? = some x) : pathVals out (n + 1) = pathVals out n ++ [.string x.p] := by
  unfold pathVals; rw [take_next h]; simp

/-- The loop that takes the paths. -/
def PathsRel (out : List Nd) (W : World) (W8 : World) (o i : Value) (wr : World) : Prop :=
  ∃ n : Nat, i = .int .i64 n ∧ n ≤ out.length ∧ wr.ownsRow W8.heap.size 9 1 o n (pathVals out n) ∧ Hid (Below W8.heap.size W8 wr)

end Go.Proofs.Ytmdidhlfpaganaa

/-
  WALKS: impl.TreeChanged.
-/
namespace Go.Proofs.Ytmdidhlfpaganaa
open Go.RowKit
set_option linter.unusedVariables false

/-- Two trees in memory that share no place. -/
structure TwoT (base : Nat) (ns ms : List Nd) (r1 r2 : Nat) (W : World) (A1 A2 : List UInt8 → Option Nat) : Prop where
  t1 : Trie W A1 (Fof ns)
  t2 : Trie W A2 (Fof ms)
  a1 : A1 [] = some r1
  a2 : A2 [] = some r2
  far : ∀ u w b, A1 u = some b → A2 w ≠ some b
  lo1 : ∀ u b, A1 u = some b → base ≤ b
  lo2 : ∀ u b, A2 u = some b → base ≤ b

/-- What a step keeps: all below a base, and all cells that are no places. -/
structure KeptP (base : Nat) (W W' : World) : Prop where
  low : Below base W W'
  typ : ∀ (k : Nat) (cs : Array Value) (t : TypeId) (fr : Nat × Nat), W.heap[k]? = some (.cells cs t fr) → t ≠ 70 → W'.heap[k]? = W.heap[k]?

theorem KeptP.trans {base : Nat} {W W1 W2 : World} (h : KeptP base W W1) (k : KeptP base W1 W2) : KeptP base W W2 :=
  ⟨h.low.trans k.low, fun j cs t fr hj ht => (k.typ j cs t fr ((h.typ j cs t fr hj ht).trans hj) ht).trans (h.typ j cs t fr hj ht)⟩

theorem KeptP.row {base b0 : Nat} {W W' : World} (h : KeptP base W W') {e : TypeId} {size n : Nat} {v : Value} {xs : List Value} (ho : W.ownsRow b0 e size v n xs) (he : e ≠ 70) : W'.ownsRow b0 e size v n xs := by
  refine ⟨ho.1, ?_⟩
  rcases ho.2 with h0 | ⟨g, cap, cur, hv, h1, h2, h3⟩
  · exact .inl h0
  · exact .inr ⟨g, cap, cur, hv, h1, (h.typ g cur e (0, 0) h2 he).trans h2, h3⟩

theorem KeptP.cell {base : Nat} {W W' : World} (h : KeptP base W W') {k : Nat} {cs : Array Value} {t : TypeId} (hk : W.heap[k]? = some (.cells cs t (0, 0))) (ht : t ≠ 70) (i : Nat) : W'.cell? ⟨k, i, none⟩ = W.cell? ⟨k, i, none⟩ :=
  World.cell?_of_block (h.typ k cs t (0, 0) hk ht)

theorem KeptP.of_below {base : Nat} {W W' : World} (hb : base ≤ W.heap.size) (h : Below W.heap.size W W') : KeptP base W W' :=
  ⟨h.mono hb, fun k cs t fr hk _ => h.block k (Array.getElem?_eq_some_iff.1 hk).1⟩

theorem KeptP.of_off {base : Nat} {A : List UInt8 → Option Nat} {F : List UInt8 → Int × Int} {W W' : World} (hT : Trie W A F) (hb : base ≤ W.heap.size) (hA : ∀ u c, A u = some c → base ≤ c) (h : Off A W.heap.size W W') : KeptP base W W' :=
  ⟨h.below hb hA, fun k cs t fr hk ht => h.block k (Array.getElem?_eq_some_iff.1 hk).1 fun u e => by
    have := hT.cells u k e
    rw [hk] at this
    cases this
    exact ht rfl⟩

theorem TwoT.below {base : Nat} {ns ms : List Nd} {r1 r2 : Nat} {W W' : World} {A1 A2 : List UInt8 → Option Nat} (h : TwoT base ns ms r1 r2 W A1 A2) (hb : Below W.heap.size W W') : TwoT base ns ms r1 r2 W' A1 A2 :=
  ⟨h.t1.below hb, h.t2.below hb, h.a1, h.a2, h.far, h.lo1, h.lo2⟩

/-- An append to a row of another type. -/
theorem TwoT.grown {base b0 : Nat} {ns ms : List Nd} {r1 r2 : Nat} {W W' : World} {A1 A2 : List UInt8 → Option Nat} (h : TwoT base ns ms r1 r2 W A1 A2) {e : TypeId} {size n : Nat} {v : Value} {xs : List Value} (ho : W.ownsRow b0 e size v n xs) (he : e ≠ 70)
    (hg : W.grownBy W' v.ownBlock) : TwoT base ns ms r1 r2 W' A1 A2 := by
  have hne : ∀ (A : List UInt8 → Option Nat) (F : List UInt8 → Int × Int), Trie W A F → ∀ u b, A u = some b → some b ≠ v.ownBlock := by
    intro A F hT u b hb e1
    rcases ho.2 with ⟨rfl, _⟩ | ⟨g, cap, cur, rfl, _, h2, _⟩
    · cases e1
    · simp [Value.ownBlock] at e1
      subst e1
      have := hT.cells u b hb
      rw [h2] at this
      cases this
      exact he rfl
  exact ⟨h.t1.kept fun u b hb => hg.block b (h.t1.lt hb) (hne _ _ h.t1 u b hb), h.t2.kept fun u b hb => hg.block b (h.t2.lt hb) (hne _ _ h.t2 u b hb), h.a1, h.a2, h.far, h.lo1, h.lo2⟩

/-- A row is kept while another one of another type grows. -/
theorem row_apart {W W' : World} {b1 b2 : Nat} {e1 e2 : TypeId} {s1 s2 n1 n2 : Nat} {v1 v2 : Value} {x1 x2 : List Value} (h1 : W.ownsRow b1 e1 s1 v1 n1 x1) (h2 : W.ownsRow b2 e2 s2 v2 n2 x2) (he : e1 ≠ e2) (hg : W.grownBy W' v2.ownBlock) : W'.ownsRow b1 e1 s1 v1 n1 x1 := by
  refine h1.kept hg ?_
  rcases h1.2 with ⟨rfl, _⟩ | ⟨g, cap, cur, rfl, _, q1, _⟩
  · exact .inl rfl
  · right
    intro e
    rcases h2.2 with ⟨rfl, _⟩ | ⟨g', cap', cur', rfl, _, q2, _⟩
    · cases e
    · simp [Value.ownBlock] at e
      subst e
      rw [q1] at q2
      cases q2
      exact he rfl

/-- The place of a path in the one tree or in the other one. -/
def FoundP (base : Nat) (ns ms : List Nd) (r1 r2 : Nat) (fst : Bool) (w : List UInt8) (c : Int × Int) (A1 A2 : List UInt8 → Option Nat) (W : World) (e : Ending) (W' : World) : Prop :=
  ∃ A1' A2' b, e = .returned (.pointer (some ⟨b, 0, none⟩)) ∧ TwoT base ns ms r1 r2 W' A1' A2' ∧ KeptP base W W' ∧ W'.cell? ⟨b, 0, none⟩ = some (.int .i64 c.1) ∧ W'.cell? ⟨b, 1, none⟩ = some (.int .i64 c.2) ∧
    (fst = true → A1' w = some b) ∧ (fst = false → A1' = A1)

theorem trie_two {W : World} {A : List UInt8 → Option Nat} {F : List UInt8 → Int × Int} (h : Trie W A F) {w : List UInt8} {b : Nat} (hb : A w = some b) {c : Int × Int} (hc : F w = c) : W.cell? ⟨b, 0, none⟩ = some (.int .i64 c.1) ∧ W.cell? ⟨b, 1, none⟩ = some (.int .i64 c.2) := by
  subst hc
  exact ⟨h.cell hb 0, h.cell hb 1⟩

theorem at_first {base : Nat} {ns ms : List Nd} {r1 r2 : Nat} {w : List UInt8} (hw : Wrd w) {c : Int × Int} (hc : Fof ns w = c) {A1 A2 : List UInt8 → Option Nat} {W : World} (h : TwoT base ns ms r1 r2 W A1 A2) (hb : base ≤ W.heap.size) :
    Calls Try.prog 52 #[.pointer (some ⟨r1, 0, none⟩), .string (pB w)] W (FoundP base ns ms r1 r2 true w c A1 A2 W) := by
  refine (at_c A1 (Fof ns) w hw W h.t1 r1 h.a1).mono ?_
  rintro e W' ⟨A', b, rfl, hb', hT', hX, hO⟩
  obtain ⟨c0, c1⟩ := trie_two hT' hb' hc
  refine ⟨A', A2, b, rfl, ⟨hT', h.t2.kept fun u x hx => hO.block x (h.t2.lt hx) fun u' e' => h.far u' u x e' hx, (hX [] r1).1 h.a1, h.a2, fun u v x hx hv => ?_, ext_from hX hb h.lo1, h.lo2⟩, .of_off h.t1 hb h.lo1 hO, c0, c1, fun _ => hb', fun e => (by cases e)⟩
  rcases (hX u x).2 hx with q | q
  · exact h.far u v x q hv
  · have := h.t2.lt hv; omega

theorem at_second {base : Nat} {ns ms : List Nd} {r1 r2 : Nat} {w : List UInt8} (hw : Wrd w) {c : Int × Int} (hc : Fof ms w = c) {A1 A2 : List UInt8 → Option Nat} {W : World} (h : TwoT base ns ms r1 r2 W A1 A2) (hb : base ≤ W.heap.size) :
    Calls Try.prog 52 #[.pointer (some ⟨r2, 0, none⟩), .string (pB w)] W (FoundP base ns ms r1 r2 false w c A1 A2 W) := by
  refine (at_c A2 (Fof ms) w hw W h.t2 r2 h.a2).mono ?_
  rintro e W' ⟨A', b, rfl, hb', hT', hX, hO⟩
  obtain ⟨c0, c1⟩ := trie_two hT' hb' hc
  refine ⟨A1, A', b, rfl, ⟨h.t1.kept fun u x hx => hO.block x (h.t1.lt hx) fun u' e' => h.far u u' x hx e', hT', h.a1, (hX [] r2).1 h.a2, fun u v x hx hv => ?_, h.lo1, ext_from hX hb h.lo2⟩, .of_off h.t2 hb h.lo2 hO, c0, c1, fun e => (by cases e), fun _ => rfl⟩
  rcases (hX v x).2 hv with q | q
  · exact h.far u v x hx q
  · have := h.t1.lt hx; omega

/-! ## The paths that differ -/

def difL (ns ms L : List Nd) : List ByteArray := (L.filter (fun m => diffB ns ms m.p)).map Nd.p

theorem difL_yes {ns ms L : List Nd} {i : Nat} {m : Nd} (hm : L[i]? = some m) (h : diffB ns ms m.p = true) : difL ns ms (L.take (i + 1)) = difL ns ms (L.take i) ++ [m.p] := by
  unfold difL
  rw [List.take_add_one, hm, List.filter_append, List.map_append]
  simp [h]

theorem difL_no {ns ms L : List Nd} {i : Nat} {m : Nd} (hm : L[i]? = some m) (h : diffB ns ms m.p = false) : difL ns ms (L.take (i + 1)) = difL ns ms (L.take i) := by
  unfold difL
  rw [List.take_add_one, hm, List.filter_append, List.map_append]
  simp [h]

theorem difL_len (ns ms L : List Nd) (i : Nat) : (difL ns ms (L.take i)).length ≤ i := by
  unfold difL
  rw [List.length_map]
  exact Nat.le_trans (List.length_filter_le _ _) (by rw [List.length_take]; omega)

theorem chg_eq {ns ms : List Nd} (h1 : validT ns = true) (h2 : validT ms = true) {zs : List ByteArray} (ha : AscP zs) (hm : ∀ p, p ∈ zs ↔ p ∈ difL ns ms (ns ++ ms)) : zs = chgL ns ms := by
  refine ascP_ext ha chg_asc fun p => ?_
  rw [hm]
  unfold chgL difL
  rw [h1, h2]
  simp only [Bool.and_self, if_true, List.mem_map, List.mem_filter, List.mem_append]
  rw [mergeP_mem _ ns ms (Nat.le_refl _)]
  constructor
  · rintro ⟨m, ⟨hm | hm, hd⟩, rfl⟩
    · exact ⟨.inl ⟨m, hm, rfl⟩, hd⟩
    · exact ⟨.inr ⟨m, hm, rfl⟩, hd⟩
  · rintro ⟨⟨m, hm, rfl⟩ | ⟨m, hm, rfl⟩, hd⟩
    · exact ⟨m, ⟨.inl hm, hd⟩, rfl⟩
    · exact ⟨m, ⟨.inr hm, hd⟩, rfl⟩

theorem chg_bad {ns ms : List Nd} (h : validT ns = false ∨ validT ms = false) : chgL ns ms = [] := by
  unfold chgL
  rcases h with h | h <;> simp [h]

def DifRel (ns ms L : List Nd) (r1 r2 : Nat) (sL : Value) (W : World) (o i : Value) (wr : World) : Prop :=
  ∃ (n : Nat) (A1 A2 : List UInt8 → Option Nat), i = .int .i64 n ∧ n ≤ L.length ∧ Hid (wr.ownsRow W.heap.size 9 1 o (difL ns ms (L.take n)).length ((difL ns ms (L.take n)).map Value.string)) ∧
    Hid (TwoT W.heap.size ns ms r1 r2 wr A1 A2) ∧ Hid (wr.ownsRow W.heap.size 42 3 sL L.length (flatN L)) ∧ Hid (Below W.heap.size W wr)

set_option maxHeartbeats 2000000 in
set_option maxRecDepth 100000 in
theorem implTreeChanged_c (a1 : Option Addr) (len1 cap1 : Nat) (ns : List Nd) (a2 : Option Addr) (len2 cap2 : Nat) (ms : List Nd) (hl1 : len1 ≤ 2097152) (hl2 : len2 ≤ 2097152) (hs1 : Short 2097152 ns) (hs2 : Short 2097152 ms) (W : World) (h1 : NodesAt W a1 len1 ns) (h2 : NodesAt W a2 len2 ms) :
    Calls Try.prog 24 #[.slice a1 len1 cap1, .slice a2 len2 cap2] W (TextsPost (chgL ns ms) W) := by
  obtain ⟨i0, hi, hz0, hz1, hz2⟩ := info_parts infoStr
  have HT1 := Lib.hid (treeOf_c a1 len1 cap1 ns hl1 hs1 W h1)
  have HT2 := Lib.hid (fun W' (hb : Below W.heap.size W W') => treeOf_c a2 len2 cap2 ms hl2 hs2 W' (h2.keep hb))
  have H1 := Lib.hid h1
  have H2 := Lib.hid h2
  clear h1 h2 hs1 hs2
  go_enter Try.func24, Try.ntmps24
  go_wp2_with fail
  refine HT1.out.mono ?_
  rintro e W1 ⟨hB1, h1⟩
  have HB1 := Lib.hid hB1
  have HT2' := Lib.hid (HT2.out W1 hB1)
  rcases h1 with ⟨hv1, rfl⟩ | ⟨hv1, A1, b1, rfl, hA10, hT1, hA1⟩
  · have HG := Lib.hid (chg_bad (ms := ms) (.inl hv1))
    clear hv1 hB1
    go_wp2_with fail
    refine HT2'.out.mono ?_
    rintro e W2 ⟨hB2, h2⟩
    have HB2 := Lib.hid (below_next HB1.out hB2)
    clear hB2
    rcases h2 with ⟨hv2, rfl⟩ | ⟨hv2, A2, b2, rfl, hA20, hT2, hA2⟩
    · clear hv2
      go_wp2
      refine bodyPost_ret (v := .slice none 0 0) (by simp [results, Try.f24, go_sem]) rfl (texts_nil HG.out HB2.out)
    · clear hv2 hA20 hT2 hA2
      go_wp2
      refine bodyPost_ret (v := .slice none 0 0) (by simp [results, Try.f24, go_sem]) rfl (texts_nil HG.out HB2.out)
  · have HV1 := Lib.hid hv1
    have HX1 := Lib.hid (And.intro hA10 (And.intro hT1 hA1))
    clear hv1 hA10 hT1 hA1 hB1
    go_wp2_with fail
    refine HT2'.out.mono ?_
    rintro e W2 ⟨hB2, h2⟩
    have HB2 := Lib.hid (below_next HB1.out hB2)
    have HB2' := Lib.hid hB2
    clear hB2
    rcases h2 with ⟨hv2, rfl⟩ | ⟨hv2, A2, b2, rfl, hA20, hT2, hA2⟩
    · have HG := Lib.hid (chg_bad (ns := ns) (.inr hv2))
      clear hv2
      go_wp2
      refine bodyPost_ret (v := .slice none 0 0) (by simp [results, Try.f24, go_sem]) rfl (texts_nil HG.out HB2.out)
    · have HV2 := Lib.hid hv2
      have HTT := Lib.hid (show TwoT W.heap.size ns ms b1 b2 W2 A1 A2 from ⟨HX1.out.2.1.below HB2'.out, hT2, HX1.out.1, hA20, fun u w b hu hw => by
        have := HX1.out.2.1.lt hu
        have := hA2 w b hw
        omega, HX1.out.2.2, fun u b hb => Nat.le_trans HB1.out.size (hA2 u b hb)⟩)
      clear hv2 hA20 hT2 hA2 HX1
      go_wp2_with fail
      have hL1 := ((validT_iff ns).1 HV1.out).2.2
      have hL2 := ((validT_iff ms).1 HV2.out).2.2
      obtain ⟨L, hL⟩ : ∃ L : List Nd, L = ns ++ ms := ⟨_, rfl⟩
      have HLL := Lib.hid hL
      have hLl : L.length ≤ 20 := by rw [hL, List.length_append]; omega
      have HR := Lib.hid (rows_two (c1 := cap1) (c2 := cap2) W2 (H1.out.keep HB2.out) (H2.out.keep HB2.out) 23)
      have HB3 := Lib.hid (below_next HB2.out (below_box W2 (.cells #[.slice a1 len1 cap1, .slice a2 len2 cap2] 23)))
      have HTT3 := Lib.hid (HTT.out.below (below_box W2 (.cells #[.slice a1 len1 cap1, .slice a2 len2 cap2] 23)))
      generalize W2.alloc (.cells #[.slice a1 len1 cap1, .slice a2 len2 cap2] 23) = W3 at HR HB3 HTT3 ⊢
      have HC := Lib.hid (show Calls Try.prog 44 #[.slice (some ⟨W2.heap.size, 0, none⟩) 2 2] W3 (fun e W' => OwnsNodes W3.heap.size L e W' ∧ Below W3.heap.size W3 W') by
        have e : allN [⟨a1, len1, cap1, ns⟩, ⟨a2, len2, cap2, ms⟩] = L := by rw [hL]; simp [allN]
        have := concatN_c W2.heap.size 0 2 [⟨a1, len1, cap1, ns⟩, ⟨a2, len2, cap2, ms⟩] (by simp) (by rw [e]; omega) W3 HR.out
        rw [e] at this
        exact this)
      have HOK := Lib.hid (show NdsOk L by
        rw [hL]
        intro n hn
        rcases List.mem_append.1 hn with hn | hn
        · exact nds_ok HV1.out n hn
        · exact nds_ok HV2.out n hn)
      have HLN := Lib.hid hLl
      clear hL hL1 hL2
      refine HC.out.mono ?_
      rintro e W4 ⟨⟨sL, rfl, ho4⟩, hb4⟩
      obtain ⟨aL, cL, rfl, hn4⟩ := nodes_of_own ho4
      have HO4 := Lib.hid (own_mono ho4 HB3.out.size)
      have HB4 := Lib.hid (below_next HB3.out hb4)
      have HTT4 := Lib.hid (HTT3.out.below hb4)
      clear ho4 hb4 hn4
      go_wp2_with fail
      go_loopw [9, 33] (fun o i wr => DifRel ns ms L b1 b2 (.slice aL L.length cL) W o i wr) (fun _ i _ => L.length - (intOf i).toNat)
      case atStart => exact ⟨0, A1, A2, rfl, by omega, World.ownsRow_nil _ _ _ _, HTT4.out, HO4.out, HB4.out⟩
      case round =>
        obtain ⟨i, B1, B2, rfl, hi1, HO, HTR, HLR, HB⟩ := hrel
        by_cases hlt : i < L.length
        · obtain ⟨aL', cL', heq, hnL⟩ := nodes_of_own HLR.out
          simp only [Value.slice.injEq, true_and] at heq
          obtain ⟨rfl, rfl⟩ := heq
          obtain ⟨b, off, m, rfl, hm, c0, c1, c2⟩ := hnL.node hlt
          have hlt' : (i : Int) < L.length := by omega
          have hi20 : (i : Int) ≤ 20 := by omega
          have HLT := Lib.hid hlt
          have HM := Lib.hid hm
          obtain ⟨p, k, v⟩ := m
          simp only at c0 c1 c2
          obtain ⟨w, hw, hpw⟩ := vpB_word (HOK.out _ (List.mem_of_getElem? hm)).1
          simp only at hpw
          obtain ⟨⟨k1, v1⟩, hk1⟩ : ∃ c, Fof ns w = c := ⟨_, rfl⟩
          obtain ⟨⟨k2, v2⟩, hk2⟩ : ∃ c, Fof ms w = c := ⟨_, rfl⟩
          obtain ⟨dd, hdd⟩ : ∃ dd, diffB ns ms p = dd := ⟨_, rfl⟩
          have HDD := Lib.hid hdd
          have hne := fun w' => (conNeq k1 v1 k2 v2 w').trans (show _ = Result.ok (Value.bool dd) w' by
            rw [← hdd, diff_bool ns ms p (k := k1) (v := v1) (k' := k2) (v' := v2) (by rw [hpw]; exact hk1) (by rw [hpw]; exact hk2)])
          have HW := Lib.hid hw
          have HPW := Lib.hid hpw
          have HK := Lib.hid (And.intro hk1 hk2)
          have hbw := HB.out.size
          have HT9 := Lib.hid (show TwoT W.heap.size ns ms b1 b2 (wr.alloc (.cells #[.string p, .int .i64 k, .int .i64 v] 42)).drew B1 B2 from
            let h := HTR.out.below (below_box wr (.cells #[.string p, .int .i64 k, .int .i64 v] 42)); ⟨⟨h.t1.wrd, h.t1.root, h.t1.inj, h.t1.up, h.t1.nil, h.t1.cells⟩, ⟨h.t2.wrd, h.t2.root, h.t2.inj, h.t2.up, h.t2.nil, h.t2.cells⟩, h.a1, h.a2, h.far, h.lo1, h.lo2⟩)
          have HBX := Lib.hid (show (wr.alloc (.cells #[.string p, .int .i64 k, .int .i64 v] 42)).drew.heap[wr.heap.size]? = some (.cells #[.string p, .int .i64 k, .int .i64 v] 42 (0, 0)) from World.alloc_heap_new wr _)
          have HS9 := Lib.hid (show W.heap.size ≤ (wr.alloc (.cells #[.string p, .int .i64 k, .int .i64 v] 42)).drew.heap.size by show _ ≤ (wr.alloc _).heap.size; rw [World.size_alloc]; omega)
          have HAT1 := Lib.hid (show Calls Try.prog 52 #[.pointer (some ⟨b1, 0, none⟩), .string p] (wr.alloc (.cells #[.string p, .int .i64 k, .int .i64 v] 42)).drew (FoundP W.heap.size ns ms b1 b2 true w (k1, v1) B1 B2 (wr.alloc (.cells #[.string p, .int .i64 k, .int .i64 v] 42)).drew) by
            rw [hpw]; rw [hpw] at HT9 HS9; exact at_first hw hk1 HT9.out HS9.out)
          have HAT2 := Lib.hid (fun (W' : World) (C1 C2 : List UInt8 → Option Nat) (hT : TwoT W.heap.size ns ms b1 b2 W' C1 C2) (hs : W.heap.size ≤ W'.heap.size) =>
            show Calls Try.prog 52 #[.pointer (some ⟨b2, 0, none⟩), .string p] W' (FoundP W.heap.size ns ms b1 b2 false w (k2, v2) C1 C2 W') by rw [hpw]; exact at_second hw hk2 hT hs)
          have HN0 := Lib.hid (show 42 ≠ 70 by decide)
          clear hlt hi1 hm hw hpw hk1 hk2 hdd hnL
          go_upto_region 9 with (fail)
          have HS0 : Hid ((wr.alloc (.cells #[.string p, .int .i64 k, .int .i64 v] 42)).drew.cell? ⟨wr.heap.size, 0, none⟩ = some (.string p)) := by
            show (wr.alloc _).cell? _ = _
            simp
          refine wp_region_held_drew (S := (fun w' => w'.cell? ⟨wr.heap.size, 0, none⟩ = some (.string p))) (by kernel_rfl) HS0.out (fun hH => ?_)
          refine wpAnyH_take (i := 0) (oi := _) (v := ?_) rfl (by kernel_rfl) (by kernel_rfl) (by kernel_rfl) (fun _ _ _ h => h) (Or.inl ⟨by rfl, ?hy1⟩) (by assumption) ?_
          case hy1 => (intro w hSw; (try dsimp only at hSw); go_simp; try with_reducible rfl)
          try simp only [Act.put, List.getElem_toArray, List.getElem_cons_zero, List.setIfInBounds_toArray, List.set_cons_zero, List.set_cons_succ]
          refine wpAnyH_take (i := 1) (oi := _) (v := ?_) rfl (by kernel_rfl) (by kernel_rfl) (by kernel_rfl) (fun _ _ _ h => h) (Or.inl ⟨by rfl, ?hy2⟩) (by assumption) ?_
          case hy2 => (intro w hSw; (try dsimp only at hSw); go_simp; try with_reducible rfl)
          try simp only [Act.put, List.getElem_toArray, List.getElem_cons_zero, List.getElem_cons_succ, List.setIfInBounds_toArray, List.set_cons_zero, List.set_cons_succ]
          refine wpAnyH_take (i := 2) (oi := _) (v := ?_) rfl (by kernel_rfl) (by kernel_rfl) (by kernel_rfl) (fun _ _ _ h => h) (Or.inl ⟨by rfl, ?hy3⟩) (by assumption) ?_
          case hy3 => (intro w hSw; (try dsimp only at hSw); go_simp; try with_reducible rfl)
          try simp only [Act.put, List.getElem_toArray, List.getElem_cons_zero, List.getElem_cons_succ, List.setIfInBounds_toArray, List.set_cons_zero, List.set_cons_succ]
          refine wpAnyH_take (i := 7) (oi := _) (v := ?_) rfl (by kernel_rfl) (by kernel_rfl) (by kernel_rfl) (fun _ _ _ h => h) (Or.inl ⟨by rfl, ?hy4⟩) (by assumption) ?_
          case hy4 => (intro w hSw; (try dsimp only at hSw); go_simp; try with_reducible rfl)
          try simp only [Act.put, List.getElem_toArray, List.getElem_cons_zero, List.getElem_cons_succ, List.setIfInBounds_toArray, List.set_cons_zero, List.set_cons_succ]
          refine wpAnyH_take (i := 8) (oi := _) (v := ?_) rfl (by kernel_rfl) (by kernel_rfl) (by kernel_rfl) (fun _ _ _ h => h) (Or.inl ⟨by rfl, ?hy5⟩) (by assumption) ?_
          case hy5 => (intro w hSw; (try dsimp only at hSw); go_simp; try with_reducible rfl)
          try simp only [Act.put, List.getElem_toArray, List.getElem_cons_zero, List.getElem_cons_succ, List.setIfInBounds_toArray, List.set_cons_zero, List.set_cons_succ]
          refine wpAnyH_take (i := 9) (oi := _) (v := ?_) rfl (by kernel_rfl) (by kernel_rfl) (by kernel_rfl) (fun _ _ _ h => h) (Or.inl ⟨by rfl, ?hy6⟩) (by assumption) ?_
          case hy6 => (intro w hSw; (try dsimp only at hSw); go_simp; try with_reducible rfl)
          try simp only [Act.put, List.getElem_toArray, List.getElem_cons_zero, List.getElem_cons_succ, List.setIfInBounds_toArray, List.set_cons_zero, List.set_cons_succ]
          refine wpAnyH_ready (rs := [3]) (by kernel_rfl) (by simp) ?_
          refine AllReadyH.cons rfl (fun K hK => ?_) AllReadyH.nil
          go_simp
          (go_at_call 52; (with_reducible refine (HAT1.out).mono ?_); rintro e W6 ⟨C1, C2, b6, rfl, hT6, hK6, c60, c61, hf6, -⟩; have hs6 := Nat.le_trans HS9.out hK6.low.size; have hf6' := hf6 rfl)
          refine hK.out _ _ ((hK6.cell HBX.out HN0.out 0).trans HS0.out) (fun hHeld => ?_)
          try simp only [Act.put, List.getElem_toArray, List.getElem_cons_zero, List.getElem_cons_succ, List.setIfInBounds_toArray, List.set_cons_zero, List.set_cons_succ]
          refine wpAnyH_take (i := 4) (oi := _) (v := ?_) rfl (by kernel_rfl) (by kernel_rfl) (by kernel_rfl) (fun _ _ _ h => h) (Or.inl ⟨by rfl, ?hy7⟩) (by assumption) ?_
          case hy7 => (intro w hSw; (try dsimp only at hSw); go_simp; try with_reducible rfl)
          try simp only [Act.put, List.getElem_toArray, List.getElem_cons_zero, List.getElem_cons_succ, List.setIfInBounds_toArray, List.set_cons_zero, List.set_cons_succ]
          refine wpAnyH_take (i := 5) (oi := _) (v := ?_) rfl (by kernel_rfl) (by kernel_rfl) (by kernel_rfl) (fun _ _ _ h => h) (Or.inl ⟨by rfl, ?hy8⟩) (by assumption) ?_
          case hy8 => (intro w hSw; (try dsimp only at hSw); go_simp; try with_reducible rfl)
          try simp only [Act.put, List.getElem_toArray, List.getElem_cons_zero, List.getElem_cons_succ, List.setIfInBounds_toArray, List.set_cons_zero, List.set_cons_succ]
          refine wpAnyH_ready (rs := [6, 10]) (by kernel_rfl) (by simp) ?_
          refine AllReadyH.cons rfl (fun K hK => ?_) (AllReadyH.cons rfl (fun K hK => ?_) AllReadyH.nil)
          go_simp
          refine hK.out _ _ ((hK6.cell HBX.out HN0.out 0).trans HS0.out) (fun hHeld => ?_)
          try simp only [Act.put, List.getElem_toArray, List.getElem_cons_zero, List.getElem_cons_succ, List.setIfInBounds_toArray, List.set_cons_zero, List.set_cons_succ]
          refine wpAnyH_ready (rs := [10]) (by kernel_rfl) (by simp) ?_
          refine AllReadyH.cons rfl (fun K hK => ?_) AllReadyH.nil
          go_simp
          (go_at_call 52; (with_reducible refine (HAT2.out _ _ _ hT6 hs6).mono ?_); rintro e W7 ⟨D1, D2, b7, rfl, hT7, hK7, c70, c71, -, hf7⟩; have e7 := hf7 rfl; have z60 := (trie_two hT7.t1 (by rw [e7]; exact hf6') HK.out.1).1; have z61 := (trie_two hT7.t1 (by rw [e7]; exact hf6') HK.out.1).2)
          refine hK.out _ _ ((hK7.cell ((hK6.typ _ _ _ _ HBX.out HN0.out).trans HBX.out) HN0.out 0).trans ((hK6.cell HBX.out HN0.out 0).trans HS0.out)) (fun hHeld => ?_)
          try simp only [Act.put, List.getElem_toArray, List.getElem_cons_zero, List.getElem_cons_succ, List.setIfInBounds_toArray, List.set_cons_zero, List.set_cons_succ]
          refine wpAnyH_take (i := 11) (oi := _) (v := ?_) rfl (by kernel_rfl) (by kernel_rfl) (by kernel_rfl) (fun _ _ _ h => h) (Or.inl ⟨by rfl, ?hy9⟩) (by assumption) ?_
          case hy9 => (intro w hSw; (try dsimp only at hSw); go_simp; try with_reducible rfl)
          try simp only [Act.put, List.getElem_toArray, List.getElem_cons_zero, List.getElem_cons_succ, List.setIfInBounds_toArray, List.set_cons_zero, List.set_cons_succ]
          refine wpAnyH_take (i := 12) (oi := _) (v := ?_) rfl (by kernel_rfl) (by kernel_rfl) (by kernel_rfl) (fun _ _ _ h => h) (Or.inl ⟨by rfl, ?hy10⟩) (by assumption) ?_
          case hy10 => (intro w hSw; (try dsimp only at hSw); go_simp; try with_reducible rfl)
          try simp only [Act.put, List.getElem_toArray, List.getElem_cons_zero, List.getElem_cons_succ, List.setIfInBounds_toArray, List.set_cons_zero, List.set_cons_succ]
          refine wpAnyH_ready (rs := [13]) (by kernel_rfl) (by simp) ?_
          refine AllReadyH.cons rfl (fun K hK => ?_) AllReadyH.nil
          go_simp
          refine hK.out _ _ ((hK7.cell ((hK6.typ _ _ _ _ HBX.out HN0.out).trans HBX.out) HN0.out 0).trans ((hK6.cell HBX.out HN0.out 0).trans HS0.out)) (fun hHeld => ?_)
          try simp only [Act.put, List.getElem_toArray, List.getElem_cons_zero, List.getElem_cons_succ, List.setIfInBounds_toArray, List.set_cons_zero, List.set_cons_succ]
          refine wpAnyH_take (i := 14) (oi := _) (v := ?_) rfl (by kernel_rfl) (by kernel_rfl) (by kernel_rfl) (fun _ _ _ h => h) (Or.inl ⟨by rfl, ?hy11⟩) (by assumption) ?_
          case hy11 => (intro w hSw; (try dsimp only at hSw); go_simp; try with_reducible rfl)
          try simp only [Act.put, List.getElem_toArray, List.getElem_cons_zero, List.getElem_cons_succ, List.setIfInBounds_toArray, List.set_cons_zero, List.set_cons_succ]
          refine wpAnyH_done (by kernel_rfl) ?_ _
          rotate_left
          go_simp
          (go_at_call 52; (with_reducible refine (HAT2.out _ _ _ hT6 hs6).mono ?_); rintro e W7 ⟨D1, D2, b7, rfl, hT7, hK7, c70, c71, -, hf7⟩; have e7 := hf7 rfl; have z60 := (trie_two hT7.t1 (by rw [e7]; exact hf6') HK.out.1).1; have z61 := (trie_two hT7.t1 (by rw [e7]; exact hf6') HK.out.1).2)
          refine hK.out _ _ ((hK7.cell ((hK6.typ _ _ _ _ HBX.out HN0.out).trans HBX.out) HN0.out 0).trans ((hK6.cell HBX.out HN0.out 0).trans HS0.out)) (fun hHeld => ?_)
          try simp only [Act.put, List.getElem_toArray, List.getElem_cons_zero, List.getElem_cons_succ, List.setIfInBounds_toArray, List.set_cons_zero, List.set_cons_succ]
          refine wpAnyH_take (i := 11) (oi := _) (v := ?_) rfl (by kernel_rfl) (by kernel_rfl) (by kernel_rfl) (fun _ _ _ h => h) (Or.inl ⟨by rfl, ?hy12⟩) (by assumption) ?_
          case hy12 => (intro w hSw; (try dsimp only at hSw); go_simp; try with_reducible rfl)
          try simp only [Act.put, List.getElem_toArray, List.getElem_cons_zero, List.getElem_cons_succ, List.setIfInBounds_toArray, List.set_cons_zero, List.set_cons_succ]
          refine wpAnyH_take (i := 12) (oi := _) (v := ?_) rfl (by kernel_rfl) (by kernel_rfl) (by kernel_rfl) (fun _ _ _ h => h) (Or.inl ⟨by rfl, ?hy13⟩) (by assumption) ?_
          case hy13 => (intro w hSw; (try dsimp only at hSw); go_simp; try with_reducible rfl)
          try simp only [Act.put, List.getElem_toArray, List.getElem_cons_zero, List.getElem_cons_succ, List.setIfInBounds_toArray, List.set_cons_zero, List.set_cons_succ]
          refine wpAnyH_ready (rs := [6, 13]) (by kernel_rfl) (by simp) ?_
          refine AllReadyH.cons rfl (fun K hK => ?_) (AllReadyH.cons rfl (fun K hK => ?_) AllReadyH.nil)
          go_simp
          refine hK.out _ _ ((hK7.cell ((hK6.typ _ _ _ _ HBX.out HN0.out).trans HBX.out) HN0.out 0).trans ((hK6.cell HBX.out HN0.out 0).trans HS0.out)) (fun hHeld => ?_)
          try simp only [Act.put, List.getElem_toArray, List.getElem_cons_zero, List.getElem_cons_succ, List.setIfInBounds_toArray, List.set_cons_zero, List.set_cons_succ]
          refine wpAnyH_ready (rs := [13]) (by kernel_rfl) (by simp) ?_
          refine AllReadyH.cons rfl (fun K hK => ?_) AllReadyH.nil
          go_simp
          refine hK.out _ _ ((hK7.cell ((hK6.typ _ _ _ _ HBX.out HN0.out).trans HBX.out) HN0.out 0).trans ((hK6.cell HBX.out HN0.out 0).trans HS0.out)) (fun hHeld => ?_)
          try simp only [Act.put, List.getElem_toArray, List.getElem_cons_zero, List.getElem_cons_succ, List.setIfInBounds_toArray, List.set_cons_zero, List.set_cons_succ]
          refine wpAnyH_take (i := 14) (oi := _) (v := ?_) rfl (by kernel_rfl) (by kernel_rfl) (by kernel_rfl) (fun _ _ _ h => h) (Or.inl ⟨by rfl, ?hy14⟩) (by assumption) ?_
          case hy14 => (intro w hSw; (try dsimp only at hSw); go_simp; try with_reducible rfl)
          try simp only [Act.put, List.getElem_toArray, List.getElem_cons_zero, List.getElem_cons_succ, List.setIfInBounds_toArray, List.set_cons_zero, List.set_cons_succ]
          refine wpAnyH_done (by kernel_rfl) ?_ _
          rotate_left
          go_simp
          refine hK.out _ _ ((hK7.cell ((hK6.typ _ _ _ _ HBX.out HN0.out).trans HBX.out) HN0.out 0).trans ((hK6.cell HBX.out HN0.out 0).trans HS0.out)) (fun hHeld => ?_)
          try simp only [Act.put, List.getElem_toArray, List.getElem_cons_zero, List.getElem_cons_succ, List.setIfInBounds_toArray, List.set_cons_zero, List.set_cons_succ]
          refine wpAnyH_ready (rs := [6]) (by kernel_rfl) (by simp) ?_
          refine AllReadyH.cons rfl (fun K hK => ?_) AllReadyH.nil
          go_simp
          refine hK.out _ _ ((hK7.cell ((hK6.typ _ _ _ _ HBX.out HN0.out).trans HBX.out) HN0.out 0).trans ((hK6.cell HBX.out HN0.out 0).trans HS0.out)) (fun hHeld => ?_)
          try simp only [Act.put, List.getElem_toArray, List.getElem_cons_zero, List.getElem_cons_succ, List.setIfInBounds_toArray, List.set_cons_zero, List.set_cons_succ]
          refine wpAnyH_take (i := 14) (oi := _) (v := ?_) rfl (by kernel_rfl) (by kernel_rfl) (by kernel_rfl) (fun _ _ _ h => h) (Or.inl ⟨by rfl, ?hy15⟩) (by assumption) ?_
          case hy15 => (intro w hSw; (try dsimp only at hSw); go_simp; try with_reducible rfl)
          try simp only [Act.put, List.getElem_toArray, List.getElem_cons_zero, List.getElem_cons_succ, List.setIfInBounds_toArray, List.set_cons_zero, List.set_cons_succ]
          refine wpAnyH_done (by kernel_rfl) ?_ _
          all_goals
            have hKP := hK6.trans hK7
            have HO7 := Lib.hid (hKP.row (show (wr.alloc (.cells #[.string p, .int .i64 k, .int .i64 v] 42)).drew.ownsRow W.heap.size 9 1 u9 _ _ from HO.out.alloc _) (by decide))
            have HL7 := Lib.hid (hKP.row (show (wr.alloc (.cells #[.string p, .int .i64 k, .int .i64 v] 42)).drew.ownsRow W.heap.size 42 3 (.slice (some ⟨b, off, none⟩) L.length cL) L.length (flatN L) from HLR.out.alloc _) (by decide))
            have HT7 := Lib.hid hT7
            have HB7 := Lib.hid (show Below W.heap.size W W7 from (HB.out.trans ((below_box wr (.cells #[.string p, .int .i64 k, .int .i64 v] 42)).mono hbw)).trans (show Below W.heap.size (wr.alloc (.cells #[.string p, .int .i64 k, .int .i64 v] 42)) W7 from ⟨hKP.low.os, hKP.low.tape, hKP.low.output, hKP.low.size, hKP.low.block⟩))
            have hc7 : W7.cell? ⟨wr.heap.size, 0, none⟩ = some (.string p) := (hKP.cell HBX.out HN0.out 0).trans HS0.out
            have hlt0 := HO7.out.lt
            have hdl := difL_len ns ms L i
            have HDL := Lib.hid hdl
            clear hKP hK6 hK7 hT6 hT7 c60 c61 c70 c71 hf6 hf7 hf6' e7 z60 z61 hs6 hdl
            cases dd with
            | false =>
              have HNX := Lib.hid (difL_no (ns := ns) (ms := ms) HM.out HDD.out)
              clear c0 c1 c2 hlt0
              go_wp2
              go_roundw
              case rel => exact ⟨i + 1, D1, D2, by push_cast; rfl, by have := HLT.out; omega, by rw [HNX.out]; exact HO7.out, HT7.out, HL7.out, HB7.out⟩
              case measure => have := HLT.out; simp [intOf]; omega
            | true =>
              have HNX := Lib.hid (difL_yes (ns := ns) (ms := ms) HM.out HDD.out)
              have hsz7 := HB7.out.size
              clear c0 c1 c2
              go_wp2_with (at_builtin; refine wpList_append_own _ rfl _ _ 27 rfl W.heap.size 9 i0 (.string ⟨#[]⟩) 1 16 Try.underlying27 hi hz0 hz1 hz2 rfl (by decide) _ _ _ rfl (HO7.out.alloc _) ⟨W7.heap.size, 0, none⟩ 1 1 [.string p] rfl rfl (cell_one_new W7 (.string p) 9) (fun y hy => by simp at hy; subst hy; rfl) (by unfold maxLen; have h5 := HDL.out; have h6 := HLT.out; have h7 := HLN.out; omega) (by have h5 := HDL.out; have h6 := HLT.out; have h7 := HLN.out; omega) (by simp; omega) ?_; intro v3 w3 ho3 hg3 hn3)
              have B3 : Below W.heap.size W w3 := (HB7.out.alloc hsz7 _).grown hg3 (by simp; omega) (fun g e => (hlt0 g e).1)
              have HO7' := Lib.hid (HO7.out.alloc (.cells #[.string p] 9))
              have HT3 := Lib.hid ((HT7.out.below (below_box W7 (.cells #[.string p] 9))).grown HO7'.out (by decide) hg3)
              have HL3 := Lib.hid (row_apart (HL7.out.alloc (.cells #[.string p] 9)) HO7'.out (by decide) hg3)
              go_roundw
              case rel => exact ⟨i + 1, D1, D2, by push_cast; rfl, by have := HLT.out; omega, by rw [HNX.out, List.length_append, List.map_append]; exact ho3, HT3.out, HL3.out, B3⟩
              case measure => have := HLT.out; simp [intOf]; omega
        · have hieq : i = L.length := by omega
          subst hieq
          rw [List.take_length] at HO
          have hge : (L.length : Int) ≤ L.length := by omega
          have hdl : (difL ns ms L).length ≤ 20 := by have := difL_len ns ms L L.length; rw [List.take_length] at this; omega
          have HSO := Lib.hid (sortS_c W.heap.size u9 (difL ns ms L) (by omega) wr HO.out)
          have HDL := Lib.hid hdl
          have hlt0 := HO.out.lt
          clear hlt hi1 hdl
          go_wp2_with fail
          refine HSO.out.mono ?_
          rintro e W8 ⟨rfl, ys, hd8, hl8, hm8, ho8, hg8⟩
          have B8 := Lib.hid (show Below W.heap.size W W8 from HB.out.grown hg8 HB.out.size (fun g e => (hlt0 g e).1))
          have HCO := Lib.hid (compactS_c W.heap.size u9 ys (by have := HDL.out; omega) hd8 W8 ho8)
          have hlt8 := ho8.lt
          have HM8 := Lib.hid hm8
          clear hd8 hl8 hm8 ho8 hg8 hlt0
          go_wp2_with fail
          refine HCO.out.mono ?_
          rintro e W9 ⟨⟨v9, zs, rfl, ha9, hm9, ho9⟩, hg9⟩
          have B9 := Lib.hid (show Below W.heap.size W W9 from B8.out.grown hg9 B8.out.size (fun g e => (hlt8 g e).1))
          have HEQ := Lib.hid (chg_eq HV1.out HV2.out ha9 (fun p => by rw [hm9 p, HM8.out p, HLL.out]))
          have HO9 := Lib.hid ho9
          clear ha9 hm9 ho9 hg9 hlt8
          go_wp2
          refine bodyPost_ret (v := v9) (by simp [results, Try.f24, go_sem]) rfl ⟨⟨v9, rfl, ?_⟩, B9.out⟩
          rw [← HEQ.out]
          exact HO9.out

end Go.Proofs.Ytmdidhlfpaganaa

/-
  The program's three functions of stage 5, for the laws.
-/
namespace Go.Proofs.Ytmdidhlfpaganaa
end Go.Proofs.Ytmdidhlfpaganaa

/-
  WALKS: laws.sameInts, laws.sameTable, at equal lists.
-/
namespace Go.Proofs.Ytmdidhlfpaganaa
open Go.RowKit
set_option linter.unusedVariables false

def SameRel (len : Nat) (W : World) (i : Value) (wr : World) : Prop := ∃ n : Nat, i = .int .i64 n ∧ n ≤ len ∧ Hid (Below W.heap.size W wr)

theorem below_drewN1 {n : Nat} {W W' : World} (h : Below n W W') (k : Nat) : Below n W (W'.drewN k) := by
  have e := (drewN_cell W' k ⟨0, 0, none⟩).2.2
  exact ⟨h.os, h.tape, h.output, by rw [e]; exact h.size, fun j hj => by rw [e]; exact h.block j hj⟩

set_option maxHeartbeats 1000000 in
theorem sameInts_c (a1 a2 : Option Addr) (len c1 c2 : Nat) (zs : List Int) (hl : len ≤ 2097152) (W : World) (h1 : IntsAt W a1 len zs) (h2 : IntsAt W a2 len zs) :
    Calls Try.prog 21 #[.slice a1 len c1, .slice a2 len c2] W (BoolPost true W) := by
  have H1 := Lib.hid h1
  have H2 := Lib.hid h2
  clear h1 h2
  go_enter Try.func21, Try.ntmps21
  go_wp2
  go_loopw [5] (fun i wr => SameRel len W i wr) (fun i _ => len - (intOf i).toNat)
  case atStart => exact ⟨0, rfl, by omega, Below.refl _ _⟩
  case round =>
    obtain ⟨i, rfl, hi, HB⟩ := hrel
    by_cases hlt : i < len
    · obtain ⟨b, off, n, rfl, hn, x0⟩ := (H1.out.keep HB.out).at hlt
      obtain ⟨b', off', n', rfl, hn', y0⟩ := (H2.out.keep HB.out).at hlt
      obtain rfl : n = n' := Option.some.inj (hn.symm.trans hn')
      have hlt' : (i : Int) < len := by omega
      have hi0 : (0 : Int) ≤ i := by omega
      have HLT := Lib.hid hlt
      clear hi hlt hn hn'
      go_wp2
      go_quiet (fail)
      have HB2 := Lib.hid (below_drewN1 HB.out nq)
      clear x0 y0
      go_wp2
      go_roundw
      case rel => exact ⟨i + 1, by go_num, by have := HLT.out; omega, HB2⟩
      case measure => have := HLT.out; simp [intOf]; omega
    · have hge : (len : Int) ≤ i := by omega
      clear hi hlt
      go_wp2
      go_ret
      exact ⟨rfl, HB.out⟩

theorem tab_of_own {W : World} {base : Nat} {e : TypeId} {v : Value} {vs : List Value} {bs : List (List Int)} (h : W.ownsRow base e 1 v bs.length vs) (hi : Inner W base vs bs) :
    ∃ a cap, v = .slice a bs.length cap ∧ TabAt W a bs.length bs := by
  rcases h.2 with ⟨rfl, h0⟩ | ⟨g, cap, cur, rfl, h1, h2, h3, h4, h5, h6⟩
  · exact ⟨none, 0, by rw [h0], rfl, .inl h0⟩
  · refine ⟨some ⟨g, 0, none⟩, cap, rfl, rfl, .inr ⟨g, 0, rfl, fun i z hz => ?_⟩⟩
    have hlt := (List.getElem?_eq_some_iff.1 hz).1
    obtain ⟨u, hu⟩ : ∃ u, vs[i]? = some u := ⟨_, List.getElem?_eq_getElem (by have := hi.1; omega)⟩
    obtain ⟨ai, ci, rfl, hz2⟩ := ints_of_own (hi.2.1 i z u hz hu)
    refine ⟨ai, ci, ?_, hz2⟩
    rw [Nat.zero_add, h.cellAt i (by omega)]
    exact hu

end Go.Proofs.Ytmdidhlfpaganaa

/-
  WALKS: laws.hasText; laws.sameNodes at any two lists.
-/
namespace Go.Proofs.Ytmdidhlfpaganaa
open Go.RowKit
set_option linter.unusedVariables false

set_option maxHeartbeats 1000000 in
set_option maxRecDepth 100000 in
theorem hasText_c (a : Option Addr) (len cap : Nat) (xs : List ByteArray) (s : ByteArray) (hl : len ≤ 2097152) (W : World) (h : TextsAt W a len xs) :
    Calls Try.prog 27 #[.slice a len cap, .string s] W fun e W' => (∃ r : Bool, e = .returned (.bool r) ∧ (r = true ↔ s ∈ xs)) ∧ Below W.heap.size W W' := by
  have H := Lib.hid h
  have HE := Lib.hid h.1
  have hl' : (len : Int) ≤ 2097152 := by omega
  clear h
  go_enter Try.func27, Try.ntmps27
  go_wp2
  go_loopw [5] (fun i wr => ∃ n : Nat, i = .int .i64 n ∧ n ≤ len ∧ Hid (s ∉ xs.take n) ∧ Hid (Below W.heap.size W wr)) (fun i _ => len - (intOf i).toNat)
  case atStart => exact ⟨0, rfl, by omega, (by show s ∉ List.take 0 xs; simp), Below.refl _ _⟩
  case round =>
    obtain ⟨i, rfl, hi, HNI, HB⟩ := hrel
    by_cases hlt : i < len
    · obtain ⟨b, off, x, rfl, hx, x0⟩ := (H.out.keep HB.out).node hlt
      have hlt' : (i : Int) < len := by omega
      have HLT := Lib.hid hlt
      by_cases he : x = s
      · have hbe : (x.toList == s.toList) = true := by rw [he]; simp
        have HM := Lib.hid (show s ∈ xs by rw [← he]; exact List.mem_of_getElem? hx)
        clear hi hlt hx he
        go_wp2
        go_ret
        exact ⟨⟨true, rfl, by simp [HM.out]⟩, HB.out⟩
      · have hbe : (x.toList == s.toList) = false := toList_ne he
        have HM : Hid (s ∉ xs.take (i + 1)) := by
          show s ∉ xs.take (i + 1)
          rw [List.take_add_one, hx]
          simp only [Option.toList_some, List.mem_append, List.mem_singleton, not_or]
          exact ⟨HNI.out, fun e => he e.symm⟩
        clear hi hlt hx he
        go_wp2
        go_roundw
        case rel => exact ⟨i + 1, by push_cast; rfl, by have := HLT.out; omega, HM, HB⟩
        case measure => have := HLT.out; simp [intOf]; omega
    · have hge : (len : Int) ≤ i := by omega
      have HM := Lib.hid (show s ∉ xs by have := HNI.out; rwa [List.take_of_length_le (by have := HE.out; omega)] at this)
      clear hi hlt
      go_wp2
      go_ret
      exact ⟨⟨false, rfl, by simp [HM.out]⟩, HB.out⟩

def nodeB (x y : Nd) : Bool := x.p.toList == y.p.toList && (x.k == y.k && x.v == y.v)
theorem nodeB_iff (x y : Nd) : nodeB x y = true ↔ x = y := by
  unfold nodeB
  simp only [Bool.and_eq_true, beq_iff_eq]
  constructor
  · rintro ⟨h1, h2, h3⟩
    have : x.p = y.p := by
      rw [Lib.toList_data, Lib.toList_data] at h1
      rw [← Lib.mk_data x.p, ← Lib.mk_data y.p, h1]
    cases x; cases y; simp_all
  · rintro rfl; exact ⟨rfl, rfl, rfl⟩

theorem nodeNeq (x y : Nd) (w : World) : (binOp .neq 42 (.agg #[.string x.p, .int .i64 x.k, .int .i64 x.v]) (.agg #[.string y.p, .int .i64 y.k, .int .i64 y.v])).run Try.prog w = .ok (.bool (!nodeB x y)) w := by
  unfold nodeB
  cases h : (x.p.toList == y.p.toList)
  · simp [binOp, go_sem, Op.equal, Op.maxDepth, h]
  · by_cases h1 : x.k = y.k
    · by_cases h2 : x.v = y.v
      · simp [binOp, go_sem, Op.equal, Op.maxDepth, h, h1, h2]
      · simp [binOp, go_sem, Op.equal, Op.maxDepth, h, h1, h2]
    · have : (x.k == y.k) = false := beq_eq_false_iff_ne.2 h1
      simp [binOp, go_sem, Op.equal, Op.maxDepth, h, this]

def SameNRel (ns ms : List Nd) (len : Nat) (W : World) (i : Value) (wr : World) : Prop := ∃ n : Nat, i = .int .i64 n ∧ n ≤ len ∧ Hid (ns.take n = ms.take n) ∧ Hid (Below W.heap.size W wr)

set_option maxHeartbeats 1000000 in
set_option maxRecDepth 100000 in
theorem sameNodesB_c (a1 a2 : Option Addr) (l1 l2 c1 c2 : Nat) (ns ms : List Nd) (hl1 : l1 ≤ 2097152) (hl2 : l2 ≤ 2097152) (W : World) (h1 : NodesAt W a1 l1 ns) (h2 : NodesAt W a2 l2 ms) :
    Calls Try.prog 28 #[.slice a1 l1 c1, .slice a2 l2 c2] W fun e W' => (∃ r : Bool, e = .returned (.bool r) ∧ (r = true ↔ ns = ms)) ∧ Below W.heap.size W W' := by
  have H1 := Lib.hid h1
  have H2 := Lib.hid h2
  have HE1 := Lib.hid h1.1
  have HE2 := Lib.hid h2.1
  clear h1 h2
  by_cases hne : l1 = l2
  · subst hne
    have hl' : (l1 : Int) ≤ 2097152 := by omega
    go_enter Try.func28, Try.ntmps28
    go_wp2
    go_loopw [5] (fun i wr => SameNRel ns ms l1 W i wr) (fun i _ => l1 - (intOf i).toNat)
    case atStart => exact ⟨0, rfl, by omega, rfl, Below.refl _ _⟩
    case round =>
      obtain ⟨i, rfl, hi, HS, HB⟩ := hrel
      by_cases hlt : i < l1
      · obtain ⟨b, off, n, rfl, hn, x0, x1, x2⟩ := (H1.out.keep HB.out).node hlt
        obtain ⟨b', off', n', rfl, hn', y0, y1, y2⟩ := (H2.out.keep HB.out).node hlt
        have hlt' : (i : Int) < l1 := by omega
        have hi0 : (0 : Int) ≤ i := by omega
        have HLT := Lib.hid hlt
        have hnq := fun w => nodeNeq n n' w
        obtain ⟨dd, hdd⟩ : ∃ dd, nodeB n n' = dd := ⟨_, rfl⟩
        rw [hdd] at hnq
        have HDD := Lib.hid hdd
        have HN := Lib.hid (And.intro hn hn')
        clear hi hlt hn hn' hdd
        go_wp2
        go_quiet (fail)
        have HB2 := Lib.hid (below_drewN HB.out nq)
        clear x0 x1 x2 y0 y1 y2
        cases dd with
        | true =>
          have HS2 : Hid (ns.take (i + 1) = ms.take (i + 1)) := by
            show ns.take (i + 1) = ms.take (i + 1)
            rw [List.take_add_one, List.take_add_one, HN.out.1, HN.out.2, HS.out, (nodeB_iff n n').1 HDD.out]
          go_wp2
          go_roundw
          case rel => exact ⟨i + 1, by push_cast; rfl, by have := HLT.out; omega, HS2, HB2⟩
          case measure => have := HLT.out; simp [intOf]; omega
        | false =>
          have HF := Lib.hid (show ¬ ns = ms from fun e => by
            have h3 := HN.out.1
            rw [e, HN.out.2] at h3
            have := (nodeB_iff n n').2 (Option.some.inj h3).symm
            rw [HDD.out] at this; cases this)
          go_wp2
          go_ret
          exact ⟨⟨false, rfl, by simp [HF.out]⟩, HB2.out⟩
      · have hge : (l1 : Int) ≤ i := by omega
        have HT := Lib.hid (show ns = ms by
          have := HS.out
          rwa [List.take_of_length_le (by have := HE1.out; omega), List.take_of_length_le (by have := HE2.out; omega)] at this)
        clear hi hlt
        go_wp2
        go_ret
        exact ⟨⟨true, rfl, by simp [HT.out]⟩, HB.out⟩
  · have hb : ((l1 : Int) == l2) = false := beq_eq_false_iff_ne.2 (by omega)
    have hb' : ((l1 : Int) != l2) = true := by simp [bne, hb]
    have HF := Lib.hid (show ¬ ns = ms from fun e => hne (by rw [← HE1.out, ← HE2.out, e]))
    clear hne
    go_enter Try.func28, Try.ntmps28
    go_wp2
    go_ret
    exact ⟨⟨false, rfl, by simp [HF.out]⟩, Below.refl _ _⟩

end Go.Proofs.Ytmdidhlfpaganaa

/-
  AN ARGUMENT THAT IS A LIST OF NODES, opened to its cells.
-/
namespace Go.Proofs.Ytmdidhlfpaganaa
open Go.ChangeShapes Go.WideShapes Go.Deep

theorem len_three {α : Type} : ∀ {l : List α}, l.length = 3 → ∃ a b c, l = [a, b, c]
  | [a, b, c], _ => ⟨a, b, c, rfl⟩
theorem len_two {α : Type} : ∀ {l : List α}, l.length = 2 → ∃ a b, l = [a, b]
  | [a, b], _ => ⟨a, b, rfl⟩

theorem spot_none {w : World} {a : Addr} {v : Value} (h : w.cell? a = some v) : a.spot = none := by
  unfold World.cell? at h
  split at h
  · split at h
    · cases h
    · rename_i hs; simpa using hs
  · cases h

section
variable {H : Type} {enc : TypeId × Value → H} {w : World} {base : Nat} {spare : Nat → Bool} {held : Bool}

theorem open_node {fuel : Nat} {cs : List Value} {x : DataW H × List MemPlace} (h : DataW.trod enc Try.prog w base spare held fuel 87 cs = some x) :
    ∃ n : Nd, cs = [.string n.p, .int .i64 n.k, .int .i64 n.v] ∧ n.p.size ≤ maxLen := by
  obtain ⟨xs, n, _, _, hl, hxl, hf⟩ := DataW.trod_struct Try.underlying87 h
  have hl3 : cs.length = 3 := hl.trans (by kernel_rfl)
  obtain ⟨c0, c1, c2, rfl⟩ : ∃ c0 c1 c2, cs = [c0, c1, c2] := len_three hl3
  obtain ⟨x0, x1, rfl⟩ : ∃ x0 x1, xs = [x0, x1] := len_two hxl
  have h0 : DataW.trod enc Try.prog w base spare held n 9 (([c0, c1, c2].drop 0).take (Try.prog.cellsOf 9)) = some x0 := hf 0 _ rfl
  have h1 : DataW.trod enc Try.prog w base spare held n 85 (([c0, c1, c2].drop 1).take (Try.prog.cellsOf 85)) = some x1 := hf 1 _ rfl
  rw [(by kernel_rfl : Try.prog.cellsOf 9 = 1)] at h0
  rw [(by kernel_rfl : Try.prog.cellsOf 85 = 2)] at h1
  obtain ⟨s, hs, _, hsz⟩ := DataW.trod_string Try.underlying9 (show DataW.trod enc Try.prog w base spare held n 9 [c0] = some x0 from h0)
  obtain ⟨ys, m, _, _, _, hyl, hg⟩ := DataW.trod_struct Try.underlying85 (show DataW.trod enc Try.prog w base spare held n 85 [c1, c2] = some x1 from h1)
  obtain ⟨y0, y1, rfl⟩ : ∃ y0 y1, ys = [y0, y1] := len_two hyl
  have h2 : DataW.trod enc Try.prog w base spare held m 3 (([c1, c2].drop 0).take (Try.prog.cellsOf 3)) = some y0 := hg 0 _ rfl
  have h3 : DataW.trod enc Try.prog w base spare held m 3 (([c1, c2].drop 1).take (Try.prog.cellsOf 3)) = some y1 := hg 1 _ rfl
  rw [(by kernel_rfl : Try.prog.cellsOf 3 = 1)] at h2
  rw [(by kernel_rfl : Try.prog.cellsOf 3 = 1)] at h3
  obtain ⟨k, hk, _⟩ := DataW.trod_int Try.underlying3 (show DataW.trod enc Try.prog w base spare held m 3 [c1] = some y0 from h2)
  obtain ⟨v, hv, _⟩ := DataW.trod_int Try.underlying3 (show DataW.trod enc Try.prog w base spare held m 3 [c2] = some y1 from h3)
  simp at hs hk hv
  subst hs; subst hk; subst hv
  exact ⟨⟨s, k, v⟩, rfl, hsz⟩

theorem open_nodes {fuel : Nat} {a : Option Addr} {len cap : Nat} {x : DataW H × List MemPlace} (h : DataW.trod enc Try.prog w base spare held fuel 51 [.slice a len cap] = some x) :
    ∃ ns : List Nd, NodesAt w a len ns ∧ len ≤ maxLen ∧ Short maxLen ns := by
  rcases open_slice Try.underlying51 h with ⟨h0, _⟩ | ⟨ad, len', cap', m, n, D, Pl, hcs, _, hl, hm, hmm, _, hi⟩
  · simp at h0
    obtain ⟨rfl, rfl, rfl⟩ := h0
    exact ⟨[], ⟨rfl, .inl rfl⟩, by unfold maxLen; omega, fun n hn => by cases hn⟩
  · simp at hcs
    obtain ⟨rfl, rfl, rfl⟩ := hcs
    have hlm : len ≤ m := by rw [hmm]; split <;> omega
    have hel : ∀ i, i < len → ∃ nd : Nd, w.cell? (ad.add (i * 3)) = some (.string nd.p) ∧ w.cell? (ad.add (i * 3 + 1)) = some (.int .i64 nd.k) ∧ w.cell? (ad.add (i * 3 + 2)) = some (.int .i64 nd.v) ∧ nd.p.size ≤ maxLen := by
      intro i hil
      obtain ⟨cs, hc, ht⟩ := hi i (by omega)
      rw [show Try.prog.cellsOf 87 = 3 by kernel_rfl] at hc
      obtain ⟨nd, rfl, hsz⟩ := open_node ht
      obtain ⟨_, hcl, hat⟩ := World.cells?_some hc
      refine ⟨nd, ?_, ?_, ?_, hsz⟩
      · have := hat 0 (by omega)
        rw [Go.Deep.add_add] at this; exact this
      · have := hat 1 (by omega)
        rw [Go.Deep.add_add] at this; exact this
      · have := hat 2 (by omega)
        rw [Go.Deep.add_add] at this; exact this
    obtain ⟨f, hf⟩ : ∃ f : Nat → Nd, ∀ i, i < len → w.cell? (ad.add (i * 3)) = some (.string (f i).p) ∧ w.cell? (ad.add (i * 3 + 1)) = some (.int .i64 (f i).k) ∧ w.cell? (ad.add (i * 3 + 2)) = some (.int .i64 (f i).v) ∧ (f i).p.size ≤ maxLen :=
      ⟨fun i => if h : i < len then Classical.choose (hel i h) else ⟨⟨#[]⟩, 0, 0⟩, fun i hil => by
        simp only [dif_pos hil]
        exact Classical.choose_spec (hel i hil)⟩
    have hget : ∀ i n, ((List.range len).map f)[i]? = some n → i < len ∧ n = f i := by
      intro i n hn
      rw [List.getElem?_map] at hn
      by_cases hil : i < len
      · rw [List.getElem?_range hil] at hn
        exact ⟨hil, by simpa using hn.symm⟩
      · rw [List.getElem?_eq_none (by simpa using hil)] at hn; cases hn
    refine ⟨(List.range len).map f, ⟨by simp, ?_⟩, by omega, fun n hn => ?_⟩
    · by_cases h0 : len = 0
      · exact .inl h0
      · right
        have hsp := spot_none (hf 0 (by omega)).1
        obtain ⟨b, off, sp⟩ := ad
        have hsp' : sp = none := by
          simp [Addr.add] at hsp
          exact hsp
        subst hsp'
        have hadd : ∀ j, (⟨b, off, none⟩ : Addr).add j = ⟨b, off + j, none⟩ := fun j => by
          unfold Addr.add
          split
          · rename_i hj; rw [hj]; rfl
          · rfl
        refine ⟨b, off, rfl, fun i n hn => ?_⟩
        obtain ⟨hil, rfl⟩ := hget i n hn
        obtain ⟨c0, c1, c2, _⟩ := hf i hil
        rw [hadd] at c0 c1 c2
        exact ⟨c0, c1, c2⟩
    · obtain ⟨i, hi2⟩ := List.getElem?_of_mem hn
      obtain ⟨hil, rfl⟩ := hget i n hi2
      exact (hf i hil).2.2.2
end

end Go.Proofs.Ytmdidhlfpaganaa

/-
  WALKS: laws.eqContent at equal contents.
-/
namespace Go.Proofs.Ytmdidhlfpaganaa
open Go.RowKit

set_option maxHeartbeats 400000 in
theorem eqContent_c (k v : Int) (w : World) : Calls Try.prog 91 #[.agg #[.int .i64 k, .int .i64 v], .agg #[.int .i64 k, .int .i64 v]] w (BoolPost true w) := by
  go_enter Try.func91, Try.ntmps91
  go_wp2
  go_ret
  exact ⟨rfl, (below_box _ _).alloc (by simp) _⟩

end Go.Proofs.Ytmdidhlfpaganaa

/-
  WALKS: laws.toContent.
-/
namespace Go.Proofs.Ytmdidhlfpaganaa
open Go.RowKit

set_option maxHeartbeats 400000 in
theorem toContent_c (k v : Int) (w : World) : Calls Try.prog 90 #[con k v] w (ConRet k v w) := by
  unfold con ConRet
  go_enter Try.func90, Try.ntmps90
  go_wp2
  refine bodyPost_ret (v := con k v) ?_ rfl ⟨rfl, ((below_box _ _).alloc (by simp) _).alloc (by simp; omega) _⟩
  simp [results, Try.f90, go_sem]

end Go.Proofs.Ytmdidhlfpaganaa

/-
  WALKS: laws.toNode, laws.toNodeS, laws.szNodeS: lists of nodes that come from outside.
-/
namespace Go.Proofs.Ytmdidhlfpaganaa
open Go.RowKit
set_option linter.unusedVariables false

/-- A node as a value. -/
abbrev nodeV (n : Nd) : Value := .agg #[.string n.p, .int .i64 n.k, .int .i64 n.v]

def NodeRet (n : Nd) (w : World) (e : Ending) (w' : World) : Prop := e = .returned (nodeV n) ∧ Below w.heap.size w w'

theorem node_results (s : Nat) (fn : Func) (hf : fn.results = #[.cell s 42]) (W : World) (g : Nat) (n : Nd) (tmps : Array Value) (ht : tmps[s]? = some (.pointer (some ⟨g, 0, none⟩)))
    (h : W.cell? ⟨g, 0, none⟩ = some (.string n.p) ∧ W.cell? ⟨g, 1, none⟩ = some (.int .i64 n.k) ∧ W.cell? ⟨g, 2, none⟩ = some (.int .i64 n.v)) : (results fn tmps).run Try.prog W = .ok (nodeV n) W := by
  obtain ⟨c0, c1, c2⟩ := h
  simp [results, hf, go_sem, ht, c0, c1, c2]

/-- A block of cells of the call's own. -/
def Blk (W : World) (g : Nat) (cs : Array Value) (t : TypeId) : Prop := W.heap[g]? = some (.cells cs t (0, 0))

theorem blk_new (W : World) (cs : Array Value) (t : TypeId) : Blk (W.alloc (.cells cs t)) W.heap.size cs t := World.alloc_heap_new _ _
theorem Blk.lt {W : World} {g : Nat} {cs : Array Value} {t : TypeId} (h : Blk W g cs t) : g < W.heap.size := by
  unfold Blk at h
  exact (Array.getElem?_eq_some_iff.1 h).1
theorem Blk.below {W W' : World} {g : Nat} {cs : Array Value} {t : TypeId} (h : Blk W g cs t) (hb : Below W.heap.size W W') : Blk W' g cs t := (hb.block g h.lt).trans h
theorem Blk.cell {W : World} {g : Nat} {cs : Array Value} {t : TypeId} (h : Blk W g cs t) (i : Nat) : W.cell? ⟨g, i, none⟩ = cs[i]? := cell_of_row W g i cs t (0, 0) h
theorem Blk.frozen {W : World} {g : Nat} {cs : Array Value} {t : TypeId} (h : Blk W g cs t) (i : Nat) : W.frozen? ⟨g, i, none⟩ = false := frozen_of_row W g i cs t h
theorem Blk.set {W : World} {g : Nat} {cs : Array Value} {t : TypeId} (h : Blk W g cs t) (i : Nat) (u : Value) : Blk (W.setCell ⟨g, i, none⟩ u) g (cs.setIfInBounds i u) t := heap_setCell_same W g i cs t u h
theorem Blk.setOther {W : World} {g : Nat} {cs : Array Value} {t : TypeId} (h : Blk W g cs t) (a : Addr) (u : Value) (ha : g ≠ a.block) : Blk (W.setCell a u) g cs t := (heap_setCell_other W a g u ha).trans h

set_option maxHeartbeats 1000000 in
theorem toNode_c (n : Nd) (w : World) : Calls Try.prog 70 #[nodeV n] w (NodeRet n w) := by
  obtain ⟨p, k, v⟩ := n
  have HT := Lib.hid (fun w => toContent_c k v w)
  unfold con at HT
  unfold nodeV
  go_enter Try.func70, Try.ntmps70
  go_wp2_with fail
  refine (HT.out _).mono ?_; rintro e W1 ⟨rfl, hb1⟩
  have hx : w.heap.size + 1 + 1 = ((w.alloc (.cells #[.string p, .int .i64 k, .int .i64 v] 87)).alloc (.cells #[.string ⟨#[]⟩, .int .i64 0, .int .i64 0] 42)).heap.size := by simp
  have K3 := Lib.hid (show Blk W1 (w.heap.size + 1 + 1) #[.string p, .int .i64 0, .int .i64 0] 42 by rw [hx]; exact (blk_new _ _ _).below hb1)
  have hy : w.heap.size + 1 = (w.alloc (.cells #[.string p, .int .i64 k, .int .i64 v] 87)).heap.size := by simp
  have K2 := Lib.hid (show Blk W1 (w.heap.size + 1) #[.string ⟨#[]⟩, .int .i64 0, .int .i64 0] 42 by rw [hy]; exact ((blk_new _ _ _).below (below_box _ _)).below hb1)
  have B1 := Lib.hid (below_next (below_box w _) (below_next (below_box _ _) (below_next (below_box _ _) hb1)))
  have s1 : W1.cell? ⟨w.heap.size + 1 + 1, 1, none⟩ = some (.int .i64 0) := K3.out.cell 1
  have s2 : W1.cell? ⟨w.heap.size + 1 + 1, 2, none⟩ = some (.int .i64 0) := K3.out.cell 2
  have s0 : W1.cell? ⟨w.heap.size + 1 + 1, 0, none⟩ = some (.string p) := K3.out.cell 0
  have z1 := K3.out.frozen 1
  have z2 := K3.out.frozen 2
  have r0 : W1.cell? ⟨w.heap.size + 1, 0, none⟩ = some (.string ⟨#[]⟩) := K2.out.cell 0
  have r1 : W1.cell? ⟨w.heap.size + 1, 1, none⟩ = some (.int .i64 0) := K2.out.cell 1
  have r2 : W1.cell? ⟨w.heap.size + 1, 2, none⟩ = some (.int .i64 0) := K2.out.cell 2
  have y0 := K2.out.frozen 0
  have y1 := K2.out.frozen 1
  have y2 := K2.out.frozen 2
  clear hb1 hx hy
  unfold con
  go_wp2
  have K4 := (((((K2.out.setOther ⟨w.heap.size + 1 + 1, 1, none⟩ (.int .i64 k) (by simp)).setOther ⟨w.heap.size + 1 + 1, 2, none⟩ (.int .i64 v) (by simp)).set 0 (.string p)).set 1 (.int .i64 k)).set 2 (.int .i64 v))
  refine bodyPost_ret (node_results 2 _ rfl _ (w.heap.size + 1) ⟨p, k, v⟩ _ rfl ⟨K4.cell 0, K4.cell 1, K4.cell 2⟩) rfl ⟨rfl, ?_⟩
  exact below_setCell (below_setCell (below_setCell (below_setCell (below_setCell B1.out _ _ (by simp; omega)) _ _ (by simp; omega)) _ _ (by simp)) _ _ (by simp)) _ _ (by simp)

theorem flatN_take_set : ∀ (ns : List Nd) (i : Nat) (n : Nd) (zs : List Value), ns[i]? = some n → 3 ≤ zs.length →
    (((flatN (ns.take i) ++ zs).set (i * 3) (.string n.p)).set (i * 3 + 1) (.int .i64 n.k)).set (i * 3 + 2) (.int .i64 n.v) = flatN (ns.take (i + 1)) ++ zs.drop 3 := by
  intro ns i n zs hn hz
  have hi := (List.getElem?_eq_some_iff.1 hn).1
  have hl : (flatN (ns.take i)).length = i * 3 := by rw [flatN_length, List.length_take]; omega
  rw [List.take_add_one, hn, flatN_append]
  match zs, hz with
  | a :: b :: c :: r, _ =>
    show _ = (flatN (ns.take i) ++ [.string n.p, .int .i64 n.k, .int .i64 n.v]) ++ r
    rw [List.set_append_right _ _ (by omega), hl, show i * 3 - i * 3 = 0 by omega]
    rw [List.set_append_right _ _ (by omega), hl, show i * 3 + 1 - i * 3 = 1 by omega]
    rw [List.set_append_right _ _ (by omega), hl, show i * 3 + 2 - i * 3 = 2 by omega]
    simp

theorem below_of_none {W w : World} (h : W.grownBy w none) : Below W.heap.size W w := ⟨h.os, h.tape, h.output, h.size, fun k hk => h.block k hk (by simp)⟩

theorem stored3 {W : World} {base : Nat} {e : TypeId} {g cap n : Nat} {xs : List Value} (h : W.ownsRow base e 3 (.slice (some ⟨g, 0, none⟩) n cap) n xs) (j : Nat) (u v x : Value) :
    (((W.setCell ⟨g, j, none⟩ u).setCell ⟨g, j + 1, none⟩ v).setCell ⟨g, j + 2, none⟩ x).ownsRow base e 3 (.slice (some ⟨g, 0, none⟩) n cap) n (((xs.set j u).set (j + 1) v).set (j + 2) x) :=
  ((((h.stored j u).1.stored (j + 1) v).1).stored (j + 2) x).1

def ToRel (ns : List Nd) (len : Nat) (W : World) (i : Value) (wr : World) : Prop :=
  ∃ (n : Nat) (zs : List Value), i = .int .i64 n ∧ n ≤ len ∧ zs.length = (len - n) * 3 ∧ wr.ownsRow W.heap.size 42 3 (.slice (some ⟨W.heap.size, 0, none⟩) len len) len (flatN (ns.take n) ++ zs) ∧ Hid (Below W.heap.size W wr)

set_option maxHeartbeats 2000000 in
set_option maxRecDepth 100000 in
theorem toNodeS_c (a : Option Addr) (len cap : Nat) (ns : List Nd) (hl : len ≤ 2097152) (W : World) (hN : NodesAt W a len ns) :
    Calls Try.prog 32 #[.slice a len cap] W fun e W' => OwnsNodes W.heap.size ns e W' ∧ Below W.heap.size W W' := by
  obtain ⟨i0, hi, hz0, hz1, hz2⟩ := info_parts infoNode
  have HN := Lib.hid hN
  have HE := Lib.hid hN.1
  have HT := Lib.hid (fun n w => toNode_c n w)
  have HL := Lib.hid hl
  clear hN
  go_enter Try.func32, Try.ntmps32
  go_wp2_with (refine wpList_make_full _ rfl _ _ 23 rfl W.heap.size 42 i0 (.agg #[.string ⟨#[]⟩, .int .i64 0, .int .i64 0]) 3 Try.underlying23 hi hz0 hz1 .i64 .i64 _ _ len rfl rfl rfl rfl (by rw [hz2]; omega) (by unfold maxLen; omega) (Nat.le_refl _) ?_; intro w1 hown1 hg1)
  have hb1 := below_of_none hg1
  clear hg1
  go_loopw [4] (fun i wr => ToRel ns len W i wr) (fun i _ => len - (intOf i).toNat)
  case atStart =>
    refine ⟨0, _, rfl, by omega, ?_, (by simpa [flatN_nil] using hown1), hb1⟩
    have := hown1.1
    omega
  case round =>
    obtain ⟨i, zs, rfl, hi1, hzl, hown, HB⟩ := hrel
    by_cases hlt : i < len
    · obtain ⟨b, off, n, rfl, hn, c0, c1, c2⟩ := (HN.out.keep HB.out).node hlt
      have hlt' : (i : Int) < len := by omega
      have HLT := Lib.hid hlt
      have HNN := Lib.hid hn
      have hz3 : 3 ≤ zs.length := by omega
      have HZ := Lib.hid (And.intro hzl hz3)
      obtain ⟨p, k, v⟩ := n
      have HTN := Lib.hid (fun w => HT.out ⟨p, k, v⟩ w)
      unfold nodeV NodeRet at HTN
      clear hi1 hlt hn hzl hz3 hown1
      go_wp2_with fail
      refine (HTN.out _).mono ?_; rintro e W2 ⟨rfl, hb2⟩
      have HO2 := Lib.hid (own_below hown hb2)
      have HB2 := Lib.hid (below_next HB.out hb2)
      clear hown hb2 c0 c1 c2
      have hll : (flatN (ns.take i)).length = i * 3 := by rw [flatN_length, List.length_take]; have := HE.out; have := HLT.out; omega
      have cell : ∀ j, j < 3 → ∃ u, W2.cell? ⟨W.heap.size, i * 3 + j, none⟩ = some u := by
        intro j hj
        have hx := HZ.out.1
        have hy := HLT.out
        rw [HO2.out.cellAt _ (by omega)]
        exact ⟨_, List.getElem?_eq_getElem (by rw [List.length_append, hll]; omega)⟩
      obtain ⟨u0, e0⟩ := cell 0 (by omega)
      replace e0 : W2.cell? ⟨W.heap.size, i * 3, none⟩ = some u0 := e0
      obtain ⟨u1, e1⟩ := cell 1 (by omega)
      obtain ⟨u2, e2⟩ := cell 2 (by omega)
      have y0 := HO2.out.frozenAt (i * 3)
      have y1 := HO2.out.frozenAt (i * 3 + 1)
      have y2 := HO2.out.frozenAt (i * 3 + 2)
      clear cell hll
      go_wp2
      have HS3 := stored3 HO2.out (i * 3) (.string p) (.int .i64 k) (.int .i64 v)
      rw [flatN_take_set ns i ⟨p, k, v⟩ zs HNN.out HZ.out.2] at HS3
      go_roundw
      case rel => exact ⟨i + 1, zs.drop 3, by go_num, by have := HLT.out; omega, by rw [List.length_drop]; have h1 := HZ.out.1; have h2 := HZ.out.2; have h3 := HLT.out; omega, HS3, below_setCell (below_setCell (below_setCell HB2.out _ _ (Nat.le_refl _)) _ _ (Nat.le_refl _)) _ _ (Nat.le_refl _)⟩
      case measure => have := HLT.out; simp [intOf]; omega
    · have hge : (len : Int) ≤ i := by omega
      have hz0' : zs = [] := List.eq_nil_of_length_eq_zero (by omega)
      subst hz0'
      rw [List.append_nil, List.take_of_length_le (by have := HE.out; omega)] at hown
      clear hi1 hlt
      go_wp2
      go_ret
      exact ⟨⟨_, rfl, by have h := HE.out; rw [h]; exact hown⟩, HB.out⟩

end Go.Proofs.Ytmdidhlfpaganaa

/-
  WALKS: laws.eqNode, laws.eqNodeS, at equal lists.
-/
namespace Go.Proofs.Ytmdidhlfpaganaa
open Go.RowKit
set_option linter.unusedVariables false

set_option maxHeartbeats 1000000 in
theorem eqNode_c (n : Nd) (w : World) : Calls Try.prog 71 #[nodeV n, nodeV n] w (BoolPost true w) := by
  obtain ⟨p, k, v⟩ := n
  have HC := Lib.hid (fun w => eqContent_c k v w)
  unfold nodeV
  go_enter Try.func71, Try.ntmps71
  go_wp2_with fail
  refine (HC.out _).mono ?_
  rintro e W1 ⟨rfl, hb1⟩
  have HB := Lib.hid (below_next (below_next (below_box _ _) (below_box _ _)) hb1)
  clear hb1
  go_wp2
  go_ret
  exact ⟨rfl, HB.out⟩

def EqRel (len : Nat) (W : World) (i : Value) (wr : World) : Prop := ∃ n : Nat, i = .int .i64 n ∧ n ≤ len ∧ Hid (Below W.heap.size W wr)

set_option maxHeartbeats 2000000 in
set_option maxRecDepth 100000 in
theorem eqNodeS_c (a1 a2 : Option Addr) (len c1 c2 : Nat) (ns : List Nd) (hl : len ≤ 2097152) (W : World) (h1 : NodesAt W a1 len ns) (h2 : NodesAt W a2 len ns) :
    Calls Try.prog 33 #[.slice a1 len c1, .slice a2 len c2] W (BoolPost true W) := by
  have H1 := Lib.hid h1
  have H2 := Lib.hid h2
  have HC := Lib.hid (fun n w => eqNode_c n w)
  unfold nodeV at HC
  have hl' : (len : Int) ≤ 2097152 := by omega
  clear h1 h2
  go_enter Try.func33, Try.ntmps33
  go_wp2
  go_loopw [5] (fun i wr => EqRel len W i wr) (fun i _ => len - (intOf i).toNat)
  case atStart => exact ⟨0, rfl, by omega, Below.refl _ _⟩
  case round =>
    obtain ⟨i, rfl, hi, HB⟩ := hrel
    by_cases hlt : i < len
    · obtain ⟨b, off, n, HA1, hn1, c0, c1, c2⟩ := (H1.out.keep HB.out).node hlt
      obtain ⟨b', off', n', HA2, hn2, d0, d1, d2⟩ := (H2.out.keep HB.out).node hlt
      obtain rfl : n' = n := by rw [hn1] at hn2; exact (Option.some.inj hn2).symm
      have hlt' : (i : Int) < len := by omega
      have hil : (i : Int) ≤ 2097152 := by omega
      have HLT := Lib.hid hlt
      obtain rfl := HA1
      obtain rfl := HA2
      obtain ⟨p, k, v⟩ := n'
      simp only at c0 c1 c2 d0 d1 d2
      have HS0 := Lib.hid (show wr.drew.cell? ⟨b, off + i * 3, none⟩ = some (.string p) ∧ wr.drew.cell? ⟨b, off + i * 3 + 1, none⟩ = some (.int .i64 k) ∧ wr.drew.cell? ⟨b, off + i * 3 + 2, none⟩ = some (.int .i64 v) ∧
        wr.drew.cell? ⟨b', off' + i * 3, none⟩ = some (.string p) ∧ wr.drew.cell? ⟨b', off' + i * 3 + 1, none⟩ = some (.int .i64 k) ∧ wr.drew.cell? ⟨b', off' + i * 3 + 2, none⟩ = some (.int .i64 v) from ⟨c0, c1, c2, d0, d1, d2⟩)
      have HCX := Lib.hid (HC.out ⟨p, k, v⟩ wr.drew)
      clear hlt hi hn1 hn2
      go_upto_region 6 with (fail)
      refine wp_region_held_drew (S := (fun w' => w'.cell? ⟨b, off + i * 3, none⟩ = some (.string p) ∧ w'.cell? ⟨b, off + i * 3 + 1, none⟩ = some (.int .i64 k) ∧ w'.cell? ⟨b, off + i * 3 + 2, none⟩ = some (.int .i64 v) ∧ w'.cell? ⟨b', off' + i * 3, none⟩ = some (.string p) ∧ w'.cell? ⟨b', off' + i * 3 + 1, none⟩ = some (.int .i64 k) ∧ w'.cell? ⟨b', off' + i * 3 + 2, none⟩ = some (.int .i64 v))) (by kernel_rfl) HS0.out (fun hH => ?_)
      refine wpAnyH_take (i := 0) (oi := _) (v := ?_) rfl (by kernel_rfl) (by kernel_rfl) (by kernel_rfl) (fun _ _ _ h => h) (Or.inl ⟨by rfl, ?_⟩) (by assumption) ?_
      rotate_left
      · (intro w hSw; (try dsimp only at hSw); go_simp; try with_reducible rfl)
      try simp only [Act.put, List.getElem_toArray, List.getElem_cons_zero, List.setIfInBounds_toArray, List.set_cons_zero, List.set_cons_succ]
      refine wpAnyH_take (i := 1) (oi := _) (v := ?_) rfl (by kernel_rfl) (by kernel_rfl) (by kernel_rfl) (fun _ _ _ h => h) (Or.inl ⟨by rfl, ?_⟩) (by assumption) ?_
      rotate_left
      · (intro w hSw; (try dsimp only at hSw); go_simp; try with_reducible rfl)
      try simp only [Act.put, List.getElem_toArray, List.getElem_cons_zero, List.getElem_cons_succ, List.setIfInBounds_toArray, List.set_cons_zero, List.set_cons_succ]
      refine wpAnyH_take (i := 2) (oi := _) (v := ?_) rfl (by kernel_rfl) (by kernel_rfl) (by kernel_rfl) (fun _ _ _ h => h) (Or.inl ⟨by rfl, ?_⟩) (by assumption) ?_
      rotate_left
      · (intro w hSw; (try dsimp only at hSw); go_simp; try with_reducible rfl)
      try simp only [Act.put, List.getElem_toArray, List.getElem_cons_zero, List.getElem_cons_succ, List.setIfInBounds_toArray, List.set_cons_zero, List.set_cons_succ]
      refine wpAnyH_take (i := 3) (oi := _) (v := ?_) rfl (by kernel_rfl) (by kernel_rfl) (by kernel_rfl) (fun _ _ _ h => h) (Or.inl ⟨by rfl, ?_⟩) (by assumption) ?_
      rotate_left
      · (intro w hSw; (try dsimp only at hSw); go_simp; try with_reducible rfl)
      try simp only [Act.put, List.getElem_toArray, List.getElem_cons_zero, List.getElem_cons_succ, List.setIfInBounds_toArray, List.set_cons_zero, List.set_cons_succ]
      refine wpAnyH_take (i := 4) (oi := _) (v := ?_) rfl (by kernel_rfl) (by kernel_rfl) (by kernel_rfl) (fun _ _ _ h => h) (Or.inl ⟨by rfl, ?_⟩) (by assumption) ?_
      rotate_left
      · (intro w hSw; (try dsimp only at hSw); go_simp; try with_reducible rfl)
      try simp only [Act.put, List.getElem_toArray, List.getElem_cons_zero, List.getElem_cons_succ, List.setIfInBounds_toArray, List.set_cons_zero, List.set_cons_succ]
      refine wpAnyH_take (i := 5) (oi := _) (v := ?_) rfl (by kernel_rfl) (by kernel_rfl) (by kernel_rfl) (fun _ _ _ h => h) (Or.inl ⟨by rfl, ?_⟩) (by assumption) ?_
      rotate_left
      · (intro w hSw; (try dsimp only at hSw); go_simp; try with_reducible rfl)
      try simp only [Act.put, List.getElem_toArray, List.getElem_cons_zero, List.getElem_cons_succ, List.setIfInBounds_toArray, List.set_cons_zero, List.set_cons_succ]
      refine wpAnyH_take (i := 6) (oi := _) (v := ?_) rfl (by kernel_rfl) (by kernel_rfl) (by kernel_rfl) (fun _ _ _ h => h) (Or.inl ⟨by rfl, ?_⟩) (by assumption) ?_
      rotate_left
      · (intro w hSw; (try dsimp only at hSw); go_simp; try with_reducible rfl)
      try simp only [Act.put, List.getElem_toArray, List.getElem_cons_zero, List.getElem_cons_succ, List.setIfInBounds_toArray, List.set_cons_zero, List.set_cons_succ]
      refine wpAnyH_take (i := 7) (oi := _) (v := ?_) rfl (by kernel_rfl) (by kernel_rfl) (by kernel_rfl) (fun _ _ _ h => h) (Or.inl ⟨by rfl, ?_⟩) (by assumption) ?_
      rotate_left
      · (intro w hSw; (try dsimp only at hSw); go_simp; try with_reducible rfl)
      try simp only [Act.put, List.getElem_toArray, List.getElem_cons_zero, List.getElem_cons_succ, List.setIfInBounds_toArray, List.set_cons_zero, List.set_cons_succ]
      refine wpAnyH_ready (rs := [8]) (by kernel_rfl) (by simp) ?_
      refine AllReadyH.cons rfl (fun K hK => ?_) (AllReadyH.nil)
      go_simp
      go_at_call 71; (with_reducible refine (HCX.out).mono ?_); rintro e W7 ⟨rfl, hb7⟩
      refine hK.out _ _ ⟨cell_kept hb7 HS0.out.1, cell_kept hb7 HS0.out.2.1, cell_kept hb7 HS0.out.2.2.1, cell_kept hb7 HS0.out.2.2.2.1, cell_kept hb7 HS0.out.2.2.2.2.1, cell_kept hb7 HS0.out.2.2.2.2.2⟩ (fun hHeld => ?_)
      try simp only [Act.put, List.getElem_toArray, List.getElem_cons_zero, List.getElem_cons_succ, List.setIfInBounds_toArray, List.set_cons_zero, List.set_cons_succ]
      have H7 := Lib.hid (below_next (show Below W.heap.size W wr.drew from HB.out.drew) hb7)
      refine wpAnyH_take (i := 9) (oi := _) (v := ?_) rfl (by kernel_rfl) (by kernel_rfl) (by kernel_rfl) (fun _ _ _ h => h) (Or.inl ⟨by rfl, ?_⟩) (by assumption) ?_
      rotate_left
      · (intro w hSw; (try dsimp only at hSw); go_simp; try with_reducible rfl)
      try simp only [Act.put, List.getElem_toArray, List.getElem_cons_zero, List.getElem_cons_succ, List.setIfInBounds_toArray, List.set_cons_zero, List.set_cons_succ]
      refine wpAnyH_done (by kernel_rfl) ?_ _
      go_wp2
      go_roundw
      case rel => exact ⟨i + 1, by go_num, by have := HLT.out; omega, H7.out⟩
      case measure => have := HLT.out; simp [intOf]; omega
    · have hge : (len : Int) ≤ i := by omega
      clear hlt
      go_wp2
      go_ret
      exact ⟨rfl, HB.out⟩

end Go.Proofs.Ytmdidhlfpaganaa
