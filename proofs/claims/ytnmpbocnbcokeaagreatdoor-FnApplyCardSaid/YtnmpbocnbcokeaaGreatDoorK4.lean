/-
  Texts of this proof, one behind the other: Is, Iu, Fc, Fd, Sw, Ap, Sm, Sx, Ic, Iv, Ro, Lp, Lt, La, Li, Ld, Cg, Tw, Ch.
-/
import Derived.Deep.Cut
import Derived.Deep.QuietTactic
import Derived.BigQuiet
import Derived.OwnWalk
import Derived.Laws.OwnMore
import Derived.Laws.StructEq
import Derived.Laws.Concat
import Derived.Deep.RegionWith
import Derived.Test.YtnmpbocnbcokeaaGreatDoorK3
/-
  WALKS: impl.TreeSums, impl.TreeSum.
-/
namespace Go.Proofs.YtnmpbocnbcokeaaGreatDoor
open Go.RowKit
set_option linter.unusedVariables false

theorem sums_valid {ns : List Nd} (h : validT ns = true) : (runL ns).1 = treeSums ns := by
  rw [run_tree h]
  unfold treeSums
  rw [if_pos h]

theorem sums_bad {ns : List Nd} (h : validT ns = false) : treeSums ns = [] := by
  unfold treeSums
  rw [if_neg (by rw [h]; decide)]

theorem root_map {ns : List Nd} (h : validT ns = true) : (runL (⟨rootB, 1, 0⟩ :: ns)).1 = (⟨rootB, 1, 0⟩ :: ns : List Nd).map (fun n => treeSum ns n.p) := by
  rw [run_root h]; rfl

theorem rows_two (W : World) {a1 a2 : Option Addr} {l1 c1 l2 c2 : Nat} {n1 n2 : List Nd} (h1 : NodesAt W a1 l1 n1) (h2 : NodesAt W a2 l2 n2) (t : TypeId) :
    RowsAt (W.alloc (.cells #[.slice a1 l1 c1, .slice a2 l2 c2] t)) W.heap.size 0 [⟨a1, l1, c1, n1⟩, ⟨a2, l2, c2, n2⟩] := by
  intro i r hr
  have hb := below_box W (.cells #[.slice a1 l1 c1, .slice a2 l2 c2] t)
  match i, hr with
  | 0, hr =>
    simp at hr; subst hr
    exact ⟨by simp, h1.keep hb⟩
  | 1, hr =>
    simp at hr; subst hr
    exact ⟨by simp, h2.keep hb⟩
  | i + 2, hr => simp at hr

theorem one_node (W : World) (p : ByteArray) (k v : Int) (t : TypeId) : NodesAt (W.alloc (.cells #[.string p, .int .i64 k, .int .i64 v] t)) (some ⟨W.heap.size, 0, none⟩) 1 [⟨p, k, v⟩] := by
  refine ⟨rfl, .inr ⟨W.heap.size, 0, rfl, fun i n hn => ?_⟩⟩
  match i, hn with
  | 0, hn => simp at hn; subst hn; simp
  | i + 1, hn => simp at hn

theorem look_sum {ns L : List Nd} (hL : L = ⟨rootB, 1, 0⟩ :: ns) (hv : validT ns = true) {i : Nat} {m : Nd} (hm : L[i]? = some m) {z : Int} (hz : (runL L).1[i]? = some z) : z = treeSum ns m.p := by
  subst hL
  rw [root_map hv, List.getElem?_map, hm] at hz
  exact (Option.some.inj hz).symm

theorem look_miss {ns L : List Nd} {p : ByteArray} (hL : L = ⟨rootB, 1, 0⟩ :: ns) (hv : validT ns = true) (hp : vpB p = true) (h : ∀ j m, j < L.length → L[j]? = some m → m.p ≠ p) : treeSum ns p = 1 := by
  have hm : ∀ m ∈ L, m.p ≠ p := fun m hm => by
    obtain ⟨j, hj⟩ := List.getElem?_of_mem hm
    exact h j m (List.getElem?_eq_some_iff.1 hj).1 hj
  subst hL
  refine sum_missing hv hp (fun e => hm ⟨rootB, 1, 0⟩ (by simp) e.symm) fun n hn => hm n (by simp [hn])

def LookRel (L : List Nd) (p : ByteArray) (W : World) (i : Value) (wr : World) : Prop := ∃ n : Nat, i = .int .i64 n ∧ n ≤ L.length ∧ Hid (∀ j m, j < n → L[j]? = some m → m.p ≠ p) ∧ W = wr

theorem sum_bad {ns : List Nd} {p : ByteArray} (h : validT ns = false ∨ vpB p = false) : treeSum ns p = -1 := by
  unfold treeSum
  rcases h with h | h <;> simp [h]

end Go.Proofs.YtnmpbocnbcokeaaGreatDoor

/-
  WALKS: impl.TreeUnder.
-/
namespace Go.Proofs.YtnmpbocnbcokeaaGreatDoor
open Go.RowKit
set_option linter.unusedVariables false

theorem treeUnder_bad {ns : List Nd} {p : ByteArray} (h : validT ns = false ∨ vpB p = false) : treeUnder ns p = [] := by
  unfold treeUnder
  rcases h with h | h <;> simp [h]

theorem texts_nil {xs : List ByteArray} {W w : World} (h : xs = []) (hB : Below W.heap.size W w) : TextsPost xs W (.returned (.slice none 0 0)) w := by
  subst h; exact ⟨⟨_, rfl, World.ownsRow_nil _ _ _ _⟩, hB⟩

def pathVals (out : List Nd) (n : Nat) : List Value := ((out.take n).map Nd.p).map Value.string
theorem pathVals_next {out : List Nd} {n : Nat} {x : Nd} (h : out[n]? = some x) : pathVals out (n + 1) = pathVals out n ++ [.string x.p] := by
  unfold pathVals; rw [take_next h]; simp

/-- The loop that takes the paths. -/
def PathsRel (out : List Nd) (W : World) (W8 : World) (o i : Value) (wr : World) : Prop :=
  ∃ n : Nat, i = .int .i64 n ∧ n ≤ out.length ∧ wr.ownsRow W8.heap.size 9 1 o n (pathVals out n) ∧ Hid (Below W8.heap.size W8 wr)

end Go.Proofs.YtnmpbocnbcokeaaGreatDoor

/-
  WALKS: lists of lists of numbers; spec.FramesOf.
-/
namespace Go.Proofs.YtnmpbocnbcokeaaGreatDoor
open Go.RowKit
set_option linter.unusedVariables false

/-- A list of lists of numbers, wherever it lies. -/
def TabAt (W : World) (a : Option Addr) (len : Nat) (bs : List (List Int)) : Prop :=
  bs.length = len ∧ (len = 0 ∨ ∃ b off, a = some ⟨b, off, none⟩ ∧ ∀ i z, bs[i]? = some z → ∃ ai ci, W.cell? ⟨b, off + i, none⟩ = some (.slice ai z.length ci) ∧ IntsAt W ai z.length z)

theorem TabAt.keep {W W' : World} {a : Option Addr} {len : Nat} {bs : List (List Int)} (h : TabAt W a len bs) (hb : Below W.heap.size W W') : TabAt W' a len bs := by
  obtain ⟨h1, h0 | ⟨b, off, ha, hc⟩⟩ := h
  · exact ⟨h1, .inl h0⟩
  · refine ⟨h1, .inr ⟨b, off, ha, fun i x hx => ?_⟩⟩
    obtain ⟨ai, ci, h2, h3⟩ := hc i x hx
    exact ⟨ai, ci, cell_kept hb h2, h3.keep hb⟩

theorem TabAt.at {W : World} {a : Option Addr} {len : Nat} {bs : List (List Int)} (h : TabAt W a len bs) {i : Nat} (hi : i < len) :
    ∃ b off z ai ci, a = some ⟨b, off, none⟩ ∧ bs[i]? = some z ∧ W.cell? ⟨b, off + i, none⟩ = some (.slice ai z.length ci) ∧ IntsAt W ai z.length z := by
  obtain ⟨h1, h0 | ⟨b, off, ha, hc⟩⟩ := h
  · omega
  · obtain ⟨x, hx⟩ : ∃ x, bs[i]? = some x := ⟨_, List.getElem?_eq_getElem (by omega)⟩
    obtain ⟨ai, ci, h2, h3⟩ := hc i x hx
    exact ⟨b, off, x, ai, ci, ha, hx, h2, h3⟩

/-- The lists are short. -/
def ShortT (m : Nat) (bs : List (List Int)) : Prop := ∀ b ∈ bs, b.length ≤ m

/-- A list of numbers or a failure. -/
def FPost (r : Option (List Int)) (W : World) (e : Ending) (w' : World) : Prop :=
  ∃ (sl : Value) (out : List Int) (b : Bool), e = .returned (.tuple #[sl, .bool b]) ∧ ((b = true ∧ r = some out) ∨ (b = false ∧ r = none ∧ out = [])) ∧ w'.ownsRow W.heap.size 3 1 sl out.length (intsV out) ∧ Below W.heap.size W w'

theorem framesL_len : ∀ {bs : List (List Int)}, bs.all bodyOk = true → (framesL bs).length ≤ 18 * bs.length
  | [], _ => by simp [framesL]
  | b :: bs, h => by
    simp only [List.all_cons, Bool.and_eq_true] at h
    have := bodyOk_len h.1
    have ih := framesL_len h.2
    rw [framesL_cons, List.length_append, frame_length, List.length_cons]
    omega

def FramesRel (bs : List (List Int)) (W1 : World) (o i : Value) (wr : World) : Prop :=
  ∃ n : Nat, i = .int .i64 n ∧ n ≤ bs.length ∧ Hid ((bs.take n).all bodyOk = true) ∧ wr.ownsRow W1.heap.size 3 1 o (framesL (bs.take n)).length (intsV (framesL (bs.take n))) ∧ Hid (Below W1.heap.size W1 wr)

theorem framesOf_none {bs : List (List Int)} {i : Nat} {z : List Int} (h : bs[i]? = some z) (hz : bodyOk z = false) : framesOf bs = none := by
  unfold framesOf
  rw [if_neg]
  intro hc
  simp only [Bool.and_eq_true] at hc
  have := List.all_eq_true.1 hc.1 z (List.mem_of_getElem? h)
  rw [hz] at this; cases this

theorem takeT_next {bs : List (List Int)} {i : Nat} {z : List Int} (h : bs[i]? = some z) : bs.take (i + 1) = bs.take i ++ [z] := by
  rw [List.take_add_one, h]; rfl

theorem own_casesT {W : World} {base : Nat} {e : TypeId} {size n : Nat} {v : Value} {xs : List Value} (h : W.ownsRow base e size v n xs) : (v = .slice none 0 0 ∧ n = 0) ∨ ∃ g cap, v = .slice (some ⟨g, 0, none⟩) n cap := by
  rcases h.2 with h | ⟨g, cap, _, h, _⟩
  · exact .inl h
  · exact .inr ⟨g, cap, h⟩

theorem own_cells1 {W : World} {base : Nat} {e : TypeId} {zs : List Int} {g cap : Nat} (h : W.ownsRow base e 1 (.slice (some ⟨g, 0, none⟩) zs.length cap) zs.length (intsV zs)) :
    ∀ j u, (intsV zs)[j]? = some u → W.cell? ((⟨g, 0, none⟩ : Addr).add j) = some u := by
  intro j u hj
  have hj' := (List.getElem?_eq_some_iff.1 hj).1
  rw [intsV_length] at hj'
  have := h.cellAt j (by omega)
  rw [add_off, Nat.zero_add, this]
  exact hj

end Go.Proofs.YtnmpbocnbcokeaaGreatDoor

/-
  WALKS: spec.FramesScan.
-/
namespace Go.Proofs.YtnmpbocnbcokeaaGreatDoor
open Go.RowKit
set_option linter.unusedVariables false

theorem infoInts : (Tryz.prog.info? 90).map (fun i => (i.zero, i.size, i.bytes)) = some (some (.slice none 0 0), 1, 24) := by kernel_rfl

/-- The lists in a table that the call has made: each owned, no two in one block. -/
def Inner (W : World) (base : Nat) (vs : List Value) (bs : List (List Int)) : Prop :=
  vs.length = bs.length ∧ (∀ (i : Nat) (z : List Int) (v : Value), bs[i]? = some z → vs[i]? = some v → W.ownsRow base 3 1 v z.length (intsV z)) ∧ vs.Pairwise (fun u v => ∀ k, u.ownBlock = some k → v.ownBlock ≠ some k)

theorem Inner.below {W W' : World} {base : Nat} {vs : List Value} {bs : List (List Int)} (h : Inner W base vs bs) (hb : Below W.heap.size W W') : Inner W' base vs bs :=
  ⟨h.1, fun i z v hz hv => own_below1 (h.2.1 i z v hz hv) hb, h.2.2⟩

/-- Two owned lists of different element types lie in different blocks. -/
theorem own_types {W : World} {b b' : Nat} {e e' : TypeId} {s s' n n' : Nat} {u v : Value} {xs ys : List Value} (h : W.ownsRow b e s u n xs) (h' : W.ownsRow b' e' s' v n' ys) (he : e ≠ e') : ∀ k, u.ownBlock = some k → v.ownBlock ≠ some k := by
  intro k h1 h2
  rcases h.2 with ⟨rfl, _⟩ | ⟨g, cap, cur, rfl, _, hg, _⟩
  · cases h1
  · rcases h'.2 with ⟨rfl, _⟩ | ⟨g', cap', cur', rfl, _, hg', _⟩
    · cases h2
    · have e1 : g = k := by simpa [Value.ownBlock] using h1
      have e2 : g' = k := by simpa [Value.ownBlock] using h2
      subst e1; subst e2
      rw [hg] at hg'
      cases hg'
      exact he rfl

theorem own_farT {W W' : World} {b : Nat} {e : TypeId} {size n : Nat} {v : Value} {xs : List Value} (h : W.ownsRow b e size v n xs) {row : Value} (hg : W.grownBy W' row.ownBlock) (hd : ∀ k, v.ownBlock = some k → row.ownBlock ≠ some k) : W'.ownsRow b e size v n xs := by
  refine h.kept hg ?_
  cases hv : v.ownBlock with
  | none => exact .inl rfl
  | some k => right; exact fun e => hd k hv e.symm

theorem Inner.grown {W W' : World} {base b n : Nat} {vs ys : List Value} {bs : List (List Int)} {o : Value} (h : Inner W base vs bs) (ho : W.ownsRow b 90 1 o n ys) (hg : W.grownBy W' o.ownBlock) : Inner W' base vs bs :=
  ⟨h.1, fun i z v hz hv => own_farT (h.2.1 i z v hz hv) hg (own_types (h.2.1 i z v hz hv) ho (by decide)), h.2.2⟩

theorem Inner.push {W : World} {base : Nat} {vs : List Value} {bs : List (List Int)} {v : Value} {z : List Int} (h : Inner W base vs bs) (hv : W.ownsRow base 3 1 v z.length (intsV z)) (hd : ∀ u ∈ vs, ∀ k, u.ownBlock = some k → v.ownBlock ≠ some k) : Inner W base (vs ++ [v]) (bs ++ [z]) := by
  obtain ⟨h1, h2, h3⟩ := h
  refine ⟨by simp [h1], fun i z' v' hz hv' => ?_, List.pairwise_append.2 ⟨h3, List.pairwise_singleton _ _, fun u hu w hw => by rw [List.mem_singleton.1 hw]; exact hd u hu⟩⟩
  by_cases hi : i < bs.length
  · rw [List.getElem?_append_left hi] at hz
    rw [List.getElem?_append_left (by omega)] at hv'
    exact h2 i z' v' hz hv'
  · have e1 : i = bs.length := by
      have := (List.getElem?_eq_some_iff.1 hz).1
      simp at this; omega
    subst e1
    rw [List.getElem?_append_right (Nat.le_refl _)] at hz
    rw [← h1, List.getElem?_append_right (Nat.le_refl _)] at hv'
    simp at hz hv'
    subst hz; subst hv'
    exact hv

/-- Every block of the lists in a table stands below the heap's end. -/
theorem Inner.lt {W : World} {base : Nat} {vs : List Value} {bs : List (List Int)} (h : Inner W base vs bs) : ∀ u ∈ vs, ∀ k, u.ownBlock = some k → k < W.heap.size := by
  intro u hu k hk
  obtain ⟨i, hi⟩ := List.getElem?_of_mem hu
  have hl := (List.getElem?_eq_some_iff.1 hi).1
  obtain ⟨z, hz⟩ : ∃ z, bs[i]? = some z := ⟨_, List.getElem?_eq_getElem (by have := h.1; omega)⟩
  exact ((h.2.1 i z u hz hi).lt k hk).2

/-- What a scan returns. -/
def ScanPost (r : List (List Int) × Nat) (W : World) (e : Ending) (w' : World) : Prop :=
  ∃ (sl : Value) (vs : List Value), e = .returned (.tuple #[sl, .int .i64 r.2]) ∧ w'.ownsRow W.heap.size 90 1 sl r.1.length vs ∧ Inner w' W.heap.size vs r.1 ∧ Below W.heap.size W w'

def ScanRel (zs : List Int) (W : World) (o p : Value) (wr : World) : Prop :=
  ∃ (n : Nat) (acc : List (List Int)) (vs : List Value), p = .int .i64 n ∧ n ≤ zs.length ∧ Hid (acc.length ≤ n) ∧ Hid (scanL zs = (acc ++ (scanL (zs.drop n)).1, n + (scanL (zs.drop n)).2)) ∧
    wr.ownsRow W.heap.size 90 1 o acc.length vs ∧ Hid (Inner wr W.heap.size vs acc) ∧ Hid (Below W.heap.size W wr)

theorem scan_end {zs : List Int} {n : Nat} {acc : List (List Int)} {vs : List Value} {W wr : World} {o : Value} (hs : scanL zs = (acc ++ (scanL (zs.drop n)).1, n + (scanL (zs.drop n)).2)) (he : scanL (zs.drop n) = ([], 0))
    (ho : wr.ownsRow W.heap.size 90 1 o acc.length vs) (hi : Inner wr W.heap.size vs acc) (hb : Below W.heap.size W wr) : ScanPost (scanL zs) W (.returned (.tuple #[o, .int .i64 n])) wr := by
  rw [he] at hs
  simp only [List.append_nil, Nat.add_zero] at hs
  rw [hs]
  exact ⟨o, vs, rfl, ho, hi, hb⟩

theorem drewN_below (W : World) (n : Nat) : Below W.heap.size W (W.drewN n) := by
  have e := (drewN_cell W n ⟨0, 0, none⟩).2.2
  exact ⟨rfl, rfl, rfl, by rw [e]; exact Nat.le_refl _, fun j _ => by rw [e]⟩

theorem drop_consI {zs : List Int} {n : Nat} {z : Int} (h : zs[n]? = some z) : zs.drop n = z :: zs.drop (n + 1) := by
  obtain ⟨h1, h2⟩ := List.getElem?_eq_some_iff.1 h
  rw [List.drop_eq_getElem_cons h1, h2]

theorem scan_stop {zs : List Int} {n : Nat} {z : Int} (h : zs[n]? = some z) (hh : headOk z (zs.drop (n + 1)) = false) : scanL (zs.drop n) = ([], 0) := by
  rw [drop_consI h, scanL_cons, if_neg (by rw [hh]; simp)]

theorem scan_go {zs : List Int} {n m : Nat} (h : zs[n]? = some (m : Int)) (hh : headOk (m : Int) (zs.drop (n + 1)) = true) {acc : List (List Int)} (hs : scanL zs = (acc ++ (scanL (zs.drop n)).1, n + (scanL (zs.drop n)).2)) :
    scanL zs = ((acc ++ [(zs.drop (n + 1)).take m]) ++ (scanL (zs.drop (n + m + 2))).1, (n + m + 2) + (scanL (zs.drop (n + m + 2))).2) := by
  rw [drop_consI h, scanL_cons, if_pos hh] at hs
  have e1 : (m : Int).toNat = m := by omega
  rw [e1, List.drop_drop, show n + 1 + (m + 1) = n + m + 2 by omega] at hs
  rw [hs]
  simp
  omega

end Go.Proofs.YtnmpbocnbcokeaaGreatDoor

/-
  WALKS: spec.l5Paths, TreeChanged.
-/
namespace Go.Proofs.YtnmpbocnbcokeaaGreatDoor
open Go.RowKit
set_option linter.unusedVariables false

theorem drop_cons' {α : Type} {l : List α} {n : Nat} {z : α} (h : l[n]? = some z) : l.drop n = z :: l.drop (n + 1) := by
  obtain ⟨h1, h2⟩ := List.getElem?_eq_some_iff.1 h
  rw [List.drop_eq_getElem_cons h1, h2]

theorem merge_left {a b : List Nd} {p q : Nat} {x : Nd} (hx : a[p]? = some x) (h : q = b.length ∨ ∃ y, b[q]? = some y ∧ ltB x.p y.p = true) : mergeP (a.drop p) (b.drop q) = x.p :: mergeP (a.drop (p + 1)) (b.drop q) := by
  rw [drop_cons' hx]
  rcases h with h | ⟨y, hy, hl⟩
  · rw [h, List.drop_length, mergeP_nil', mergeP_nil']; rfl
  · rw [drop_cons' hy, mergeP_cons, if_pos hl]

theorem merge_right {a b : List Nd} {p q : Nat} {y : Nd} (hy : b[q]? = some y) (h : p = a.length ∨ ∃ x, a[p]? = some x ∧ ltB x.p y.p = false ∧ ltB y.p x.p = true) : mergeP (a.drop p) (b.drop q) = y.p :: mergeP (a.drop p) (b.drop (q + 1)) := by
  rw [drop_cons' hy]
  rcases h with h | ⟨x, hx, hl, hr⟩
  · rw [h, List.drop_length, mergeP_nil, mergeP_nil]; rfl
  · rw [drop_cons' hx, mergeP_cons, if_neg (by rw [hl]; simp), if_pos hr]

theorem merge_both {a b : List Nd} {p q : Nat} {x y : Nd} (hx : a[p]? = some x) (hy : b[q]? = some y) (hl : ltB x.p y.p = false) (hr : ltB y.p x.p = false) : mergeP (a.drop p) (b.drop q) = x.p :: mergeP (a.drop (p + 1)) (b.drop (q + 1)) := by
  rw [drop_cons' hx, drop_cons' hy, mergeP_cons, if_neg (by rw [hl]; simp), if_neg (by rw [hr]; simp)]

theorem cell_str_new (w : World) (v : Value) (t : TypeId) : ∀ j u, [v][j]? = some u → (w.alloc (.cells #[v] t)).cell? ((⟨w.heap.size, 0, none⟩ : Addr).add j) = some u := cell_int_new w v t

theorem own_text {W : World} {b : Nat} {e : TypeId} {v : Value} {acc : List ByteArray} {x : ByteArray} (h : W.ownsRow b e 1 v (acc.length + 1) (acc.map Value.string ++ [.string x])) : W.ownsRow b e 1 v (acc ++ [x]).length ((acc ++ [x]).map Value.string) := by
  rw [List.map_append, List.length_append]; exact h

def MergeRel (a b : List Nd) (W : World) (o i k : Value) (wr : World) : Prop :=
  ∃ (p q : Nat) (done : List ByteArray), i = .int .i64 p ∧ k = .int .i64 q ∧ p ≤ a.length ∧ q ≤ b.length ∧ Hid (mergeP a b = done ++ mergeP (a.drop p) (b.drop q)) ∧ Hid (done.length ≤ p + q) ∧
    wr.ownsRow W.heap.size 9 1 o done.length (done.map Value.string) ∧ Hid (Below W.heap.size W wr)

end Go.Proofs.YtnmpbocnbcokeaaGreatDoor

/-
  append to a list of the call's own, and where the result lies: in the same block, or in a new one.
-/
namespace Go.Proofs.YtnmpbocnbcokeaaGreatDoor
open Go.RowKit
set_option linter.unusedVariables false

/-- The result's block is the old one or a new one. -/
def SameOrNew (w : World) (v v' : Value) : Prop := ∀ k, v'.ownBlock = some k → v.ownBlock = some k ∨ w.heap.size ≤ k

theorem append_where {P : Program} {w w' : World} {base n m c : Nat} {t ty e : TypeId} {i : TypeInfo} {z v v' : Value} {xs news : List Value} {a : Addr} (ht : P.underlying t = some (.slice e)) (hi : P.info? e = some i) (hz : i.zero = some z) (hs1 : i.size = 1)
    (hown : w.ownsRow base e 1 v n xs) (hl : news.length = m * 1) (hnews : ∀ j u, news[j]? = some u → w.cell? (a.add j) = some u) (h1 : ∀ u ∈ news, u.oneCell' = true) (h63 : n + m ≤ maxLen) (hbytes : (n + m) * i.bytes ≤ 140737488355328)
    (hr : (Builtin.append_ #[t, t] ty #[v, .slice (some a) m c]).run P w = .ok v' w') (h4 : v' = .slice none 0 0 ↔ v = .slice none 0 0 ∧ m = 0) : SameOrNew w v v' := by
  intro k hk
  have h63' : n + m ≤ 9223372036854775807 := by unfold maxLen at h63; omega
  rcases hown.2 with ⟨rfl, rfl⟩ | ⟨g, cap, cur, rfl, hbg, hg, hnc, hcm, hcs, htake⟩
  · by_cases hm : m = 0
    · rw [h4.2 ⟨rfl, hm⟩] at hk; cases hk
    · have hr2 := run_append_nil (P := P) w t ty e i z ht hi hz a m c news (by rw [hs1]; exact hl) hnews (by omega) (by omega) (by
        rw [Nat.zero_add] at hbytes; omega)
      rw [hr] at hr2
      injection hr2 with e1 _
      rw [e1] at hk
      simp [Value.ownBlock] at hk
      exact .inr (by omega)
  · by_cases hroom : n + m ≤ cap
    · have hr2 := run_append_room (P := P) w t ty e i ht hi g n cap cur hg a m c news (by rw [hs1]; exact hl) hnews h1 hroom (by rw [hs1, hl, hcs]; omega)
      rw [hr] at hr2
      injection hr2 with e1 _
      rw [e1] at hk
      exact .inl hk
    · have hr2 := run_append_grow (P := P) w t ty e i z ht hi hz ⟨g, 0, none⟩ n cap xs (by rw [hs1]; exact hown.1) (hown.cells (g := g) rfl) a m c news (by rw [hs1]; exact hl) hnews (by omega) (by omega) (growslice_fits (by omega) hbytes)
      rw [hr] at hr2
      injection hr2 with e1 _
      rw [e1] at hk
      simp [Value.ownBlock] at hk
      exact .inr (by omega)

theorem wpList_append_where {P : Program} {w : World} {ops : Array Oper} {rest : List Oper} {o : Oper} {a : Act} {Q : Exit → Act → World → Prop} (hgd : o.guard = none) (s x : Operand) (t : TypeId)
    (ho : o.op = .call { callee := .builtin .append, args := #[s, x], argTypes := #[t, t] })
    (base : Nat) (e : TypeId) (i : TypeInfo) (z : Value) (bytes : Nat) (ht : P.underlying t = some (.slice e)) (hi : P.info? e = some i) (hz : i.zero = some z)
    (hsize : i.size = 1) (hby : i.bytes = bytes) (hzs : z.cells.size = 1)
    (v : Value) (n : Nat) (xs : List Value) (hs : a.eval s = v) (hown : w.ownsRow base e 1 v n xs)
    (ad : Addr) (m c : Nat) (news : List Value) (hx : a.eval x = .slice (some ad) m c) (hl : news.length = m * 1) (hnews : ∀ j u, news[j]? = some u → w.cell? (ad.add j) = some u) (h1 : ∀ u ∈ news, u.oneCell' = true)
    (h63 : n + m ≤ maxLen) (hbytes : (n + m) * bytes ≤ 140737488355328) (hbase : base ≤ w.heap.size)
    (h : ∀ v' w', w'.ownsRow base e 1 v' (n + m) (xs ++ news) → w.grownBy w' v.ownBlock → SameOrNew w v v' → wpList P ops Q rest (a.put o.dst v') w') : wpList P ops Q (o :: rest) a w := by
  refine wpList_plain hgd fun K hK => ?_
  obtain ⟨v', w', hr, h2, h3, h4⟩ := run_append_own (P := P) w base t o.type e i z 1 bytes ht hi hz hsize hby hzs (by decide) v n xs hown ad m c news hl hnews h1 h63 hbytes hbase
  have h5 := append_where ht hi hz hsize hown hl hnews h1 h63 (by rw [hby]; exact hbytes) hr h4
  unfold Oper.wp execOp
  simp only [ho, resolve, invoke, builtin, Sem.run_bind, Sem.run_pure, Result.andThen_ok, List.map_toArray, List.map_cons, List.map_nil, hs, hx, hr]
  exact hK _ _ (h v' w' h2 h3 h5)

end Go.Proofs.YtnmpbocnbcokeaaGreatDoor

/-
  WALKS: laws.sameNodes, laws.sameTexts at equal lists.
-/
namespace Go.Proofs.YtnmpbocnbcokeaaGreatDoor
open Go.RowKit
set_option linter.unusedVariables false

/-- A list of texts in memory. -/
def TextsAt (W : World) (a : Option Addr) (len : Nat) (xs : List ByteArray) : Prop :=
  xs.length = len ∧ (len = 0 ∨ ∃ b off, a = some ⟨b, off, none⟩ ∧ ∀ i x, xs[i]? = some x → W.cell? ⟨b, off + i, none⟩ = some (.string x))

theorem TextsAt.keep {W W' : World} {a : Option Addr} {len : Nat} {xs : List ByteArray} (h : TextsAt W a len xs) (hb : Below W.heap.size W W') : TextsAt W' a len xs := by
  obtain ⟨h1, h0 | ⟨b, off, ha, hc⟩⟩ := h
  · exact ⟨h1, .inl h0⟩
  · exact ⟨h1, .inr ⟨b, off, ha, fun i x hx => cell_kept hb (hc i x hx)⟩⟩

theorem texts_of_own {W : World} {base : Nat} {e : TypeId} {v : Value} {xs : List ByteArray} (h : W.ownsRow base e 1 v xs.length (xs.map Value.string)) :
    ∃ a cap, v = .slice a xs.length cap ∧ TextsAt W a xs.length xs := by
  rcases h.2 with ⟨rfl, h0⟩ | ⟨g, cap, cur, rfl, h1, h2, h3, h4, h5, h6⟩
  · exact ⟨none, 0, by rw [h0], rfl, .inl h0⟩
  · refine ⟨some ⟨g, 0, none⟩, cap, rfl, rfl, .inr ⟨g, 0, rfl, fun i x hx => ?_⟩⟩
    have hi := (List.getElem?_eq_some_iff.1 hx).1
    rw [Nat.zero_add, h.cellAt i (by omega), List.getElem?_map, hx]
    rfl

theorem below_drewN {n : Nat} {W W' : World} (h : Below n W W') (k : Nat) : Below n W (W'.drewN k) := by
  have e := (drewN_cell W' k ⟨0, 0, none⟩).2.2
  exact ⟨h.os, h.tape, h.output, by rw [e]; exact h.size, fun j hj => by rw [e]; exact h.block j hj⟩

theorem TextsAt.node {W : World} {a : Option Addr} {len : Nat} {xs : List ByteArray} (h : TextsAt W a len xs) {i : Nat} (hi : i < len) :
    ∃ b off x, a = some ⟨b, off, none⟩ ∧ xs[i]? = some x ∧ W.cell? ⟨b, off + i, none⟩ = some (.string x) := by
  obtain ⟨h1, h0 | ⟨b, off, ha, hc⟩⟩ := h
  · omega
  · obtain ⟨x, hx⟩ : ∃ x, xs[i]? = some x := ⟨_, List.getElem?_eq_getElem (by omega)⟩
    exact ⟨b, off, x, ha, hx, hc i x hx⟩

set_option maxHeartbeats 1000000 in
theorem sameNodes_c (a1 a2 : Option Addr) (len c1 c2 : Nat) (ns : List Nd) (hl : len ≤ 2097152) (W : World) (h1 : NodesAt W a1 len ns) (h2 : NodesAt W a2 len ns) :
    Calls Tryz.prog 7 #[.slice a1 len c1, .slice a2 len c2] W (BoolPost true W) := by
  have H1 := Lib.hid h1
  have H2 := Lib.hid h2
  clear h1 h2
  go_enter Tryz.func7, Tryz.ntmps7
  go_wp2
  go_loopw [5] (fun i wr => ∃ n : Nat, i = .int .i64 n ∧ n ≤ len ∧ Hid (Below W.heap.size W wr)) (fun i _ => len - (intOf i).toNat)
  case atStart => exact ⟨0, rfl, by omega, Below.refl _ _⟩
  case round =>
    obtain ⟨i, rfl, hi, HB⟩ := hrel
    by_cases hlt : i < len
    · obtain ⟨b, off, n, rfl, hn, x0, x1, x2⟩ := (H1.out.keep HB.out).node hlt
      obtain ⟨b', off', n', rfl, hn', y0, y1, y2⟩ := (H2.out.keep HB.out).node hlt
      obtain rfl : n = n' := Option.some.inj (hn.symm.trans hn')
      have hlt' : (i : Int) < len := by omega
      have hi0 : (0 : Int) ≤ i := by omega
      have HLT := Lib.hid hlt
      clear hi hlt hn hn'
      go_wp2
      go_quiet (fail)
      have HB2 := Lib.hid (below_drewN HB.out nq)
      clear x0 x1 x2 y0 y1 y2
      go_wp2
      go_roundw
      case rel => exact ⟨i + 1, by go_num, by have := HLT.out; omega, HB2⟩
      case measure => have := HLT.out; simp [intOf]; omega
    · have hge : (len : Int) ≤ i := by omega
      clear hi hlt
      go_wp2
      go_ret
      exact ⟨rfl, HB.out⟩

set_option maxHeartbeats 1000000 in
theorem sameTexts_c (a1 a2 : Option Addr) (len c1 c2 : Nat) (ns : List ByteArray) (hl : len ≤ 2097152) (W : World) (h1 : TextsAt W a1 len ns) (h2 : TextsAt W a2 len ns) :
    Calls Tryz.prog 9 #[.slice a1 len c1, .slice a2 len c2] W (BoolPost true W) := by
  have H1 := Lib.hid h1
  have H2 := Lib.hid h2
  clear h1 h2
  go_enter Tryz.func9, Tryz.ntmps9
  go_wp2
  go_loopw [5] (fun i wr => ∃ n : Nat, i = .int .i64 n ∧ n ≤ len ∧ Hid (Below W.heap.size W wr)) (fun i _ => len - (intOf i).toNat)
  case atStart => exact ⟨0, rfl, by omega, Below.refl _ _⟩
  case round =>
    obtain ⟨i, rfl, hi, HB⟩ := hrel
    by_cases hlt : i < len
    · obtain ⟨b, off, n, rfl, hn, x0⟩ := (H1.out.keep HB.out).node hlt
      obtain ⟨b', off', n', rfl, hn', y0⟩ := (H2.out.keep HB.out).node hlt
      obtain rfl : n = n' := Option.some.inj (hn.symm.trans hn')
      have hlt' : (i : Int) < len := by omega
      have hi0 : (0 : Int) ≤ i := by omega
      have HLT := Lib.hid hlt
      clear hi hlt hn hn'
      go_wp2
      go_quiet (fail)
      have HB2 := Lib.hid (below_drewN HB.out nq)
      clear x0 y0
      go_wp2
      go_roundw
      case rel => exact ⟨i + 1, by go_num, by have := HLT.out; omega, HB2⟩
      case measure => have := HLT.out; simp [intOf]; omega
    · have hge : (len : Int) ≤ i := by omega
      clear hi hlt
      go_wp2
      go_ret
      exact ⟨rfl, HB.out⟩

end Go.Proofs.YtnmpbocnbcokeaaGreatDoor

/-
  WALKS: spec.TreeChanged.
-/
namespace Go.Proofs.YtnmpbocnbcokeaaGreatDoor
open Go.RowKit
set_option linter.unusedVariables false

theorem conNeq (k v k' v' : Int) (w : World) : (binOp .neq 25 (.agg #[.int .i64 k, .int .i64 v]) (.agg #[.int .i64 k', .int .i64 v'])).run Tryz.prog w = .ok (.bool (!(k == k' && v == v'))) w := by
  by_cases h : k = k'
  · subst h
    by_cases h2 : v = v'
    · subst h2
      simp [binOp, go_sem, Op.equal, Op.maxDepth]
    · have : (v == v') = false := beq_eq_false_iff_ne.2 h2
      simp [binOp, go_sem, Op.equal, Op.maxDepth, h2]
  · have : (k == k') = false := beq_eq_false_iff_ne.2 h
    simp [binOp, go_sem, Op.equal, Op.maxDepth, this]

theorem diff_bool (a b : List Nd) (p : ByteArray) {k v k' v' : Int} (h1 : getT a p = (k, v)) (h2 : getT b p = (k', v')) : diffB a b p = !(k == k' && v == v') := by
  unfold diffB
  rw [h1, h2]
  by_cases h : k = k' <;> by_cases g : v = v' <;> simp [h, g]

def chgAcc (ns ms : List Nd) (i : Nat) : List ByteArray := ((mergeP ns ms).take i).filter (diffB ns ms)

theorem chgAcc_yes {ns ms : List Nd} {i : Nat} {x : ByteArray} (hx : (mergeP ns ms)[i]? = some x) (h : diffB ns ms x = true) : chgAcc ns ms (i + 1) = chgAcc ns ms i ++ [x] := by
  unfold chgAcc
  rw [List.take_add_one, hx]
  simp [List.filter_append, h]
theorem chgAcc_no {ns ms : List Nd} {i : Nat} {x : ByteArray} (hx : (mergeP ns ms)[i]? = some x) (h : diffB ns ms x = false) : chgAcc ns ms (i + 1) = chgAcc ns ms i := by
  unfold chgAcc
  rw [List.take_add_one, hx]
  simp [List.filter_append, h]
theorem chgAcc_len (ns ms : List Nd) (i : Nat) : (chgAcc ns ms i).length ≤ i := by
  unfold chgAcc
  exact Nat.le_trans (List.length_filter_le _ _) (by rw [List.length_take]; omega)

def ChgRel (ns ms : List Nd) (W W2 : World) (s4 : Value) (ml : Nat) (o i : Value) (wr : World) : Prop :=
  ∃ n : Nat, i = .int .i64 n ∧ n ≤ ml ∧ Hid (wr.ownsRow W.heap.size 9 1 o (chgAcc ns ms n).length ((chgAcc ns ms n).map Value.string)) ∧ Hid (wr.ownsRow W2.heap.size 9 1 s4 ml ((mergeP ns ms).map Value.string)) ∧
    Hid (∀ k, o.ownBlock = some k → s4.ownBlock ≠ some k) ∧ Hid (Below W.heap.size W wr)

theorem texts_own {W : World} {base len c : Nat} {e : TypeId} {a : Option Addr} {zs : List ByteArray} (hz : zs.length = len) (h : W.ownsRow base e 1 (.slice a len c) len (zs.map Value.string)) : TextsAt W a len zs := by
  subst hz
  obtain ⟨a', c', he, hi⟩ := texts_of_own h
  cases he
  exact hi

end Go.Proofs.YtnmpbocnbcokeaaGreatDoor

/-
  WALKS: impl.TreeChanged.
-/
namespace Go.Proofs.YtnmpbocnbcokeaaGreatDoor
open Go.RowKit
set_option linter.unusedVariables false

/-- Two trees in memory that share no place. -/
structure TwoT (base : Nat) (ns ms : List Nd) (r1 r2 : Nat) (W : World) (A1 A2 : List UInt8 → Option Nat) : Prop where
  t1 : Trie W A1 (Fof ns)
  t2 : Trie W A2 (Fof ms)
  a1 : A1 [] = some r1
  a2 : A2 [] = some r2
  far : ∀ u w b, A1 u = some b → A2 w ≠ some b
  lo1 : ∀ u b, A1 u = some b → base ≤ b
  lo2 : ∀ u b, A2 u = some b → base ≤ b

/-- What a step keeps: all below a base, and all cells that are no places. -/
structure KeptP (base : Nat) (W W' : World) : Prop where
  low : Below base W W'
  typ : ∀ (k : Nat) (cs : Array Value) (t : TypeId) (fr : Nat × Nat), W.heap[k]? = some (.cells cs t fr) → t ≠ 59 → W'.heap[k]? = W.heap[k]?

theorem KeptP.trans {base : Nat} {W W1 W2 : World} (h : KeptP base W W1) (k : KeptP base W1 W2) : KeptP base W W2 :=
  ⟨h.low.trans k.low, fun j cs t fr hj ht => (k.typ j cs t fr ((h.typ j cs t fr hj ht).trans hj) ht).trans (h.typ j cs t fr hj ht)⟩

theorem KeptP.row {base b0 : Nat} {W W' : World} (h : KeptP base W W') {e : TypeId} {size n : Nat} {v : Value} {xs : List Value} (ho : W.ownsRow b0 e size v n xs) (he : e ≠ 59) : W'.ownsRow b0 e size v n xs := by
  refine ⟨ho.1, ?_⟩
  rcases ho.2 with h0 | ⟨g, cap, cur, hv, h1, h2, h3⟩
  · exact .inl h0
  · exact .inr ⟨g, cap, cur, hv, h1, (h.typ g cur e (0, 0) h2 he).trans h2, h3⟩

theorem KeptP.cell {base : Nat} {W W' : World} (h : KeptP base W W') {k : Nat} {cs : Array Value} {t : TypeId} (hk : W.heap[k]? = some (.cells cs t (0, 0))) (ht : t ≠ 59) (i : Nat) : W'.cell? ⟨k, i, none⟩ = W.cell? ⟨k, i, none⟩ :=
  World.cell?_of_block (h.typ k cs t (0, 0) hk ht)

theorem KeptP.of_below {base : Nat} {W W' : World} (hb : base ≤ W.heap.size) (h : Below W.heap.size W W') : KeptP base W W' :=
  ⟨h.mono hb, fun k cs t fr hk _ => h.block k (Array.getElem?_eq_some_iff.1 hk).1⟩

theorem KeptP.of_off {base : Nat} {A : List UInt8 → Option Nat} {F : List UInt8 → Int × Int} {W W' : World} (hT : Trie W A F) (hb : base ≤ W.heap.size) (hA : ∀ u c, A u = some c → base ≤ c) (h : Off A W.heap.size W W') : KeptP base W W' :=
  ⟨h.below hb hA, fun k cs t fr hk ht => h.block k (Array.getElem?_eq_some_iff.1 hk).1 fun u e => by
    have := hT.cells u k e
    rw [hk] at this
    cases this
    exact ht rfl⟩

theorem TwoT.below {base : Nat} {ns ms : List Nd} {r1 r2 : Nat} {W W' : World} {A1 A2 : List UInt8 → Option Nat} (h : TwoT base ns ms r1 r2 W A1 A2) (hb : Below W.heap.size W W') : TwoT base ns ms r1 r2 W' A1 A2 :=
  ⟨h.t1.below hb, h.t2.below hb, h.a1, h.a2, h.far, h.lo1, h.lo2⟩

/-- An append to a row of another type. -/
theorem TwoT.grown {base b0 : Nat} {ns ms : List Nd} {r1 r2 : Nat} {W W' : World} {A1 A2 : List UInt8 → Option Nat} (h : TwoT base ns ms r1 r2 W A1 A2) {e : TypeId} {size n : Nat} {v : Value} {xs : List Value} (ho : W.ownsRow b0 e size v n xs) (he : e ≠ 59)
    (hg : W.grownBy W' v.ownBlock) : TwoT base ns ms r1 r2 W' A1 A2 := by
  have hne : ∀ (A : List UInt8 → Option Nat) (F : List UInt8 → Int × Int), Trie W A F → ∀ u b, A u = some b → some b ≠ v.ownBlock := by
    intro A F hT u b hb e1
    rcases ho.2 with ⟨rfl, _⟩ | ⟨g, cap, cur, rfl, _, h2, _⟩
    · cases e1
    · simp [Value.ownBlock] at e1
      subst e1
      have := hT.cells u b hb
      rw [h2] at this
      cases this
      exact he rfl
  exact ⟨h.t1.kept fun u b hb => hg.block b (h.t1.lt hb) (hne _ _ h.t1 u b hb), h.t2.kept fun u b hb => hg.block b (h.t2.lt hb) (hne _ _ h.t2 u b hb), h.a1, h.a2, h.far, h.lo1, h.lo2⟩

/-- A row is kept while another one of another type grows. -/
theorem row_apart {W W' : World} {b1 b2 : Nat} {e1 e2 : TypeId} {s1 s2 n1 n2 : Nat} {v1 v2 : Value} {x1 x2 : List Value} (h1 : W.ownsRow b1 e1 s1 v1 n1 x1) (h2 : W.ownsRow b2 e2 s2 v2 n2 x2) (he : e1 ≠ e2) (hg : W.grownBy W' v2.ownBlock) : W'.ownsRow b1 e1 s1 v1 n1 x1 := by
  refine h1.kept hg ?_
  rcases h1.2 with ⟨rfl, _⟩ | ⟨g, cap, cur, rfl, _, q1, _⟩
  · exact .inl rfl
  · right
    intro e
    rcases h2.2 with ⟨rfl, _⟩ | ⟨g', cap', cur', rfl, _, q2, _⟩
    · cases e
    · simp [Value.ownBlock] at e
      subst e
      rw [q1] at q2
      cases q2
      exact he rfl

/-- The place of a path in the one tree or in the other one. -/
def FoundP (base : Nat) (ns ms : List Nd) (r1 r2 : Nat) (fst : Bool) (w : List UInt8) (c : Int × Int) (A1 A2 : List UInt8 → Option Nat) (W : World) (e : Ending) (W' : World) : Prop :=
  ∃ A1' A2' b, e = .returned (.pointer (some ⟨b, 0, none⟩)) ∧ TwoT base ns ms r1 r2 W' A1' A2' ∧ KeptP base W W' ∧ W'.cell? ⟨b, 0, none⟩ = some (.int .i64 c.1) ∧ W'.cell? ⟨b, 1, none⟩ = some (.int .i64 c.2) ∧
    (fst = true → A1' w = some b) ∧ (fst = false → A1' = A1)

theorem trie_two {W : World} {A : List UInt8 → Option Nat} {F : List UInt8 → Int × Int} (h : Trie W A F) {w : List UInt8} {b : Nat} (hb : A w = some b) {c : Int × Int} (hc : F w = c) : W.cell? ⟨b, 0, none⟩ = some (.int .i64 c.1) ∧ W.cell? ⟨b, 1, none⟩ = some (.int .i64 c.2) := by
  subst hc
  exact ⟨h.cell hb 0, h.cell hb 1⟩

theorem at_first {base : Nat} {ns ms : List Nd} {r1 r2 : Nat} {w : List UInt8} (hw : Wrd w) {c : Int × Int} (hc : Fof ns w = c) {A1 A2 : List UInt8 → Option Nat} {W : World} (h : TwoT base ns ms r1 r2 W A1 A2) (hb : base ≤ W.heap.size) :
    Calls Tryz.prog 23 #[.pointer (some ⟨r1, 0, none⟩), .string (pB w)] W (FoundP base ns ms r1 r2 true w c A1 A2 W) := by
  refine (at_c A1 (Fof ns) w hw W h.t1 r1 h.a1).mono ?_
  rintro e W' ⟨A', b, rfl, hb', hT', hX, hO⟩
  obtain ⟨c0, c1⟩ := trie_two hT' hb' hc
  refine ⟨A', A2, b, rfl, ⟨hT', h.t2.kept fun u x hx => hO.block x (h.t2.lt hx) fun u' e' => h.far u' u x e' hx, (hX [] r1).1 h.a1, h.a2, fun u v x hx hv => ?_, ext_from hX hb h.lo1, h.lo2⟩, .of_off h.t1 hb h.lo1 hO, c0, c1, fun _ => hb', fun e => (by cases e)⟩
  rcases (hX u x).2 hx with q | q
  · exact h.far u v x q hv
  · have := h.t2.lt hv; omega

theorem at_second {base : Nat} {ns ms : List Nd} {r1 r2 : Nat} {w : List UInt8} (hw : Wrd w) {c : Int × Int} (hc : Fof ms w = c) {A1 A2 : List UInt8 → Option Nat} {W : World} (h : TwoT base ns ms r1 r2 W A1 A2) (hb : base ≤ W.heap.size) :
    Calls Tryz.prog 23 #[.pointer (some ⟨r2, 0, none⟩), .string (pB w)] W (FoundP base ns ms r1 r2 false w c A1 A2 W) := by
  refine (at_c A2 (Fof ms) w hw W h.t2 r2 h.a2).mono ?_
  rintro e W' ⟨A', b, rfl, hb', hT', hX, hO⟩
  obtain ⟨c0, c1⟩ := trie_two hT' hb' hc
  refine ⟨A1, A', b, rfl, ⟨h.t1.kept fun u x hx => hO.block x (h.t1.lt hx) fun u' e' => h.far u u' x hx e', hT', h.a1, (hX [] r2).1 h.a2, fun u v x hx hv => ?_, h.lo1, ext_from hX hb h.lo2⟩, .of_off h.t2 hb h.lo2 hO, c0, c1, fun e => (by cases e), fun _ => rfl⟩
  rcases (hX v x).2 hv with q | q
  · exact h.far u v x hx q
  · have := h.t1.lt hx; omega

/-! ## The paths that differ -/

def difL (ns ms L : List Nd) : List ByteArray := (L.filter (fun m => diffB ns ms m.p)).map Nd.p

theorem difL_yes {ns ms L : List Nd} {i : Nat} {m : Nd} (hm : L[i]? = some m) (h : diffB ns ms m.p = true) : difL ns ms (L.take (i + 1)) = difL ns ms (L.take i) ++ [m.p] := by
  unfold difL
  rw [List.take_add_one, hm, List.filter_append, List.map_append]
  simp [h]

theorem difL_no {ns ms L : List Nd} {i : Nat} {m : Nd} (hm : L[i]? = some m) (h : diffB ns ms m.p = false) : difL ns ms (L.take (i + 1)) = difL ns ms (L.take i) := by
  unfold difL
  rw [List.take_add_one, hm, List.filter_append, List.map_append]
  simp [h]

theorem difL_len (ns ms L : List Nd) (i : Nat) : (difL ns ms (L.take i)).length ≤ i := by
  unfold difL
  rw [List.length_map]
  exact Nat.le_trans (List.length_filter_le _ _) (by rw [List.length_take]; omega)

theorem chg_eq {ns ms : List Nd} (h1 : validT ns = true) (h2 : validT ms = true) {zs : List ByteArray} (ha : AscP zs) (hm : ∀ p, p ∈ zs ↔ p ∈ difL ns ms (ns ++ ms)) : zs = chgL ns ms := by
  refine ascP_ext ha chg_asc fun p => ?_
  rw [hm]
  unfold chgL difL
  rw [h1, h2]
  simp only [Bool.and_self, if_true, List.mem_map, List.mem_filter, List.mem_append]
  rw [mergeP_mem _ ns ms (Nat.le_refl _)]
  constructor
  · rintro ⟨m, ⟨hm | hm, hd⟩, rfl⟩
    · exact ⟨.inl ⟨m, hm, rfl⟩, hd⟩
    · exact ⟨.inr ⟨m, hm, rfl⟩, hd⟩
  · rintro ⟨⟨m, hm, rfl⟩ | ⟨m, hm, rfl⟩, hd⟩
    · exact ⟨m, ⟨.inl hm, hd⟩, rfl⟩
    · exact ⟨m, ⟨.inr hm, hd⟩, rfl⟩

theorem chg_bad {ns ms : List Nd} (h : validT ns = false ∨ validT ms = false) : chgL ns ms = [] := by
  unfold chgL
  rcases h with h | h <;> simp [h]

def DifRel (ns ms L : List Nd) (r1 r2 : Nat) (sL : Value) (W : World) (o i : Value) (wr : World) : Prop :=
  ∃ (n : Nat) (A1 A2 : List UInt8 → Option Nat), i = .int .i64 n ∧ n ≤ L.length ∧ Hid (wr.ownsRow W.heap.size 9 1 o (difL ns ms (L.take n)).length ((difL ns ms (L.take n)).map Value.string)) ∧
    Hid (TwoT W.heap.size ns ms r1 r2 wr A1 A2) ∧ Hid (wr.ownsRow W.heap.size 49 3 sL L.length (flatN L)) ∧ Hid (Below W.heap.size W wr)

set_option maxHeartbeats 2000000 in
set_option maxRecDepth 100000 in
theorem implTreeChanged_c (a1 : Option Addr) (len1 cap1 : Nat) (ns : List Nd) (a2 : Option Addr) (len2 cap2 : Nat) (ms : List Nd) (hl1 : len1 ≤ 2097152) (hl2 : len2 ≤ 2097152) (hs1 : Short 2097152 ns) (hs2 : Short 2097152 ms) (W : World) (h1 : NodesAt W a1 len1 ns) (h2 : NodesAt W a2 len2 ms) :
    Calls Tryz.prog 10 #[.slice a1 len1 cap1, .slice a2 len2 cap2] W (TextsPost (chgL ns ms) W) := by
  obtain ⟨i0, hi, hz0, hz1, hz2⟩ := info_parts infoStr
  have HT1 := Lib.hid (treeOf_c a1 len1 cap1 ns hl1 hs1 W h1)
  have HT2 := Lib.hid (fun W' (hb : Below W.heap.size W W') => treeOf_c a2 len2 cap2 ms hl2 hs2 W' (h2.keep hb))
  have H1 := Lib.hid h1
  have H2 := Lib.hid h2
  clear h1 h2 hs1 hs2
  go_enter Tryz.func10, Tryz.ntmps10
  go_wp2_with fail
  refine HT1.out.mono ?_
  rintro e W1 ⟨hB1, h1⟩
  have HB1 := Lib.hid hB1
  have HT2' := Lib.hid (HT2.out W1 hB1)
  rcases h1 with ⟨hv1, rfl⟩ | ⟨hv1, A1, b1, rfl, hA10, hT1, hA1⟩
  · have HG := Lib.hid (chg_bad (ms := ms) (.inl hv1))
    clear hv1 hB1
    go_wp2_with fail
    refine HT2'.out.mono ?_
    rintro e W2 ⟨hB2, h2⟩
    have HB2 := Lib.hid (below_next HB1.out hB2)
    clear hB2
    rcases h2 with ⟨hv2, rfl⟩ | ⟨hv2, A2, b2, rfl, hA20, hT2, hA2⟩
    · clear hv2
      go_wp2
      refine bodyPost_ret (v := .slice none 0 0) (by simp [results, Tryz.f10, go_sem]) rfl (texts_nil HG.out HB2.out)
    · clear hv2 hA20 hT2 hA2
      go_wp2
      refine bodyPost_ret (v := .slice none 0 0) (by simp [results, Tryz.f10, go_sem]) rfl (texts_nil HG.out HB2.out)
  · have HV1 := Lib.hid hv1
    have HX1 := Lib.hid (And.intro hA10 (And.intro hT1 hA1))
    clear hv1 hA10 hT1 hA1 hB1
    go_wp2_with fail
    refine HT2'.out.mono ?_
    rintro e W2 ⟨hB2, h2⟩
    have HB2 := Lib.hid (below_next HB1.out hB2)
    have HB2' := Lib.hid hB2
    clear hB2
    rcases h2 with ⟨hv2, rfl⟩ | ⟨hv2, A2, b2, rfl, hA20, hT2, hA2⟩
    · have HG := Lib.hid (chg_bad (ns := ns) (.inr hv2))
      clear hv2
      go_wp2
      refine bodyPost_ret (v := .slice none 0 0) (by simp [results, Tryz.f10, go_sem]) rfl (texts_nil HG.out HB2.out)
    · have HV2 := Lib.hid hv2
      have HTT := Lib.hid (show TwoT W.heap.size ns ms b1 b2 W2 A1 A2 from ⟨HX1.out.2.1.below HB2'.out, hT2, HX1.out.1, hA20, fun u w b hu hw => by
        have := HX1.out.2.1.lt hu
        have := hA2 w b hw
        omega, HX1.out.2.2, fun u b hb => Nat.le_trans HB1.out.size (hA2 u b hb)⟩)
      clear hv2 hA20 hT2 hA2 HX1
      go_wp2_with fail
      have hL1 := ((validT_iff ns).1 HV1.out).2.2
      have hL2 := ((validT_iff ms).1 HV2.out).2.2
      obtain ⟨L, hL⟩ : ∃ L : List Nd, L = ns ++ ms := ⟨_, rfl⟩
      have HLL := Lib.hid hL
      have hLl : L.length ≤ 20 := by rw [hL, List.length_append]; omega
      have HR := Lib.hid (rows_two (c1 := cap1) (c2 := cap2) W2 (H1.out.keep HB2.out) (H2.out.keep HB2.out) 23)
      have HB3 := Lib.hid (below_next HB2.out (below_box W2 (.cells #[.slice a1 len1 cap1, .slice a2 len2 cap2] 23)))
      have HTT3 := Lib.hid (HTT.out.below (below_box W2 (.cells #[.slice a1 len1 cap1, .slice a2 len2 cap2] 23)))
      generalize W2.alloc (.cells #[.slice a1 len1 cap1, .slice a2 len2 cap2] 23) = W3 at HR HB3 HTT3 ⊢
      have HC := Lib.hid (show Calls Tryz.prog 24 #[.slice (some ⟨W2.heap.size, 0, none⟩) 2 2] W3 (fun e W' => OwnsNodes W3.heap.size L e W' ∧ Below W3.heap.size W3 W') by
        have e : allN [⟨a1, len1, cap1, ns⟩, ⟨a2, len2, cap2, ms⟩] = L := by rw [hL]; simp [allN]
        have := concatN_c W2.heap.size 0 2 [⟨a1, len1, cap1, ns⟩, ⟨a2, len2, cap2, ms⟩] (by simp) (by rw [e]; omega) W3 HR.out
        rw [e] at this
        exact this)
      have HOK := Lib.hid (show NdsOk L by
        rw [hL]
        intro n hn
        rcases List.mem_append.1 hn with hn | hn
        · exact nds_ok HV1.out n hn
        · exact nds_ok HV2.out n hn)
      have HLN := Lib.hid hLl
      clear hL hL1 hL2
      refine HC.out.mono ?_
      rintro e W4 ⟨⟨sL, rfl, ho4⟩, hb4⟩
      obtain ⟨aL, cL, rfl, hn4⟩ := nodes_of_own ho4
      have HO4 := Lib.hid (own_mono ho4 HB3.out.size)
      have HB4 := Lib.hid (below_next HB3.out hb4)
      have HTT4 := Lib.hid (HTT3.out.below hb4)
      clear ho4 hb4 hn4
      go_wp2_with fail
      go_loopw [9, 33] (fun o i wr => DifRel ns ms L b1 b2 (.slice aL L.length cL) W o i wr) (fun _ i _ => L.length - (intOf i).toNat)
      case atStart => exact ⟨0, A1, A2, rfl, by omega, World.ownsRow_nil _ _ _ _, HTT4.out, HO4.out, HB4.out⟩
      case round =>
        obtain ⟨i, B1, B2, rfl, hi1, HO, HTR, HLR, HB⟩ := hrel
        by_cases hlt : i < L.length
        · obtain ⟨aL', cL', heq, hnL⟩ := nodes_of_own HLR.out
          simp only [Value.slice.injEq, true_and] at heq
          obtain ⟨rfl, rfl⟩ := heq
          obtain ⟨b, off, m, rfl, hm, c0, c1, c2⟩ := hnL.node hlt
          have hlt' : (i : Int) < L.length := by omega
          have hi20 : (i : Int) ≤ 20 := by omega
          have HLT := Lib.hid hlt
          have HM := Lib.hid hm
          obtain ⟨p, k, v⟩ := m
          simp only at c0 c1 c2
          obtain ⟨w, hw, hpw⟩ := vpB_word (HOK.out _ (List.mem_of_getElem? hm)).1
          simp only at hpw
          obtain ⟨⟨k1, v1⟩, hk1⟩ : ∃ c, Fof ns w = c := ⟨_, rfl⟩
          obtain ⟨⟨k2, v2⟩, hk2⟩ : ∃ c, Fof ms w = c := ⟨_, rfl⟩
          obtain ⟨dd, hdd⟩ : ∃ dd, diffB ns ms p = dd := ⟨_, rfl⟩
          have HDD := Lib.hid hdd
          have hne := fun w' => (conNeq k1 v1 k2 v2 w').trans (show _ = Result.ok (Value.bool dd) w' by
            rw [← hdd, diff_bool ns ms p (k := k1) (v := v1) (k' := k2) (v' := v2) (by rw [hpw]; exact hk1) (by rw [hpw]; exact hk2)])
          have HW := Lib.hid hw
          have HPW := Lib.hid hpw
          have HK := Lib.hid (And.intro hk1 hk2)
          have hbw := HB.out.size
          have HT9 := Lib.hid (show TwoT W.heap.size ns ms b1 b2 (wr.alloc (.cells #[.string p, .int .i64 k, .int .i64 v] 49)).drew B1 B2 from
            let h := HTR.out.below (below_box wr (.cells #[.string p, .int .i64 k, .int .i64 v] 49)); ⟨⟨h.t1.wrd, h.t1.root, h.t1.inj, h.t1.up, h.t1.nil, h.t1.cells⟩, ⟨h.t2.wrd, h.t2.root, h.t2.inj, h.t2.up, h.t2.nil, h.t2.cells⟩, h.a1, h.a2, h.far, h.lo1, h.lo2⟩)
          have HBX := Lib.hid (show (wr.alloc (.cells #[.string p, .int .i64 k, .int .i64 v] 49)).drew.heap[wr.heap.size]? = some (.cells #[.string p, .int .i64 k, .int .i64 v] 49 (0, 0)) from World.alloc_heap_new wr _)
          have HS9 := Lib.hid (show W.heap.size ≤ (wr.alloc (.cells #[.string p, .int .i64 k, .int .i64 v] 49)).drew.heap.size by show _ ≤ (wr.alloc _).heap.size; rw [World.size_alloc]; omega)
          have HAT1 := Lib.hid (show Calls Tryz.prog 23 #[.pointer (some ⟨b1, 0, none⟩), .string p] (wr.alloc (.cells #[.string p, .int .i64 k, .int .i64 v] 49)).drew (FoundP W.heap.size ns ms b1 b2 true w (k1, v1) B1 B2 (wr.alloc (.cells #[.string p, .int .i64 k, .int .i64 v] 49)).drew) by
            rw [hpw]; rw [hpw] at HT9 HS9; exact at_first hw hk1 HT9.out HS9.out)
          have HAT2 := Lib.hid (fun (W' : World) (C1 C2 : List UInt8 → Option Nat) (hT : TwoT W.heap.size ns ms b1 b2 W' C1 C2) (hs : W.heap.size ≤ W'.heap.size) =>
            show Calls Tryz.prog 23 #[.pointer (some ⟨b2, 0, none⟩), .string p] W' (FoundP W.heap.size ns ms b1 b2 false w (k2, v2) C1 C2 W') by rw [hpw]; exact at_second hw hk2 hT hs)
          have HN0 := Lib.hid (show 49 ≠ 59 by decide)
          clear hlt hi1 hm hw hpw hk1 hk2 hdd hnL
          go_upto_region 9 with (fail)
          have HS0 : Hid ((wr.alloc (.cells #[.string p, .int .i64 k, .int .i64 v] 49)).drew.cell? ⟨wr.heap.size, 0, none⟩ = some (.string p)) := by
            show (wr.alloc _).cell? _ = _
            simp
          refine wp_region_held_drew (S := (fun w' => w'.cell? ⟨wr.heap.size, 0, none⟩ = some (.string p))) (by kernel_rfl) HS0.out (fun hH => ?_)
          refine wpAnyH_take (i := 0) (oi := _) (v := ?_) rfl (by kernel_rfl) (by kernel_rfl) (by kernel_rfl) (fun _ _ _ h => h) (Or.inl ⟨by rfl, ?hy1⟩) (by assumption) ?_
          case hy1 => (intro w hSw; (try dsimp only at hSw); go_simp; try with_reducible rfl)
          try simp only [Act.put, List.getElem_toArray, List.getElem_cons_zero, List.setIfInBounds_toArray, List.set_cons_zero, List.set_cons_succ]
          refine wpAnyH_take (i := 1) (oi := _) (v := ?_) rfl (by kernel_rfl) (by kernel_rfl) (by kernel_rfl) (fun _ _ _ h => h) (Or.inl ⟨by rfl, ?hy2⟩) (by assumption) ?_
          case hy2 => (intro w hSw; (try dsimp only at hSw); go_simp; try with_reducible rfl)
          try simp only [Act.put, List.getElem_toArray, List.getElem_cons_zero, List.getElem_cons_succ, List.setIfInBounds_toArray, List.set_cons_zero, List.set_cons_succ]
          refine wpAnyH_take (i := 2) (oi := _) (v := ?_) rfl (by kernel_rfl) (by kernel_rfl) (by kernel_rfl) (fun _ _ _ h => h) (Or.inl ⟨by rfl, ?hy3⟩) (by assumption) ?_
          case hy3 => (intro w hSw; (try dsimp only at hSw); go_simp; try with_reducible rfl)
          try simp only [Act.put, List.getElem_toArray, List.getElem_cons_zero, List.getElem_cons_succ, List.setIfInBounds_toArray, List.set_cons_zero, List.set_cons_succ]
          refine wpAnyH_take (i := 7) (oi := _) (v := ?_) rfl (by kernel_rfl) (by kernel_rfl) (by kernel_rfl) (fun _ _ _ h => h) (Or.inl ⟨by rfl, ?hy4⟩) (by assumption) ?_
          case hy4 => (intro w hSw; (try dsimp only at hSw); go_simp; try with_reducible rfl)
          try simp only [Act.put, List.getElem_toArray, List.getElem_cons_zero, List.getElem_cons_succ, List.setIfInBounds_toArray, List.set_cons_zero, List.set_cons_succ]
          refine wpAnyH_take (i := 8) (oi := _) (v := ?_) rfl (by kernel_rfl) (by kernel_rfl) (by kernel_rfl) (fun _ _ _ h => h) (Or.inl ⟨by rfl, ?hy5⟩) (by assumption) ?_
          case hy5 => (intro w hSw; (try dsimp only at hSw); go_simp; try with_reducible rfl)
          try simp only [Act.put, List.getElem_toArray, List.getElem_cons_zero, List.getElem_cons_succ, List.setIfInBounds_toArray, List.set_cons_zero, List.set_cons_succ]
          refine wpAnyH_take (i := 9) (oi := _) (v := ?_) rfl (by kernel_rfl) (by kernel_rfl) (by kernel_rfl) (fun _ _ _ h => h) (Or.inl ⟨by rfl, ?hy6⟩) (by assumption) ?_
          case hy6 => (intro w hSw; (try dsimp only at hSw); go_simp; try with_reducible rfl)
          try simp only [Act.put, List.getElem_toArray, List.getElem_cons_zero, List.getElem_cons_succ, List.setIfInBounds_toArray, List.set_cons_zero, List.set_cons_succ]
          refine wpAnyH_ready (rs := [3]) (by kernel_rfl) (by simp) ?_
          refine AllReadyH.cons rfl (fun K hK => ?_) AllReadyH.nil
          go_simp
          (go_at_call 23; (with_reducible refine (HAT1.out).mono ?_); rintro e W6 ⟨C1, C2, b6, rfl, hT6, hK6, c60, c61, hf6, -⟩; have hs6 := Nat.le_trans HS9.out hK6.low.size; have hf6' := hf6 rfl)
          refine hK.out _ _ ((hK6.cell HBX.out HN0.out 0).trans HS0.out) (fun hHeld => ?_)
          try simp only [Act.put, List.getElem_toArray, List.getElem_cons_zero, List.getElem_cons_succ, List.setIfInBounds_toArray, List.set_cons_zero, List.set_cons_succ]
          refine wpAnyH_take (i := 4) (oi := _) (v := ?_) rfl (by kernel_rfl) (by kernel_rfl) (by kernel_rfl) (fun _ _ _ h => h) (Or.inl ⟨by rfl, ?hy7⟩) (by assumption) ?_
          case hy7 => (intro w hSw; (try dsimp only at hSw); go_simp; try with_reducible rfl)
          try simp only [Act.put, List.getElem_toArray, List.getElem_cons_zero, List.getElem_cons_succ, List.setIfInBounds_toArray, List.set_cons_zero, List.set_cons_succ]
          refine wpAnyH_take (i := 5) (oi := _) (v := ?_) rfl (by kernel_rfl) (by kernel_rfl) (by kernel_rfl) (fun _ _ _ h => h) (Or.inl ⟨by rfl, ?hy8⟩) (by assumption) ?_
          case hy8 => (intro w hSw; (try dsimp only at hSw); go_simp; try with_reducible rfl)
          try simp only [Act.put, List.getElem_toArray, List.getElem_cons_zero, List.getElem_cons_succ, List.setIfInBounds_toArray, List.set_cons_zero, List.set_cons_succ]
          refine wpAnyH_ready (rs := [6, 10]) (by kernel_rfl) (by simp) ?_
          refine AllReadyH.cons rfl (fun K hK => ?_) (AllReadyH.cons rfl (fun K hK => ?_) AllReadyH.nil)
          go_simp
          refine hK.out _ _ ((hK6.cell HBX.out HN0.out 0).trans HS0.out) (fun hHeld => ?_)
          try simp only [Act.put, List.getElem_toArray, List.getElem_cons_zero, List.getElem_cons_succ, List.setIfInBounds_toArray, List.set_cons_zero, List.set_cons_succ]
          refine wpAnyH_ready (rs := [10]) (by kernel_rfl) (by simp) ?_
          refine AllReadyH.cons rfl (fun K hK => ?_) AllReadyH.nil
          go_simp
          (go_at_call 23; (with_reducible refine (HAT2.out _ _ _ hT6 hs6).mono ?_); rintro e W7 ⟨D1, D2, b7, rfl, hT7, hK7, c70, c71, -, hf7⟩; have e7 := hf7 rfl; have z60 := (trie_two hT7.t1 (by rw [e7]; exact hf6') HK.out.1).1; have z61 := (trie_two hT7.t1 (by rw [e7]; exact hf6') HK.out.1).2)
          refine hK.out _ _ ((hK7.cell ((hK6.typ _ _ _ _ HBX.out HN0.out).trans HBX.out) HN0.out 0).trans ((hK6.cell HBX.out HN0.out 0).trans HS0.out)) (fun hHeld => ?_)
          try simp only [Act.put, List.getElem_toArray, List.getElem_cons_zero, List.getElem_cons_succ, List.setIfInBounds_toArray, List.set_cons_zero, List.set_cons_succ]
          refine wpAnyH_take (i := 11) (oi := _) (v := ?_) rfl (by kernel_rfl) (by kernel_rfl) (by kernel_rfl) (fun _ _ _ h => h) (Or.inl ⟨by rfl, ?hy9⟩) (by assumption) ?_
          case hy9 => (intro w hSw; (try dsimp only at hSw); go_simp; try with_reducible rfl)
          try simp only [Act.put, List.getElem_toArray, List.getElem_cons_zero, List.getElem_cons_succ, List.setIfInBounds_toArray, List.set_cons_zero, List.set_cons_succ]
          refine wpAnyH_take (i := 12) (oi := _) (v := ?_) rfl (by kernel_rfl) (by kernel_rfl) (by kernel_rfl) (fun _ _ _ h => h) (Or.inl ⟨by rfl, ?hy10⟩) (by assumption) ?_
          case hy10 => (intro w hSw; (try dsimp only at hSw); go_simp; try with_reducible rfl)
          try simp only [Act.put, List.getElem_toArray, List.getElem_cons_zero, List.getElem_cons_succ, List.setIfInBounds_toArray, List.set_cons_zero, List.set_cons_succ]
          refine wpAnyH_ready (rs := [13]) (by kernel_rfl) (by simp) ?_
          refine AllReadyH.cons rfl (fun K hK => ?_) AllReadyH.nil
          go_simp
          refine hK.out _ _ ((hK7.cell ((hK6.typ _ _ _ _ HBX.out HN0.out).trans HBX.out) HN0.out 0).trans ((hK6.cell HBX.out HN0.out 0).trans HS0.out)) (fun hHeld => ?_)
          try simp only [Act.put, List.getElem_toArray, List.getElem_cons_zero, List.getElem_cons_succ, List.setIfInBounds_toArray, List.set_cons_zero, List.set_cons_succ]
          refine wpAnyH_take (i := 14) (oi := _) (v := ?_) rfl (by kernel_rfl) (by kernel_rfl) (by kernel_rfl) (fun _ _ _ h => h) (Or.inl ⟨by rfl, ?hy11⟩) (by assumption) ?_
          case hy11 => (intro w hSw; (try dsimp only at hSw); go_simp; try with_reducible rfl)
          try simp only [Act.put, List.getElem_toArray, List.getElem_cons_zero, List.getElem_cons_succ, List.setIfInBounds_toArray, List.set_cons_zero, List.set_cons_succ]
          refine wpAnyH_done (by kernel_rfl) ?_ _
          rotate_left
          go_simp
          (go_at_call 23; (with_reducible refine (HAT2.out _ _ _ hT6 hs6).mono ?_); rintro e W7 ⟨D1, D2, b7, rfl, hT7, hK7, c70, c71, -, hf7⟩; have e7 := hf7 rfl; have z60 := (trie_two hT7.t1 (by rw [e7]; exact hf6') HK.out.1).1; have z61 := (trie_two hT7.t1 (by rw [e7]; exact hf6') HK.out.1).2)
          refine hK.out _ _ ((hK7.cell ((hK6.typ _ _ _ _ HBX.out HN0.out).trans HBX.out) HN0.out 0).trans ((hK6.cell HBX.out HN0.out 0).trans HS0.out)) (fun hHeld => ?_)
          try simp only [Act.put, List.getElem_toArray, List.getElem_cons_zero, List.getElem_cons_succ, List.setIfInBounds_toArray, List.set_cons_zero, List.set_cons_succ]
          refine wpAnyH_take (i := 11) (oi := _) (v := ?_) rfl (by kernel_rfl) (by kernel_rfl) (by kernel_rfl) (fun _ _ _ h => h) (Or.inl ⟨by rfl, ?hy12⟩) (by assumption) ?_
          case hy12 => (intro w hSw; (try dsimp only at hSw); go_simp; try with_reducible rfl)
          try simp only [Act.put, List.getElem_toArray, List.getElem_cons_zero, List.getElem_cons_succ, List.setIfInBounds_toArray, List.set_cons_zero, List.set_cons_succ]
          refine wpAnyH_take (i := 12) (oi := _) (v := ?_) rfl (by kernel_rfl) (by kernel_rfl) (by kernel_rfl) (fun _ _ _ h => h) (Or.inl ⟨by rfl, ?hy13⟩) (by assumption) ?_
          case hy13 => (intro w hSw; (try dsimp only at hSw); go_simp; try with_reducible rfl)
          try simp only [Act.put, List.getElem_toArray, List.getElem_cons_zero, List.getElem_cons_succ, List.setIfInBounds_toArray, List.set_cons_zero, List.set_cons_succ]
          refine wpAnyH_ready (rs := [6, 13]) (by kernel_rfl) (by simp) ?_
          refine AllReadyH.cons rfl (fun K hK => ?_) (AllReadyH.cons rfl (fun K hK => ?_) AllReadyH.nil)
          go_simp
          refine hK.out _ _ ((hK7.cell ((hK6.typ _ _ _ _ HBX.out HN0.out).trans HBX.out) HN0.out 0).trans ((hK6.cell HBX.out HN0.out 0).trans HS0.out)) (fun hHeld => ?_)
          try simp only [Act.put, List.getElem_toArray, List.getElem_cons_zero, List.getElem_cons_succ, List.setIfInBounds_toArray, List.set_cons_zero, List.set_cons_succ]
          refine wpAnyH_ready (rs := [13]) (by kernel_rfl) (by simp) ?_
          refine AllReadyH.cons rfl (fun K hK => ?_) AllReadyH.nil
          go_simp
          refine hK.out _ _ ((hK7.cell ((hK6.typ _ _ _ _ HBX.out HN0.out).trans HBX.out) HN0.out 0).trans ((hK6.cell HBX.out HN0.out 0).trans HS0.out)) (fun hHeld => ?_)
          try simp only [Act.put, List.getElem_toArray, List.getElem_cons_zero, List.getElem_cons_succ, List.setIfInBounds_toArray, List.set_cons_zero, List.set_cons_succ]
          refine wpAnyH_take (i := 14) (oi := _) (v := ?_) rfl (by kernel_rfl) (by kernel_rfl) (by kernel_rfl) (fun _ _ _ h => h) (Or.inl ⟨by rfl, ?hy14⟩) (by assumption) ?_
          case hy14 => (intro w hSw; (try dsimp only at hSw); go_simp; try with_reducible rfl)
          try simp only [Act.put, List.getElem_toArray, List.getElem_cons_zero, List.getElem_cons_succ, List.setIfInBounds_toArray, List.set_cons_zero, List.set_cons_succ]
          refine wpAnyH_done (by kernel_rfl) ?_ _
          rotate_left
          go_simp
          refine hK.out _ _ ((hK7.cell ((hK6.typ _ _ _ _ HBX.out HN0.out).trans HBX.out) HN0.out 0).trans ((hK6.cell HBX.out HN0.out 0).trans HS0.out)) (fun hHeld => ?_)
          try simp only [Act.put, List.getElem_toArray, List.getElem_cons_zero, List.getElem_cons_succ, List.setIfInBounds_toArray, List.set_cons_zero, List.set_cons_succ]
          refine wpAnyH_ready (rs := [6]) (by kernel_rfl) (by simp) ?_
          refine AllReadyH.cons rfl (fun K hK => ?_) AllReadyH.nil
          go_simp
          refine hK.out _ _ ((hK7.cell ((hK6.typ _ _ _ _ HBX.out HN0.out).trans HBX.out) HN0.out 0).trans ((hK6.cell HBX.out HN0.out 0).trans HS0.out)) (fun hHeld => ?_)
          try simp only [Act.put, List.getElem_toArray, List.getElem_cons_zero, List.getElem_cons_succ, List.setIfInBounds_toArray, List.set_cons_zero, List.set_cons_succ]
          refine wpAnyH_take (i := 14) (oi := _) (v := ?_) rfl (by kernel_rfl) (by kernel_rfl) (by kernel_rfl) (fun _ _ _ h => h) (Or.inl ⟨by rfl, ?hy15⟩) (by assumption) ?_
          case hy15 => (intro w hSw; (try dsimp only at hSw); go_simp; try with_reducible rfl)
          try simp only [Act.put, List.getElem_toArray, List.getElem_cons_zero, List.getElem_cons_succ, List.setIfInBounds_toArray, List.set_cons_zero, List.set_cons_succ]
          refine wpAnyH_done (by kernel_rfl) ?_ _
          all_goals
            have hKP := hK6.trans hK7
            have HO7 := Lib.hid (hKP.row (show (wr.alloc (.cells #[.string p, .int .i64 k, .int .i64 v] 49)).drew.ownsRow W.heap.size 9 1 u9 _ _ from HO.out.alloc _) (by decide))
            have HL7 := Lib.hid (hKP.row (show (wr.alloc (.cells #[.string p, .int .i64 k, .int .i64 v] 49)).drew.ownsRow W.heap.size 49 3 (.slice (some ⟨b, off, none⟩) L.length cL) L.length (flatN L) from HLR.out.alloc _) (by decide))
            have HT7 := Lib.hid hT7
            have HB7 := Lib.hid (show Below W.heap.size W W7 from (HB.out.trans ((below_box wr (.cells #[.string p, .int .i64 k, .int .i64 v] 49)).mono hbw)).trans (show Below W.heap.size (wr.alloc (.cells #[.string p, .int .i64 k, .int .i64 v] 49)) W7 from ⟨hKP.low.os, hKP.low.tape, hKP.low.output, hKP.low.size, hKP.low.block⟩))
            have hc7 : W7.cell? ⟨wr.heap.size, 0, none⟩ = some (.string p) := (hKP.cell HBX.out HN0.out 0).trans HS0.out
            have hlt0 := HO7.out.lt
            have hdl := difL_len ns ms L i
            have HDL := Lib.hid hdl
            clear hKP hK6 hK7 hT6 hT7 c60 c61 c70 c71 hf6 hf7 hf6' e7 z60 z61 hs6 hdl
            cases dd with
            | false =>
              have HNX := Lib.hid (difL_no (ns := ns) (ms := ms) HM.out HDD.out)
              clear c0 c1 c2 hlt0
              go_wp2
              go_roundw
              case rel => exact ⟨i + 1, D1, D2, by push_cast; rfl, by have := HLT.out; omega, by rw [HNX.out]; exact HO7.out, HT7.out, HL7.out, HB7.out⟩
              case measure => have := HLT.out; simp [intOf]; omega
            | true =>
              have HNX := Lib.hid (difL_yes (ns := ns) (ms := ms) HM.out HDD.out)
              have hsz7 := HB7.out.size
              clear c0 c1 c2
              go_wp2_with (at_builtin; refine wpList_append_own _ rfl _ _ 35 rfl W.heap.size 9 i0 (.string ⟨#[]⟩) 1 16 Tryz.underlying35 hi hz0 hz1 hz2 rfl (by decide) _ _ _ rfl (HO7.out.alloc _) ⟨W7.heap.size, 0, none⟩ 1 1 [.string p] rfl rfl (cell_one_new W7 (.string p) 9) (fun y hy => by simp at hy; subst hy; rfl) (by unfold maxLen; have h5 := HDL.out; have h6 := HLT.out; have h7 := HLN.out; omega) (by have h5 := HDL.out; have h6 := HLT.out; have h7 := HLN.out; omega) (by simp; omega) ?_; intro v3 w3 ho3 hg3 hn3)
              have B3 : Below W.heap.size W w3 := (HB7.out.alloc hsz7 _).grown hg3 (by simp; omega) (fun g e => (hlt0 g e).1)
              have HO7' := Lib.hid (HO7.out.alloc (.cells #[.string p] 9))
              have HT3 := Lib.hid ((HT7.out.below (below_box W7 (.cells #[.string p] 9))).grown HO7'.out (by decide) hg3)
              have HL3 := Lib.hid (row_apart (HL7.out.alloc (.cells #[.string p] 9)) HO7'.out (by decide) hg3)
              go_roundw
              case rel => exact ⟨i + 1, D1, D2, by push_cast; rfl, by have := HLT.out; omega, by rw [HNX.out, List.length_append, List.map_append]; exact ho3, HT3.out, HL3.out, B3⟩
              case measure => have := HLT.out; simp [intOf]; omega
        · have hieq : i = L.length := by omega
          subst hieq
          rw [List.take_length] at HO
          have hge : (L.length : Int) ≤ L.length := by omega
          have hdl : (difL ns ms L).length ≤ 20 := by have := difL_len ns ms L L.length; rw [List.take_length] at this; omega
          have HSO := Lib.hid (sortS_c W.heap.size u9 (difL ns ms L) (by omega) wr HO.out)
          have HDL := Lib.hid hdl
          have hlt0 := HO.out.lt
          clear hlt hi1 hdl
          go_wp2_with fail
          refine HSO.out.mono ?_
          rintro e W8 ⟨rfl, ys, hd8, hl8, hm8, ho8, hg8⟩
          have B8 := Lib.hid (show Below W.heap.size W W8 from HB.out.grown hg8 HB.out.size (fun g e => (hlt0 g e).1))
          have HCO := Lib.hid (compactS_c W.heap.size u9 ys (by have := HDL.out; omega) hd8 W8 ho8)
          have hlt8 := ho8.lt
          have HM8 := Lib.hid hm8
          clear hd8 hl8 hm8 ho8 hg8 hlt0
          go_wp2_with fail
          refine HCO.out.mono ?_
          rintro e W9 ⟨⟨v9, zs, rfl, ha9, hm9, ho9⟩, hg9⟩
          have B9 := Lib.hid (show Below W.heap.size W W9 from B8.out.grown hg9 B8.out.size (fun g e => (hlt8 g e).1))
          have HEQ := Lib.hid (chg_eq HV1.out HV2.out ha9 (fun p => by rw [hm9 p, HM8.out p, HLL.out]))
          have HO9 := Lib.hid ho9
          clear ha9 hm9 ho9 hg9 hlt8
          go_wp2
          refine bodyPost_ret (v := v9) (by simp [results, Tryz.f10, go_sem]) rfl ⟨⟨v9, rfl, ?_⟩, B9.out⟩
          rw [← HEQ.out]
          exact HO9.out

end Go.Proofs.YtnmpbocnbcokeaaGreatDoor

/-
  The program's three functions of stage 5, for the laws.
-/
namespace Go.Proofs.YtnmpbocnbcokeaaGreatDoor
end Go.Proofs.YtnmpbocnbcokeaaGreatDoor

/-
  WALKS: the reader's 'of' (a text out of a list). For any seat.
-/
namespace Go.Proofs.YtnmpbocnbcokeaaGreatDoor
open Go.RowKit
set_option linter.unusedVariables false

/-- One of the texts of a list, the reader one place on. -/
def OfPost (N0 B p : Nat) (xs : List ByteArray) (W : World) (e : Ending) (W' : World) : Prop :=
  ∃ x ∈ xs, e = .returned (.string x) ∧ RdAt N0 W' B (p + 1) ∧ W.grownBy W' (some B)

set_option maxHeartbeats 1000000 in
theorem of_c (N0 B p L c : Nat) (xs : List ByteArray) (hx : 1 ≤ xs.length) (hx2 : xs.length ≤ 1000) (hLB : L ≠ B) (W : World) (hp : p < 30000) (hR : RdAt N0 W B p)
    (hc : ∀ j x, xs[j]? = some x → W.cell? ⟨L, j, none⟩ = some (.string x)) :
    Calls Tryz.prog 49 #[.pointer (some ⟨B, 0, none⟩), .slice (some ⟨L, 0, none⟩) xs.length c] W (OfPost N0 B p xs W) := by
  have HP := Lib.hid (fun W hR => pick_c N0 B p xs.length (by omega) (by omega) W hp hR)
  have HC := Lib.hid hc
  clear hc
  go_enter Tryz.func49, Tryz.ntmps49
  go_wp2_with fail
  refine (HP.out W hR).mono ?_
  rintro e W1 ⟨r, rfl, h0, h1, hR1, hg⟩
  obtain ⟨k, rfl⟩ := Int.eq_ofNat_of_zero_le h0
  have hk : k < xs.length := by omega
  obtain ⟨x, hxk⟩ : ∃ x, xs[k]? = some x := ⟨xs[k], List.getElem?_eq_getElem hk⟩
  have hcell : W1.cell? ⟨L, k, none⟩ = some (.string x) := hg.cell (HC.out k x hxk) (by simpa using hLB)
  have HX := Lib.hid hxk
  clear hxk h0 h1 hR
  go_wp2
  go_ret
  exact ⟨x, List.mem_of_getElem? HX.out, rfl, hR1, hg⟩

/-- 'of' at a list that is written out on the spot. -/
theorem of_lit (N0 B p : Nat) (xs : List ByteArray) (n : Nat) (hn : xs.length = n) (hx : 1 ≤ n) (hx2 : n ≤ 1000) (W : World) (hp : p < 30000) (hR : RdAt N0 W B p) (cs : Array Value) (hcs : cs = (xs.map Value.string).toArray) :
    Calls Tryz.prog 49 #[.pointer (some ⟨B, 0, none⟩), .slice (some ⟨W.heap.size, 0, none⟩) n n] (W.alloc (.cells cs 9)) (OfPost N0 B p xs W) := by
  have hg : W.grownBy (W.alloc (.cells cs 9)) none := World.grownBy_alloc W _ none
  subst hn
  refine (of_c N0 B p W.heap.size xs.length xs hx hx2 (by have := hR.lt; omega) _ hp (hR.keep (Below.refl W.heap.size W |>.alloc (Nat.le_refl _) _)) ?_).mono ?_
  · intro j x hj
    subst hcs
    rw [World.cell?_alloc_new]
    simp [hj]
  · rintro e W' ⟨x, hx, he, hR', hg'⟩
    exact ⟨x, hx, he, hR', grownBy_trans (grownBy_none hg _) hg'⟩

/-- A text of modest length; the reader some places on. -/
def StrPost (N0 B p d m : Nat) (W : World) (e : Ending) (W' : World) : Prop :=
  ∃ (s : ByteArray) (q : Nat), e = .returned (.string s) ∧ s.size ≤ m ∧ q ≤ p + d ∧ RdAt N0 W' B q ∧ W.grownBy W' (some B)

end Go.Proofs.YtnmpbocnbcokeaaGreatDoor

/-
  WALKS: paths that are drawn (spec.l91Path). For any seat.
-/
namespace Go.Proofs.YtnmpbocnbcokeaaGreatDoor
open Go.RowKit
set_option linter.unusedVariables false

def oddTexts : List ByteArray := [⟨#[]⟩, ⟨#[47]⟩, ⟨#[97]⟩, ⟨#[47, 101]⟩, ⟨#[47, 97, 47]⟩, ⟨#[47, 47, 97]⟩, ⟨#[47, 97, 47, 98, 47, 99, 47, 100, 47, 97]⟩, ⟨#[47, 97, 98]⟩]
def letterTexts : List ByteArray := [⟨#[97]⟩, ⟨#[98]⟩, ⟨#[97]⟩, ⟨#[98]⟩, ⟨#[99]⟩, ⟨#[100]⟩]

def PathRel (N0 B p : Nat) (n : Int) (W : World) (out i : Value) (wr : World) : Prop :=
  ∃ (k : Nat) (s : ByteArray), i = .int .i64 k ∧ k ≤ 4 ∧ (k : Int) ≤ 1 + n ∧ out = .string s ∧ s.size = 2 * k ∧ RdAt N0 wr B (p + 3 + k) ∧ W.grownBy wr (some B)

set_option maxHeartbeats 1000000 in
set_option maxRecDepth 100000 in
theorem l91Path_c (N0 B p : Nat) (W : World) (hp : p < 29000) (hR : RdAt N0 W B p) :
    Calls Tryz.prog 48 #[.pointer (some ⟨B, 0, none⟩)] W (StrPost N0 B p 7 64 W) := by
  have HP1 := Lib.hid (fun W hR => pick_c N0 B p 24 (by omega) (by omega) W (by omega) hR)
  go_enter Tryz.func48, Tryz.ntmps48
  go_wp2_with fail
  refine (HP1.out W hR).mono ?_
  rintro e W1 ⟨r, rfl, h0, h1, hR1, hg1⟩
  by_cases hr : r = 0
  · subst hr
    clear h0 h1 hR
    have HO := Lib.hid (of_lit N0 B (p + 1) oddTexts 8 rfl (by omega) (by omega) W1 (by omega) hR1 _ rfl)
    simp only [oddTexts, List.map_cons, List.map_nil] at HO
    go_wp2_with fail
    refine HO.out.mono ?_
    rintro e W2 ⟨x, hx, rfl, hR2, hg2⟩
    go_wp2
    go_ret
    refine ⟨x, p + 1 + 1, rfl, ?_, by omega, hR2, grownBy_trans hg1 hg2⟩
    simp at hx
    rcases hx with rfl | rfl | rfl | rfl | rfl | rfl | rfl | rfl <;> decide
  · have hr' : (r == 0) = false := by simpa using hr
    have HP2 := Lib.hid (fun W hR => pick_c N0 B (p + 1) 4 (by omega) (by omega) W (by omega) hR)
    have HP3 := Lib.hid (fun W hR => pick_c N0 B (p + 1 + 1) 2 (by omega) (by omega) W (by omega) hR)
    clear h0 h1 hR hr
    go_wp2_with fail
    refine (HP2.out W1 hR1).mono ?_
    rintro e W2 ⟨a, rfl, a0, a1, hR2, hg2⟩
    go_wp2_with fail
    refine (HP3.out W2 hR2).mono ?_
    rintro e W3 ⟨b, rfl, b0, b1, hR3, hg3⟩
    have hg : W.grownBy W3 (some B) := grownBy_trans hg1 (grownBy_trans hg2 hg3)
    have hn : IntKind.i64.wrap (a * b) = a * b := by
      have hb : b = 0 ∨ b = 1 := by omega
      rcases hb with rfl | rfl
      · simp [IntKind.wrap_i64]
      · rw [Int.mul_one]; exact IntWalk.i64_in _ (by omega)
    have hab : 0 ≤ a * b ∧ a * b ≤ 3 := by
      have hb : b = 0 ∨ b = 1 := by omega
      rcases hb with rfl | rfl <;> omega
    obtain ⟨hab0, hab3⟩ := hab
    clear hg1 hg2 hg3 hR1 hR2 a0 a1 b0 b1 hr'
    go_wp2
    go_loopw [4, 5] (fun out i wr => PathRel N0 B p (a * b) W out i wr) (fun _ i _ => (1 + a * b - intOf i).toNat)
    case atStart => exact ⟨0, ⟨#[]⟩, rfl, by omega, by omega, rfl, rfl, hR3, hg⟩
    case round =>
      obtain ⟨k, s, rfl, hk4, hkn, rfl, hs, hRk, hgk⟩ := hrel
      by_cases hlt : (k : Int) < 1 + a * b
      · have hk3 : k ≤ 3 := by omega
        have HO := Lib.hid (of_lit N0 B (p + 3 + k) letterTexts 6 rfl (by omega) (by omega) wr (by omega) hRk _ rfl)
        simp only [letterTexts, List.map_cons, List.map_nil] at HO
        have HS := Lib.hid hs
        have hs8 : s.size ≤ 8 := by omega
        clear hs
        go_wp2_with fail
        refine HO.out.mono ?_
        rintro e W5 ⟨x, hx, rfl, hR5, hg5⟩
        have hx1 : x.size = 1 := by
          simp at hx
          rcases hx with rfl | rfl | rfl | rfl | rfl | rfl <;> rfl
        have HX := Lib.hid hx1
        have hx8 : x.size ≤ 1 := by omega
        clear hx hx1
        go_wp2
        refine ⟨⟨k + 1, s ++ ⟨#[47]⟩ ++ x, by go_num, by omega, by omega, rfl, ?_, hR5, grownBy_trans hgk hg5⟩, ?_⟩
        · rw [ByteArray.size_append, ByteArray.size_append, HS.out, HX.out]
          show 2 * k + 1 + 1 = _
          omega
        · simp [intOf]; omega
      · have hk : (1 : Int) + a * b ≤ k := by omega
        have HS := Lib.hid hs
        clear hs hlt
        go_wp2
        go_ret
        refine ⟨s, p + 3 + k, rfl, by have := HS.out; omega, by omega, hRk, hgk⟩

end Go.Proofs.YtnmpbocnbcokeaaGreatDoor

/-
  WALKS: trees that are drawn (spec.l91Tree).
-/
namespace Go.Proofs.YtnmpbocnbcokeaaGreatDoor
open Go.RowKit
set_option linter.unusedVariables false

/-- A drawn list of nodes, of the call's own. -/
def TreeDraw (N0 B p m c d : Nat) (W : World) (ok : List Nd → Prop) (e : Ending) (W' : World) : Prop :=
  ∃ (sl : Value) (out : List Nd) (q : Nat), e = .returned sl ∧ W'.ownsRow W.heap.size 49 3 sl out.length (flatN out) ∧ ok out ∧ out.length ≤ c ∧ Short m out ∧ q ≤ p + d ∧ RdAt N0 W' B q ∧ W.grownBy W' (some B)

def TreeRel (N0 B p : Nat) (n : Int) (W : World) (o i : Value) (wr : World) : Prop :=
  ∃ (acc : List Nd) (j q : Nat), i = .int .i64 j ∧ (j : Int) ≤ n ∧ wr.ownsRow W.heap.size 49 3 o acc.length (flatN acc) ∧ Hid (validT acc = true) ∧ Hid (Short 64 acc) ∧ Hid (q ≤ p + 11 * j) ∧ RdAt N0 wr B q ∧ Hid (W.grownBy wr (some B))

set_option maxHeartbeats 2000000 in
set_option maxRecDepth 100000 in
theorem l91Tree_c (N0 B p : Nat) (n : Int) (hn0 : 0 ≤ n) (hn : n ≤ 60) (W : World) (hp : p < 20000) (hR : RdAt N0 W B p) :
    Calls Tryz.prog 28 #[.pointer (some ⟨B, 0, none⟩), .int .i64 n] W (TreeDraw N0 B p 64 10 660 W (fun out => validT out = true)) := by
  have HLT := Lib.hid hR.lt
  have HP := Lib.hid (fun q W hq hR => l91Path_c N0 B q W hq hR)
  have HC := Lib.hid (fun q W hq hR => l91Content_c N0 B q W hq hR)
  have HPP := Lib.hid hp
  have HN := Lib.hid hn
  go_enter Tryz.func28, Tryz.ntmps28
  go_wp2
  go_loopw [5, 6, 7, 8] (fun o i _ _ wr => TreeRel N0 B p n W o i wr) (fun _ i _ _ _ => (n - intOf i).toNat)
  case atStart => exact ⟨[], 0, p, rfl, hn0, World.ownsRow_lit (e := 49) (size := 3) W #[] 0 (Nat.le_refl _) (by simp [maxLen]) rfl, (by show validT [] = true; rfl), (by intro x hx; cases hx), (by show p ≤ _; omega), hR.alloc _, grownBy_new _ _ _⟩
  case round =>
    obtain ⟨acc, j, q, rfl, hj, hrow, HV, HS, HQ, hRq, HG⟩ := hrel
    by_cases hlt : (j : Int) < n
    · have HJ := Lib.hid hlt
      clear hj hR
      go_wp2_with fail
      refine (HP.out q _ (by have h5 := HQ.out; have h6 := HPP.out; have h7 := HN.out; omega) hRq).mono ?_; rintro e W2 ⟨s, q2, rfl, hs, hq2, hR2, hg2⟩
      have hrow2 := own_reader hrow HLT.out hg2
      have HS2 := Lib.hid (And.intro hs hq2)
      clear hs hq2 hrow hRq
      go_wp2_with fail
      refine (HC.out q2 _ (by have h5 := HQ.out; have h6 := HPP.out; have h7 := HN.out; have h8 := HS2.out.2; omega) hR2).mono ?_; rintro e W3 ⟨k, v, q3, rfl, -, -, -, -, hq3, hR3, hg3⟩
      have hrow3 := own_reader hrow2 HLT.out hg3
      have HQ3 := Lib.hid hq3
      have HG3 := Lib.hid (grownBy_trans HG.out (grownBy_trans hg2 hg3))
      obtain ⟨ao, co, rfl, hNo⟩ := nodes_of_own hrow3
      have hlen := ((validT_iff acc).1 HV.out).2.2
      have HTP := Lib.hid (specTreePut_c ao acc.length co acc s k v (by omega) (fun n hn => by have := HS.out n hn; omega) (by have := HS2.out.1; omega) W3 hNo)
      clear hq3 hrow2 hR2 hg2 hg3 hNo hlen
      go_wp2_with fail
      refine HTP.out.mono ?_; rintro e W4 ⟨sl, out, b, rfl, hb, hown, hb4⟩
      have HR4 := Lib.hid (hR3.keep hb4)
      have HG4 := Lib.hid (grownBy_below HG3.out hb4)
      cases b with
      | true =>
        have hr : treePut acc s k v = some out := by
          rcases hb with ⟨-, h⟩ | ⟨h, -⟩
          · exact h
          · cases h
        obtain ⟨-, -, -, h5, h6⟩ := treePut_some hr
        have HV4 : Hid (validT out = true) := h6
        have HS4 : Hid (Short 64 out) := by show Short 64 out; rw [h5]; exact short_put HS.out HS2.out.1
        have hown4 := own_mono hown HG3.out.size
        clear hb hr h5 h6 hown hb4 hrow3 hR3
        go_wp2
        go_roundw
        case rel => exact ⟨out, j + 1, q3, by go_num, by have := HJ.out; omega, hown4, HV4, HS4, (by show q3 ≤ _; have h5 := HQ.out; have h6 := HQ3.out; have h7 := HS2.out.2; omega), HR4.out, HG4⟩
        case measure => have := HJ.out; simp [intOf]; omega
      | false =>
        have hown4 := own_below hrow3 hb4
        clear hb hown hb4 hrow3 hR3
        go_wp2
        go_roundw
        case rel => exact ⟨acc, j + 1, q3, by go_num, by have := HJ.out; omega, hown4, HV, HS, (by show q3 ≤ _; have h5 := HQ.out; have h6 := HQ3.out; have h7 := HS2.out.2; omega), HR4.out, HG4⟩
        case measure => have := HJ.out; simp [intOf]; omega
    · have hge : n ≤ (j : Int) := by omega
      have HJ := Lib.hid hj
      clear hj hR
      go_wp2
      go_ret
      exact ⟨_, acc, q, rfl, hrow, HV.out, ((validT_iff acc).1 HV.out).2.2, HS.out, by have h5 := HQ.out; have h6 := HJ.out; have h7 := HN.out; omega, hRq, HG.out⟩

end Go.Proofs.YtnmpbocnbcokeaaGreatDoor

/-
  WALKS: trees that are drawn, seldom invalid ones (spec.l91Any).
-/
namespace Go.Proofs.YtnmpbocnbcokeaaGreatDoor
open Go.RowKit
set_option linter.unusedVariables false

theorem flatN_set : ∀ (ns : List Nd) (i : Nat) (n : Nd) (k v : Int), ns[i]? = some n → ((flatN ns).set (i * 3 + 1) (.int .i64 k)).set (i * 3 + 2) (.int .i64 v) = flatN (ns.set i ⟨n.p, k, v⟩)
  | [], i, n, k, v, h => by simp at h
  | m :: r, 0, n, k, v, h => by
    simp at h
    subst h
    rfl
  | m :: r, i + 1, n, k, v, h => by
    have ih := flatN_set r i n k v (by simpa using h)
    have e : ∀ (x : Nd) (t : List Nd), flatN (x :: t) = .string x.p :: .int .i64 x.k :: .int .i64 x.v :: flatN t := fun _ _ => rfl
    rw [List.set_cons_succ, e m r, e m (r.set i _), ← ih, show (i + 1) * 3 + 1 = (i * 3 + 1) + 3 by omega, show (i + 1) * 3 + 2 = (i * 3 + 2) + 3 by omega]
    rfl

theorem own_set {W : World} {base : Nat} {e : TypeId} {g cap : Nat} {ns : List Nd} {i : Nat} {n : Nd} (h : W.ownsRow base e 3 (.slice (some ⟨g, 0, none⟩) ns.length cap) ns.length (flatN ns)) (hn : ns[i]? = some n) (k v : Int) :
    ((W.setCell ⟨g, i * 3 + 1, none⟩ (.int .i64 k)).setCell ⟨g, i * 3 + 1 + 1, none⟩ (.int .i64 v)).ownsRow base e 3 (.slice (some ⟨g, 0, none⟩) ns.length cap) (ns.set i ⟨n.p, k, v⟩).length (flatN (ns.set i ⟨n.p, k, v⟩)) := by
  have := ((h.stored (i * 3 + 1) (.int .i64 k)).1.stored (i * 3 + 2) (.int .i64 v)).1
  rw [flatN_set ns i n k v hn] at this
  rw [List.length_set]
  exact this

theorem own_slice {W : World} {base : Nat} {e : TypeId} {v : Value} {ns : List Nd} (h : W.ownsRow base e 3 v ns.length (flatN ns)) (h0 : 0 < ns.length) : ∃ g cap, v = .slice (some ⟨g, 0, none⟩) ns.length cap ∧ base ≤ g ∧ g < W.heap.size := by
  rcases h.2 with ⟨_, h1⟩ | ⟨g, cap, cur, rfl, h1, h2, _⟩
  · omega
  · exact ⟨g, cap, rfl, h1, by rw [Array.getElem?_eq_some_iff] at h2; exact h2.1⟩

theorem short_set {m : Nat} {ns : List Nd} {i : Nat} {n : Nd} {k v : Int} (h : Short m ns) (hn : ns[i]? = some n) : Short m (ns.set i ⟨n.p, k, v⟩) := by
  intro x hx
  rcases List.mem_or_eq_of_mem_set hx with h1 | rfl
  · exact h x h1
  · exact h n (List.mem_of_getElem? hn)

set_option maxHeartbeats 2000000 in
set_option maxRecDepth 100000 in
theorem l91Any_c (N0 B p : Nat) (W : World) (hp : p < 10000) (hR : RdAt N0 W B p) :
    Calls Tryz.prog 12 #[.pointer (some ⟨B, 0, none⟩)] W (TreeDraw N0 B p 64 11 670 W (fun _ => True)) := by
  obtain ⟨i0, hi, hz0, hz1, hz2⟩ := info_parts infoNode
  have HLT := Lib.hid hR.lt
  have HLE := Lib.hid hR.le
  have HP1 := Lib.hid (fun W hR => pick_c N0 B p 16 (by omega) (by omega) W (by omega) hR)
  have HP2 := Lib.hid (fun W hR => pick_c N0 B (p + 1) 8 (by omega) (by omega) W (by omega) hR)
  have HT := Lib.hid (fun n h0 h1 W hR => l91Tree_c N0 B (p + 1 + 1) n h0 h1 W (by omega) hR)
  have HPK := Lib.hid (fun q n h0 h1 W hq hR => pick_c N0 B q n h0 h1 W hq hR)
  have HPP := Lib.hid hp
  clear hp
  go_enter Tryz.func12, Tryz.ntmps12
  go_wp2_with fail
  refine (HP1.out _ hR).mono ?_; rintro e W1 ⟨n, rfl, n0, n1, hR1, hg1⟩
  have HN := Lib.hid (And.intro n0 n1)
  clear n0 n1 hR
  go_wp2_with fail
  refine (HP2.out _ hR1).mono ?_; rintro e W2 ⟨r, rfl, r0, r1, hR2, hg2⟩
  have HG2 := Lib.hid (grownBy_trans hg1 hg2)
  clear hg1 hg2 hR1
  by_cases hr : r = 0
  · subst hr
    clear r0 r1
    go_wp2_with fail
    refine (HT.out 60 (by omega) (by omega) _ hR2).mono ?_; rintro e W3 ⟨sl, out, q, rfl, hown0, -, hlen, hsh, hq, hR3, hg3⟩
    have hown := own_mono hown0 HG2.out.size
    have HG3 := Lib.hid (grownBy_trans HG2.out hg3)
    have HSH := Lib.hid hsh
    have HLN := Lib.hid hlen
    have HQ := Lib.hid hq
    clear hown0 hg3 hsh hlen hq hR2
    by_cases hl0 : out.length = 0
    · obtain ⟨a, cap, rfl, -⟩ := nodes_of_own hown
      have HO := Lib.hid hown
      have hl0' : (out.length : Int) = 0 := by omega
      clear hl0 hown
      go_wp2
      go_ret
      exact ⟨_, out, q, rfl, HO.out, trivial, by have := HLN.out; omega, HSH.out, by have := HQ.out; omega, hR3, HG3.out⟩
    · have hl0 : 0 < out.length := by omega
      have hl1 : (0 : Int) < out.length := by omega
      obtain ⟨g, cap, rfl, hgb, hgw⟩ := own_slice hown hl0
      have HB := Lib.hid (And.intro hgb hgb)
      clear hgb hgw
      go_wp2_with fail
      refine (HPK.out q out.length (by omega) (by have := HLN.out; omega) _ (by have := HQ.out; have := HPP.out; omega) hR3).mono ?_; rintro e W4 ⟨k', rfl, k0, k1, hR4, hg4⟩
      obtain ⟨k, rfl⟩ := Int.eq_ofNat_of_zero_le k0
      have HK := Lib.hid (show k < out.length by omega)
      have hown4 := own_reader hown HLT.out hg4
      clear k0 k1 hown hR3
      go_wp2_with fail
      refine (HPK.out (q + 1) 30 (by omega) (by omega) _ (by have := HQ.out; have := HPP.out; omega) hR4).mono ?_; rintro e W5 ⟨tt, rfl, t0, t1, hR5, hg5⟩
      have HO5 := Lib.hid (own_reader hown4 HLT.out hg5)
      have HG5 := Lib.hid (grownBy_trans HG3.out (grownBy_trans hg4 hg5))
      have HR5 := Lib.hid hR5
      obtain ⟨x, hx⟩ : ∃ x, out[k]? = some x := ⟨_, List.getElem?_eq_getElem HK.out⟩
      have HX := Lib.hid hx
      clear hx hg4 hg5 hR4 hR5 hown4
      by_cases ht : tt = 0
      · subst ht
        clear t0 t1
        have c1 : W5.cell? ⟨g, k * 3 + 1, none⟩ = some (.int .i64 x.k) := by rw [HO5.out.cellAt _ (by have := HK.out; omega)]; exact (flatN_get out k x HX.out).2.1
        have c2 : W5.cell? ⟨g, k * 3 + 2, none⟩ = some (.int .i64 x.v) := by rw [HO5.out.cellAt _ (by have := HK.out; omega)]; exact (flatN_get out k x HX.out).2.2
        have z1 := HO5.out.frozenAt (k * 3 + 1)
        have z2 := HO5.out.frozenAt (k * 3 + 2)
        have hkl : (k : Int) < out.length := by have := HK.out; omega
        clear hl0
        go_wp2
        go_ret
        exact ⟨_, out.set k ⟨x.p, 0, 0⟩, q + 1 + 1, rfl, own_set HO5.out HX.out 0 0, trivial, by rw [List.length_set]; have := HLN.out; omega, short_set HSH.out HX.out, by have := HQ.out; omega,
          (HR5.out.setNew _ _ (by have := HLE.out; have := HB.out.1; show N0 ≤ g; omega)).setNew _ _ (by have := HLE.out; have := HB.out.1; show N0 ≤ g; omega), grownBy_setCell_new (grownBy_setCell_new HG5.out _ _ HB.out.1) _ _ HB.out.1⟩
      · have ht0 : (tt == 0) = false := beq_eq_false_iff_ne.2 ht
        clear ht
        by_cases ht : tt = 1
        · subst ht
          clear t0 t1
          have c0 : W5.cell? ⟨g, k * 3, none⟩ = some (.string x.p) := by rw [HO5.out.cellAt _ (by have := HK.out; omega)]; exact (flatN_get out k x HX.out).1
          have c1 : W5.cell? ⟨g, k * 3 + 1, none⟩ = some (.int .i64 x.k) := by rw [HO5.out.cellAt _ (by have := HK.out; omega)]; exact (flatN_get out k x HX.out).2.1
          have c2 : W5.cell? ⟨g, k * 3 + 2, none⟩ = some (.int .i64 x.v) := by rw [HO5.out.cellAt _ (by have := HK.out; omega)]; exact (flatN_get out k x HX.out).2.2
          have hkl : (k : Int) < out.length := by have := HK.out; omega
          clear hl0
          go_wp2_with (at_builtin; refine wpList_append_own _ rfl _ _ 23 rfl W.heap.size 49 i0 (.agg #[.string ⟨#[]⟩, .int .i64 0, .int .i64 0]) 3 32 Tryz.underlying23 hi hz0 hz1 hz2 rfl (by decide) _ _ _ rfl (HO5.out.alloc _) ⟨W5.heap.size, 0, none⟩ 1 1 [.string x.p, .int .i64 x.k, .int .i64 x.v] rfl rfl (cell_three_new _ _ _ _ _) (fun x hx => by simp at hx; rcases hx with rfl | rfl | rfl <;> rfl) (by unfold maxLen; have := HLN.out; omega) (by have := HLN.out; omega) (by have := HG5.out.size; simp; omega) ?_; intro v' w6 ho6 hg6 hn6)
          go_ret
          have hown6 := own_push x ho6
          have hfar : W.heap.size ≤ g := HB.out.1
          have hg7 : W5.grownBy w6 (some g) := grownBy_trans (grownBy_new W5 _ _) hg6
          have hR6 : RdAt N0 w6 B (q + 1 + 1) := by
            have hle := HLE.out
            exact HR5.out.kept ⟨hg7.os, hg7.tape, hg7.output, hg7.size, fun b hb => hg7.block b (Nat.lt_of_lt_of_le hb HR5.out.le) (by simp; omega)⟩
          have hG6 : W.grownBy w6 (some B) := ⟨HG5.out.os ▸ hg7.os ▸ rfl, hg7.tape.trans HG5.out.tape, hg7.output.trans HG5.out.output, Nat.le_trans HG5.out.size hg7.size, fun b hb hne => (hg7.block b (Nat.lt_of_lt_of_le hb HG5.out.size) (by simp; omega)).trans (HG5.out.block b hb hne)⟩
          have hsh6 : Short 64 (out ++ [x]) := by
            intro y hy
            rcases List.mem_append.1 hy with h | h
            · exact HSH.out y h
            · rw [List.mem_singleton] at h
              subst h
              exact HSH.out _ (List.mem_of_getElem? HX.out)
          exact ⟨_, out ++ [x], q + 1 + 1, rfl, hown6, trivial, by simp; have := HLN.out; omega, hsh6, by have := HQ.out; omega, hR6, hG6⟩
        · have ht1 : (tt == 1) = false := beq_eq_false_iff_ne.2 ht
          clear ht
          by_cases ht : tt = 2
          · subst ht
            clear t0 t1
            have c1 : W5.cell? ⟨g, k * 3 + 1, none⟩ = some (.int .i64 x.k) := by rw [HO5.out.cellAt _ (by have := HK.out; omega)]; exact (flatN_get out k x HX.out).2.1
            have c2 : W5.cell? ⟨g, k * 3 + 2, none⟩ = some (.int .i64 x.v) := by rw [HO5.out.cellAt _ (by have := HK.out; omega)]; exact (flatN_get out k x HX.out).2.2
            have z1 := HO5.out.frozenAt (k * 3 + 1)
            have z2 := HO5.out.frozenAt (k * 3 + 2)
            have hkl : (k : Int) < out.length := by have := HK.out; omega
            clear hl0
            go_wp2
            go_ret
            exact ⟨_, out.set k ⟨x.p, 2, 0⟩, q + 1 + 1, rfl, own_set HO5.out HX.out 2 0, trivial, by rw [List.length_set]; have := HLN.out; omega, short_set HSH.out HX.out, by have := HQ.out; omega,
              (HR5.out.setNew _ _ (by have := HLE.out; have := HB.out.1; show N0 ≤ g; omega)).setNew _ _ (by have := HLE.out; have := HB.out.1; show N0 ≤ g; omega), grownBy_setCell_new (grownBy_setCell_new HG5.out _ _ HB.out.1) _ _ HB.out.1⟩
          · have ht2 : (tt == 2) = false := beq_eq_false_iff_ne.2 ht
            have HO6 := HO5
            clear ht t0 t1
            go_wp2
            go_ret
            exact ⟨_, out, q + 1 + 1, rfl, HO6.out, trivial, by have := HLN.out; omega, HSH.out, by have := HQ.out; omega, HR5.out, HG5.out⟩
  · have hr' : (r == 0) = false := beq_eq_false_iff_ne.2 hr
    clear r0 r1 hr
    go_wp2_with fail
    refine (HT.out n HN.out.1 (by have := HN.out.2; omega) _ hR2).mono ?_; rintro e W3 ⟨sl, out, q, rfl, hown0, -, hlen, hsh, hq, hR3, hg3⟩
    have hown := own_mono hown0 HG2.out.size
    have HG3 := Lib.hid (grownBy_trans HG2.out hg3)
    have HSH := Lib.hid hsh
    have HLN := Lib.hid hlen
    have HQ := Lib.hid hq
    clear hown0 hg3 hsh hlen hq hR2
    by_cases hl0 : out.length = 0
    · obtain ⟨a, cap, rfl, -⟩ := nodes_of_own hown
      have HO := Lib.hid hown
      have hl0' : (out.length : Int) = 0 := by omega
      clear hl0 hown
      go_wp2
      go_ret
      exact ⟨_, out, q, rfl, HO.out, trivial, by have := HLN.out; omega, HSH.out, by have := HQ.out; omega, hR3, HG3.out⟩
    · have hl0 : 0 < out.length := by omega
      have hl1 : (0 : Int) < out.length := by omega
      obtain ⟨g, cap, rfl, hgb, hgw⟩ := own_slice hown hl0
      have HB := Lib.hid (And.intro hgb hgb)
      clear hgb hgw
      go_wp2_with fail
      refine (HPK.out q out.length (by omega) (by have := HLN.out; omega) _ (by have := HQ.out; have := HPP.out; omega) hR3).mono ?_; rintro e W4 ⟨k', rfl, k0, k1, hR4, hg4⟩
      obtain ⟨k, rfl⟩ := Int.eq_ofNat_of_zero_le k0
      have HK := Lib.hid (show k < out.length by omega)
      have hown4 := own_reader hown HLT.out hg4
      clear k0 k1 hown hR3
      go_wp2_with fail
      refine (HPK.out (q + 1) 30 (by omega) (by omega) _ (by have := HQ.out; have := HPP.out; omega) hR4).mono ?_; rintro e W5 ⟨tt, rfl, t0, t1, hR5, hg5⟩
      have HO5 := Lib.hid (own_reader hown4 HLT.out hg5)
      have HG5 := Lib.hid (grownBy_trans HG3.out (grownBy_trans hg4 hg5))
      have HR5 := Lib.hid hR5
      obtain ⟨x, hx⟩ : ∃ x, out[k]? = some x := ⟨_, List.getElem?_eq_getElem HK.out⟩
      have HX := Lib.hid hx
      clear hx hg4 hg5 hR4 hR5 hown4
      by_cases ht : tt = 0
      · subst ht
        clear t0 t1
        have c1 : W5.cell? ⟨g, k * 3 + 1, none⟩ = some (.int .i64 x.k) := by rw [HO5.out.cellAt _ (by have := HK.out; omega)]; exact (flatN_get out k x HX.out).2.1
        have c2 : W5.cell? ⟨g, k * 3 + 2, none⟩ = some (.int .i64 x.v) := by rw [HO5.out.cellAt _ (by have := HK.out; omega)]; exact (flatN_get out k x HX.out).2.2
        have z1 := HO5.out.frozenAt (k * 3 + 1)
        have z2 := HO5.out.frozenAt (k * 3 + 2)
        have hkl : (k : Int) < out.length := by have := HK.out; omega
        clear hl0
        go_wp2
        go_ret
        exact ⟨_, out.set k ⟨x.p, 0, 0⟩, q + 1 + 1, rfl, own_set HO5.out HX.out 0 0, trivial, by rw [List.length_set]; have := HLN.out; omega, short_set HSH.out HX.out, by have := HQ.out; omega,
          (HR5.out.setNew _ _ (by have := HLE.out; have := HB.out.1; show N0 ≤ g; omega)).setNew _ _ (by have := HLE.out; have := HB.out.1; show N0 ≤ g; omega), grownBy_setCell_new (grownBy_setCell_new HG5.out _ _ HB.out.1) _ _ HB.out.1⟩
      · have ht0 : (tt == 0) = false := beq_eq_false_iff_ne.2 ht
        clear ht
        by_cases ht : tt = 1
        · subst ht
          clear t0 t1
          have c0 : W5.cell? ⟨g, k * 3, none⟩ = some (.string x.p) := by rw [HO5.out.cellAt _ (by have := HK.out; omega)]; exact (flatN_get out k x HX.out).1
          have c1 : W5.cell? ⟨g, k * 3 + 1, none⟩ = some (.int .i64 x.k) := by rw [HO5.out.cellAt _ (by have := HK.out; omega)]; exact (flatN_get out k x HX.out).2.1
          have c2 : W5.cell? ⟨g, k * 3 + 2, none⟩ = some (.int .i64 x.v) := by rw [HO5.out.cellAt _ (by have := HK.out; omega)]; exact (flatN_get out k x HX.out).2.2
          have hkl : (k : Int) < out.length := by have := HK.out; omega
          clear hl0
          go_wp2_with (at_builtin; refine wpList_append_own _ rfl _ _ 23 rfl W.heap.size 49 i0 (.agg #[.string ⟨#[]⟩, .int .i64 0, .int .i64 0]) 3 32 Tryz.underlying23 hi hz0 hz1 hz2 rfl (by decide) _ _ _ rfl (HO5.out.alloc _) ⟨W5.heap.size, 0, none⟩ 1 1 [.string x.p, .int .i64 x.k, .int .i64 x.v] rfl rfl (cell_three_new _ _ _ _ _) (fun x hx => by simp at hx; rcases hx with rfl | rfl | rfl <;> rfl) (by unfold maxLen; have := HLN.out; omega) (by have := HLN.out; omega) (by have := HG5.out.size; simp; omega) ?_; intro v' w6 ho6 hg6 hn6)
          go_ret
          have hown6 := own_push x ho6
          have hfar : W.heap.size ≤ g := HB.out.1
          have hg7 : W5.grownBy w6 (some g) := grownBy_trans (grownBy_new W5 _ _) hg6
          have hR6 : RdAt N0 w6 B (q + 1 + 1) := by
            have hle := HLE.out
            exact HR5.out.kept ⟨hg7.os, hg7.tape, hg7.output, hg7.size, fun b hb => hg7.block b (Nat.lt_of_lt_of_le hb HR5.out.le) (by simp; omega)⟩
          have hG6 : W.grownBy w6 (some B) := ⟨HG5.out.os ▸ hg7.os ▸ rfl, hg7.tape.trans HG5.out.tape, hg7.output.trans HG5.out.output, Nat.le_trans HG5.out.size hg7.size, fun b hb hne => (hg7.block b (Nat.lt_of_lt_of_le hb HG5.out.size) (by simp; omega)).trans (HG5.out.block b hb hne)⟩
          have hsh6 : Short 64 (out ++ [x]) := by
            intro y hy
            rcases List.mem_append.1 hy with h | h
            · exact HSH.out y h
            · rw [List.mem_singleton] at h
              subst h
              exact HSH.out _ (List.mem_of_getElem? HX.out)
          exact ⟨_, out ++ [x], q + 1 + 1, rfl, hown6, trivial, by simp; have := HLN.out; omega, hsh6, by have := HQ.out; omega, hR6, hG6⟩
        · have ht1 : (tt == 1) = false := beq_eq_false_iff_ne.2 ht
          clear ht
          by_cases ht : tt = 2
          · subst ht
            clear t0 t1
            have c1 : W5.cell? ⟨g, k * 3 + 1, none⟩ = some (.int .i64 x.k) := by rw [HO5.out.cellAt _ (by have := HK.out; omega)]; exact (flatN_get out k x HX.out).2.1
            have c2 : W5.cell? ⟨g, k * 3 + 2, none⟩ = some (.int .i64 x.v) := by rw [HO5.out.cellAt _ (by have := HK.out; omega)]; exact (flatN_get out k x HX.out).2.2
            have z1 := HO5.out.frozenAt (k * 3 + 1)
            have z2 := HO5.out.frozenAt (k * 3 + 2)
            have hkl : (k : Int) < out.length := by have := HK.out; omega
            clear hl0
            go_wp2
            go_ret
            exact ⟨_, out.set k ⟨x.p, 2, 0⟩, q + 1 + 1, rfl, own_set HO5.out HX.out 2 0, trivial, by rw [List.length_set]; have := HLN.out; omega, short_set HSH.out HX.out, by have := HQ.out; omega,
              (HR5.out.setNew _ _ (by have := HLE.out; have := HB.out.1; show N0 ≤ g; omega)).setNew _ _ (by have := HLE.out; have := HB.out.1; show N0 ≤ g; omega), grownBy_setCell_new (grownBy_setCell_new HG5.out _ _ HB.out.1) _ _ HB.out.1⟩
          · have ht2 : (tt == 2) = false := beq_eq_false_iff_ne.2 ht
            have HO6 := HO5
            clear ht t0 t1
            go_wp2
            go_ret
            exact ⟨_, out, q + 1 + 1, rfl, HO6.out, trivial, by have := HLN.out; omega, HSH.out, by have := HQ.out; omega, HR5.out, HG5.out⟩

end Go.Proofs.YtnmpbocnbcokeaaGreatDoor

/-
  WALKS: spec.l91In: a path of a drawn tree, or any path.
-/
namespace Go.Proofs.YtnmpbocnbcokeaaGreatDoor
open Go.RowKit
set_option linter.unusedVariables false

def twoLetters : List ByteArray := [⟨#[97]⟩, ⟨#[98]⟩]

set_option maxHeartbeats 2000000 in
set_option maxRecDepth 100000 in
theorem l91In_c (N0 B p base : Nat) (sl : Value) (ns : List Nd) (hlen : ns.length ≤ 1000) (hs : Short 64 ns) (hb : B < base) (W : World) (hown : W.ownsRow base 49 3 sl ns.length (flatN ns)) (hp : p < 20000) (hR : RdAt N0 W B p) :
    Calls Tryz.prog 29 #[.pointer (some ⟨B, 0, none⟩), sl] W (StrPost N0 B p 8 66 W) := by
  have HPath := Lib.hid (fun q W hq hR => l91Path_c N0 B q W hq hR)
  have HPK := Lib.hid (fun q n h0 h1 W hq hR => pick_c N0 B q n h0 h1 W hq hR)
  have HPP := Lib.hid hp
  have HS := Lib.hid hs
  have HB := Lib.hid hb
  have HLN := Lib.hid hlen
  clear hp hs hb hlen
  by_cases h0 : ns.length = 0
  · obtain ⟨a, cap, rfl, -⟩ := nodes_of_own hown
    have h0' : (ns.length : Int) = 0 := by omega
    clear h0 hown
    go_enter Tryz.func29, Tryz.ntmps29
    go_wp2_with fail
    refine (HPath.out p _ (by have := HPP.out; omega) hR).mono ?_; rintro e W1 ⟨s, q, rfl, hs, hq, hR1, hg1⟩
    have HX := Lib.hid (And.intro hs hq)
    clear hs hq hR
    go_wp2
    go_ret
    exact ⟨s, q, rfl, by have := HX.out.1; omega, by have := HX.out.2; omega, hR1, hg1⟩
  · obtain ⟨g, cap, rfl, hgb, hgw⟩ := own_slice hown (by omega)
    have hl1 : (0 : Int) < ns.length := by omega
    have HL0 := Lib.hid (show 0 < ns.length by omega)
    clear h0 hgb hgw
    go_enter Tryz.func29, Tryz.ntmps29
    go_wp2_with fail
    refine (HPK.out p 4 (by omega) (by omega) _ (by have := HPP.out; omega) hR).mono ?_; rintro e W1 ⟨r, rfl, r0, r1, hR1, hg1⟩
    have hown1 := own_reader hown HB.out hg1
    have HG1 := Lib.hid hg1
    clear hown hR hg1
    by_cases hr : 0 < r
    · have hr' : decide (0 < r) = true := decide_eq_true hr
      clear r0 r1
      go_wp2_with fail
      refine (HPK.out (p + 1) ns.length (by have := HL0.out; omega) (by have := HLN.out; omega) _ (by have := HPP.out; omega) hR1).mono ?_; rintro e W2 ⟨k', rfl, k0, k1, hR2, hg2⟩
      obtain ⟨k, rfl⟩ := Int.eq_ofNat_of_zero_le k0
      have HK := Lib.hid (show k < ns.length by omega)
      have HO2 := Lib.hid (own_reader hown1 HB.out hg2)
      have HG2 := Lib.hid (grownBy_trans HG1.out hg2)
      obtain ⟨x, hx⟩ : ∃ x, ns[k]? = some x := ⟨_, List.getElem?_eq_getElem HK.out⟩
      have hsz : x.p.size ≤ 64 := HS.out x (List.mem_of_getElem? hx)
      have c0 : W2.cell? ⟨g, k * 3, none⟩ = some (.string x.p) := by rw [HO2.out.cellAt _ (by have := HK.out; omega)]; exact (flatN_get ns k x hx).1
      have hkl : (k : Int) < ns.length := by have := HK.out; omega
      generalize x.p = s at hsz c0
      clear k0 k1 hown1 hR1 hg2 hx
      go_wp2_with fail
      refine (HPK.out (p + 1 + 1) 4 (by omega) (by omega) _ (by have := HPP.out; omega) hR2).mono ?_; rintro e W3 ⟨t, rfl, t0, t1, hR3, hg3⟩
      have HG3 := Lib.hid (grownBy_trans HG2.out hg3)
      have HSZ := Lib.hid hsz
      clear c0 hR2 hg3 hkl
      by_cases ht : t = 0
      · subst ht
        clear t0 t1
        have HO := Lib.hid (of_lit N0 B (p + 1 + 1 + 1) twoLetters 2 rfl (by omega) (by omega) W3 (by have := HPP.out; omega) hR3 _ rfl)
        simp only [twoLetters, List.map_cons, List.map_nil] at HO
        go_wp2_with fail
        refine HO.out.mono ?_; rintro e W4 ⟨y, hy, rfl, hR4, hg4⟩
        have hy1 : y.size ≤ 1 := by
          simp at hy
          rcases hy with rfl | rfl <;> decide
        clear hy hR3
        go_wp2
        go_ret
        exact ⟨_, p + 1 + 1 + 1 + 1, rfl, by rw [ByteArray.size_append, ByteArray.size_append]; show s.size + 1 + _ ≤ 66; omega, by omega, hR4, grownBy_trans HG3.out hg4⟩
      · have ht' : (t == 0) = false := beq_eq_false_iff_ne.2 ht
        clear t0 t1 ht
        go_wp2
        go_ret
        exact ⟨_, p + 1 + 1 + 1, rfl, by omega, by omega, hR3, HG3.out⟩
    · have hr' : decide (0 < r) = false := decide_eq_false hr
      clear r0 r1
      go_wp2_with fail
      refine (HPath.out (p + 1) _ (by have := HPP.out; omega) hR1).mono ?_; rintro e W2 ⟨s, q, rfl, hs, hq, hR2, hg2⟩
      have HX := Lib.hid (And.intro hs hq)
      clear hs hq hR1
      go_wp2
      go_ret
      exact ⟨s, q, rfl, by have := HX.out.1; omega, by have := HX.out.2; omega, hR2, grownBy_trans HG1.out hg2⟩

end Go.Proofs.YtnmpbocnbcokeaaGreatDoor

/-
  WALKS: spec.DrawTreeValid, DrawTreeGet, DrawTreePut, DrawTreeUnder.
-/
namespace Go.Proofs.YtnmpbocnbcokeaaGreatDoor
open Go.RowKit
set_option linter.unusedVariables false

/-- A drawn list of nodes, in memory of the call's own. -/
def Drawn (W W' : World) (sl : Value) (ns : List Nd) : Prop :=
  W'.ownsRow W.heap.size 49 3 sl ns.length (flatN ns) ∧ ns.length ≤ 11 ∧ Short 64 ns ∧ Below W.heap.size W W'

def ListPost (W : World) (e : Ending) (W' : World) : Prop := ∃ sl ns, e = .returned sl ∧ Drawn W W' sl ns
def ListPathPost (W : World) (e : Ending) (W' : World) : Prop := ∃ sl ns s, e = .returned (.tuple #[sl, .string s]) ∧ s.size ≤ 66 ∧ Drawn W W' sl ns
def ListPutPost (W : World) (e : Ending) (W' : World) : Prop := ∃ sl ns s, ∃ k v : Int, e = .returned (.tuple #[sl, .string s, con k v]) ∧ s.size ≤ 66 ∧ Drawn W W' sl ns

theorem triple_results (fn : Func) (hf : fn.results = #[.tmp 2, .tmp 3, .cell 4 25]) (W : World) (n : Nat) (k v : Int) (sl x : Value) (tmps : Array Value) (h2 : tmps[2]? = some sl) (h3 : tmps[3]? = some x) (ht : tmps[4]? = some (.pointer (some ⟨n, 0, none⟩)))
    (h : W.cell? ⟨n, 0, none⟩ = some (.int .i64 k) ∧ W.cell? ⟨n, 1, none⟩ = some (.int .i64 v)) : (results fn tmps).run Tryz.prog W = .ok (.tuple #[sl, x, con k v]) W := by
  obtain ⟨c0, c1⟩ := h
  simp [results, hf, go_sem, h2, h3, ht, c0, c1]

theorem own_setOther {W : World} {base : Nat} {e : TypeId} {size n : Nat} {v : Value} {xs : List Value} (h : W.ownsRow base e size v n xs) (a : Addr) (u : Value) (ha : a.block < base) : (W.setCell a u).ownsRow base e size v n xs := by
  refine h.kept (row := some a.block) ⟨rfl, rfl, rfl, by simp [World.setCell], fun k _ hk => Below.heap_setCell _ _ _ _ (fun e => hk (by rw [e]))⟩ ?_
  cases hv : v.ownBlock with
  | none => exact .inl rfl
  | some k =>
    right
    have := (h.lt k hv).1
    simp; omega

/-- END OF PUT -/
theorem drewN_heap (W : World) (n : Nat) : (W.drewN n).heap = W.heap := (drewN_cell W n ⟨0, 0, none⟩).2.2
theorem drawn_drewN {W W' : World} {sl : Value} {ns : List Nd} (h : Drawn W W' sl ns) (n : Nat) : Drawn W (W'.drewN n) sl ns := by
  obtain ⟨h1, h2, h3, h4⟩ := h
  have hb : Below W'.heap.size W' (W'.drewN n) := ⟨rfl, rfl, rfl, by rw [drewN_heap]; exact Nat.le_refl _, fun k _ => by rw [drewN_heap]⟩
  exact ⟨own_below h1 hb, h2, h3, below_next h4 hb⟩

end Go.Proofs.YtnmpbocnbcokeaaGreatDoor

/-
  WALKS: commands that are drawn: spec.l91Command, DrawCommandValid, DrawCommandUndo, DrawCommandText, DrawCommandApply, DrawCommandParse.
-/
namespace Go.Proofs.YtnmpbocnbcokeaaGreatDoor
open Go.RowKit
set_option linter.unusedVariables false

/-- A drawn command: its path is short; the reader some places on. -/
def CmdDraw (N0 B p : Nat) (W : World) (e : Ending) (W' : World) : Prop :=
  ∃ (c : Cmd) (q : Nat), e = .returned (cmdV c) ∧ c.p.size ≤ 66 ∧ q ≤ p + 17 ∧ RdAt N0 W' B q ∧ W.grownBy W' (some B)

theorem cmd_draw {N0 B p q : Nat} {W W' : World} {t : ByteArray} {fk fv tk tv : Int} (hs : t.size ≤ 66) (hq : q ≤ p + 17) (hR : RdAt N0 W' B q) (hg : W.grownBy W' (some B)) (hL : N0 ≤ W.heap.size) :
    CmdDraw N0 B p W (.returned (cmdV ⟨t, fk, fv, tk, tv⟩)) (((((W'.setCell ⟨W.heap.size, 0, none⟩ (.string t)).setCell ⟨W.heap.size, 1, none⟩ (.int .i64 fk)).setCell ⟨W.heap.size, 2, none⟩ (.int .i64 fv)).setCell ⟨W.heap.size, 3, none⟩ (.int .i64 tk)).setCell ⟨W.heap.size, 4, none⟩ (.int .i64 tv)) :=
  ⟨⟨t, fk, fv, tk, tv⟩, q, rfl, hs, hq, ((((hR.setNew _ _ hL).setNew _ _ hL).setNew _ _ hL).setNew _ _ hL).setNew _ _ hL,
    grownBy_setCell_new (grownBy_setCell_new (grownBy_setCell_new (grownBy_setCell_new (grownBy_setCell_new hg _ _ (Nat.le_refl _)) _ _ (Nat.le_refl _)) _ _ (Nat.le_refl _)) _ _ (Nat.le_refl _)) _ _ (Nat.le_refl _)⟩

set_option maxHeartbeats 2000000 in
set_option maxRecDepth 100000 in
theorem l91Command_c (N0 B p base : Nat) (sl : Value) (ns : List Nd) (hlen : ns.length ≤ 11) (hs : Short 64 ns) (hb : B < base) (W : World) (hown : W.ownsRow base 49 3 sl ns.length (flatN ns)) (hp : p < 19000) (hR : RdAt N0 W B p) :
    Calls Tryz.prog 13 #[.pointer (some ⟨B, 0, none⟩), sl] W (CmdDraw N0 B p W) := by
  have HI := Lib.hid (fun W' h1 h2 => l91In_c N0 B p base sl ns (by omega) hs hb W' h1 (by omega) h2)
  have HC := Lib.hid (fun q W1 hq hR => l91Content_c N0 B q W1 hq hR)
  have HPK := Lib.hid (fun q n h0 h1 W hq hR => pick_c N0 B q n h0 h1 W hq hR)
  have HLT := Lib.hid hR.lt
  have HLE := Lib.hid hR.le
  have HO := Lib.hid hown
  have HR := Lib.hid hR
  have HB := Lib.hid hb
  have HP := Lib.hid hp
  obtain ⟨a, cap, rfl, hN⟩ := nodes_of_own hown
  have HN := Lib.hid hN
  have HG := Lib.hid (fun x W' (h : NodesAt W' a ns.length ns) => l3Get_c a ns.length cap ns x (by omega) W' h)
  clear hR hown hs hb hp hN hlen
  go_enter Tryz.func13, Tryz.ntmps13
  go_wp2_with fail
  refine (HI.out _ (own_below HO.out (below_box W _)) (HR.out.alloc _)).mono ?_
  rintro e W1 ⟨s, q1, rfl, hs1, hq1, hR1, hg1⟩
  have T1 := Lib.hid (five_grown hg1 HLT.out)
  have G1 := Lib.hid (grownBy_trans (grownBy_new W _ (some B)) hg1)
  have Q1 := Lib.hid (And.intro hs1 hq1)
  have HR1 := Lib.hid hR1
  clear hs1 hq1 hR1 hg1
  go_wp2_with fail
  refine (HC.out q1 _ (by have := HP.out; have := Q1.out.2; omega) HR1.out).mono ?_
  rintro e W2 ⟨k, v, q2, rfl, -, -, -, -, hq2, hR2, hg2⟩
  have T2 := Lib.hid (T1.out.keep hg2 (by have := HLT.out; omega))
  have G2 := Lib.hid (grownBy_trans G1.out hg2)
  have Q2 := Lib.hid hq2
  have HR2 := Lib.hid hR2
  have O2 := Lib.hid (own_reader HO.out HB.out G2.out)
  clear hq2 hR2 hg2 T1 G1 HR1
  go_wp2_with fail
  obtain ⟨⟨gk, gv⟩, hg⟩ : ∃ g, getT ns s = g := ⟨_, rfl⟩
  obtain ⟨a', cap', ee, hN2⟩ := nodes_of_own O2.out
  cases ee
  have HG2 := Lib.hid (show Calls Tryz.prog 19 #[.slice a ns.length cap, .string s] (W2.alloc (.cells #[.string s, .int .i64 0, .int .i64 0, .int .i64 k, .int .i64 v] 27)) (ConRet gk gv (W2.alloc (.cells #[.string s, .int .i64 0, .int .i64 0, .int .i64 k, .int .i64 v] 27))) by
    have := HG.out s _ (hN2.keep (below_box W2 (.cells #[.string s, .int .i64 0, .int .i64 0, .int .i64 k, .int .i64 v] 27)))
    rw [hg] at this
    exact this)
  clear hg hN2
  refine HG2.out.mono ?_
  rintro e W3 ⟨rfl, hb3⟩
  have F3 := Lib.hid ((five_new W2 _ _ _ _ _ _).below hb3)
  have T3 := Lib.hid ((T2.out.alloc _).below hb3)
  have G3 := Lib.hid (grownBy_below (grownBy_trans G2.out (grownBy_new W2 _ (some B))) hb3)
  have R3 := Lib.hid ((HR2.out.alloc _).keep hb3)
  have HZ := Lib.hid (And.intro HR2.out.le HR2.out.lt)
  have HW := Lib.hid (show W.heap.size < W2.heap.size from T2.out.2.2.2.2.2.2.2.2.2.2)
  clear hb3 HG2 T2 G2 O2 HR2
  obtain ⟨c0, c1, c2, c3, c4, f0, f1, f2, f3, f4, -⟩ := F3.out
  unfold con
  go_wp2_with fail
  refine (HPK.out q2 12 (by omega) (by omega) _ (by have := HP.out; have := Q1.out.2; have := Q2.out; omega) ((R3.out.setNew _ _ (by exact HZ.out.1)).setNew _ _ (by exact HZ.out.1))).mono ?_
  rintro e W4 ⟨r, rfl, r0, -, hR4, hg4⟩
  have F4 := Lib.hid ((F3.out.set1 (x := .int .i64 gk)).set2 (x := .int .i64 gv) |>.keep hg4 (by have := HZ.out.2; omega))
  have T4 := Lib.hid (((T3.out.setOther (x := ⟨W2.heap.size, 1, none⟩) (v := .int .i64 gk) (by have := HW.out; simp; omega)).setOther (x := ⟨W2.heap.size, 2, none⟩) (v := .int .i64 gv) (by have := HW.out; simp; omega)).keep hg4 (by have := HLT.out; omega))
  have G4 := Lib.hid (grownBy_trans (grownBy_setCell_new (grownBy_setCell_new G3.out ⟨W2.heap.size, 1, none⟩ (.int .i64 gk) (by have := HW.out; simp; omega)) ⟨W2.heap.size, 2, none⟩ (.int .i64 gv) (by have := HW.out; simp; omega)) hg4)
  have R4 := Lib.hid hR4
  clear hR4 hg4 F3 T3 G3 R3 c0 c1 c2 c3 c4 f0 f1 f2 f3 f4
  by_cases hr : r = 0
  · subst hr
    clear r0
    go_wp2_with fail
    refine (HC.out _ _ (by have := HP.out; have := Q1.out.2; have := Q2.out; omega) R4.out).mono ?_
    rintro e W5 ⟨k5, v5, q5, rfl, -, -, -, -, hq5, hR5, hg5⟩
    have F5 := Lib.hid (F4.out.keep hg5 (by have := HZ.out.2; omega))
    have T5 := Lib.hid (T4.out.keep hg5 (by have := HLT.out; omega))
    have G5 := Lib.hid (grownBy_trans G4.out hg5)
    have F6 := Lib.hid ((F5.out.set1 (x := .int .i64 k5)).set2 (x := .int .i64 v5))
    have T6 := Lib.hid ((T5.out.setOther (x := ⟨W2.heap.size, 1, none⟩) (v := .int .i64 k5) (by have := HW.out; simp; omega)).setOther (x := ⟨W2.heap.size, 2, none⟩) (v := .int .i64 v5) (by have := HW.out; simp; omega))
    have G6 := Lib.hid (grownBy_setCell_new (grownBy_setCell_new G5.out ⟨W2.heap.size, 1, none⟩ (.int .i64 k5) (by have := HW.out; simp; omega)) ⟨W2.heap.size, 2, none⟩ (.int .i64 v5) (by have := HW.out; simp; omega))
    have R6 := Lib.hid ((hR5.setNew ⟨W2.heap.size, 1, none⟩ (.int .i64 k5) (by exact HZ.out.1)).setNew ⟨W2.heap.size, 2, none⟩ (.int .i64 v5) (by exact HZ.out.1))
    have HQ5 := Lib.hid hq5
    obtain ⟨c0, c1, c2, c3, c4, f0, f1, f2, f3, f4, -⟩ := F5.out
    clear hq5 hR5 hg5
    unfold con
    go_upto_region 5 with (fail)
    clear c0 c1 c2 c3 c4 f0 f1 f2 f3 f4
    generalize (W5.setCell ⟨W2.heap.size, 1, none⟩ (.int .i64 k5)).setCell ⟨W2.heap.size, 2, none⟩ (.int .i64 v5) = W6 at F6 T6 G6 R6 ⊢
    obtain ⟨c0, c1, c2, c3, c4, -⟩ := F6.out
    obtain ⟨t0, t1, t2, t3, t4, f0, f1, f2, f3, f4, -⟩ := T6.out
    go_wp2
    exact bodyPost_ret (cmd_results _ rfl _ W.heap.size ⟨s, k5, v5, k, v⟩ _ rfl T6.out.setAll) rfl (cmd_draw Q1.out.1 (by have := Q1.out.2; have := Q2.out; have := HQ5.out; omega) R6.out G6.out (HLE.out))
  · have hb0 : (r == 0) = false := beq_eq_false_iff_ne.2 hr
    clear r0 hr
    obtain ⟨c0, c1, c2, c3, c4, -⟩ := F4.out
    obtain ⟨t0, t1, t2, t3, t4, f0, f1, f2, f3, f4, -⟩ := T4.out
    go_wp2
    exact bodyPost_ret (cmd_results _ rfl _ W.heap.size ⟨s, gk, gv, k, v⟩ _ rfl T4.out.setAll) rfl (cmd_draw Q1.out.1 (by have := Q1.out.2; have := Q2.out; omega) R4.out G4.out (HLE.out))

end Go.Proofs.YtnmpbocnbcokeaaGreatDoor

/-
  WALKS: spec.l91Twist: a text that is changed in a third of all cases.
-/
namespace Go.Proofs.YtnmpbocnbcokeaaGreatDoor
open Go.RowKit
set_option linter.unusedVariables false

/-- A text of modest length; the reader some places on. -/
def TwistPost (N0 B p m : Nat) (W : World) (e : Ending) (W' : World) : Prop :=
  ∃ (t : ByteArray) (q : Nat), e = .returned (.string t) ∧ t.size ≤ m ∧ q ≤ p + 4 ∧ RdAt N0 W' B q ∧ W.grownBy W' (some B)

theorem twist_facts (s : ByteArray) (k t : Nat) (hs : s.size ≤ 20000) (hk : (k : Int) < s.size) (ht : (t : Int) < 2) :
    IntKind.i64.wrap ((k : Int) + t) = ((k + t : Nat) : Int) ∧ ((k + t : Nat) : Int) ≤ s.size ∧ (s.extract (k + t) s.size).size ≤ 20000 := by
  refine ⟨?_, by omega, ?_⟩
  · rw [IntWalk.i64_in _ (by omega)]; omega
  · rw [ByteArray.size_extract]; omega

theorem twist_size (s x : ByteArray) (k t : Nat) (hx : x.size ≤ 1) (hk : (k : Int) < s.size) : (s.extract 0 k ++ x ++ s.extract (k + t) s.size).size ≤ s.size + 1 := by
  rw [ByteArray.size_append, ByteArray.size_append, ByteArray.size_extract, ByteArray.size_extract]; omega

theorem grownBy_drew (W : World) (row : Option Nat) : W.grownBy W.drew row := ⟨rfl, rfl, rfl, Nat.le_refl _, fun _ _ _ => rfl⟩

end Go.Proofs.YtnmpbocnbcokeaaGreatDoor

/-
  WALKS: drawn commands: spec.DrawCommandValid, DrawCommandUndo, DrawCommandText, DrawCommandApply, DrawCommandParse.
-/
namespace Go.Proofs.YtnmpbocnbcokeaaGreatDoor
open Go.RowKit
set_option linter.unusedVariables false

/-- A drawn command, out of the code. -/
def CmdDrawPost (W : World) (e : Ending) (W' : World) : Prop := ∃ c : Cmd, e = .returned (cmdV c) ∧ c.p.size ≤ 66 ∧ Below W.heap.size W W'

def cmdTwists : List ByteArray := [⟨#[]⟩, ⟨#[32]⟩, ⟨#[47]⟩, ⟨#[97]⟩, ⟨#[48]⟩, ⟨#[102]⟩, ⟨#[100]⟩, ⟨#[45]⟩]

/-- A drawn tree and a drawn command. -/
def ListCmdPost (W : World) (e : Ending) (W' : World) : Prop := ∃ (sl : Value) (ns : List Nd) (c : Cmd), e = .returned (.tuple #[sl, cmdV c]) ∧ c.p.size ≤ 66 ∧ Drawn W W' sl ns

theorem listcmd_results (fn : Func) (hf : fn.results = #[.tmp 2, .cell 3 27]) (W : World) (n : Nat) (c : Cmd) (sl : Value) (tmps : Array Value) (h2 : tmps[2]? = some sl) (ht : tmps[3]? = some (.pointer (some ⟨n, 0, none⟩)))
    (h : Five W n (.string c.p) (.int .i64 c.fk) (.int .i64 c.fv) (.int .i64 c.tk) (.int .i64 c.tv)) : (results fn tmps).run Tryz.prog W = .ok (.tuple #[sl, cmdV c]) W := by
  obtain ⟨c0, c1, c2, c3, c4, -⟩ := h
  simp [results, hf, go_sem, h2, ht, c0, c1, c2, c3, c4, cmdV]

theorem own_set5 {W : World} {base : Nat} {e : TypeId} {size n m : Nat} {v : Value} {xs : List Value} {u0 u1 u2 u3 u4 : Value} (h : W.ownsRow base e size v n xs) (hm : m < base) : (((((W.setCell ⟨m, 0, none⟩ u0).setCell ⟨m, 1, none⟩ u1).setCell ⟨m, 2, none⟩ u2).setCell ⟨m, 3, none⟩ u3).setCell ⟨m, 4, none⟩ u4).ownsRow base e size v n xs :=
  own_setOther (own_setOther (own_setOther (own_setOther (own_setOther h _ _ hm) _ _ hm) _ _ hm) _ _ hm) _ _ hm

set_option maxHeartbeats 1000000 in
set_option maxRecDepth 100000 in
theorem drawCmdApply_c (a : Option Addr) (len cap : Nat) (zs : List Int) (W : World) (h : IsRow .u8 W a len cap zs) :
    Calls Tryz.prog 4 #[.slice a len cap] W (ListCmdPost W) := by
  have HI := Lib.hid h
  have HO := Lib.hid (fun W h => l6Open_c a len cap zs W h)
  have HT := Lib.hid (fun W1 hR => l91Any_c (W.heap.size + 1 + 1) (W.heap.size + 1) 0 W1 (by omega) hR)
  clear h
  go_enter Tryz.func4, Tryz.ntmps4
  go_wp2_with fail
  refine (HO.out _ (HI.out.alloc _)).mono ?_; rintro e W1 ⟨rfl, hR, hB⟩
  have T1 := Lib.hid ((five_new W _ _ _ _ _ _).below hB)
  have B1 := Lib.hid (below_next (below_box W _) hB)
  have hR' : RdAt (W.heap.size + 1 + 1) W1 (W.heap.size + 1) 0 := by simpa using hR
  have HS1 := Lib.hid (show W.heap.size + 1 < W1.heap.size from hR'.lt)
  clear hB hR
  go_wp2_with fail
  refine (HT.out _ hR').mono ?_; rintro e W2 ⟨sl, ns, q, rfl, hown, -, hl, hs, hq, hR2, hg⟩
  have T2 := Lib.hid (T1.out.keep hg (by omega))
  have HG2 := Lib.hid hg
  have HX := Lib.hid (And.intro hl (And.intro hs hown))
  have HC := Lib.hid (l91Command_c (W.heap.size + 1 + 1) (W.heap.size + 1) q W1.heap.size sl ns (by omega) hs HS1.out W2 hown (by omega) hR2)
  clear hown hl hs hg hR' hq hR2
  go_wp2_with fail
  refine HC.out.mono ?_; rintro e W3 ⟨⟨p, fk, fv, tk, tv⟩, q3, rfl, hp, -, -, hg3⟩
  have T3 := Lib.hid (T2.out.keep hg3 (by omega))
  have HG3 := Lib.hid (grownBy_trans HG2.out hg3)
  have HO3 := Lib.hid (own_reader HX.out.2.2 HS1.out hg3)
  have B3 := Lib.hid (B1.out.grown HG3.out B1.out.size (fun g e => by cases e; omega))
  have HP := Lib.hid hp
  clear hg3 hp
  obtain ⟨t0, t1, t2, t3, t4, f0, f1, f2, f3, f4, -⟩ := T3.out
  unfold cmdV
  go_wp2
  have hlt1 : W.heap.size < W1.heap.size := by have := HS1.out; omega
  exact bodyPost_ret (listcmd_results _ rfl _ W.heap.size ⟨p, fk, fv, tk, tv⟩ sl _ rfl rfl T3.out.setAll) rfl ⟨sl, ns, ⟨p, fk, fv, tk, tv⟩, rfl, HP.out, own_mono (own_set5 HO3.out hlt1) (Nat.le_of_lt hlt1), HX.out.1, HX.out.2.1, below_set5 B3.out (Nat.le_refl _)⟩

end Go.Proofs.YtnmpbocnbcokeaaGreatDoor
