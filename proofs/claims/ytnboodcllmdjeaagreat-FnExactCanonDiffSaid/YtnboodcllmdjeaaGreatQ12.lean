/-
  Texts of this proof, one behind the other: Fc, Fd, Sw, Sm, Sx, Ic, Iv, Ng, Nh, Nj, Nk, Hk, Hl, To, Le, En, Mk, Lm, Sz, Sg, Ml.
-/
import Derived.Deep.Cut
import Derived.Deep.QuietTactic
import Derived.BigQuiet
import Derived.Laws.StructEq
import Derived.Deep.RegionHeld3
import Derived.Laws.Concat
import Derived.Laws.Runes
import Derived.Laws.BytesString
import Derived.Laws.Cover1
import Derived.Test.YtnboodcllmdjeaaGreatQ10
import Derived.Test.YtnboodcllmdjeaaGreatSu
import Derived.Test.YtnboodcllmdjeaaGreatQ9
import Derived.Test.YtnboodcllmdjeaaGreatTl
import Derived.Test.YtnboodcllmdjeaaGreatQ7
import Derived.Test.YtnboodcllmdjeaaGreatTv
import Derived.Test.YtnboodcllmdjeaaGreatQ11
import Derived.Test.YtnboodcllmdjeaaGreatQ2
import Derived.Test.YtnboodcllmdjeaaGreatQ4
import Derived.Test.YtnboodcllmdjeaaGreatQ1
import Derived.Test.YtnboodcllmdjeaaGreatQ8
import Derived.Test.YtnboodcllmdjeaaGreatQ6
import Derived.Test.YtnboodcllmdjeaaGreatQ3
/-
  WALKS: lists of lists of numbers; spec.FramesOf.
-/
namespace Go.Proofs.YtnboodcllmdjeaaGreat
open Go.RowKit
set_option linter.unusedVariables false

/-- A list of lists of numbers, wherever it lies. -/
def TabAt (W : World) (a : Option Addr) (len : Nat) (bs : List (List Int)) : Prop :=
  bs.length = len ∧ (len = 0 ∨ ∃ b off, a = some ⟨b, off, none⟩ ∧ ∀ i z, bs[i]? = some z → ∃ ai ci, W.cell? ⟨b, off + i, none⟩ = some (.slice ai z.length ci) ∧ IntsAt W ai z.length z)

theorem TabAt.keep {W W' : World} {a : Option Addr} {len : Nat} {bs : List (List Int)} (h : TabAt W a len bs) (hb : Below W.heap.size W W') : TabAt W' a len bs := by
  obtain ⟨h1, h0 | ⟨b, off, ha, hc⟩⟩ := h
  · exact ⟨h1, .inl h0⟩
  · refine ⟨h1, .inr ⟨b, off, ha, fun i x hx => ?_⟩⟩
    obtain ⟨ai, ci, h2, h3⟩ := hc i x hx
    exact ⟨ai, ci, cell_kept hb h2, h3.keep hb⟩

theorem TabAt.at {W : World} {a : Option Addr} {len : Nat} {bs : List (List Int)} (h : TabAt W a len bs) {i : Nat} (hi : i < len) :
    ∃ b off z ai ci, a = some ⟨b, off, none⟩ ∧ bs[i]? = some z ∧ W.cell? ⟨b, off + i, none⟩ = some (.slice ai z.length ci) ∧ IntsAt W ai z.length z := by
  obtain ⟨h1, h0 | ⟨b, off, ha, hc⟩⟩ := h
  · omega
  · obtain ⟨x, hx⟩ : ∃ x, bs[i]? = some x := ⟨_, List.getElem?_eq_getElem (by omega)⟩
    obtain ⟨ai, ci, h2, h3⟩ := hc i x hx
    exact ⟨b, off, x, ai, ci, ha, hx, h2, h3⟩

/-- The lists are short. -/
def ShortT (m : Nat) (bs : List (List Int)) : Prop := ∀ b ∈ bs, b.length ≤ m

/-- A list of numbers or a failure. -/
def FPost (r : Option (List Int)) (W : World) (e : Ending) (w' : World) : Prop :=
  ∃ (sl : Value) (out : List Int) (b : Bool), e = .returned (.tuple #[sl, .bool b]) ∧ ((b = true ∧ r = some out) ∨ (b = false ∧ r = none ∧ out = [])) ∧ w'.ownsRow W.heap.size 3 1 sl out.length (intsV out) ∧ Below W.heap.size W w'

theorem framesL_len : ∀ {bs : List (List Int)}, bs.all bodyOk = true → (framesL bs).length ≤ 18 * bs.length
  | [], _ => by simp [framesL]
  | b :: bs, h => by
    simp only [List.all_cons, Bool.and_eq_true] at h
    have := bodyOk_len h.1
    have ih := framesL_len h.2
    rw [framesL_cons, List.length_append, frame_length, List.length_cons]
    omega

def FramesRel (bs : List (List Int)) (W1 : World) (o i : Value) (wr : World) : Prop :=
  ∃ n : Nat, i = .int .i64 n ∧ n ≤ bs.length ∧ Hid ((bs.take n).all bodyOk = true) ∧ wr.ownsRow W1.heap.size 3 1 o (framesL (bs.take n)).length (intsV (framesL (bs.take n))) ∧ Hid (Below W1.heap.size W1 wr)

theorem framesOf_none {bs : List (List Int)} {i : Nat} {z : List Int} (h : bs[i]? = some z) (hz : bodyOk z = false) : framesOf bs = none := by
  unfold framesOf
  rw [if_neg]
  intro hc
  simp only [Bool.and_eq_true] at hc
  have := List.all_eq_true.1 hc.1 z (List.mem_of_getElem? h)
  rw [hz] at this; cases this

theorem takeT_next {bs : List (List Int)} {i : Nat} {z : List Int} (h : bs[i]? = some z) : bs.take (i + 1) = bs.take i ++ [z] := by
  rw [List.take_add_one, h]; rfl

theorem own_casesT {W : World} {base : Nat} {e : TypeId} {size n : Nat} {v : Value} {xs : List Value} (h : W.ownsRow base e size v n xs) : (v = .slice none 0 0 ∧ n = 0) ∨ ∃ g cap, v = .slice (some ⟨g, 0, none⟩) n cap := by
  rcases h.2 with h | ⟨g, cap, _, h, _⟩
  · exact .inl h
  · exact .inr ⟨g, cap, h⟩

theorem own_cells1 {W : World} {base : Nat} {e : TypeId} {zs : List Int} {g cap : Nat} (h : W.ownsRow base e 1 (.slice (some ⟨g, 0, none⟩) zs.length cap) zs.length (intsV zs)) :
    ∀ j u, (intsV zs)[j]? = some u → W.cell? ((⟨g, 0, none⟩ : Addr).add j) = some u := by
  intro j u hj
  have hj' := (List.getElem?_eq_some_iff.1 hj).1
  rw [intsV_length] at hj'
  have := h.cellAt j (by omega)
  rw [add_off, Nat.zero_add, this]
  exact hj

end Go.Proofs.YtnboodcllmdjeaaGreat

/-
  WALKS: spec.FramesScan.
-/
namespace Go.Proofs.YtnboodcllmdjeaaGreat
open Go.RowKit
set_option linter.unusedVariables false

theorem infoInts : (Tryz.prog.info? 125).map (fun i => (i.zero, i.size, i.bytes)) = some (some (.slice none 0 0), 1, 24) := by kernel_rfl

/-- The lists in a table that the call has made: each owned, no two in one block. -/
def Inner (W : World) (base : Nat) (vs : List Value) (bs : List (List Int)) : Prop :=
  vs.length = bs.length ∧ (∀ (i : Nat) (z : List Int) (v : Value), bs[i]? = some z → vs[i]? = some v → W.ownsRow base 3 1 v z.length (intsV z)) ∧ vs.Pairwise (fun u v => ∀ k, u.ownBlock = some k → v.ownBlock ≠ some k)

theorem Inner.below {W W' : World} {base : Nat} {vs : List Value} {bs : List (List Int)} (h : Inner W base vs bs) (hb : Below W.heap.size W W') : Inner W' base vs bs :=
  ⟨h.1, fun i z v hz hv => own_below1 (h.2.1 i z v hz hv) hb, h.2.2⟩

/-- Two owned lists of different element types lie in different blocks. -/
theorem own_types {W : World} {b b' : Nat} {e e' : TypeId} {s s' n n' : Nat} {u v : Value} {xs ys : List Value} (h : W.ownsRow b e s u n xs) (h' : W.ownsRow b' e' s' v n' ys) (he : e ≠ e') : ∀ k, u.ownBlock = some k → v.ownBlock ≠ some k := by
  intro k h1 h2
  rcases h.2 with ⟨rfl, _⟩ | ⟨g, cap, cur, rfl, _, hg, _⟩
  · cases h1
  · rcases h'.2 with ⟨rfl, _⟩ | ⟨g', cap', cur', rfl, _, hg', _⟩
    · cases h2
    · have e1 : g = k := by simpa [Value.ownBlock] using h1
      have e2 : g' = k := by simpa [Value.ownBlock] using h2
      subst e1; subst e2
      rw [hg] at hg'
      cases hg'
      exact he rfl

theorem own_farT {W W' : World} {b : Nat} {e : TypeId} {size n : Nat} {v : Value} {xs : List Value} (h : W.ownsRow b e size v n xs) {row : Value} (hg : W.grownBy W' row.ownBlock) (hd : ∀ k, v.ownBlock = some k → row.ownBlock ≠ some k) : W'.ownsRow b e size v n xs := by
  refine h.kept hg ?_
  cases hv : v.ownBlock with
  | none => exact .inl rfl
  | some k => right; exact fun e => hd k hv e.symm

theorem Inner.grown {W W' : World} {base b n : Nat} {vs ys : List Value} {bs : List (List Int)} {o : Value} (h : Inner W base vs bs) (ho : W.ownsRow b 125 1 o n ys) (hg : W.grownBy W' o.ownBlock) : Inner W' base vs bs :=
  ⟨h.1, fun i z v hz hv => own_farT (h.2.1 i z v hz hv) hg (own_types (h.2.1 i z v hz hv) ho (by decide)), h.2.2⟩

theorem Inner.push {W : World} {base : Nat} {vs : List Value} {bs : List (List Int)} {v : Value} {z : List Int} (h : Inner W base vs bs) (hv : W.ownsRow base 3 1 v z.length (intsV z)) (hd : ∀ u ∈ vs, ∀ k, u.ownBlock = some k → v.ownBlock ≠ some k) : Inner W base (vs ++ [v]) (bs ++ [z]) := by
  obtain ⟨h1, h2, h3⟩ := h
  refine ⟨by simp [h1], fun i z' v' hz hv' => ?_, List.pairwise_append.2 ⟨h3, List.pairwise_singleton _ _, fun u hu w hw => by rw [List.mem_singleton.1 hw]; exact hd u hu⟩⟩
  by_cases hi : i < bs.length
  · rw [List.getElem?_append_left hi] at hz
    rw [List.getElem?_append_left (by omega)] at hv'
    exact h2 i z' v' hz hv'
  · have e1 : i = bs.length := by
      have := (List.getElem?_eq_some_iff.1 hz).1
      simp at this; omega
    subst e1
    rw [List.getElem?_append_right (Nat.le_refl _)] at hz
    rw [← h1, List.getElem?_append_right (Nat.le_refl _)] at hv'
    simp at hz hv'
    subst hz; subst hv'
    exact hv

/-- Every block of the lists in a table stands below the heap's end. -/
theorem Inner.lt {W : World} {base : Nat} {vs : List Value} {bs : List (List Int)} (h : Inner W base vs bs) : ∀ u ∈ vs, ∀ k, u.ownBlock = some k → k < W.heap.size := by
  intro u hu k hk
  obtain ⟨i, hi⟩ := List.getElem?_of_mem hu
  have hl := (List.getElem?_eq_some_iff.1 hi).1
  obtain ⟨z, hz⟩ : ∃ z, bs[i]? = some z := ⟨_, List.getElem?_eq_getElem (by have := h.1; omega)⟩
  exact ((h.2.1 i z u hz hi).lt k hk).2

/-- What a scan returns. -/
def ScanPost (r : List (List Int) × Nat) (W : World) (e : Ending) (w' : World) : Prop :=
  ∃ (sl : Value) (vs : List Value), e = .returned (.tuple #[sl, .int .i64 r.2]) ∧ w'.ownsRow W.heap.size 125 1 sl r.1.length vs ∧ Inner w' W.heap.size vs r.1 ∧ Below W.heap.size W w'

def ScanRel (zs : List Int) (W : World) (o p : Value) (wr : World) : Prop :=
  ∃ (n : Nat) (acc : List (List Int)) (vs : List Value), p = .int .i64 n ∧ n ≤ zs.length ∧ Hid (acc.length ≤ n) ∧ Hid (scanL zs = (acc ++ (scanL (zs.drop n)).1, n + (scanL (zs.drop n)).2)) ∧
    wr.ownsRow W.heap.size 125 1 o acc.length vs ∧ Hid (Inner wr W.heap.size vs acc) ∧ Hid (Below W.heap.size W wr)

theorem scan_end {zs : List Int} {n : Nat} {acc : List (List Int)} {vs : List Value} {W wr : World} {o : Value} (hs : scanL zs = (acc ++ (scanL (zs.drop n)).1, n + (scanL (zs.drop n)).2)) (he : scanL (zs.drop n) = ([], 0))
    (ho : wr.ownsRow W.heap.size 125 1 o acc.length vs) (hi : Inner wr W.heap.size vs acc) (hb : Below W.heap.size W wr) : ScanPost (scanL zs) W (.returned (.tuple #[o, .int .i64 n])) wr := by
  rw [he] at hs
  simp only [List.append_nil, Nat.add_zero] at hs
  rw [hs]
  exact ⟨o, vs, rfl, ho, hi, hb⟩

theorem drewN_below (W : World) (n : Nat) : Below W.heap.size W (W.drewN n) := by
  have e := (drewN_cell W n ⟨0, 0, none⟩).2.2
  exact ⟨rfl, rfl, rfl, by rw [e]; exact Nat.le_refl _, fun j _ => by rw [e]⟩

theorem drop_consI {zs : List Int} {n : Nat} {z : Int} (h : zs[n]? = some z) : zs.drop n = z :: zs.drop (n + 1) := by
  obtain ⟨h1, h2⟩ := List.getElem?_eq_some_iff.1 h
  rw [List.drop_eq_getElem_cons h1, h2]

theorem scan_stop {zs : List Int} {n : Nat} {z : Int} (h : zs[n]? = some z) (hh : headOk z (zs.drop (n + 1)) = false) : scanL (zs.drop n) = ([], 0) := by
  rw [drop_consI h, scanL_cons, if_neg (by rw [hh]; simp)]

theorem scan_go {zs : List Int} {n m : Nat} (h : zs[n]? = some (m : Int)) (hh : headOk (m : Int) (zs.drop (n + 1)) = true) {acc : List (List Int)} (hs : scanL zs = (acc ++ (scanL (zs.drop n)).1, n + (scanL (zs.drop n)).2)) :
    scanL zs = ((acc ++ [(zs.drop (n + 1)).take m]) ++ (scanL (zs.drop (n + m + 2))).1, (n + m + 2) + (scanL (zs.drop (n + m + 2))).2) := by
  rw [drop_consI h, scanL_cons, if_pos hh] at hs
  have e1 : (m : Int).toNat = m := by omega
  rw [e1, List.drop_drop, show n + 1 + (m + 1) = n + m + 2 by omega] at hs
  rw [hs]
  simp
  omega

end Go.Proofs.YtnboodcllmdjeaaGreat

/-
  WALKS: spec.l5Paths, TreeChanged.
-/
namespace Go.Proofs.YtnboodcllmdjeaaGreat
open Go.RowKit
set_option linter.unusedVariables false

theorem drop_cons' {α : Type} {l : List α} {n : Nat} {z : α} (h : l[n]? = some z) : l.drop n = z :: l.drop (n + 1) := by
  obtain ⟨h1, h2⟩ := List.getElem?_eq_some_iff.1 h
  rw [List.drop_eq_getElem_cons h1, h2]

theorem merge_left {a b : List Nd} {p q : Nat} {x : Nd} (hx : a[p]? = some x) (h : q = b.length ∨ ∃ y, b[q]? = some y ∧ ltB x.p y.p = true) : mergeP (a.drop p) (b.drop q) = x.p :: mergeP (a.drop (p + 1)) (b.drop q) := by
  rw [drop_cons' hx]
  rcases h with h | ⟨y, hy, hl⟩
  · rw [h, List.drop_length, mergeP_nil', mergeP_nil']; rfl
  · rw [drop_cons' hy, mergeP_cons, if_pos hl]

theorem merge_right {a b : List Nd} {p q : Nat} {y : Nd} (hy : b[q]? = some y) (h : p = a.length ∨ ∃ x, a[p]? = some x ∧ ltB x.p y.p = false ∧ ltB y.p x.p = true) : mergeP (a.drop p) (b.drop q) = y.p :: mergeP (a.drop p) (b.drop (q + 1)) := by
  rw [drop_cons' hy]
  rcases h with h | ⟨x, hx, hl, hr⟩
  · rw [h, List.drop_length, mergeP_nil, mergeP_nil]; rfl
  · rw [drop_cons' hx, mergeP_cons, if_neg (by rw [hl]; simp), if_pos hr]

theorem merge_both {a b : List Nd} {p q : Nat} {x y : Nd} (hx : a[p]? = some x) (hy : b[q]? = some y) (hl : ltB x.p y.p = false) (hr : ltB y.p x.p = false) : mergeP (a.drop p) (b.drop q) = x.p :: mergeP (a.drop (p + 1)) (b.drop (q + 1)) := by
  rw [drop_cons' hx, drop_cons' hy, mergeP_cons, if_neg (by rw [hl]; simp), if_neg (by rw [hr]; simp)]

theorem cell_str_new (w : World) (v : Value) (t : TypeId) : ∀ j u, [v][j]? = some u → (w.alloc (.cells #[v] t)).cell? ((⟨w.heap.size, 0, none⟩ : Addr).add j) = some u := cell_int_new w v t

theorem own_text {W : World} {b : Nat} {e : TypeId} {v : Value} {acc : List ByteArray} {x : ByteArray} (h : W.ownsRow b e 1 v (acc.length + 1) (acc.map Value.string ++ [.string x])) : W.ownsRow b e 1 v (acc ++ [x]).length ((acc ++ [x]).map Value.string) := by
  rw [List.map_append, List.length_append]; exact h

def MergeRel (a b : List Nd) (W : World) (o i k : Value) (wr : World) : Prop :=
  ∃ (p q : Nat) (done : List ByteArray), i = .int .i64 p ∧ k = .int .i64 q ∧ p ≤ a.length ∧ q ≤ b.length ∧ Hid (mergeP a b = done ++ mergeP (a.drop p) (b.drop q)) ∧ Hid (done.length ≤ p + q) ∧
    wr.ownsRow W.heap.size 9 1 o done.length (done.map Value.string) ∧ Hid (Below W.heap.size W wr)

set_option maxHeartbeats 4000000 in
set_option maxRecDepth 100000 in
theorem l5Paths_c (a1 : Option Addr) (len1 cap1 : Nat) (ns : List Nd) (a2 : Option Addr) (len2 cap2 : Nat) (ms : List Nd) (hl1 : len1 ≤ 1000) (hl2 : len2 ≤ 1000) (W : World) (h1 : NodesAt W a1 len1 ns) (h2 : NodesAt W a2 len2 ms) :
    Calls Tryz.prog 50 #[.slice a1 len1 cap1, .slice a2 len2 cap2] W (TextsPost (mergeP ns ms) W) := by
  obtain ⟨i0, hi, hz0, hz1, hz2⟩ := info_parts infoStr
  have H1 := Lib.hid h1
  have H2 := Lib.hid h2
  have HE1 := Lib.hid h1.1
  have HE2 := Lib.hid h2.1
  have hl1' : (len1 : Int) ≤ 1000 := by omega
  have hl2' : (len2 : Int) ≤ 1000 := by omega
  have HLL := Lib.hid (And.intro hl1 hl2)
  clear h1 h2 hl1 hl2
  go_enter Tryz.func50, Tryz.ntmps50
  go_wp2
  go_loopw [5, 6, 7] (fun o i k wr => MergeRel ns ms W o i k wr) (fun _ i k _ => (len1 - (intOf i).toNat) + (len2 - (intOf k).toNat))
  case atStart => exact ⟨0, 0, [], rfl, rfl, by omega, by omega, by simp [Hid], by simp [Hid], World.ownsRow_lit (e := 9) (size := 1) W #[] 0 (Nat.le_refl _) (by simp [maxLen]) rfl, below_box _ _⟩
  case round =>
    obtain ⟨p, q, done, rfl, rfl, hp, hq, HD, HDL, hown, HB⟩ := hrel
    rw [HE1.out] at hp
    rw [HE2.out] at hq
    have HO := Lib.hid hown
    have hpI : (p : Int) ≤ 1000 := by omega
    have hqI : (q : Int) ≤ 1000 := by omega
    clear hown
    by_cases hp1 : p < len1
    · have hp1' : (p : Int) < len1 := by omega
      obtain ⟨b1, off1, x, rfl, hx, x0, -, -⟩ := (H1.out.keep HB.out).node hp1
      by_cases hq1 : q < len2
      · have hq1' : (q : Int) < len2 := by omega
        have hqe : ((q : Int) == len2) = false := beq_eq_false_iff_ne.2 (by omega)
        have hpe : ((p : Int) == len1) = false := beq_eq_false_iff_ne.2 (by omega)
        obtain ⟨b2, off2, y, rfl, hy, y0, -, -⟩ := (H2.out.keep HB.out).node hq1
        have HPQ := Lib.hid (show p < ns.length ∧ q < ms.length ∧ ns.length = len1 ∧ ms.length = len2 ∧ len1 ≤ 1000 ∧ len2 ≤ 1000 by have := HE1.out; have := HE2.out; have := HLL.out; omega)
        cases hlt : ltB x.p y.p with
        | true =>
          have HS := Lib.hid (merge_left (b := ms) (q := q) hx (.inr ⟨y, hy, hlt⟩))
          have hlt' : Op.bytesLess x.p.toList y.p.toList = true := hlt
          clear hp hq hp1 hq1 hx hy hlt
          go_wp2_with fail
          go_quiet (fail)
          have HOQ := Lib.hid (own_below1 HO.out (drewN_below wr nq))
          have HBQ := Lib.hid (HB.out.trans ((drewN_below wr nq).mono HB.out.size))
          have x02 := cell_kept (drewN_below wr nq) x0
          have y02 := cell_kept (drewN_below wr nq) y0
          generalize wr.drewN nq = w6 at HOQ HBQ x02 y02 ⊢
          clear x0 y0
          go_wp2_with (at_builtin; refine wpList_append_own _ rfl _ _ 45 rfl W.heap.size 9 i0 (.string ⟨#[]⟩) 1 16 Tryz.underlying45 hi hz0 hz1 hz2 rfl (by decide) _ _ _ rfl (HOQ.out.alloc _) ⟨w6.heap.size, 0, none⟩ 1 1 [.string x.p] rfl rfl (cell_str_new _ _ _) (fun x hx => by simp at hx; subst hx; rfl) (by have := HDL.out; have := HPQ.out; unfold maxLen; omega) (by have := HDL.out; have := HPQ.out; omega) (by have := HBQ.out.size; simp; omega) ?_; intro v5 w5 ho5 hg5 hn5)
          have hlt0 := HOQ.out.lt
          have B5 : Below W.heap.size W w5 := (HBQ.out.alloc HBQ.out.size _).grown hg5 (by have := HBQ.out.size; simp; omega) (fun g e => (hlt0 g e).1)
          go_roundw
          case rel => exact ⟨p + 1, q, done ++ [x.p], by push_cast; rfl, rfl, by have := HPQ.out; omega, by have := HPQ.out; omega, by rw [List.append_assoc]; exact HD.out.trans (congrArg (done ++ ·) HS.out), by rw [List.length_append]; have := HDL.out; show done.length + 1 ≤ _; omega, own_text ho5, B5⟩
          case measure => have := HPQ.out; simp [intOf]; omega
        | false =>
          have hlt' : Op.bytesLess x.p.toList y.p.toList = false := hlt
          cases hgt : ltB y.p x.p with
          | true =>
            have HS := Lib.hid (merge_right (a := ns) (p := p) hy (.inr ⟨x, hx, hlt, hgt⟩))
            have hgt' : Op.bytesLess y.p.toList x.p.toList = true := hgt
            clear hp hq hp1 hq1 hx hy hlt hgt
            go_wp2_with fail
            go_quiet (fail)
            have HBn := Lib.hid (drewN_below wr nq)
            have x02 := cell_kept HBn.out x0
            have y02 := cell_kept HBn.out y0
            have HO1 := Lib.hid (own_below1 HO.out HBn.out)
            have HB1 := Lib.hid (HB.out.trans (HBn.out.mono HB.out.size))
            generalize wr.drewN nq = w4 at HO1 HB1 x02 y02 ⊢
            clear x0 y0 HBn nq
            go_wp2_with fail
            go_quiet (fail)
            have HOQ := Lib.hid (own_below1 HO1.out (drewN_below w4 nq))
            have HBQ := Lib.hid (HB1.out.trans ((drewN_below w4 nq).mono HB1.out.size))
            have x03 := cell_kept (drewN_below w4 nq) x02
            have y03 := cell_kept (drewN_below w4 nq) y02
            generalize w4.drewN nq = w6 at HOQ HBQ x03 y03 ⊢
            clear x02 y02
            go_wp2_with (at_builtin; refine wpList_append_own _ rfl _ _ 45 rfl W.heap.size 9 i0 (.string ⟨#[]⟩) 1 16 Tryz.underlying45 hi hz0 hz1 hz2 rfl (by decide) _ _ _ rfl (HOQ.out.alloc _) ⟨w6.heap.size, 0, none⟩ 1 1 [.string y.p] rfl rfl (cell_str_new _ _ _) (fun x hx => by simp at hx; subst hx; rfl) (by have := HDL.out; have := HPQ.out; unfold maxLen; omega) (by have := HDL.out; have := HPQ.out; omega) (by have := HBQ.out.size; simp; omega) ?_; intro v5 w5 ho5 hg5 hn5)
            have hlt0 := HOQ.out.lt
            have B5 : Below W.heap.size W w5 := (HBQ.out.alloc HBQ.out.size _).grown hg5 (by have := HBQ.out.size; simp; omega) (fun g e => (hlt0 g e).1)
            go_roundw
            case rel => exact ⟨p, q + 1, done ++ [y.p], rfl, by push_cast; rfl, by have := HPQ.out; omega, by have := HPQ.out; omega, by rw [List.append_assoc]; exact HD.out.trans (congrArg (done ++ ·) HS.out), by rw [List.length_append]; have := HDL.out; show done.length + 1 ≤ _; omega, own_text ho5, B5⟩
            case measure => have := HPQ.out; simp [intOf]; omega
          | false =>
            have HS := Lib.hid (merge_both hx hy hlt hgt)
            have hgt' : Op.bytesLess y.p.toList x.p.toList = false := hgt
            clear hp hq hp1 hq1 hx hy hlt hgt
            go_wp2_with fail
            go_quiet (fail)
            have HBn := Lib.hid (drewN_below wr nq)
            have x02 := cell_kept HBn.out x0
            have y02 := cell_kept HBn.out y0
            have HO1 := Lib.hid (own_below1 HO.out HBn.out)
            have HB1 := Lib.hid (HB.out.trans (HBn.out.mono HB.out.size))
            generalize wr.drewN nq = w4 at HO1 HB1 x02 y02 ⊢
            clear x0 y0 HBn nq
            go_wp2_with fail
            go_quiet (fail)
            have HOQ := Lib.hid (own_below1 HO1.out (drewN_below w4 nq))
            have HBQ := Lib.hid (HB1.out.trans ((drewN_below w4 nq).mono HB1.out.size))
            have x03 := cell_kept (drewN_below w4 nq) x02
            have y03 := cell_kept (drewN_below w4 nq) y02
            generalize w4.drewN nq = w6 at HOQ HBQ x03 y03 ⊢
            clear x02 y02
            go_wp2_with (at_builtin; refine wpList_append_own _ rfl _ _ 45 rfl W.heap.size 9 i0 (.string ⟨#[]⟩) 1 16 Tryz.underlying45 hi hz0 hz1 hz2 rfl (by decide) _ _ _ rfl (HOQ.out.alloc _) ⟨w6.heap.size, 0, none⟩ 1 1 [.string x.p] rfl rfl (cell_str_new _ _ _) (fun x hx => by simp at hx; subst hx; rfl) (by have := HDL.out; have := HPQ.out; unfold maxLen; omega) (by have := HDL.out; have := HPQ.out; omega) (by have := HBQ.out.size; simp; omega) ?_; intro v5 w5 ho5 hg5 hn5)
            have hlt0 := HOQ.out.lt
            have B5 : Below W.heap.size W w5 := (HBQ.out.alloc HBQ.out.size _).grown hg5 (by have := HBQ.out.size; simp; omega) (fun g e => (hlt0 g e).1)
            go_roundw
            case rel => exact ⟨p + 1, q + 1, done ++ [x.p], by push_cast; rfl, by push_cast; rfl, by have := HPQ.out; omega, by have := HPQ.out; omega, by rw [List.append_assoc]; exact HD.out.trans (congrArg (done ++ ·) HS.out), by rw [List.length_append]; have := HDL.out; show done.length + 1 ≤ _; omega, own_text ho5, B5⟩
            case measure => have := HPQ.out; simp [intOf]; omega
      · have hqe : ((q : Int) == len2) = true := by rw [show q = len2 by omega]; simp
        have HPQ := Lib.hid (show p < ns.length ∧ q ≤ ms.length ∧ ns.length = len1 ∧ ms.length = len2 ∧ len1 ≤ 1000 ∧ len2 ≤ 1000 by have := HE1.out; have := HE2.out; have := HLL.out; omega)
        have HS := Lib.hid (merge_left (b := ms) (q := q) hx (.inl (by have := HE2.out; omega)))
        clear hp hq hp1 hq1 hx
        go_wp2_with fail
        go_quiet (fail)
        have HOQ := Lib.hid (own_below1 HO.out (drewN_below wr nq))
        have HBQ := Lib.hid (HB.out.trans ((drewN_below wr nq).mono HB.out.size))
        have x02 := cell_kept (drewN_below wr nq) x0
        generalize wr.drewN nq = w6 at HOQ HBQ x02 ⊢
        clear x0
        go_wp2_with (at_builtin; refine wpList_append_own _ rfl _ _ 45 rfl W.heap.size 9 i0 (.string ⟨#[]⟩) 1 16 Tryz.underlying45 hi hz0 hz1 hz2 rfl (by decide) _ _ _ rfl (HOQ.out.alloc _) ⟨w6.heap.size, 0, none⟩ 1 1 [.string x.p] rfl rfl (cell_str_new _ _ _) (fun x hx => by simp at hx; subst hx; rfl) (by have := HDL.out; have := HPQ.out; unfold maxLen; omega) (by have := HDL.out; have := HPQ.out; omega) (by have := HBQ.out.size; simp; omega) ?_; intro v5 w5 ho5 hg5 hn5)
        have hlt0 := HOQ.out.lt
        have B5 : Below W.heap.size W w5 := (HBQ.out.alloc HBQ.out.size _).grown hg5 (by have := HBQ.out.size; simp; omega) (fun g e => (hlt0 g e).1)
        go_roundw
        case rel => exact ⟨p + 1, q, done ++ [x.p], by push_cast; rfl, rfl, by have := HPQ.out; omega, by have := HPQ.out; omega, by rw [List.append_assoc]; exact HD.out.trans (congrArg (done ++ ·) HS.out), by rw [List.length_append]; have := HDL.out; show done.length + 1 ≤ _; omega, own_text ho5, B5⟩
        case measure => have := HPQ.out; simp [intOf]; omega
    · have hpe : ((p : Int) == len1) = true := by rw [show p = len1 by omega]; simp
      have hpg : (len1 : Int) ≤ p := by omega
      by_cases hq1 : q < len2
      · have hq1' : (q : Int) < len2 := by omega
        have hqe : ((q : Int) == len2) = false := beq_eq_false_iff_ne.2 (by omega)
        obtain ⟨b2, off2, y, rfl, hy, y0, -, -⟩ := (H2.out.keep HB.out).node hq1
        have HPQ := Lib.hid (show p ≤ ns.length ∧ q < ms.length ∧ ns.length = len1 ∧ ms.length = len2 ∧ len1 ≤ 1000 ∧ len2 ≤ 1000 by have := HE1.out; have := HE2.out; have := HLL.out; omega)
        have HS := Lib.hid (merge_right (a := ns) (p := p) hy (.inl (by have := HE1.out; omega)))
        have hpd : decide (p < len1) = false := decide_eq_false hp1
        clear hp hq hp1 hq1 hy
        go_wp2_with fail
        go_quiet (fail)
        have HBn := Lib.hid (drewN_below wr nq)
        have y02 := cell_kept HBn.out y0
        have HO1 := Lib.hid (own_below1 HO.out HBn.out)
        have HB1 := Lib.hid (HB.out.trans (HBn.out.mono HB.out.size))
        generalize wr.drewN nq = w4 at HO1 HB1 y02 ⊢
        clear y0 HBn nq
        go_wp2_with fail
        go_quiet (fail)
        have HOQ := Lib.hid (own_below1 HO1.out (drewN_below w4 nq))
        have HBQ := Lib.hid (HB1.out.trans ((drewN_below w4 nq).mono HB1.out.size))
        have y03 := cell_kept (drewN_below w4 nq) y02
        generalize w4.drewN nq = w6 at HOQ HBQ y03 ⊢
        clear y02
        go_wp2_with (at_builtin; refine wpList_append_own _ rfl _ _ 45 rfl W.heap.size 9 i0 (.string ⟨#[]⟩) 1 16 Tryz.underlying45 hi hz0 hz1 hz2 rfl (by decide) _ _ _ rfl (HOQ.out.alloc _) ⟨w6.heap.size, 0, none⟩ 1 1 [.string y.p] rfl rfl (cell_str_new _ _ _) (fun x hx => by simp at hx; subst hx; rfl) (by have := HDL.out; have := HPQ.out; unfold maxLen; omega) (by have := HDL.out; have := HPQ.out; omega) (by have := HBQ.out.size; simp; omega) ?_; intro v5 w5 ho5 hg5 hn5)
        have hlt0 := HOQ.out.lt
        have B5 : Below W.heap.size W w5 := (HBQ.out.alloc HBQ.out.size _).grown hg5 (by have := HBQ.out.size; simp; omega) (fun g e => (hlt0 g e).1)
        go_roundw
        case rel => exact ⟨p, q + 1, done ++ [y.p], rfl, by push_cast; rfl, by have := HPQ.out; omega, by have := HPQ.out; omega, by rw [List.append_assoc]; exact HD.out.trans (congrArg (done ++ ·) HS.out), by rw [List.length_append]; have := HDL.out; show done.length + 1 ≤ _; omega, own_text ho5, B5⟩
        case measure => have := HPQ.out; simp [intOf]; omega
      · have hqg : (len2 : Int) ≤ q := by omega
        have HR := Lib.hid (show mergeP ns ms = done by
          have := HD.out
          rw [List.drop_eq_nil_of_le (by have := HE1.out; omega), List.drop_eq_nil_of_le (by have := HE2.out; omega), mergeP_nil] at this
          simpa using this)
        clear hp hq hp1 hq1
        go_wp2
        refine bodyPost_ret (v := u5) (by simp [results, Tryz.f50, go_sem]) rfl ?_
        rw [HR.out]
        exact ⟨⟨u5, rfl, HO.out⟩, HB.out⟩

end Go.Proofs.YtnboodcllmdjeaaGreat

/-
  WALKS: laws.sameNodes, laws.sameTexts at equal lists.
-/
namespace Go.Proofs.YtnboodcllmdjeaaGreat
open Go.RowKit
set_option linter.unusedVariables false

/-- A list of texts in memory. -/
def TextsAt (W : World) (a : Option Addr) (len : Nat) (xs : List ByteArray) : Prop :=
  xs.length = len ∧ (len = 0 ∨ ∃ b off, a = some ⟨b, off, none⟩ ∧ ∀ i x, xs[i]? = some x → W.cell? ⟨b, off + i, none⟩ = some (.string x))

theorem TextsAt.keep {W W' : World} {a : Option Addr} {len : Nat} {xs : List ByteArray} (h : TextsAt W a len xs) (hb : Below W.heap.size W W') : TextsAt W' a len xs := by
  obtain ⟨h1, h0 | ⟨b, off, ha, hc⟩⟩ := h
  · exact ⟨h1, .inl h0⟩
  · exact ⟨h1, .inr ⟨b, off, ha, fun i x hx => cell_kept hb (hc i x hx)⟩⟩

theorem texts_of_own {W : World} {base : Nat} {e : TypeId} {v : Value} {xs : List ByteArray} (h : W.ownsRow base e 1 v xs.length (xs.map Value.string)) :
    ∃ a cap, v = .slice a xs.length cap ∧ TextsAt W a xs.length xs := by
  rcases h.2 with ⟨rfl, h0⟩ | ⟨g, cap, cur, rfl, h1, h2, h3, h4, h5, h6⟩
  · exact ⟨none, 0, by rw [h0], rfl, .inl h0⟩
  · refine ⟨some ⟨g, 0, none⟩, cap, rfl, rfl, .inr ⟨g, 0, rfl, fun i x hx => ?_⟩⟩
    have hi := (List.getElem?_eq_some_iff.1 hx).1
    rw [Nat.zero_add, h.cellAt i (by omega), List.getElem?_map, hx]
    rfl

theorem below_drewN {n : Nat} {W W' : World} (h : Below n W W') (k : Nat) : Below n W (W'.drewN k) := by
  have e := (drewN_cell W' k ⟨0, 0, none⟩).2.2
  exact ⟨h.os, h.tape, h.output, by rw [e]; exact h.size, fun j hj => by rw [e]; exact h.block j hj⟩

theorem TextsAt.node {W : World} {a : Option Addr} {len : Nat} {xs : List ByteArray} (h : TextsAt W a len xs) {i : Nat} (hi : i < len) :
    ∃ b off x, a = some ⟨b, off, none⟩ ∧ xs[i]? = some x ∧ W.cell? ⟨b, off + i, none⟩ = some (.string x) := by
  obtain ⟨h1, h0 | ⟨b, off, ha, hc⟩⟩ := h
  · omega
  · obtain ⟨x, hx⟩ : ∃ x, xs[i]? = some x := ⟨_, List.getElem?_eq_getElem (by omega)⟩
    exact ⟨b, off, x, ha, hx, hc i x hx⟩

end Go.Proofs.YtnboodcllmdjeaaGreat

/-
  WALKS: spec.TreeChanged.
-/
namespace Go.Proofs.YtnboodcllmdjeaaGreat
open Go.RowKit
set_option linter.unusedVariables false

theorem conNeq (k v k' v' : Int) (w : World) : (binOp .neq 32 (.agg #[.int .i64 k, .int .i64 v]) (.agg #[.int .i64 k', .int .i64 v'])).run Tryz.prog w = .ok (.bool (!(k == k' && v == v'))) w := by
  by_cases h : k = k'
  · subst h
    by_cases h2 : v = v'
    · subst h2
      simp [binOp, go_sem, Op.equal, Op.maxDepth]
    · have : (v == v') = false := beq_eq_false_iff_ne.2 h2
      simp [binOp, go_sem, Op.equal, Op.maxDepth, h2]
  · have : (k == k') = false := beq_eq_false_iff_ne.2 h
    simp [binOp, go_sem, Op.equal, Op.maxDepth, this]

theorem diff_bool (a b : List Nd) (p : ByteArray) {k v k' v' : Int} (h1 : getT a p = (k, v)) (h2 : getT b p = (k', v')) : diffB a b p = !(k == k' && v == v') := by
  unfold diffB
  rw [h1, h2]
  by_cases h : k = k' <;> by_cases g : v = v' <;> simp [h, g]

def chgAcc (ns ms : List Nd) (i : Nat) : List ByteArray := ((mergeP ns ms).take i).filter (diffB ns ms)

theorem chgAcc_yes {ns ms : List Nd} {i : Nat} {x : ByteArray} (hx : (mergeP ns ms)[i]? = some x) (h : diffB ns ms x = true) : chgAcc ns ms (i + 1) = chgAcc ns ms i ++ [x] := by
  unfold chgAcc
  rw [List.take_add_one, hx]
  simp [List.filter_append, h]
theorem chgAcc_no {ns ms : List Nd} {i : Nat} {x : ByteArray} (hx : (mergeP ns ms)[i]? = some x) (h : diffB ns ms x = false) : chgAcc ns ms (i + 1) = chgAcc ns ms i := by
  unfold chgAcc
  rw [List.take_add_one, hx]
  simp [List.filter_append, h]
theorem chgAcc_len (ns ms : List Nd) (i : Nat) : (chgAcc ns ms i).length ≤ i := by
  unfold chgAcc
  exact Nat.le_trans (List.length_filter_le _ _) (by rw [List.length_take]; omega)

def ChgRel (ns ms : List Nd) (W W2 : World) (s4 : Value) (ml : Nat) (o i : Value) (wr : World) : Prop :=
  ∃ n : Nat, i = .int .i64 n ∧ n ≤ ml ∧ Hid (wr.ownsRow W.heap.size 9 1 o (chgAcc ns ms n).length ((chgAcc ns ms n).map Value.string)) ∧ Hid (wr.ownsRow W2.heap.size 9 1 s4 ml ((mergeP ns ms).map Value.string)) ∧
    Hid (∀ k, o.ownBlock = some k → s4.ownBlock ≠ some k) ∧ Hid (Below W.heap.size W wr)

theorem texts_own {W : World} {base len c : Nat} {e : TypeId} {a : Option Addr} {zs : List ByteArray} (hz : zs.length = len) (h : W.ownsRow base e 1 (.slice a len c) len (zs.map Value.string)) : TextsAt W a len zs := by
  subst hz
  obtain ⟨a', c', he, hi⟩ := texts_of_own h
  cases he
  exact hi

set_option maxHeartbeats 4000000 in
set_option maxRecDepth 100000 in
theorem specTreeChanged_c (a1 : Option Addr) (len1 cap1 : Nat) (ns : List Nd) (a2 : Option Addr) (len2 cap2 : Nat) (ms : List Nd) (hl1 : len1 ≤ 2097152) (hl2 : len2 ≤ 2097152) (hs1 : Short 2097152 ns) (hs2 : Short 2097152 ms) (W : World) (h1 : NodesAt W a1 len1 ns) (h2 : NodesAt W a2 len2 ms) :
    Calls Tryz.prog 24 #[.slice a1 len1 cap1, .slice a2 len2 cap2] W (TextsPost (chgL ns ms) W) := by
  obtain ⟨i0, hi, hz0, hz1, hz2⟩ := info_parts infoStr
  obtain ⟨v1, hv1⟩ : ∃ v, validT ns = v := ⟨_, rfl⟩
  obtain ⟨v2, hv2⟩ : ∃ v, validT ms = v := ⟨_, rfl⟩
  have HV1 := Lib.hid (fun W' (hb : Below W.heap.size W W') => show Calls Tryz.prog 23 #[.slice a1 len1 cap1] W' (BoolPost v1 W') by rw [← hv1]; exact specTreeValid_c a1 len1 cap1 ns hl1 hs1 W' (h1.keep hb))
  have HV2 := Lib.hid (fun W' (hb : Below W.heap.size W W') => show Calls Tryz.prog 23 #[.slice a2 len2 cap2] W' (BoolPost v2 W') by rw [← hv2]; exact specTreeValid_c a2 len2 cap2 ms hl2 hs2 W' (h2.keep hb))
  have H1 := Lib.hid h1
  have H2 := Lib.hid h2
  have HL := Lib.hid (And.intro hl1 hl2)
  have HW1 := Lib.hid hv1
  have HW2 := Lib.hid hv2
  clear h1 h2 hs1 hs2 hl1 hl2 hv1 hv2
  go_enter Tryz.func24, Tryz.ntmps24
  have HO1 := Lib.hid (World.ownsRow_lit (e := 9) (size := 1) W #[] 0 (Nat.le_refl _) (by simp [maxLen]) rfl)
  go_wp2_with fail
  refine (HV1.out _ (below_box _ _)).mono ?_
  rintro e W1 ⟨rfl, hb1⟩
  have HO2 := Lib.hid (own_below1 HO1.out hb1)
  have HB1 := Lib.hid (below_next (below_box _ _) hb1)
  clear hb1
  cases v1 with
  | false =>
    have HR := Lib.hid (show chgL ns ms = [] by unfold chgL; rw [HW1.out]; rfl)
    go_wp2
    refine bodyPost_ret (v := .slice (some ⟨W.heap.size, 0, none⟩) 0 0) (by simp [results, Tryz.f24, go_sem]) rfl ?_
    rw [HR.out]
    exact ⟨⟨_, rfl, HO2.out⟩, HB1.out⟩
  | true =>
    go_wp2_with fail
    refine (HV2.out _ HB1.out).mono ?_
    rintro e W2 ⟨rfl, hb2⟩
    have HO3 := Lib.hid (own_below1 HO2.out hb2)
    have HB2 := Lib.hid (below_next HB1.out hb2)
    clear hb2
    cases v2 with
    | false =>
      have HR := Lib.hid (show chgL ns ms = [] by unfold chgL; rw [HW1.out, HW2.out]; rfl)
      go_wp2
      refine bodyPost_ret (v := .slice (some ⟨W.heap.size, 0, none⟩) 0 0) (by simp [results, Tryz.f24, go_sem]) rfl ?_
      rw [HR.out]
      exact ⟨⟨_, rfl, HO3.out⟩, HB2.out⟩
    | true =>
      have hln1 : len1 ≤ 10 := by have := ((validT_iff ns).1 HW1.out).2.2; have := H1.out.1; omega
      have hln2 : len2 ≤ 10 := by have := ((validT_iff ms).1 HW2.out).2.2; have := H2.out.1; omega
      have HP := Lib.hid (l5Paths_c a1 len1 cap1 ns a2 len2 cap2 ms (by omega) (by omega) W2 (H1.out.keep HB2.out) (H2.out.keep HB2.out))
      have HGA := Lib.hid (fun x W' (hb : Below W.heap.size W W') => l3Get_c a1 len1 cap1 ns x HL.out.1 W' (H1.out.keep hb))
      have HGB0 := Lib.hid (fun x W' (hb : Below W.heap.size W W') => l3Get_c a2 len2 cap2 ms x HL.out.2 W' (H2.out.keep hb))
      have HML := Lib.hid (show (mergeP ns ms).length ≤ 20 by have := mergeP_len _ ns ms (Nat.le_refl _); have := H1.out.1; have := H2.out.1; omega)
      clear hln1 hln2
      go_wp2_with fail
      refine HP.out.mono ?_
      rintro e W4 ⟨⟨s4, rfl, ho4⟩, hb4⟩
      obtain ⟨a4, c4, rfl, -⟩ := texts_of_own ho4
      have HDJ := Lib.hid (show ∀ k, (Value.slice (some ⟨W.heap.size, 0, none⟩) 0 0).ownBlock = some k → (Value.slice a4 (mergeP ns ms).length c4).ownBlock ≠ some k from fun k e1 e2 => by
        have h5 := (ho4.lt k e2).1
        simp [Value.ownBlock] at e1
        have := HO3.out.lt W.heap.size rfl
        omega)
      have HT4 := Lib.hid ho4
      have HO4 := Lib.hid (own_below1 HO3.out hb4)
      have HB4 := Lib.hid (below_next HB2.out hb4)
      obtain ⟨ml, hml⟩ : ∃ ml, (mergeP ns ms).length = ml := ⟨_, rfl⟩
      rw [hml] at HML HT4 HDJ ⊢
      have HME := Lib.hid hml
      have hml20 : (ml : Int) ≤ 20 := by have := HML.out; omega
      clear ho4 hb4 hml
      go_wp2_with fail
      go_loopw [5, 7] (fun o i wr => ChgRel ns ms W W2 (.slice a4 ml c4) ml o i wr) (fun _ i _ => ml - (intOf i).toNat)
      case atStart => exact ⟨0, rfl, by omega, by show World.ownsRow _ _ _ _ _ _ _; simpa [chgAcc] using HO4.out, HT4.out, HDJ.out, HB4.out⟩
      case round =>
        obtain ⟨i, rfl, hi2, HO, HT, HDO, HB⟩ := hrel
        by_cases hlt : i < ml
        · have hlt' : (i : Int) < ml := by omega
          have hil : (i : Int) ≤ 20 := by omega
          have HLT := Lib.hid hlt
          obtain ⟨b, off, x, he, hx, x0⟩ := (texts_own HME.out HT.out).node hlt
          subst he
          have HX := Lib.hid hx
          have HS0 := Lib.hid (show wr.drew.cell? ⟨b, off + i, none⟩ = some (.string x) from x0)
          obtain ⟨k1, v1, hg1⟩ : ∃ k v, getT ns x = (k, v) := ⟨_, _, rfl⟩
          obtain ⟨k2, v2, hg2⟩ : ∃ k v, getT ms x = (k, v) := ⟨_, _, rfl⟩
          have HBW := Lib.hid HB.out
          have HG1 := Lib.hid (show Calls Tryz.prog 25 #[.slice a1 len1 cap1, .string x] wr.drew (ConRet k1 v1 wr.drew) by have := HGA.out x wr.drew HBW.out.drew; rwa [hg1] at this)
          have HGB := Lib.hid (fun x' W' (hb : Below W.heap.size W W') => show x' = x → Calls Tryz.prog 25 #[.slice a2 len2 cap2, .string x'] W' (ConRet k2 v2 W') from fun e => by
            subst e; have := HGB0.out x' W' hb; rwa [hg2] at this)
          obtain ⟨dd, hdd⟩ : ∃ dd, diffB ns ms x = dd := ⟨_, rfl⟩
          have HDF := Lib.hid (show (!(k1 == k2 && v1 == v2)) = dd by rw [← hdd]; exact (diff_bool ns ms x hg1 hg2).symm)
          have HDD := Lib.hid hdd
          clear hlt hi2 hx hg1 hg2 hdd
          go_upto_region 8 with (fail)
          refine wp_region_held_drew (S := (fun w' => w'.cell? ⟨b, off + i, none⟩ = some (.string x))) (by kernel_rfl) HS0.out (fun hH => ?_)
          refine wpAnyH_take (i := 0) (oi := _) (v := ?_) rfl (by kernel_rfl) (by kernel_rfl) (by kernel_rfl) (fun _ _ _ h => h) (Or.inl ⟨by rfl, ?_⟩) (by assumption) ?_
          rotate_left
          · (intro w hSw; (try dsimp only at hSw); go_simp; try with_reducible rfl)
          try simp only [Act.put, List.getElem_toArray, List.getElem_cons_zero, List.setIfInBounds_toArray, List.set_cons_zero, List.set_cons_succ]
          refine wpAnyH_take (i := 1) (oi := _) (v := ?_) rfl (by kernel_rfl) (by kernel_rfl) (by kernel_rfl) (fun _ _ _ h => h) (Or.inl ⟨by rfl, ?_⟩) (by assumption) ?_
          rotate_left
          · (intro w hSw; (try dsimp only at hSw); go_simp; try with_reducible rfl)
          try simp only [Act.put, List.getElem_toArray, List.getElem_cons_zero, List.getElem_cons_succ, List.setIfInBounds_toArray, List.set_cons_zero, List.set_cons_succ]
          refine wpAnyH_take (i := 2) (oi := _) (v := ?_) rfl (by kernel_rfl) (by kernel_rfl) (by kernel_rfl) (fun _ _ _ h => h) (Or.inl ⟨by rfl, ?_⟩) (by assumption) ?_
          rotate_left
          · (intro w hSw; (try dsimp only at hSw); go_simp; try with_reducible rfl)
          try simp only [Act.put, List.getElem_toArray, List.getElem_cons_zero, List.getElem_cons_succ, List.setIfInBounds_toArray, List.set_cons_zero, List.set_cons_succ]
          refine wpAnyH_take (i := 3) (oi := _) (v := ?_) rfl (by kernel_rfl) (by kernel_rfl) (by kernel_rfl) (fun _ _ _ h => h) (Or.inl ⟨by rfl, ?_⟩) (by assumption) ?_
          rotate_left
          · (intro w hSw; (try dsimp only at hSw); go_simp; try with_reducible rfl)
          try simp only [Act.put, List.getElem_toArray, List.getElem_cons_zero, List.getElem_cons_succ, List.setIfInBounds_toArray, List.set_cons_zero, List.set_cons_succ]
          refine wpAnyH_take (i := 4) (oi := _) (v := ?_) rfl (by kernel_rfl) (by kernel_rfl) (by kernel_rfl) (fun _ _ _ h => h) (Or.inl ⟨by rfl, ?_⟩) (by assumption) ?_
          rotate_left
          · (intro w hSw; (try dsimp only at hSw); go_simp; try with_reducible rfl)
          try simp only [Act.put, List.getElem_toArray, List.getElem_cons_zero, List.getElem_cons_succ, List.setIfInBounds_toArray, List.set_cons_zero, List.set_cons_succ]
          refine wpAnyH_take (i := 6) (oi := _) (v := ?_) rfl (by kernel_rfl) (by kernel_rfl) (by kernel_rfl) (fun _ _ _ h => h) (Or.inl ⟨by rfl, ?_⟩) (by assumption) ?_
          rotate_left
          · (intro w hSw; (try dsimp only at hSw); go_simp; try with_reducible rfl)
          try simp only [Act.put, List.getElem_toArray, List.getElem_cons_zero, List.getElem_cons_succ, List.setIfInBounds_toArray, List.set_cons_zero, List.set_cons_succ]
          refine wpAnyH_take (i := 7) (oi := _) (v := ?_) rfl (by kernel_rfl) (by kernel_rfl) (by kernel_rfl) (fun _ _ _ h => h) (Or.inl ⟨by rfl, ?_⟩) (by assumption) ?_
          rotate_left
          · (intro w hSw; (try dsimp only at hSw); go_simp; try with_reducible rfl)
          try simp only [Act.put, List.getElem_toArray, List.getElem_cons_zero, List.getElem_cons_succ, List.setIfInBounds_toArray, List.set_cons_zero, List.set_cons_succ]
          refine wpAnyH_take (i := 8) (oi := _) (v := ?_) rfl (by kernel_rfl) (by kernel_rfl) (by kernel_rfl) (fun _ _ _ h => h) (Or.inl ⟨by rfl, ?_⟩) (by assumption) ?_
          rotate_left
          · (intro w hSw; (try dsimp only at hSw); go_simp; try with_reducible rfl)
          try simp only [Act.put, List.getElem_toArray, List.getElem_cons_zero, List.getElem_cons_succ, List.setIfInBounds_toArray, List.set_cons_zero, List.set_cons_succ]
          refine wpAnyH_take (i := 9) (oi := _) (v := ?_) rfl (by kernel_rfl) (by kernel_rfl) (by kernel_rfl) (fun _ _ _ h => h) (Or.inl ⟨by rfl, ?_⟩) (by assumption) ?_
          rotate_left
          · (intro w hSw; (try dsimp only at hSw); go_simp; try with_reducible rfl)
          try simp only [Act.put, List.getElem_toArray, List.getElem_cons_zero, List.getElem_cons_succ, List.setIfInBounds_toArray, List.set_cons_zero, List.set_cons_succ]
          refine wpAnyH_take (i := 10) (oi := _) (v := ?_) rfl (by kernel_rfl) (by kernel_rfl) (by kernel_rfl) (fun _ _ _ h => h) (Or.inl ⟨by rfl, ?_⟩) (by assumption) ?_
          rotate_left
          · (intro w hSw; (try dsimp only at hSw); go_simp; try with_reducible rfl)
          try simp only [Act.put, List.getElem_toArray, List.getElem_cons_zero, List.getElem_cons_succ, List.setIfInBounds_toArray, List.set_cons_zero, List.set_cons_succ]
          refine wpAnyH_ready (rs := [5]) (by kernel_rfl) (by simp) ?_
          refine AllReadyH.cons rfl (fun K hK => ?_) (AllReadyH.nil)
          go_simp
          go_at_call 25; (with_reducible refine (HG1.out).mono ?_); rintro e W5 ⟨rfl, hb5⟩
          refine hK.out _ _ (cell_kept hb5 HS0.out) (fun hHeld => ?_)
          try simp only [Act.put, List.getElem_toArray, List.getElem_cons_zero, List.getElem_cons_succ, List.setIfInBounds_toArray, List.set_cons_zero, List.set_cons_succ]
          have HC5 := Lib.hid (cell_kept hb5 HS0.out)
          have HB5 := Lib.hid (below_next (show Below W.heap.size W wr.drew from HB.out.drew) hb5)
          have HG2 := Lib.hid (HGB.out x W5 HB5.out rfl)
          unfold con
          refine wpAnyH_ready (rs := [11]) (by kernel_rfl) (by simp) ?_
          refine AllReadyH.cons rfl (fun K hK => ?_) (AllReadyH.nil)
          go_simp
          go_at_call 25; (with_reducible refine (HG2.out).mono ?_); rintro e W6 ⟨rfl, hb6⟩
          refine hK.out _ _ (cell_kept hb6 HC5.out) (fun hHeld => ?_)
          try simp only [Act.put, List.getElem_toArray, List.getElem_cons_zero, List.getElem_cons_succ, List.setIfInBounds_toArray, List.set_cons_zero, List.set_cons_succ]
          have HB6 := Lib.hid (below_next HB5.out hb6)
          have HC6 := Lib.hid (cell_kept hb6 HC5.out)
          unfold con
          have hne := fun w => (conNeq k1 v1 k2 v2 w).trans (show _ = Result.ok (Value.bool dd) w by rw [HDF.out])
          refine wpAnyH_take (i := 12) (oi := _) (v := ?_) rfl (by kernel_rfl) (by kernel_rfl) (by kernel_rfl) (fun _ _ _ h => h) (Or.inl ⟨by rfl, ?_⟩) (by assumption) ?_
          rotate_left
          · (intro w hSw; (try dsimp only at hSw); go_simp; try with_reducible rfl)
          try simp only [Act.put, List.getElem_toArray, List.getElem_cons_zero, List.getElem_cons_succ, List.setIfInBounds_toArray, List.set_cons_zero, List.set_cons_succ]
          refine wpAnyH_done (by kernel_rfl) ?_ _
          have HOW := Lib.hid (show wr.drew.ownsRow W.heap.size 9 1 u5 (chgAcc ns ms i).length ((chgAcc ns ms i).map Value.string) from HO.out)
          have HO6 := Lib.hid (own_below1 (own_below1 HOW.out hb5) hb6)
          have HTW := Lib.hid (show wr.drew.ownsRow W2.heap.size 9 1 (.slice (some ⟨b, off, none⟩) ml c4) ml ((mergeP ns ms).map Value.string) from HT.out)
          have HT6 := Lib.hid (own_below1 (own_below1 HTW.out hb5) hb6)
          have HTL := Lib.hid (fun k e => (HT6.out.lt k e).2)
          have hc6 := HC6.out
          clear hb5 hb6
          cases dd with
          | false =>
            have HN := Lib.hid (chgAcc_no HX.out HDD.out)
            go_wp2_with fail
            go_roundw
            case rel => exact ⟨i + 1, by push_cast; rfl, by have := HME.out; have := HLT.out; omega, by rw [HN.out]; exact HO6.out, HT6.out, HDO.out, HB6.out⟩
            case measure => have := HLT.out; simp [intOf]; omega
          | true =>
            have HY := Lib.hid (chgAcc_yes HX.out HDD.out)
            have HCL := Lib.hid (show (chgAcc ns ms i).length ≤ 20 by have := chgAcc_len ns ms i; have := HML.out; have := HLT.out; omega)
            have hlt0 := HO6.out.lt
            go_wp2_with (at_builtin; refine wpList_append_where rfl _ _ 45 rfl W.heap.size 9 i0 (.string ⟨#[]⟩) 16 Tryz.underlying45 hi hz0 hz1 hz2 rfl _ _ _ rfl (HO6.out.alloc _) ⟨W6.heap.size, 0, none⟩ 1 1 [.string x] rfl rfl (cell_str_new _ _ _) (fun x hx => by simp at hx; subst hx; rfl) (by have := HCL.out; unfold maxLen; omega) (by have := HCL.out; omega) (by have := HB6.out.size; simp; omega) ?_; intro v5 w5 ho5 hg5 hn5)
            have B5 : Below W.heap.size W w5 := (HB6.out.alloc HB6.out.size _).grown hg5 (by have := HB6.out.size; simp; omega) (fun g e => (hlt0 g e).1)
            have hT5 := own_farT (HT6.out.alloc (.cells #[.string x] 9)) hg5 (fun k e1 e2 => HDO.out k e2 e1)
            have hD5 : ∀ k, v5.ownBlock = some k → (Value.slice (some ⟨b, off, none⟩) ml c4).ownBlock ≠ some k := fun k e1 e2 => by
              rcases hn5 k e1 with e | e
              · exact HDO.out k e e2
              · have := HTL.out k e2
                simp at e
                omega
            go_roundw
            case rel => exact ⟨i + 1, by push_cast; rfl, by have := HME.out; have := HLT.out; omega, by rw [HY.out]; exact own_text ho5, hT5, hD5, B5⟩
            case measure => have := HLT.out; simp [intOf]; omega
        · have hge : (ml : Int) ≤ i := by omega
          have HR := Lib.hid (show chgAcc ns ms i = chgL ns ms by
            unfold chgAcc chgL
            rw [HW1.out, HW2.out, List.take_of_length_le (by have := HME.out; omega)]; rfl)
          clear hlt hi2
          go_wp2
          refine bodyPost_ret (v := u5) (by simp [results, Tryz.f24, go_sem]) rfl ?_
          rw [← HR.out]
          exact ⟨⟨u5, rfl, HO.out⟩, HB.out⟩

end Go.Proofs.YtnboodcllmdjeaaGreat

/-
  WALKS: impl.TreeChanged.
-/
namespace Go.Proofs.YtnboodcllmdjeaaGreat
open Go.RowKit
set_option linter.unusedVariables false

/-- Two trees in memory that share no place. -/
structure TwoT (base : Nat) (ns ms : List Nd) (r1 r2 : Nat) (W : World) (A1 A2 : List UInt8 → Option Nat) : Prop where
  t1 : Trie W A1 (Fof ns)
  t2 : Trie W A2 (Fof ms)
  a1 : A1 [] = some r1
  a2 : A2 [] = some r2
  far : ∀ u w b, A1 u = some b → A2 w ≠ some b
  lo1 : ∀ u b, A1 u = some b → base ≤ b
  lo2 : ∀ u b, A2 u = some b → base ≤ b

/-- What a step keeps: all below a base, and all cells that are no places. -/
structure KeptP (base : Nat) (W W' : World) : Prop where
  low : Below base W W'
  typ : ∀ (k : Nat) (cs : Array Value) (t : TypeId) (fr : Nat × Nat), W.heap[k]? = some (.cells cs t fr) → t ≠ 72 → W'.heap[k]? = W.heap[k]?

theorem KeptP.trans {base : Nat} {W W1 W2 : World} (h : KeptP base W W1) (k : KeptP base W1 W2) : KeptP base W W2 :=
  ⟨h.low.trans k.low, fun j cs t fr hj ht => (k.typ j cs t fr ((h.typ j cs t fr hj ht).trans hj) ht).trans (h.typ j cs t fr hj ht)⟩

theorem KeptP.row {base b0 : Nat} {W W' : World} (h : KeptP base W W') {e : TypeId} {size n : Nat} {v : Value} {xs : List Value} (ho : W.ownsRow b0 e size v n xs) (he : e ≠ 72) : W'.ownsRow b0 e size v n xs := by
  refine ⟨ho.1, ?_⟩
  rcases ho.2 with h0 | ⟨g, cap, cur, hv, h1, h2, h3⟩
  · exact .inl h0
  · exact .inr ⟨g, cap, cur, hv, h1, (h.typ g cur e (0, 0) h2 he).trans h2, h3⟩

theorem KeptP.cell {base : Nat} {W W' : World} (h : KeptP base W W') {k : Nat} {cs : Array Value} {t : TypeId} (hk : W.heap[k]? = some (.cells cs t (0, 0))) (ht : t ≠ 72) (i : Nat) : W'.cell? ⟨k, i, none⟩ = W.cell? ⟨k, i, none⟩ :=
  World.cell?_of_block (h.typ k cs t (0, 0) hk ht)

theorem KeptP.of_below {base : Nat} {W W' : World} (hb : base ≤ W.heap.size) (h : Below W.heap.size W W') : KeptP base W W' :=
  ⟨h.mono hb, fun k cs t fr hk _ => h.block k (Array.getElem?_eq_some_iff.1 hk).1⟩

theorem KeptP.of_off {base : Nat} {A : List UInt8 → Option Nat} {F : List UInt8 → Int × Int} {W W' : World} (hT : Trie W A F) (hb : base ≤ W.heap.size) (hA : ∀ u c, A u = some c → base ≤ c) (h : Off A W.heap.size W W') : KeptP base W W' :=
  ⟨h.below hb hA, fun k cs t fr hk ht => h.block k (Array.getElem?_eq_some_iff.1 hk).1 fun u e => by
    have := hT.cells u k e
    rw [hk] at this
    cases this
    exact ht rfl⟩

theorem TwoT.below {base : Nat} {ns ms : List Nd} {r1 r2 : Nat} {W W' : World} {A1 A2 : List UInt8 → Option Nat} (h : TwoT base ns ms r1 r2 W A1 A2) (hb : Below W.heap.size W W') : TwoT base ns ms r1 r2 W' A1 A2 :=
  ⟨h.t1.below hb, h.t2.below hb, h.a1, h.a2, h.far, h.lo1, h.lo2⟩

/-- An append to a row of another type. -/
theorem TwoT.grown {base b0 : Nat} {ns ms : List Nd} {r1 r2 : Nat} {W W' : World} {A1 A2 : List UInt8 → Option Nat} (h : TwoT base ns ms r1 r2 W A1 A2) {e : TypeId} {size n : Nat} {v : Value} {xs : List Value} (ho : W.ownsRow b0 e size v n xs) (he : e ≠ 72)
    (hg : W.grownBy W' v.ownBlock) : TwoT base ns ms r1 r2 W' A1 A2 := by
  have hne : ∀ (A : List UInt8 → Option Nat) (F : List UInt8 → Int × Int), Trie W A F → ∀ u b, A u = some b → some b ≠ v.ownBlock := by
    intro A F hT u b hb e1
    rcases ho.2 with ⟨rfl, _⟩ | ⟨g, cap, cur, rfl, _, h2, _⟩
    · cases e1
    · simp [Value.ownBlock] at e1
      subst e1
      have := hT.cells u b hb
      rw [h2] at this
      cases this
      exact he rfl
  exact ⟨h.t1.kept fun u b hb => hg.block b (h.t1.lt hb) (hne _ _ h.t1 u b hb), h.t2.kept fun u b hb => hg.block b (h.t2.lt hb) (hne _ _ h.t2 u b hb), h.a1, h.a2, h.far, h.lo1, h.lo2⟩

/-- A row is kept while another one of another type grows. -/
theorem row_apart {W W' : World} {b1 b2 : Nat} {e1 e2 : TypeId} {s1 s2 n1 n2 : Nat} {v1 v2 : Value} {x1 x2 : List Value} (h1 : W.ownsRow b1 e1 s1 v1 n1 x1) (h2 : W.ownsRow b2 e2 s2 v2 n2 x2) (he : e1 ≠ e2) (hg : W.grownBy W' v2.ownBlock) : W'.ownsRow b1 e1 s1 v1 n1 x1 := by
  refine h1.kept hg ?_
  rcases h1.2 with ⟨rfl, _⟩ | ⟨g, cap, cur, rfl, _, q1, _⟩
  · exact .inl rfl
  · right
    intro e
    rcases h2.2 with ⟨rfl, _⟩ | ⟨g', cap', cur', rfl, _, q2, _⟩
    · cases e
    · simp [Value.ownBlock] at e
      subst e
      rw [q1] at q2
      cases q2
      exact he rfl

/-- The place of a path in the one tree or in the other one. -/
def FoundP (base : Nat) (ns ms : List Nd) (r1 r2 : Nat) (fst : Bool) (w : List UInt8) (c : Int × Int) (A1 A2 : List UInt8 → Option Nat) (W : World) (e : Ending) (W' : World) : Prop :=
  ∃ A1' A2' b, e = .returned (.pointer (some ⟨b, 0, none⟩)) ∧ TwoT base ns ms r1 r2 W' A1' A2' ∧ KeptP base W W' ∧ W'.cell? ⟨b, 0, none⟩ = some (.int .i64 c.1) ∧ W'.cell? ⟨b, 1, none⟩ = some (.int .i64 c.2) ∧
    (fst = true → A1' w = some b) ∧ (fst = false → A1' = A1)

theorem trie_two {W : World} {A : List UInt8 → Option Nat} {F : List UInt8 → Int × Int} (h : Trie W A F) {w : List UInt8} {b : Nat} (hb : A w = some b) {c : Int × Int} (hc : F w = c) : W.cell? ⟨b, 0, none⟩ = some (.int .i64 c.1) ∧ W.cell? ⟨b, 1, none⟩ = some (.int .i64 c.2) := by
  subst hc
  exact ⟨h.cell hb 0, h.cell hb 1⟩

theorem at_first {base : Nat} {ns ms : List Nd} {r1 r2 : Nat} {w : List UInt8} (hw : Wrd w) {c : Int × Int} (hc : Fof ns w = c) {A1 A2 : List UInt8 → Option Nat} {W : World} (h : TwoT base ns ms r1 r2 W A1 A2) (hb : base ≤ W.heap.size) :
    Calls Tryz.prog 39 #[.pointer (some ⟨r1, 0, none⟩), .string (pB w)] W (FoundP base ns ms r1 r2 true w c A1 A2 W) := by
  refine (at_c A1 (Fof ns) w hw W h.t1 r1 h.a1).mono ?_
  rintro e W' ⟨A', b, rfl, hb', hT', hX, hO⟩
  obtain ⟨c0, c1⟩ := trie_two hT' hb' hc
  refine ⟨A', A2, b, rfl, ⟨hT', h.t2.kept fun u x hx => hO.block x (h.t2.lt hx) fun u' e' => h.far u' u x e' hx, (hX [] r1).1 h.a1, h.a2, fun u v x hx hv => ?_, ext_from hX hb h.lo1, h.lo2⟩, .of_off h.t1 hb h.lo1 hO, c0, c1, fun _ => hb', fun e => (by cases e)⟩
  rcases (hX u x).2 hx with q | q
  · exact h.far u v x q hv
  · have := h.t2.lt hv; omega

theorem at_second {base : Nat} {ns ms : List Nd} {r1 r2 : Nat} {w : List UInt8} (hw : Wrd w) {c : Int × Int} (hc : Fof ms w = c) {A1 A2 : List UInt8 → Option Nat} {W : World} (h : TwoT base ns ms r1 r2 W A1 A2) (hb : base ≤ W.heap.size) :
    Calls Tryz.prog 39 #[.pointer (some ⟨r2, 0, none⟩), .string (pB w)] W (FoundP base ns ms r1 r2 false w c A1 A2 W) := by
  refine (at_c A2 (Fof ms) w hw W h.t2 r2 h.a2).mono ?_
  rintro e W' ⟨A', b, rfl, hb', hT', hX, hO⟩
  obtain ⟨c0, c1⟩ := trie_two hT' hb' hc
  refine ⟨A1, A', b, rfl, ⟨h.t1.kept fun u x hx => hO.block x (h.t1.lt hx) fun u' e' => h.far u u' x hx e', hT', h.a1, (hX [] r2).1 h.a2, fun u v x hx hv => ?_, h.lo1, ext_from hX hb h.lo2⟩, .of_off h.t2 hb h.lo2 hO, c0, c1, fun e => (by cases e), fun _ => rfl⟩
  rcases (hX v x).2 hv with q | q
  · exact h.far u v x hx q
  · have := h.t1.lt hx; omega

/-! ## The paths that differ -/

def difL (ns ms L : List Nd) : List ByteArray := (L.filter (fun m => diffB ns ms m.p)).map Nd.p

theorem difL_yes {ns ms L : List Nd} {i : Nat} {m : Nd} (hm : L[i]? = some m) (h : diffB ns ms m.p = true) : difL ns ms (L.take (i + 1)) = difL ns ms (L.take i) ++ [m.p] := by
  unfold difL
  rw [List.take_add_one, hm, List.filter_append, List.map_append]
  simp [h]

theorem difL_no {ns ms L : List Nd} {i : Nat} {m : Nd} (hm : L[i]? = some m) (h : diffB ns ms m.p = false) : difL ns ms (L.take (i + 1)) = difL ns ms (L.take i) := by
  unfold difL
  rw [List.take_add_one, hm, List.filter_append, List.map_append]
  simp [h]

theorem difL_len (ns ms L : List Nd) (i : Nat) : (difL ns ms (L.take i)).length ≤ i := by
  unfold difL
  rw [List.length_map]
  exact Nat.le_trans (List.length_filter_le _ _) (by rw [List.length_take]; omega)

theorem chg_eq {ns ms : List Nd} (h1 : validT ns = true) (h2 : validT ms = true) {zs : List ByteArray} (ha : AscP zs) (hm : ∀ p, p ∈ zs ↔ p ∈ difL ns ms (ns ++ ms)) : zs = chgL ns ms := by
  refine ascP_ext ha chg_asc fun p => ?_
  rw [hm]
  unfold chgL difL
  rw [h1, h2]
  simp only [Bool.and_self, if_true, List.mem_map, List.mem_filter, List.mem_append]
  rw [mergeP_mem _ ns ms (Nat.le_refl _)]
  constructor
  · rintro ⟨m, ⟨hm | hm, hd⟩, rfl⟩
    · exact ⟨.inl ⟨m, hm, rfl⟩, hd⟩
    · exact ⟨.inr ⟨m, hm, rfl⟩, hd⟩
  · rintro ⟨⟨m, hm, rfl⟩ | ⟨m, hm, rfl⟩, hd⟩
    · exact ⟨m, ⟨.inl hm, hd⟩, rfl⟩
    · exact ⟨m, ⟨.inr hm, hd⟩, rfl⟩

theorem chg_bad {ns ms : List Nd} (h : validT ns = false ∨ validT ms = false) : chgL ns ms = [] := by
  unfold chgL
  rcases h with h | h <;> simp [h]

def DifRel (ns ms L : List Nd) (r1 r2 : Nat) (sL : Value) (W : World) (o i : Value) (wr : World) : Prop :=
  ∃ (n : Nat) (A1 A2 : List UInt8 → Option Nat), i = .int .i64 n ∧ n ≤ L.length ∧ Hid (wr.ownsRow W.heap.size 9 1 o (difL ns ms (L.take n)).length ((difL ns ms (L.take n)).map Value.string)) ∧
    Hid (TwoT W.heap.size ns ms r1 r2 wr A1 A2) ∧ Hid (wr.ownsRow W.heap.size 56 3 sL L.length (flatN L)) ∧ Hid (Below W.heap.size W wr)

set_option maxHeartbeats 2000000 in
set_option maxRecDepth 100000 in
theorem implTreeChanged_c (a1 : Option Addr) (len1 cap1 : Nat) (ns : List Nd) (a2 : Option Addr) (len2 cap2 : Nat) (ms : List Nd) (hl1 : len1 ≤ 2097152) (hl2 : len2 ≤ 2097152) (hs1 : Short 2097152 ns) (hs2 : Short 2097152 ms) (W : World) (h1 : NodesAt W a1 len1 ns) (h2 : NodesAt W a2 len2 ms) :
    Calls Tryz.prog 20 #[.slice a1 len1 cap1, .slice a2 len2 cap2] W (TextsPost (chgL ns ms) W) := by
  obtain ⟨i0, hi, hz0, hz1, hz2⟩ := info_parts infoStr
  have HT1 := Lib.hid (treeOf_c a1 len1 cap1 ns hl1 hs1 W h1)
  have HT2 := Lib.hid (fun W' (hb : Below W.heap.size W W') => treeOf_c a2 len2 cap2 ms hl2 hs2 W' (h2.keep hb))
  have H1 := Lib.hid h1
  have H2 := Lib.hid h2
  clear h1 h2 hs1 hs2
  go_enter Tryz.func20, Tryz.ntmps20
  go_wp2_with fail
  refine HT1.out.mono ?_
  rintro e W1 ⟨hB1, h1⟩
  have HB1 := Lib.hid hB1
  have HT2' := Lib.hid (HT2.out W1 hB1)
  rcases h1 with ⟨hv1, rfl⟩ | ⟨hv1, A1, b1, rfl, hA10, hT1, hA1⟩
  · have HG := Lib.hid (chg_bad (ms := ms) (.inl hv1))
    clear hv1 hB1
    go_wp2_with fail
    refine HT2'.out.mono ?_
    rintro e W2 ⟨hB2, h2⟩
    have HB2 := Lib.hid (below_next HB1.out hB2)
    clear hB2
    rcases h2 with ⟨hv2, rfl⟩ | ⟨hv2, A2, b2, rfl, hA20, hT2, hA2⟩
    · clear hv2
      go_wp2
      refine bodyPost_ret (v := .slice none 0 0) (by simp [results, Tryz.f20, go_sem]) rfl (texts_nil HG.out HB2.out)
    · clear hv2 hA20 hT2 hA2
      go_wp2
      refine bodyPost_ret (v := .slice none 0 0) (by simp [results, Tryz.f20, go_sem]) rfl (texts_nil HG.out HB2.out)
  · have HV1 := Lib.hid hv1
    have HX1 := Lib.hid (And.intro hA10 (And.intro hT1 hA1))
    clear hv1 hA10 hT1 hA1 hB1
    go_wp2_with fail
    refine HT2'.out.mono ?_
    rintro e W2 ⟨hB2, h2⟩
    have HB2 := Lib.hid (below_next HB1.out hB2)
    have HB2' := Lib.hid hB2
    clear hB2
    rcases h2 with ⟨hv2, rfl⟩ | ⟨hv2, A2, b2, rfl, hA20, hT2, hA2⟩
    · have HG := Lib.hid (chg_bad (ns := ns) (.inr hv2))
      clear hv2
      go_wp2
      refine bodyPost_ret (v := .slice none 0 0) (by simp [results, Tryz.f20, go_sem]) rfl (texts_nil HG.out HB2.out)
    · have HV2 := Lib.hid hv2
      have HTT := Lib.hid (show TwoT W.heap.size ns ms b1 b2 W2 A1 A2 from ⟨HX1.out.2.1.below HB2'.out, hT2, HX1.out.1, hA20, fun u w b hu hw => by
        have := HX1.out.2.1.lt hu
        have := hA2 w b hw
        omega, HX1.out.2.2, fun u b hb => Nat.le_trans HB1.out.size (hA2 u b hb)⟩)
      clear hv2 hA20 hT2 hA2 HX1
      go_wp2_with fail
      have hL1 := ((validT_iff ns).1 HV1.out).2.2
      have hL2 := ((validT_iff ms).1 HV2.out).2.2
      obtain ⟨L, hL⟩ : ∃ L : List Nd, L = ns ++ ms := ⟨_, rfl⟩
      have HLL := Lib.hid hL
      have hLl : L.length ≤ 20 := by rw [hL, List.length_append]; omega
      have HR := Lib.hid (rows_two (c1 := cap1) (c2 := cap2) W2 (H1.out.keep HB2.out) (H2.out.keep HB2.out) 23)
      have HB3 := Lib.hid (below_next HB2.out (below_box W2 (.cells #[.slice a1 len1 cap1, .slice a2 len2 cap2] 23)))
      have HTT3 := Lib.hid (HTT.out.below (below_box W2 (.cells #[.slice a1 len1 cap1, .slice a2 len2 cap2] 23)))
      generalize W2.alloc (.cells #[.slice a1 len1 cap1, .slice a2 len2 cap2] 23) = W3 at HR HB3 HTT3 ⊢
      have HC := Lib.hid (show Calls Tryz.prog 38 #[.slice (some ⟨W2.heap.size, 0, none⟩) 2 2] W3 (fun e W' => OwnsNodes W3.heap.size L e W' ∧ Below W3.heap.size W3 W') by
        have e : allN [⟨a1, len1, cap1, ns⟩, ⟨a2, len2, cap2, ms⟩] = L := by rw [hL]; simp [allN]
        have := concatN_c W2.heap.size 0 2 [⟨a1, len1, cap1, ns⟩, ⟨a2, len2, cap2, ms⟩] (by simp) (by rw [e]; omega) W3 HR.out
        rw [e] at this
        exact this)
      have HOK := Lib.hid (show NdsOk L by
        rw [hL]
        intro n hn
        rcases List.mem_append.1 hn with hn | hn
        · exact nds_ok HV1.out n hn
        · exact nds_ok HV2.out n hn)
      have HLN := Lib.hid hLl
      clear hL hL1 hL2
      refine HC.out.mono ?_
      rintro e W4 ⟨⟨sL, rfl, ho4⟩, hb4⟩
      obtain ⟨aL, cL, rfl, hn4⟩ := nodes_of_own ho4
      have HO4 := Lib.hid (own_mono ho4 HB3.out.size)
      have HB4 := Lib.hid (below_next HB3.out hb4)
      have HTT4 := Lib.hid (HTT3.out.below hb4)
      clear ho4 hb4 hn4
      go_wp2_with fail
      go_loopw [9, 33] (fun o i wr => DifRel ns ms L b1 b2 (.slice aL L.length cL) W o i wr) (fun _ i _ => L.length - (intOf i).toNat)
      case atStart => exact ⟨0, A1, A2, rfl, by omega, World.ownsRow_nil _ _ _ _, HTT4.out, HO4.out, HB4.out⟩
      case round =>
        obtain ⟨i, B1, B2, rfl, hi1, HO, HTR, HLR, HB⟩ := hrel
        by_cases hlt : i < L.length
        · obtain ⟨aL', cL', heq, hnL⟩ := nodes_of_own HLR.out
          simp only [Value.slice.injEq, true_and] at heq
          obtain ⟨rfl, rfl⟩ := heq
          obtain ⟨b, off, m, rfl, hm, c0, c1, c2⟩ := hnL.node hlt
          have hlt' : (i : Int) < L.length := by omega
          have hi20 : (i : Int) ≤ 20 := by omega
          have HLT := Lib.hid hlt
          have HM := Lib.hid hm
          obtain ⟨p, k, v⟩ := m
          simp only at c0 c1 c2
          obtain ⟨w, hw, hpw⟩ := vpB_word (HOK.out _ (List.mem_of_getElem? hm)).1
          simp only at hpw
          obtain ⟨⟨k1, v1⟩, hk1⟩ : ∃ c, Fof ns w = c := ⟨_, rfl⟩
          obtain ⟨⟨k2, v2⟩, hk2⟩ : ∃ c, Fof ms w = c := ⟨_, rfl⟩
          obtain ⟨dd, hdd⟩ : ∃ dd, diffB ns ms p = dd := ⟨_, rfl⟩
          have HDD := Lib.hid hdd
          have hne := fun w' => (conNeq k1 v1 k2 v2 w').trans (show _ = Result.ok (Value.bool dd) w' by
            rw [← hdd, diff_bool ns ms p (k := k1) (v := v1) (k' := k2) (v' := v2) (by rw [hpw]; exact hk1) (by rw [hpw]; exact hk2)])
          have HW := Lib.hid hw
          have HPW := Lib.hid hpw
          have HK := Lib.hid (And.intro hk1 hk2)
          have hbw := HB.out.size
          have HT9 := Lib.hid (show TwoT W.heap.size ns ms b1 b2 (wr.alloc (.cells #[.string p, .int .i64 k, .int .i64 v] 56)).drew B1 B2 from
            let h := HTR.out.below (below_box wr (.cells #[.string p, .int .i64 k, .int .i64 v] 56)); ⟨⟨h.t1.wrd, h.t1.root, h.t1.inj, h.t1.up, h.t1.nil, h.t1.cells⟩, ⟨h.t2.wrd, h.t2.root, h.t2.inj, h.t2.up, h.t2.nil, h.t2.cells⟩, h.a1, h.a2, h.far, h.lo1, h.lo2⟩)
          have HBX := Lib.hid (show (wr.alloc (.cells #[.string p, .int .i64 k, .int .i64 v] 56)).drew.heap[wr.heap.size]? = some (.cells #[.string p, .int .i64 k, .int .i64 v] 56 (0, 0)) from World.alloc_heap_new wr _)
          have HS9 := Lib.hid (show W.heap.size ≤ (wr.alloc (.cells #[.string p, .int .i64 k, .int .i64 v] 56)).drew.heap.size by show _ ≤ (wr.alloc _).heap.size; rw [World.size_alloc]; omega)
          have HAT1 := Lib.hid (show Calls Tryz.prog 39 #[.pointer (some ⟨b1, 0, none⟩), .string p] (wr.alloc (.cells #[.string p, .int .i64 k, .int .i64 v] 56)).drew (FoundP W.heap.size ns ms b1 b2 true w (k1, v1) B1 B2 (wr.alloc (.cells #[.string p, .int .i64 k, .int .i64 v] 56)).drew) by
            rw [hpw]; rw [hpw] at HT9 HS9; exact at_first hw hk1 HT9.out HS9.out)
          have HAT2 := Lib.hid (fun (W' : World) (C1 C2 : List UInt8 → Option Nat) (hT : TwoT W.heap.size ns ms b1 b2 W' C1 C2) (hs : W.heap.size ≤ W'.heap.size) =>
            show Calls Tryz.prog 39 #[.pointer (some ⟨b2, 0, none⟩), .string p] W' (FoundP W.heap.size ns ms b1 b2 false w (k2, v2) C1 C2 W') by rw [hpw]; exact at_second hw hk2 hT hs)
          have HN0 := Lib.hid (show 56 ≠ 72 by decide)
          clear hlt hi1 hm hw hpw hk1 hk2 hdd hnL
          go_upto_region 9 with (fail)
          have HS0 : Hid ((wr.alloc (.cells #[.string p, .int .i64 k, .int .i64 v] 56)).drew.cell? ⟨wr.heap.size, 0, none⟩ = some (.string p)) := by
            show (wr.alloc _).cell? _ = _
            simp
          refine wp_region_held_drew (S := (fun w' => w'.cell? ⟨wr.heap.size, 0, none⟩ = some (.string p))) (by kernel_rfl) HS0.out (fun hH => ?_)
          refine wpAnyH_take (i := 0) (oi := _) (v := ?_) rfl (by kernel_rfl) (by kernel_rfl) (by kernel_rfl) (fun _ _ _ h => h) (Or.inl ⟨by rfl, ?hy1⟩) (by assumption) ?_
          case hy1 => (intro w hSw; (try dsimp only at hSw); go_simp; try with_reducible rfl)
          try simp only [Act.put, List.getElem_toArray, List.getElem_cons_zero, List.setIfInBounds_toArray, List.set_cons_zero, List.set_cons_succ]
          refine wpAnyH_take (i := 1) (oi := _) (v := ?_) rfl (by kernel_rfl) (by kernel_rfl) (by kernel_rfl) (fun _ _ _ h => h) (Or.inl ⟨by rfl, ?hy2⟩) (by assumption) ?_
          case hy2 => (intro w hSw; (try dsimp only at hSw); go_simp; try with_reducible rfl)
          try simp only [Act.put, List.getElem_toArray, List.getElem_cons_zero, List.getElem_cons_succ, List.setIfInBounds_toArray, List.set_cons_zero, List.set_cons_succ]
          refine wpAnyH_take (i := 2) (oi := _) (v := ?_) rfl (by kernel_rfl) (by kernel_rfl) (by kernel_rfl) (fun _ _ _ h => h) (Or.inl ⟨by rfl, ?hy3⟩) (by assumption) ?_
          case hy3 => (intro w hSw; (try dsimp only at hSw); go_simp; try with_reducible rfl)
          try simp only [Act.put, List.getElem_toArray, List.getElem_cons_zero, List.getElem_cons_succ, List.setIfInBounds_toArray, List.set_cons_zero, List.set_cons_succ]
          refine wpAnyH_take (i := 7) (oi := _) (v := ?_) rfl (by kernel_rfl) (by kernel_rfl) (by kernel_rfl) (fun _ _ _ h => h) (Or.inl ⟨by rfl, ?hy4⟩) (by assumption) ?_
          case hy4 => (intro w hSw; (try dsimp only at hSw); go_simp; try with_reducible rfl)
          try simp only [Act.put, List.getElem_toArray, List.getElem_cons_zero, List.getElem_cons_succ, List.setIfInBounds_toArray, List.set_cons_zero, List.set_cons_succ]
          refine wpAnyH_take (i := 8) (oi := _) (v := ?_) rfl (by kernel_rfl) (by kernel_rfl) (by kernel_rfl) (fun _ _ _ h => h) (Or.inl ⟨by rfl, ?hy5⟩) (by assumption) ?_
          case hy5 => (intro w hSw; (try dsimp only at hSw); go_simp; try with_reducible rfl)
          try simp only [Act.put, List.getElem_toArray, List.getElem_cons_zero, List.getElem_cons_succ, List.setIfInBounds_toArray, List.set_cons_zero, List.set_cons_succ]
          refine wpAnyH_take (i := 9) (oi := _) (v := ?_) rfl (by kernel_rfl) (by kernel_rfl) (by kernel_rfl) (fun _ _ _ h => h) (Or.inl ⟨by rfl, ?hy6⟩) (by assumption) ?_
          case hy6 => (intro w hSw; (try dsimp only at hSw); go_simp; try with_reducible rfl)
          try simp only [Act.put, List.getElem_toArray, List.getElem_cons_zero, List.getElem_cons_succ, List.setIfInBounds_toArray, List.set_cons_zero, List.set_cons_succ]
          refine wpAnyH_ready (rs := [3]) (by kernel_rfl) (by simp) ?_
          refine AllReadyH.cons rfl (fun K hK => ?_) AllReadyH.nil
          go_simp
          (go_at_call 39; (with_reducible refine (HAT1.out).mono ?_); rintro e W6 ⟨C1, C2, b6, rfl, hT6, hK6, c60, c61, hf6, -⟩; have hs6 := Nat.le_trans HS9.out hK6.low.size; have hf6' := hf6 rfl)
          refine hK.out _ _ ((hK6.cell HBX.out HN0.out 0).trans HS0.out) (fun hHeld => ?_)
          try simp only [Act.put, List.getElem_toArray, List.getElem_cons_zero, List.getElem_cons_succ, List.setIfInBounds_toArray, List.set_cons_zero, List.set_cons_succ]
          refine wpAnyH_take (i := 4) (oi := _) (v := ?_) rfl (by kernel_rfl) (by kernel_rfl) (by kernel_rfl) (fun _ _ _ h => h) (Or.inl ⟨by rfl, ?hy7⟩) (by assumption) ?_
          case hy7 => (intro w hSw; (try dsimp only at hSw); go_simp; try with_reducible rfl)
          try simp only [Act.put, List.getElem_toArray, List.getElem_cons_zero, List.getElem_cons_succ, List.setIfInBounds_toArray, List.set_cons_zero, List.set_cons_succ]
          refine wpAnyH_take (i := 5) (oi := _) (v := ?_) rfl (by kernel_rfl) (by kernel_rfl) (by kernel_rfl) (fun _ _ _ h => h) (Or.inl ⟨by rfl, ?hy8⟩) (by assumption) ?_
          case hy8 => (intro w hSw; (try dsimp only at hSw); go_simp; try with_reducible rfl)
          try simp only [Act.put, List.getElem_toArray, List.getElem_cons_zero, List.getElem_cons_succ, List.setIfInBounds_toArray, List.set_cons_zero, List.set_cons_succ]
          refine wpAnyH_ready (rs := [6, 10]) (by kernel_rfl) (by simp) ?_
          refine AllReadyH.cons rfl (fun K hK => ?_) (AllReadyH.cons rfl (fun K hK => ?_) AllReadyH.nil)
          go_simp
          refine hK.out _ _ ((hK6.cell HBX.out HN0.out 0).trans HS0.out) (fun hHeld => ?_)
          try simp only [Act.put, List.getElem_toArray, List.getElem_cons_zero, List.getElem_cons_succ, List.setIfInBounds_toArray, List.set_cons_zero, List.set_cons_succ]
          refine wpAnyH_ready (rs := [10]) (by kernel_rfl) (by simp) ?_
          refine AllReadyH.cons rfl (fun K hK => ?_) AllReadyH.nil
          go_simp
          (go_at_call 39; (with_reducible refine (HAT2.out _ _ _ hT6 hs6).mono ?_); rintro e W7 ⟨D1, D2, b7, rfl, hT7, hK7, c70, c71, -, hf7⟩; have e7 := hf7 rfl; have z60 := (trie_two hT7.t1 (by rw [e7]; exact hf6') HK.out.1).1; have z61 := (trie_two hT7.t1 (by rw [e7]; exact hf6') HK.out.1).2)
          refine hK.out _ _ ((hK7.cell ((hK6.typ _ _ _ _ HBX.out HN0.out).trans HBX.out) HN0.out 0).trans ((hK6.cell HBX.out HN0.out 0).trans HS0.out)) (fun hHeld => ?_)
          try simp only [Act.put, List.getElem_toArray, List.getElem_cons_zero, List.getElem_cons_succ, List.setIfInBounds_toArray, List.set_cons_zero, List.set_cons_succ]
          refine wpAnyH_take (i := 11) (oi := _) (v := ?_) rfl (by kernel_rfl) (by kernel_rfl) (by kernel_rfl) (fun _ _ _ h => h) (Or.inl ⟨by rfl, ?hy9⟩) (by assumption) ?_
          case hy9 => (intro w hSw; (try dsimp only at hSw); go_simp; try with_reducible rfl)
          try simp only [Act.put, List.getElem_toArray, List.getElem_cons_zero, List.getElem_cons_succ, List.setIfInBounds_toArray, List.set_cons_zero, List.set_cons_succ]
          refine wpAnyH_take (i := 12) (oi := _) (v := ?_) rfl (by kernel_rfl) (by kernel_rfl) (by kernel_rfl) (fun _ _ _ h => h) (Or.inl ⟨by rfl, ?hy10⟩) (by assumption) ?_
          case hy10 => (intro w hSw; (try dsimp only at hSw); go_simp; try with_reducible rfl)
          try simp only [Act.put, List.getElem_toArray, List.getElem_cons_zero, List.getElem_cons_succ, List.setIfInBounds_toArray, List.set_cons_zero, List.set_cons_succ]
          refine wpAnyH_ready (rs := [13]) (by kernel_rfl) (by simp) ?_
          refine AllReadyH.cons rfl (fun K hK => ?_) AllReadyH.nil
          go_simp
          refine hK.out _ _ ((hK7.cell ((hK6.typ _ _ _ _ HBX.out HN0.out).trans HBX.out) HN0.out 0).trans ((hK6.cell HBX.out HN0.out 0).trans HS0.out)) (fun hHeld => ?_)
          try simp only [Act.put, List.getElem_toArray, List.getElem_cons_zero, List.getElem_cons_succ, List.setIfInBounds_toArray, List.set_cons_zero, List.set_cons_succ]
          refine wpAnyH_take (i := 14) (oi := _) (v := ?_) rfl (by kernel_rfl) (by kernel_rfl) (by kernel_rfl) (fun _ _ _ h => h) (Or.inl ⟨by rfl, ?hy11⟩) (by assumption) ?_
          case hy11 => (intro w hSw; (try dsimp only at hSw); go_simp; try with_reducible rfl)
          try simp only [Act.put, List.getElem_toArray, List.getElem_cons_zero, List.getElem_cons_succ, List.setIfInBounds_toArray, List.set_cons_zero, List.set_cons_succ]
          refine wpAnyH_done (by kernel_rfl) ?_ _
          rotate_left
          go_simp
          (go_at_call 39; (with_reducible refine (HAT2.out _ _ _ hT6 hs6).mono ?_); rintro e W7 ⟨D1, D2, b7, rfl, hT7, hK7, c70, c71, -, hf7⟩; have e7 := hf7 rfl; have z60 := (trie_two hT7.t1 (by rw [e7]; exact hf6') HK.out.1).1; have z61 := (trie_two hT7.t1 (by rw [e7]; exact hf6') HK.out.1).2)
          refine hK.out _ _ ((hK7.cell ((hK6.typ _ _ _ _ HBX.out HN0.out).trans HBX.out) HN0.out 0).trans ((hK6.cell HBX.out HN0.out 0).trans HS0.out)) (fun hHeld => ?_)
          try simp only [Act.put, List.getElem_toArray, List.getElem_cons_zero, List.getElem_cons_succ, List.setIfInBounds_toArray, List.set_cons_zero, List.set_cons_succ]
          refine wpAnyH_take (i := 11) (oi := _) (v := ?_) rfl (by kernel_rfl) (by kernel_rfl) (by kernel_rfl) (fun _ _ _ h => h) (Or.inl ⟨by rfl, ?hy12⟩) (by assumption) ?_
          case hy12 => (intro w hSw; (try dsimp only at hSw); go_simp; try with_reducible rfl)
          try simp only [Act.put, List.getElem_toArray, List.getElem_cons_zero, List.getElem_cons_succ, List.setIfInBounds_toArray, List.set_cons_zero, List.set_cons_succ]
          refine wpAnyH_take (i := 12) (oi := _) (v := ?_) rfl (by kernel_rfl) (by kernel_rfl) (by kernel_rfl) (fun _ _ _ h => h) (Or.inl ⟨by rfl, ?hy13⟩) (by assumption) ?_
          case hy13 => (intro w hSw; (try dsimp only at hSw); go_simp; try with_reducible rfl)
          try simp only [Act.put, List.getElem_toArray, List.getElem_cons_zero, List.getElem_cons_succ, List.setIfInBounds_toArray, List.set_cons_zero, List.set_cons_succ]
          refine wpAnyH_ready (rs := [6, 13]) (by kernel_rfl) (by simp) ?_
          refine AllReadyH.cons rfl (fun K hK => ?_) (AllReadyH.cons rfl (fun K hK => ?_) AllReadyH.nil)
          go_simp
          refine hK.out _ _ ((hK7.cell ((hK6.typ _ _ _ _ HBX.out HN0.out).trans HBX.out) HN0.out 0).trans ((hK6.cell HBX.out HN0.out 0).trans HS0.out)) (fun hHeld => ?_)
          try simp only [Act.put, List.getElem_toArray, List.getElem_cons_zero, List.getElem_cons_succ, List.setIfInBounds_toArray, List.set_cons_zero, List.set_cons_succ]
          refine wpAnyH_ready (rs := [13]) (by kernel_rfl) (by simp) ?_
          refine AllReadyH.cons rfl (fun K hK => ?_) AllReadyH.nil
          go_simp
          refine hK.out _ _ ((hK7.cell ((hK6.typ _ _ _ _ HBX.out HN0.out).trans HBX.out) HN0.out 0).trans ((hK6.cell HBX.out HN0.out 0).trans HS0.out)) (fun hHeld => ?_)
          try simp only [Act.put, List.getElem_toArray, List.getElem_cons_zero, List.getElem_cons_succ, List.setIfInBounds_toArray, List.set_cons_zero, List.set_cons_succ]
          refine wpAnyH_take (i := 14) (oi := _) (v := ?_) rfl (by kernel_rfl) (by kernel_rfl) (by kernel_rfl) (fun _ _ _ h => h) (Or.inl ⟨by rfl, ?hy14⟩) (by assumption) ?_
          case hy14 => (intro w hSw; (try dsimp only at hSw); go_simp; try with_reducible rfl)
          try simp only [Act.put, List.getElem_toArray, List.getElem_cons_zero, List.getElem_cons_succ, List.setIfInBounds_toArray, List.set_cons_zero, List.set_cons_succ]
          refine wpAnyH_done (by kernel_rfl) ?_ _
          rotate_left
          go_simp
          refine hK.out _ _ ((hK7.cell ((hK6.typ _ _ _ _ HBX.out HN0.out).trans HBX.out) HN0.out 0).trans ((hK6.cell HBX.out HN0.out 0).trans HS0.out)) (fun hHeld => ?_)
          try simp only [Act.put, List.getElem_toArray, List.getElem_cons_zero, List.getElem_cons_succ, List.setIfInBounds_toArray, List.set_cons_zero, List.set_cons_succ]
          refine wpAnyH_ready (rs := [6]) (by kernel_rfl) (by simp) ?_
          refine AllReadyH.cons rfl (fun K hK => ?_) AllReadyH.nil
          go_simp
          refine hK.out _ _ ((hK7.cell ((hK6.typ _ _ _ _ HBX.out HN0.out).trans HBX.out) HN0.out 0).trans ((hK6.cell HBX.out HN0.out 0).trans HS0.out)) (fun hHeld => ?_)
          try simp only [Act.put, List.getElem_toArray, List.getElem_cons_zero, List.getElem_cons_succ, List.setIfInBounds_toArray, List.set_cons_zero, List.set_cons_succ]
          refine wpAnyH_take (i := 14) (oi := _) (v := ?_) rfl (by kernel_rfl) (by kernel_rfl) (by kernel_rfl) (fun _ _ _ h => h) (Or.inl ⟨by rfl, ?hy15⟩) (by assumption) ?_
          case hy15 => (intro w hSw; (try dsimp only at hSw); go_simp; try with_reducible rfl)
          try simp only [Act.put, List.getElem_toArray, List.getElem_cons_zero, List.getElem_cons_succ, List.setIfInBounds_toArray, List.set_cons_zero, List.set_cons_succ]
          refine wpAnyH_done (by kernel_rfl) ?_ _
          all_goals
            have hKP := hK6.trans hK7
            have HO7 := Lib.hid (hKP.row (show (wr.alloc (.cells #[.string p, .int .i64 k, .int .i64 v] 56)).drew.ownsRow W.heap.size 9 1 u9 _ _ from HO.out.alloc _) (by decide))
            have HL7 := Lib.hid (hKP.row (show (wr.alloc (.cells #[.string p, .int .i64 k, .int .i64 v] 56)).drew.ownsRow W.heap.size 56 3 (.slice (some ⟨b, off, none⟩) L.length cL) L.length (flatN L) from HLR.out.alloc _) (by decide))
            have HT7 := Lib.hid hT7
            have HB7 := Lib.hid (show Below W.heap.size W W7 from (HB.out.trans ((below_box wr (.cells #[.string p, .int .i64 k, .int .i64 v] 56)).mono hbw)).trans (show Below W.heap.size (wr.alloc (.cells #[.string p, .int .i64 k, .int .i64 v] 56)) W7 from ⟨hKP.low.os, hKP.low.tape, hKP.low.output, hKP.low.size, hKP.low.block⟩))
            have hc7 : W7.cell? ⟨wr.heap.size, 0, none⟩ = some (.string p) := (hKP.cell HBX.out HN0.out 0).trans HS0.out
            have hlt0 := HO7.out.lt
            have hdl := difL_len ns ms L i
            have HDL := Lib.hid hdl
            clear hKP hK6 hK7 hT6 hT7 c60 c61 c70 c71 hf6 hf7 hf6' e7 z60 z61 hs6 hdl
            cases dd with
            | false =>
              have HNX := Lib.hid (difL_no (ns := ns) (ms := ms) HM.out HDD.out)
              clear c0 c1 c2 hlt0
              go_wp2
              go_roundw
              case rel => exact ⟨i + 1, D1, D2, by push_cast; rfl, by have := HLT.out; omega, by rw [HNX.out]; exact HO7.out, HT7.out, HL7.out, HB7.out⟩
              case measure => have := HLT.out; simp [intOf]; omega
            | true =>
              have HNX := Lib.hid (difL_yes (ns := ns) (ms := ms) HM.out HDD.out)
              have hsz7 := HB7.out.size
              clear c0 c1 c2
              go_wp2_with (at_builtin; refine wpList_append_own _ rfl _ _ 45 rfl W.heap.size 9 i0 (.string ⟨#[]⟩) 1 16 Tryz.underlying45 hi hz0 hz1 hz2 rfl (by decide) _ _ _ rfl (HO7.out.alloc _) ⟨W7.heap.size, 0, none⟩ 1 1 [.string p] rfl rfl (cell_one_new W7 (.string p) 9) (fun y hy => by simp at hy; subst hy; rfl) (by unfold maxLen; have h5 := HDL.out; have h6 := HLT.out; have h7 := HLN.out; omega) (by have h5 := HDL.out; have h6 := HLT.out; have h7 := HLN.out; omega) (by simp; omega) ?_; intro v3 w3 ho3 hg3 hn3)
              have B3 : Below W.heap.size W w3 := (HB7.out.alloc hsz7 _).grown hg3 (by simp; omega) (fun g e => (hlt0 g e).1)
              have HO7' := Lib.hid (HO7.out.alloc (.cells #[.string p] 9))
              have HT3 := Lib.hid ((HT7.out.below (below_box W7 (.cells #[.string p] 9))).grown HO7'.out (by decide) hg3)
              have HL3 := Lib.hid (row_apart (HL7.out.alloc (.cells #[.string p] 9)) HO7'.out (by decide) hg3)
              go_roundw
              case rel => exact ⟨i + 1, D1, D2, by push_cast; rfl, by have := HLT.out; omega, by rw [HNX.out, List.length_append, List.map_append]; exact ho3, HT3.out, HL3.out, B3⟩
              case measure => have := HLT.out; simp [intOf]; omega
        · have hieq : i = L.length := by omega
          subst hieq
          rw [List.take_length] at HO
          have hge : (L.length : Int) ≤ L.length := by omega
          have hdl : (difL ns ms L).length ≤ 20 := by have := difL_len ns ms L L.length; rw [List.take_length] at this; omega
          have HSO := Lib.hid (sortS_c W.heap.size u9 (difL ns ms L) (by omega) wr HO.out)
          have HDL := Lib.hid hdl
          have hlt0 := HO.out.lt
          clear hlt hi1 hdl
          go_wp2_with fail
          refine HSO.out.mono ?_
          rintro e W8 ⟨rfl, ys, hd8, hl8, hm8, ho8, hg8⟩
          have B8 := Lib.hid (show Below W.heap.size W W8 from HB.out.grown hg8 HB.out.size (fun g e => (hlt0 g e).1))
          have HCO := Lib.hid (compactS_c W.heap.size u9 ys (by have := HDL.out; omega) hd8 W8 ho8)
          have hlt8 := ho8.lt
          have HM8 := Lib.hid hm8
          clear hd8 hl8 hm8 ho8 hg8 hlt0
          go_wp2_with fail
          refine HCO.out.mono ?_
          rintro e W9 ⟨⟨v9, zs, rfl, ha9, hm9, ho9⟩, hg9⟩
          have B9 := Lib.hid (show Below W.heap.size W W9 from B8.out.grown hg9 B8.out.size (fun g e => (hlt8 g e).1))
          have HEQ := Lib.hid (chg_eq HV1.out HV2.out ha9 (fun p => by rw [hm9 p, HM8.out p, HLL.out]))
          have HO9 := Lib.hid ho9
          clear ha9 hm9 ho9 hg9 hlt8
          go_wp2
          refine bodyPost_ret (v := v9) (by simp [results, Tryz.f20, go_sem]) rfl ⟨⟨v9, rfl, ?_⟩, B9.out⟩
          rw [← HEQ.out]
          exact HO9.out

end Go.Proofs.YtnboodcllmdjeaaGreat

/-
  The program's three functions of stage 5, for the laws.
-/
namespace Go.Proofs.YtnboodcllmdjeaaGreat
end Go.Proofs.YtnboodcllmdjeaaGreat

/-
  WALKS: canonical logs of the model, second part: spec.l14Put, l14Sort.
-/
namespace Go.Proofs.YtnboodcllmdjeaaGreat
open Go.RowKit
set_option linter.unusedVariables false

def PutKRel (c : Cmd) (cs : List Cmd) (W0 : World) (o k i : Value) (wr : World) : Prop :=
  ∃ (n : Nat) (acc : List Cmd) (dn : Bool), k = .bool dn ∧ i = .int .i64 n ∧ n ≤ cs.length ∧ wr.ownsRow W0.heap.size 34 5 o acc.length (flatC acc) ∧ Hid (putMid c cs n dn acc) ∧ Hid (Below W0.heap.size W0 wr)

set_option maxHeartbeats 4000000 in
set_option maxRecDepth 100000 in
theorem specPut_c (a : Option Addr) (len cap : Nat) (cs : List Cmd) (c : Cmd) (hl : len ≤ 2000000) (W : World) (hN : CmdsAt W a len cs) :
    Calls Tryz.prog 51 #[.slice a len cap, cmdV c] W (CmdsPost (putK c cs) W) := by
  have HE := Lib.hid hN.1
  have HL := Lib.hid hl
  have hl' : (len : Int) ≤ 2000000 := by omega
  have HCL := Lib.hid (show cs.length ≤ 2000000 by have := hN.1; omega)
  have HBX := Lib.hid (fun d w => specBefore_c c d w)
  obtain ⟨p, fk, fv, tk, tv⟩ := c
  have hN0 := hN.keep (below_box W (.cells #[.string p, .int .i64 fk, .int .i64 fv, .int .i64 tk, .int .i64 tv] 34))
  have hA0 := five_new W (.string p) (.int .i64 fk) (.int .i64 fv) (.int .i64 tk) (.int .i64 tv) 34
  have hB0 := below_box W (.cells #[.string p, .int .i64 fk, .int .i64 fv, .int .i64 tk, .int .i64 tv] 34)
  have hZ0 : (W.alloc (.cells #[.string p, .int .i64 fk, .int .i64 fv, .int .i64 tk, .int .i64 tv] 34)).heap.size = W.heap.size + 1 := by simp
  clear hN hl
  unfold cmdV
  go_enter Tryz.func51, Tryz.ntmps51
  go_wp2
  generalize W.alloc (.cells #[.string p, .int .i64 fk, .int .i64 fv, .int .i64 tk, .int .i64 tv] 34) = W0 at hN0 hA0 hB0 hZ0 ⊢
  have HN := Lib.hid hN0
  have HA := Lib.hid hA0
  have HB0 := Lib.hid hB0
  have HZ := Lib.hid hZ0
  clear hN0 hA0 hB0 hZ0
  go_loopw [5, 6, 7] (fun o k i wr => PutKRel ⟨p, fk, fv, tk, tv⟩ cs W0 o k i wr) (fun _ _ i _ => len - (intOf i).toNat)
  case atStart => exact ⟨0, [], false, rfl, rfl, Nat.zero_le _, (by have := World.ownsRow_lit (e := 34) (size := 5) W0 #[] 0 (Nat.le_refl _) (by simp [maxLen]) rfl; rw [HZ.out] at this ⊢; exact this), put_mid0 _ _, below_box _ _⟩
  case round =>
    obtain ⟨n, acc, dn, rfl, rfl, hn, hown, HM, HB⟩ := hrel
    obtain ⟨a0, a1, a2, a3, a4, -⟩ := HA.out
    have HO := Lib.hid hown
    have HAL := Lib.hid (put_mid_len HM.out)
    by_cases hlt : n < len
    · have hlt' : (n : Int) < len := by omega
      have hw1 : IntKind.i64.wrap ((n : Int) + 1) = (n : Int) + 1 := IntWalk.i64_in _ (by omega)
      have HLT := Lib.hid hlt
      obtain ⟨b, off, d, rfl, hd, d0, d1, d2, d3, d4⟩ := HN.out.node hlt
      have HD := Lib.hid hd
      obtain ⟨bb, hbb⟩ : ∃ bb, befC ⟨p, fk, fv, tk, tv⟩ d = bb := ⟨_, rfl⟩
      have HBF := Lib.hid (fun w => show Calls Tryz.prog 72 #[cmdV ⟨p, fk, fv, tk, tv⟩, cmdV d] w (BoolPost bb w) by rw [← hbb]; exact HBX.out d w)
      have HBB := Lib.hid hbb
      obtain ⟨q, fk', fv', tk', tv'⟩ := d
      unfold cmdV at HBF
      simp only at d0 d1 d2 d3 d4 HBF
      have HS0 : Hid (Below W0.heap.size W0 wr.drew) := HB.out.drew
      clear hn hlt hd hown hbb
      cases dn with
      | true =>
        have HM2 := Lib.hid (put_mid_on HD.out HM.out)
        go_upto_region 6 with (fail)
        refine wp_region_held_drew (S := (fun w' => Below W0.heap.size W0 w')) (by kernel_rfl) HS0.out (fun hH => ?_)
        refine wpAnyH_take (i := 0) (oi := _) (v := ?_) rfl (by kernel_rfl) (by kernel_rfl) (by kernel_rfl) (fun _ _ _ h => h) (Or.inl ⟨by rfl, ?_⟩) (by assumption) ?_
        rotate_left
        · (intro w hSw; have s0 := cell_kept hSw a0; have s1 := cell_kept hSw a1; have s2 := cell_kept hSw a2; have s3 := cell_kept hSw a3; have s4 := cell_kept hSw a4; have r0 := cell_kept hSw d0; have r1 := cell_kept hSw d1; have r2 := cell_kept hSw d2; have r3 := cell_kept hSw d3; have r4 := cell_kept hSw d4; go_simp; try with_reducible rfl)
        try simp only [Act.put, List.getElem_toArray, List.getElem_cons_zero, List.setIfInBounds_toArray, List.set_cons_zero, List.set_cons_succ]
        refine wpAnyH_take (i := 1) (oi := _) (v := ?_) rfl (by kernel_rfl) (by kernel_rfl) (by kernel_rfl) (fun _ _ _ h => h) (Or.inl ⟨by rfl, ?_⟩) (by assumption) ?_
        rotate_left
        · (intro w hSw; have s0 := cell_kept hSw a0; have s1 := cell_kept hSw a1; have s2 := cell_kept hSw a2; have s3 := cell_kept hSw a3; have s4 := cell_kept hSw a4; have r0 := cell_kept hSw d0; have r1 := cell_kept hSw d1; have r2 := cell_kept hSw d2; have r3 := cell_kept hSw d3; have r4 := cell_kept hSw d4; go_simp; try with_reducible rfl)
        try simp only [Act.put, List.getElem_toArray, List.getElem_cons_zero, List.getElem_cons_succ, List.setIfInBounds_toArray, List.set_cons_zero, List.set_cons_succ]
        refine wpAnyH_take (i := 2) (oi := _) (v := ?_) rfl (by kernel_rfl) (by kernel_rfl) (by kernel_rfl) (fun _ _ _ h => h) (Or.inl ⟨by rfl, ?_⟩) (by assumption) ?_
        rotate_left
        · (intro w hSw; have s0 := cell_kept hSw a0; have s1 := cell_kept hSw a1; have s2 := cell_kept hSw a2; have s3 := cell_kept hSw a3; have s4 := cell_kept hSw a4; have r0 := cell_kept hSw d0; have r1 := cell_kept hSw d1; have r2 := cell_kept hSw d2; have r3 := cell_kept hSw d3; have r4 := cell_kept hSw d4; go_simp; try with_reducible rfl)
        try simp only [Act.put, List.getElem_toArray, List.getElem_cons_zero, List.getElem_cons_succ, List.setIfInBounds_toArray, List.set_cons_zero, List.set_cons_succ]
        first | refine wpAnyH_take (i := 3) (oi := _) (v := undef) rfl (by kernel_rfl) (by kernel_rfl) (by kernel_rfl) (fun _ _ _ h => h) (Or.inr ⟨by rfl, rfl⟩) (by assumption) ?_ | (refine wpAnyH_ready (rs := [3]) (by kernel_rfl) (by simp) ?_; refine AllReadyH.cons rfl (fun K hK => ?_) (AllReadyH.nil); rw [if_neg (by decide)]; refine hK.out _ _ (by assumption) (fun hHeld => ?_))
        try simp only [Act.put, List.getElem_toArray, List.getElem_cons_zero, List.getElem_cons_succ, List.setIfInBounds_toArray, List.set_cons_zero, List.set_cons_succ]
        first | refine wpAnyH_take (i := 4) (oi := _) (v := undef) rfl (by kernel_rfl) (by kernel_rfl) (by kernel_rfl) (fun _ _ _ h => h) (Or.inr ⟨by rfl, rfl⟩) (by assumption) ?_ | (refine wpAnyH_ready (rs := [4]) (by kernel_rfl) (by simp) ?_; refine AllReadyH.cons rfl (fun K hK => ?_) (AllReadyH.nil); rw [if_neg (by decide)]; refine hK.out _ _ (by assumption) (fun hHeld => ?_))
        try simp only [Act.put, List.getElem_toArray, List.getElem_cons_zero, List.getElem_cons_succ, List.setIfInBounds_toArray, List.set_cons_zero, List.set_cons_succ]
        first | refine wpAnyH_take (i := 5) (oi := _) (v := undef) rfl (by kernel_rfl) (by kernel_rfl) (by kernel_rfl) (fun _ _ _ h => h) (Or.inr ⟨by rfl, rfl⟩) (by assumption) ?_ | (refine wpAnyH_ready (rs := [5]) (by kernel_rfl) (by simp) ?_; refine AllReadyH.cons rfl (fun K hK => ?_) (AllReadyH.nil); rw [if_neg (by decide)]; refine hK.out _ _ (by assumption) (fun hHeld => ?_))
        try simp only [Act.put, List.getElem_toArray, List.getElem_cons_zero, List.getElem_cons_succ, List.setIfInBounds_toArray, List.set_cons_zero, List.set_cons_succ]
        first | refine wpAnyH_take (i := 6) (oi := _) (v := undef) rfl (by kernel_rfl) (by kernel_rfl) (by kernel_rfl) (fun _ _ _ h => h) (Or.inr ⟨by rfl, rfl⟩) (by assumption) ?_ | (refine wpAnyH_ready (rs := [6]) (by kernel_rfl) (by simp) ?_; refine AllReadyH.cons rfl (fun K hK => ?_) (AllReadyH.nil); rw [if_neg (by decide)]; refine hK.out _ _ (by assumption) (fun hHeld => ?_))
        try simp only [Act.put, List.getElem_toArray, List.getElem_cons_zero, List.getElem_cons_succ, List.setIfInBounds_toArray, List.set_cons_zero, List.set_cons_succ]
        first | refine wpAnyH_take (i := 7) (oi := _) (v := undef) rfl (by kernel_rfl) (by kernel_rfl) (by kernel_rfl) (fun _ _ _ h => h) (Or.inr ⟨by rfl, rfl⟩) (by assumption) ?_ | (refine wpAnyH_ready (rs := [7]) (by kernel_rfl) (by simp) ?_; refine AllReadyH.cons rfl (fun K hK => ?_) (AllReadyH.nil); rw [if_neg (by decide)]; refine hK.out _ _ (by assumption) (fun hHeld => ?_))
        try simp only [Act.put, List.getElem_toArray, List.getElem_cons_zero, List.getElem_cons_succ, List.setIfInBounds_toArray, List.set_cons_zero, List.set_cons_succ]
        first | refine wpAnyH_take (i := 8) (oi := _) (v := undef) rfl (by kernel_rfl) (by kernel_rfl) (by kernel_rfl) (fun _ _ _ h => h) (Or.inr ⟨by rfl, rfl⟩) (by assumption) ?_ | (refine wpAnyH_ready (rs := [8]) (by kernel_rfl) (by simp) ?_; refine AllReadyH.cons rfl (fun K hK => ?_) (AllReadyH.nil); rw [if_neg (by decide)]; refine hK.out _ _ (by assumption) (fun hHeld => ?_))
        try simp only [Act.put, List.getElem_toArray, List.getElem_cons_zero, List.getElem_cons_succ, List.setIfInBounds_toArray, List.set_cons_zero, List.set_cons_succ]
        refine wpAnyH_take (i := 9) (oi := _) (v := ?_) rfl (by kernel_rfl) (by kernel_rfl) (by kernel_rfl) (fun _ _ _ h => h) (Or.inl ⟨by rfl, ?_⟩) (by assumption) ?_
        rotate_left
        · (intro w hSw; have s0 := cell_kept hSw a0; have s1 := cell_kept hSw a1; have s2 := cell_kept hSw a2; have s3 := cell_kept hSw a3; have s4 := cell_kept hSw a4; have r0 := cell_kept hSw d0; have r1 := cell_kept hSw d1; have r2 := cell_kept hSw d2; have r3 := cell_kept hSw d3; have r4 := cell_kept hSw d4; go_simp; try with_reducible rfl)
        try simp only [Act.put, List.getElem_toArray, List.getElem_cons_zero, List.getElem_cons_succ, List.setIfInBounds_toArray, List.set_cons_zero, List.set_cons_succ]
        refine wpAnyH_done (by kernel_rfl) ?_ _
        have HO1 := Lib.hid (show wr.drew.ownsRow W0.heap.size _ _ _ _ _ from HO.out)
        generalize wr.drew = Wd at HS0 HO1 ⊢
        have e0 := cell_kept HS0.out d0
        have e1 := cell_kept HS0.out d1
        have e2 := cell_kept HS0.out d2
        have e3 := cell_kept HS0.out d3
        have e4 := cell_kept HS0.out d4
        clear a0 a1 a2 a3 a4 d0 d1 d2 d3 d4
        go_wp2_with (at_builtin; refine wpList_append_cmds rfl _ _ rfl W0.heap.size _ acc rfl (World.ownsRow.alloc (show Wd.ownsRow W0.heap.size _ _ _ _ _ from HO1.out) _) _ _ _ [(⟨q, fk', fv', tk', tv'⟩ : Cmd)] rfl (cmds_lit Wd (⟨q, fk', fv', tk', tv'⟩ : Cmd)) (by have := HAL.out; have := HCL.out; simp; omega) (by have := HS0.out.size; simp; omega) ?_; intro v4 w4 ho4 hg4; have HB4 := Lib.hid ((HS0.out.alloc HS0.out.size _).grown hg4 (by have := HS0.out.size; simp; omega) (fun k e => (HO1.out.lt k e).1)); clear hg4)
        go_roundw
        case rel => exact ⟨n + 1, _, true, rfl, by go_num, by have := HLT.out; have := HE.out; omega, ho4, HM2, HB4⟩
        case measure => have := HLT.out; simp [intOf]; omega
      | false =>
        go_upto_region 6 with (fail)
        refine wp_region_held_drew (S := (fun w' => Below W0.heap.size W0 w')) (by kernel_rfl) HS0.out (fun hH => ?_)
        refine wpAnyH_take (i := 0) (oi := _) (v := ?_) rfl (by kernel_rfl) (by kernel_rfl) (by kernel_rfl) (fun _ _ _ h => h) (Or.inl ⟨by rfl, ?_⟩) (by assumption) ?_
        rotate_left
        · (intro w hSw; have s0 := cell_kept hSw a0; have s1 := cell_kept hSw a1; have s2 := cell_kept hSw a2; have s3 := cell_kept hSw a3; have s4 := cell_kept hSw a4; have r0 := cell_kept hSw d0; have r1 := cell_kept hSw d1; have r2 := cell_kept hSw d2; have r3 := cell_kept hSw d3; have r4 := cell_kept hSw d4; go_simp; try with_reducible rfl)
        try simp only [Act.put, List.getElem_toArray, List.getElem_cons_zero, List.setIfInBounds_toArray, List.set_cons_zero, List.set_cons_succ]
        refine wpAnyH_take (i := 1) (oi := _) (v := ?_) rfl (by kernel_rfl) (by kernel_rfl) (by kernel_rfl) (fun _ _ _ h => h) (Or.inl ⟨by rfl, ?_⟩) (by assumption) ?_
        rotate_left
        · (intro w hSw; have s0 := cell_kept hSw a0; have s1 := cell_kept hSw a1; have s2 := cell_kept hSw a2; have s3 := cell_kept hSw a3; have s4 := cell_kept hSw a4; have r0 := cell_kept hSw d0; have r1 := cell_kept hSw d1; have r2 := cell_kept hSw d2; have r3 := cell_kept hSw d3; have r4 := cell_kept hSw d4; go_simp; try with_reducible rfl)
        try simp only [Act.put, List.getElem_toArray, List.getElem_cons_zero, List.getElem_cons_succ, List.setIfInBounds_toArray, List.set_cons_zero, List.set_cons_succ]
        refine wpAnyH_take (i := 2) (oi := _) (v := ?_) rfl (by kernel_rfl) (by kernel_rfl) (by kernel_rfl) (fun _ _ _ h => h) (Or.inl ⟨by rfl, ?_⟩) (by assumption) ?_
        rotate_left
        · (intro w hSw; have s0 := cell_kept hSw a0; have s1 := cell_kept hSw a1; have s2 := cell_kept hSw a2; have s3 := cell_kept hSw a3; have s4 := cell_kept hSw a4; have r0 := cell_kept hSw d0; have r1 := cell_kept hSw d1; have r2 := cell_kept hSw d2; have r3 := cell_kept hSw d3; have r4 := cell_kept hSw d4; go_simp; try with_reducible rfl)
        try simp only [Act.put, List.getElem_toArray, List.getElem_cons_zero, List.getElem_cons_succ, List.setIfInBounds_toArray, List.set_cons_zero, List.set_cons_succ]
        refine wpAnyH_take (i := 3) (oi := _) (v := ?_) rfl (by kernel_rfl) (by kernel_rfl) (by kernel_rfl) (fun _ _ _ h => h) (Or.inl ⟨by rfl, ?_⟩) (by assumption) ?_
        rotate_left
        · (intro w hSw; have s0 := cell_kept hSw a0; have s1 := cell_kept hSw a1; have s2 := cell_kept hSw a2; have s3 := cell_kept hSw a3; have s4 := cell_kept hSw a4; have r0 := cell_kept hSw d0; have r1 := cell_kept hSw d1; have r2 := cell_kept hSw d2; have r3 := cell_kept hSw d3; have r4 := cell_kept hSw d4; go_simp; try with_reducible rfl)
        try simp only [Act.put, List.getElem_toArray, List.getElem_cons_zero, List.getElem_cons_succ, List.setIfInBounds_toArray, List.set_cons_zero, List.set_cons_succ]
        refine wpAnyH_take (i := 4) (oi := _) (v := ?_) rfl (by kernel_rfl) (by kernel_rfl) (by kernel_rfl) (fun _ _ _ h => h) (Or.inl ⟨by rfl, ?_⟩) (by assumption) ?_
        rotate_left
        · (intro w hSw; have s0 := cell_kept hSw a0; have s1 := cell_kept hSw a1; have s2 := cell_kept hSw a2; have s3 := cell_kept hSw a3; have s4 := cell_kept hSw a4; have r0 := cell_kept hSw d0; have r1 := cell_kept hSw d1; have r2 := cell_kept hSw d2; have r3 := cell_kept hSw d3; have r4 := cell_kept hSw d4; go_simp; try with_reducible rfl)
        try simp only [Act.put, List.getElem_toArray, List.getElem_cons_zero, List.getElem_cons_succ, List.setIfInBounds_toArray, List.set_cons_zero, List.set_cons_succ]
        refine wpAnyH_take (i := 5) (oi := _) (v := ?_) rfl (by kernel_rfl) (by kernel_rfl) (by kernel_rfl) (fun _ _ _ h => h) (Or.inl ⟨by rfl, ?_⟩) (by assumption) ?_
        rotate_left
        · (intro w hSw; have s0 := cell_kept hSw a0; have s1 := cell_kept hSw a1; have s2 := cell_kept hSw a2; have s3 := cell_kept hSw a3; have s4 := cell_kept hSw a4; have r0 := cell_kept hSw d0; have r1 := cell_kept hSw d1; have r2 := cell_kept hSw d2; have r3 := cell_kept hSw d3; have r4 := cell_kept hSw d4; go_simp; try with_reducible rfl)
        try simp only [Act.put, List.getElem_toArray, List.getElem_cons_zero, List.getElem_cons_succ, List.setIfInBounds_toArray, List.set_cons_zero, List.set_cons_succ]
        refine wpAnyH_take (i := 6) (oi := _) (v := ?_) rfl (by kernel_rfl) (by kernel_rfl) (by kernel_rfl) (fun _ _ _ h => h) (Or.inl ⟨by rfl, ?_⟩) (by assumption) ?_
        rotate_left
        · (intro w hSw; have s0 := cell_kept hSw a0; have s1 := cell_kept hSw a1; have s2 := cell_kept hSw a2; have s3 := cell_kept hSw a3; have s4 := cell_kept hSw a4; have r0 := cell_kept hSw d0; have r1 := cell_kept hSw d1; have r2 := cell_kept hSw d2; have r3 := cell_kept hSw d3; have r4 := cell_kept hSw d4; go_simp; try with_reducible rfl)
        try simp only [Act.put, List.getElem_toArray, List.getElem_cons_zero, List.getElem_cons_succ, List.setIfInBounds_toArray, List.set_cons_zero, List.set_cons_succ]
        refine wpAnyH_take (i := 7) (oi := _) (v := ?_) rfl (by kernel_rfl) (by kernel_rfl) (by kernel_rfl) (fun _ _ _ h => h) (Or.inl ⟨by rfl, ?_⟩) (by assumption) ?_
        rotate_left
        · (intro w hSw; have s0 := cell_kept hSw a0; have s1 := cell_kept hSw a1; have s2 := cell_kept hSw a2; have s3 := cell_kept hSw a3; have s4 := cell_kept hSw a4; have r0 := cell_kept hSw d0; have r1 := cell_kept hSw d1; have r2 := cell_kept hSw d2; have r3 := cell_kept hSw d3; have r4 := cell_kept hSw d4; go_simp; try with_reducible rfl)
        try simp only [Act.put, List.getElem_toArray, List.getElem_cons_zero, List.getElem_cons_succ, List.setIfInBounds_toArray, List.set_cons_zero, List.set_cons_succ]
        refine wpAnyH_ready (rs := [8]) (by kernel_rfl) (by simp) ?_
        refine AllReadyH.cons rfl (fun K hK => ?_) (AllReadyH.nil)
        go_simp
        go_at_call 72; (with_reducible refine (HBF.out _).mono ?_); rintro e WA ⟨rfl, hbA⟩
        refine hK.out _ _ (below_next HS0.out hbA) (fun hHeld => ?_)
        try simp only [Act.put, List.getElem_toArray, List.getElem_cons_zero, List.getElem_cons_succ, List.setIfInBounds_toArray, List.set_cons_zero, List.set_cons_succ]
        refine wpAnyH_take (i := 9) (oi := _) (v := ?_) rfl (by kernel_rfl) (by kernel_rfl) (by kernel_rfl) (fun _ _ _ h => h) (Or.inl ⟨by rfl, ?_⟩) (by assumption) ?_
        rotate_left
        · (intro w hSw; have s0 := cell_kept hSw a0; have s1 := cell_kept hSw a1; have s2 := cell_kept hSw a2; have s3 := cell_kept hSw a3; have s4 := cell_kept hSw a4; have r0 := cell_kept hSw d0; have r1 := cell_kept hSw d1; have r2 := cell_kept hSw d2; have r3 := cell_kept hSw d3; have r4 := cell_kept hSw d4; go_simp; try with_reducible rfl)
        try simp only [Act.put, List.getElem_toArray, List.getElem_cons_zero, List.getElem_cons_succ, List.setIfInBounds_toArray, List.set_cons_zero, List.set_cons_succ]
        refine wpAnyH_done (by kernel_rfl) ?_ _
        have HBA := Lib.hid (below_next HS0.out hbA)
        have HOA := Lib.hid (own_below (show wr.drew.ownsRow W0.heap.size _ _ _ _ _ from HO.out) hbA)
        have e0 := cell_kept HBA.out d0
        have e1 := cell_kept HBA.out d1
        have e2 := cell_kept HBA.out d2
        have e3 := cell_kept HBA.out d3
        have e4 := cell_kept HBA.out d4
        have g0 := cell_kept HBA.out a0
        have g1 := cell_kept HBA.out a1
        have g2 := cell_kept HBA.out a2
        have g3 := cell_kept HBA.out a3
        have g4 := cell_kept HBA.out a4
        clear a0 a1 a2 a3 a4 hbA
        cases bb with
        | false =>
          have HM2 := Lib.hid (put_mid_no HD.out HM.out HBB.out)
          clear d0 d1 d2 d3 d4
          go_wp2_with (at_builtin; refine wpList_append_cmds rfl _ _ rfl W0.heap.size _ acc rfl (World.ownsRow.alloc (show WA.ownsRow W0.heap.size _ _ _ _ _ from HOA.out) _) _ _ _ [(⟨q, fk', fv', tk', tv'⟩ : Cmd)] rfl (cmds_lit WA (⟨q, fk', fv', tk', tv'⟩ : Cmd)) (by have := HAL.out; have := HCL.out; simp; omega) (by have := HBA.out.size; simp; omega) ?_; intro v4 w4 ho4 hg4; have HB4 := Lib.hid ((HBA.out.alloc HBA.out.size _).grown hg4 (by have := HBA.out.size; simp; omega) (fun k e => (HOA.out.lt k e).1)); clear hg4)
          go_roundw
          case rel => exact ⟨n + 1, _, false, rfl, by go_num, by have := HLT.out; have := HE.out; omega, ho4, HM2, HB4⟩
          case measure => have := HLT.out; simp [intOf]; omega
        | true =>
          have HM2 := Lib.hid (put_mid_now HD.out HM.out HBB.out)
          go_wp2_with (first | (at_builtin; refine wpList_append_cmds rfl _ _ rfl W0.heap.size _ acc rfl (World.ownsRow.alloc (show WA.ownsRow W0.heap.size _ _ _ _ _ from HOA.out) _) _ _ _ [(⟨p, fk, fv, tk, tv⟩ : Cmd)] rfl (cmds_lit WA (⟨p, fk, fv, tk, tv⟩ : Cmd)) (by have := HAL.out; have := HCL.out; simp; omega) (by have := HBA.out.size; simp; omega) ?_; intro v4 w4 ho4 hg4; have HB4 := Lib.hid ((HBA.out.alloc HBA.out.size _).grown hg4 (by have := HBA.out.size; simp; omega) (fun k e => (HOA.out.lt k e).1)); have HO4 := Lib.hid ho4; clear hg4 ho4 e0 e1 e2 e3 e4 g0 g1 g2 g3 g4; have e0 := cell_kept HB4.out d0; have e1 := cell_kept HB4.out d1; have e2 := cell_kept HB4.out d2; have e3 := cell_kept HB4.out d3; have e4 := cell_kept HB4.out d4) | (at_builtin; refine wpList_append_cmds rfl _ _ rfl W0.heap.size _ (acc ++ [(⟨p, fk, fv, tk, tv⟩ : Cmd)]) rfl (World.ownsRow.alloc (show w4.ownsRow W0.heap.size _ _ _ _ _ from HO4.out) _) _ _ _ [(⟨q, fk', fv', tk', tv'⟩ : Cmd)] rfl (cmds_lit w4 (⟨q, fk', fv', tk', tv'⟩ : Cmd)) (by have := HAL.out; have := HCL.out; simp; omega) (by have := HB4.out.size; simp; omega) ?_; intro v5 w5 ho5 hg5; have HB5 := Lib.hid ((HB4.out.alloc HB4.out.size _).grown hg5 (by have := HB4.out.size; simp; omega) (fun k e => (HO4.out.lt k e).1)); clear hg5))
          go_roundw
          case rel => exact ⟨n + 1, _, true, rfl, by go_num, by have := HLT.out; have := HE.out; omega, ho5, HM2, HB5⟩
          case measure => have := HLT.out; simp [intOf]; omega
    · have hge : (len : Int) ≤ n := by omega
      have hie : n = cs.length := by have := HE.out; omega
      subst hie
      clear hn hlt hown
      cases dn with
      | true =>
        have HX := Lib.hid (put_end_yes HM.out)
        go_wp2
        go_ret
        exact ⟨⟨_, rfl, by rw [← HX.out]; exact own_mono HO.out HB0.out.size⟩, HB0.out.trans (HB.out.mono HB0.out.size)⟩
      | false =>
        have HX := Lib.hid (put_end_no HM.out)
        have g0 := cell_kept HB.out a0
        have g1 := cell_kept HB.out a1
        have g2 := cell_kept HB.out a2
        have g3 := cell_kept HB.out a3
        have g4 := cell_kept HB.out a4
        clear a0 a1 a2 a3 a4
        go_wp2_with (at_builtin; refine wpList_append_cmds rfl _ _ rfl W0.heap.size _ acc rfl (World.ownsRow.alloc (show wr.ownsRow W0.heap.size _ _ _ _ _ from HO.out) _) _ _ _ [(⟨p, fk, fv, tk, tv⟩ : Cmd)] rfl (cmds_lit wr (⟨p, fk, fv, tk, tv⟩ : Cmd)) (by have := HAL.out; have := HCL.out; simp; omega) (by have := HB.out.size; simp; omega) ?_; intro v4 w4 ho4 hg4; have HB4 := Lib.hid ((HB.out.alloc HB.out.size _).grown hg4 (by have := HB.out.size; simp; omega) (fun k e => (HO.out.lt k e).1)); clear hg4)
        go_ret
        exact ⟨⟨_, rfl, by rw [← HX.out]; exact own_mono ho4 HB0.out.size⟩, HB0.out.trans (HB4.out.mono HB0.out.size)⟩

set_option maxHeartbeats 2000000 in
set_option maxRecDepth 100000 in
theorem specSort_c (a : Option Addr) (len cap : Nat) (cs : List Cmd) (hl : len ≤ 2000000) (W : World) (hN : CmdsAt W a len cs) :
    Calls Tryz.prog 26 #[.slice a len cap] W (CmdsPost (sortK cs) W) := by
  have HN := Lib.hid hN
  have HE := Lib.hid hN.1
  have HL := Lib.hid hl
  have hl' : (len : Int) ≤ 2000000 := by omega
  have HP := Lib.hid (fun a len cap cs c h W hN => specPut_c a len cap cs c h W hN)
  clear hN hl
  go_enter Tryz.func26, Tryz.ntmps26
  go_wp2
  go_loopw [3, 4] (fun o i wr => ∃ n : Nat, i = .int .i64 n ∧ n ≤ len ∧ wr.ownsRow W.heap.size 34 5 o (sortMid cs n).length (flatC (sortMid cs n)) ∧ Hid (Below W.heap.size W wr)) (fun _ i _ => len - (intOf i).toNat)
  case atStart => exact ⟨0, rfl, Nat.zero_le _, World.ownsRow_lit (e := 34) (size := 5) W #[] 0 (Nat.le_refl _) (by simp [maxLen]) rfl, below_box _ _⟩
  case round =>
    obtain ⟨n, rfl, hn, hown, HB⟩ := hrel
    by_cases hlt : n < len
    · have hlt' : (n : Int) < len := by omega
      have hw1 : IntKind.i64.wrap ((n : Int) + 1) = (n : Int) + 1 := IntWalk.i64_in _ (by omega)
      have HLT := Lib.hid hlt
      obtain ⟨b, off, d, rfl, hd, d0, d1, d2, d3, d4⟩ := (HN.out.keep HB.out).node hlt
      have HS := Lib.hid (sort_next hd)
      obtain ⟨ao, co, rfl, hco⟩ := cmds_of_own hown
      have HPP := Lib.hid (HP.out ao (sortMid cs n).length co (sortMid cs n) d (by have := sort_mid_len cs n; have := HL.out; omega) wr hco)
      obtain ⟨q, fk', fv', tk', tv'⟩ := d
      unfold cmdV at HPP
      simp only at d0 d1 d2 d3 d4 HPP
      clear hn hlt hd hown hco
      go_wp2_with fail
      refine HPP.out.mono ?_
      rintro e W2 ⟨⟨sl, rfl, ho⟩, hb2⟩
      have HO := Lib.hid (own_mono ho HB.out.size)
      have HB2 := Lib.hid (below_next HB.out hb2)
      clear ho hb2 d0 d1 d2 d3 d4
      rw [← HS.out] at HO
      go_wp2
      go_roundw
      case rel => exact ⟨n + 1, by go_num, by have := HLT.out; omega, HO.out, HB2⟩
      case measure => have := HLT.out; simp [intOf]; omega
    · have hge : (len : Int) ≤ n := by omega
      have hie : n = cs.length := by have := HE.out; omega
      subst hie
      have HX := Lib.hid (sort_mid_all cs)
      have HO := Lib.hid hown
      clear hn hlt hown
      go_wp2
      go_ret
      exact ⟨⟨_, rfl, by rw [← HX.out]; exact HO.out⟩, HB.out⟩

end Go.Proofs.YtnboodcllmdjeaaGreat

/-
  WALKS: canonical logs of the model, third part: spec.CanonValid.
-/
namespace Go.Proofs.YtnboodcllmdjeaaGreat
open Go.RowKit
end Go.Proofs.YtnboodcllmdjeaaGreat

/-
  WALKS: canonical logs of the model, fourth part: spec.LogCanon, CanonJoin.
-/
namespace Go.Proofs.YtnboodcllmdjeaaGreat
open Go.RowKit
set_option linter.unusedVariables false

def CanRel (cs : List Cmd) (W : World) (o i : Value) (wr : World) : Prop :=
  ∃ (n : Nat) (out : List Cmd), i = .int .i64 n ∧ n ≤ cs.length ∧ wr.ownsRow W.heap.size 34 5 o out.length (flatC out) ∧ Hid (midK cs n = some out) ∧ Hid (Below W.heap.size W wr)

def ChRel (cs : List Cmd) (W : World) (c : Cmd) (n X : Nat) (o : Value) (out : List Cmd) (k : Value) (wr : World) : Prop :=
  ∃ (m : Nat) (d : Cmd), k = .int .i64 m ∧ m ≤ cs.length ∧ d.p = c.p ∧ Hid (Five wr X (.string d.p) (.int .i64 d.fk) (.int .i64 d.fv) (.int .i64 d.tk) (.int .i64 d.tv)) ∧ Hid (chainK c (cs.drop (n + 1)) = chainK d (cs.drop m)) ∧ Hid (wr.ownsRow W.heap.size 34 5 o out.length (flatC out)) ∧ Hid (Below W.heap.size W wr)

theorem own_away {W : World} {base : Nat} {e : TypeId} {size n : Nat} {v : Value} {xs : List Value} (h : W.ownsRow base e size v n xs) {X : Nat} (hX : ∀ k, v.ownBlock = some k → k < X) (o : Nat) (u : Value) : (W.setCell ⟨X, o, none⟩ u).ownsRow base e size v n xs := by
  refine h.kept (row := some X) ⟨rfl, rfl, rfl, by simp [World.setCell], fun k _ hk => Below.heap_setCell _ _ _ _ (fun e => hk (by rw [e]))⟩ ?_
  cases hv : v.ownBlock with
  | none => exact .inl rfl
  | some k => right; exact fun e => by have := hX k hv; cases e; omega

end Go.Proofs.YtnboodcllmdjeaaGreat

/-
  WALKS: canonical logs of the model, fifth part: spec.CanonDiff.
-/
namespace Go.Proofs.YtnboodcllmdjeaaGreat
open Go.RowKit
set_option linter.unusedVariables false

theorem append_where5 {P : Program} {w w' : World} {base n m c : Nat} {t ty e : TypeId} {i : TypeInfo} {z v v' : Value} {xs news : List Value} {a : Addr} (ht : P.underlying t = some (.slice e)) (hi : P.info? e = some i) (hz : i.zero = some z) (hs1 : i.size = 5)
    (hown : w.ownsRow base e 5 v n xs) (hl : news.length = m * 5) (hnews : ∀ j u, news[j]? = some u → w.cell? (a.add j) = some u) (h1 : ∀ u ∈ news, u.oneCell' = true) (h63 : n + m ≤ maxLen) (hbytes : (n + m) * i.bytes ≤ 140737488355328)
    (hr : (Builtin.append_ #[t, t] ty #[v, .slice (some a) m c]).run P w = .ok v' w') (h4 : v' = .slice none 0 0 ↔ v = .slice none 0 0 ∧ m = 0) : SameOrNew w v v' := by
  intro k hk
  have h63' : n + m ≤ 9223372036854775807 := by unfold maxLen at h63; omega
  rcases hown.2 with ⟨rfl, rfl⟩ | ⟨g, cap, cur, rfl, hbg, hg, hnc, hcm, hcs, htake⟩
  · by_cases hm : m = 0
    · rw [h4.2 ⟨rfl, hm⟩] at hk; cases hk
    · have hr2 := run_append_nil (P := P) w t ty e i z ht hi hz a m c news (by rw [hs1]; exact hl) hnews (by omega) (by omega) (by
        rw [Nat.zero_add] at hbytes; omega)
      rw [hr] at hr2
      injection hr2 with e1 _
      rw [e1] at hk
      simp [Value.ownBlock] at hk
      exact .inr (by omega)
  · by_cases hroom : n + m ≤ cap
    · have hr2 := run_append_room (P := P) w t ty e i ht hi g n cap cur hg a m c news (by rw [hs1]; exact hl) hnews h1 hroom (by rw [hs1, hl, hcs]; omega)
      rw [hr] at hr2
      injection hr2 with e1 _
      rw [e1] at hk
      exact .inl hk
    · have hr2 := run_append_grow (P := P) w t ty e i z ht hi hz ⟨g, 0, none⟩ n cap xs (by rw [hs1]; exact hown.1) (hown.cells (g := g) rfl) a m c news (by rw [hs1]; exact hl) hnews (by omega) (by omega) (growslice_fits (by omega) hbytes)
      rw [hr] at hr2
      injection hr2 with e1 _
      rw [e1] at hk
      simp [Value.ownBlock] at hk
      exact .inr (by omega)

theorem wp_append_where5 {P : Program} {w : World} {o : Oper} {a : Act} {K : Act → World → Prop} {Q : Exit → Act → World → Prop} (s x : Operand) (t : TypeId)
    (ho : o.op = .call { callee := .builtin .append, args := #[s, x], argTypes := #[t, t] })
    (base : Nat) (e : TypeId) (i : TypeInfo) (z : Value) (bytes : Nat) (ht : P.underlying t = some (.slice e)) (hi : P.info? e = some i) (hz : i.zero = some z)
    (hsize : i.size = 5) (hby : i.bytes = bytes) (hzs : z.cells.size = 5)
    (v : Value) (n : Nat) (xs : List Value) (hs : a.eval s = v) (hown : w.ownsRow base e 5 v n xs)
    (ad : Addr) (m c : Nat) (news : List Value) (hx : a.eval x = .slice (some ad) m c) (hl : news.length = m * 5) (hnews : ∀ j u, news[j]? = some u → w.cell? (ad.add j) = some u) (h1 : ∀ u ∈ news, u.oneCell' = true)
    (h63 : n + m ≤ maxLen) (hbytes : (n + m) * bytes ≤ 140737488355328) (hbase : base ≤ w.heap.size)
    (h : ∀ v' w', w'.ownsRow base e 5 v' (n + m) (xs ++ news) → w.grownBy w' v.ownBlock → SameOrNew w v v' → K (a.put o.dst v') w') : o.wp P a w K Q := by
  obtain ⟨v', w', hr, h2, h3, h4⟩ := run_append_own (P := P) w base t o.type e i z 5 bytes ht hi hz hsize hby hzs (by decide) v n xs hown ad m c news hl hnews h1 h63 hbytes hbase
  have h5 := append_where5 ht hi hz hsize hown hl hnews h1 h63 (by rw [hby]; exact hbytes) hr h4
  unfold Oper.wp execOp
  simp only [ho, resolve, invoke, builtin, Sem.run_bind, Sem.run_pure, Result.andThen_ok, List.map_toArray, List.map_cons, List.map_nil, hs, hx, hr]
  exact h v' w' h2 h3 h5

theorem TextsAt.drew2 {W : World} {a : Option Addr} {len : Nat} {xs : List ByteArray} (h : TextsAt W a len xs) : TextsAt W.drew a len xs := h

/-- No block of the texts is this one. -/
def FarT (a : Option Addr) (len : Nat) (v : Value) : Prop := ∀ k, v.ownBlock = some k → ∀ b off, a = some ⟨b, off, none⟩ → len ≠ 0 → k ≠ b

theorem texts_far {W W' : World} {a : Option Addr} {len : Nat} {xs : List ByteArray} {v : Value} (h : TextsAt W a len xs) (hg : W.grownBy W' v.ownBlock) (hf : FarT a len v) : TextsAt W' a len xs := by
  obtain ⟨h1, h0 | ⟨b, off, ha, hc⟩⟩ := h
  · exact ⟨h1, .inl h0⟩
  · by_cases h0 : len = 0
    · exact ⟨h1, .inl h0⟩
    · refine ⟨h1, .inr ⟨b, off, ha, fun i x hx => ?_⟩⟩
      have hcell := hc i x hx
      have hlt := World.block_lt_of_cell? W _ hcell
      exact (World.cell?_of_block (hg.block b hlt (fun e => hf b e.symm b off ha h0 rfl))).trans hcell

theorem away_next {w : World} {a : Option Addr} {len : Nat} {v v' : Value} (h : FarT a len v) (hn : SameOrNew w v v') (hb : ∀ b off, a = some ⟨b, off, none⟩ → len ≠ 0 → b < w.heap.size) : FarT a len v' := by
  intro k hk b off ha h0 e
  rcases hn k hk with h1 | h1
  · exact h k h1 b off ha h0 e
  · have := hb b off ha h0; omega

def dfAcc (ns ms : List Nd) (n : Nat) : List Cmd := ((chgL ns ms).take n).map (diffC ns ms)

theorem df_next {ns ms : List Nd} {n : Nat} {q : ByteArray} (h : (chgL ns ms)[n]? = some q) : dfAcc ns ms (n + 1) = dfAcc ns ms n ++ [diffC ns ms q] := by
  unfold dfAcc
  rw [take_push h, List.map_append]
  rfl

theorem df_len {ns ms : List Nd} (h1 : validT ns = true) (h2 : validT ms = true) (n : Nat) : (dfAcc ns ms n).length ≤ 20 := by
  unfold dfAcc
  rw [List.length_map, List.length_take]
  have := chg_bound h1 h2
  omega

theorem texts_lt {W : World} {a : Option Addr} {len : Nat} {xs : List ByteArray} (h : TextsAt W a len xs) : ∀ b off, a = some ⟨b, off, none⟩ → len ≠ 0 → b < W.heap.size := by
  intro b off ha h0
  obtain ⟨b', off', x, ha', _, hc⟩ := h.node (i := 0) (by omega)
  rw [ha] at ha'
  cases ha'
  exact World.block_lt_of_cell? W _ hc

end Go.Proofs.YtnboodcllmdjeaaGreat

/-
  WALKS: impl.CanonDiff.
-/
namespace Go.Proofs.YtnboodcllmdjeaaGreat
open Go.RowKit
set_option linter.unusedVariables false

theorem chg_path {ns ms : List Nd} (h1 : validT ns = true) (h2 : validT ms = true) {i : Nat} {q : ByteArray} (hq : (chgL ns ms)[i]? = some q) : vpB q = true ∧ q.size ≤ 8 := by
  have hv := vp_of_depth (diff_dep h1 h2 ((chg_mem h1 h2 q).1 (List.mem_of_getElem? hq)))
  refine ⟨hv, ?_⟩
  obtain ⟨w, hw, rfl⟩ := vpB_word hv
  exact pB_size hw

theorem diff_short {ns ms : List Nd} (h1 : validT ns = true) (h2 : validT ms = true) : ShortC 2097152 (diffL ns ms) := fun c hc => by
  have := vp_of_depth (diff_dep h1 h2 ((diff_mem h1 h2 c).1 hc).1)
  obtain ⟨w, hw, e⟩ := vpB_word this
  rw [e]
  exact Nat.le_trans (pB_size hw) (by omega)

theorem df_all {ns ms : List Nd} : dfAcc ns ms (chgL ns ms).length = diffL ns ms := by
  unfold dfAcc diffL
  rw [List.take_length]

theorem canonDiff_yes {ns ms : List Nd} (h1 : validT ns = true) (h2 : validT ms = true) : canonDiff ns ms = logCanon (diffL ns ms) := by
  rw [diff_canon h1 h2]
  unfold canonDiff
  rw [h1, h2]
  rfl

def DfRel (ns ms : List Nd) (x3 : Option Addr) (W W3 : World) (o i : Value) (wr : World) : Prop :=
  ∃ n : Nat, i = .int .i64 n ∧ n ≤ (chgL ns ms).length ∧ wr.ownsRow W3.heap.size 34 5 o (dfAcc ns ms n).length (flatC (dfAcc ns ms n)) ∧ Hid (Below W3.heap.size W3 wr)

set_option maxHeartbeats 1000000 in
set_option maxRecDepth 100000 in
theorem implCanonDiff_c (a1 : Option Addr) (len1 cap1 : Nat) (ns : List Nd) (a2 : Option Addr) (len2 cap2 : Nat) (ms : List Nd) (hl1 : len1 ≤ 2097152) (hl2 : len2 ≤ 2097152) (hs1 : Short 2097152 ns) (hs2 : Short 2097152 ms) (W : World) (h1 : NodesAt W a1 len1 ns) (h2 : NodesAt W a2 len2 ms) :
    Calls Tryz.prog 6 #[.slice a1 len1 cap1, .slice a2 len2 cap2] W (MovePost (canonDiff ns ms) W) := by
  obtain ⟨v1, hv1⟩ : ∃ v, validT ns = v := ⟨_, rfl⟩
  obtain ⟨v2, hv2⟩ : ∃ v, validT ms = v := ⟨_, rfl⟩
  have HV1 := Lib.hid (show Calls Tryz.prog 19 #[.slice a1 len1 cap1] W (BoolPost v1 W) by rw [← hv1]; exact implTreeValid_c a1 len1 cap1 ns hl1 hs1 W h1)
  have HV2 := Lib.hid (fun W' (hb : Below W.heap.size W W') => show Calls Tryz.prog 19 #[.slice a2 len2 cap2] W' (BoolPost v2 W') by rw [← hv2]; exact implTreeValid_c a2 len2 cap2 ms hl2 hs2 W' (h2.keep hb))
  have HTC := Lib.hid (fun W' (hb : Below W.heap.size W W') => implTreeChanged_c a1 len1 cap1 ns a2 len2 cap2 ms hl1 hl2 hs1 hs2 W' (h1.keep hb) (h2.keep hb))
  have HG1 := Lib.hid (fun q (hq : q.size ≤ 2097152) W' (hb : Below W.heap.size W W') => implTreeGet_c a1 len1 cap1 ns q hl1 hs1 hq W' (h1.keep hb))
  have HG2 := Lib.hid (fun q (hq : q.size ≤ 2097152) W' (hb : Below W.heap.size W W') => implTreeGet_c a2 len2 cap2 ms q hl2 hs2 hq W' (h2.keep hb))
  have HW1 := Lib.hid hv1
  have HW2 := Lib.hid hv2
  clear h1 h2 hs1 hs2 hl1 hl2 hv1 hv2
  go_enter Tryz.func6, Tryz.ntmps6
  go_wp2_with fail
  refine HV1.out.mono ?_
  rintro e W1 ⟨rfl, hb1⟩
  have B1 := Lib.hid hb1
  clear hb1
  cases v1 with
  | false =>
    have HX := Lib.hid (show canonDiff ns ms = ([], false) by unfold canonDiff; rw [HW1.out]; rfl)
    go_wp2
    go_ret2
    exact move_end HX.out (World.ownsRow_nil _ _ _ _) B1.out
  | true =>
    go_wp2_with fail
    refine (HV2.out _ B1.out).mono ?_
    rintro e W2 ⟨rfl, hb2⟩
    have B2 := Lib.hid (below_next B1.out hb2)
    clear hb2
    cases v2 with
    | false =>
      have HX := Lib.hid (show canonDiff ns ms = ([], false) by unfold canonDiff; rw [HW1.out, HW2.out]; rfl)
      go_wp2
      go_ret2
      exact move_end HX.out (World.ownsRow_nil _ _ _ _) B2.out
    | true =>
      go_wp2_with fail
      refine (HTC.out _ B2.out).mono ?_
      rintro e W3 ⟨⟨s3, rfl, ho3⟩, hb3⟩
      obtain ⟨x3, p3, rfl, ht3⟩ := texts_of_own ho3
      have B3 := Lib.hid (below_next B2.out hb3)
      have HT3 := Lib.hid ht3
      have HL20 := Lib.hid (chg_bound HW1.out HW2.out)
      have HDL := Lib.hid (fun n => df_len HW1.out HW2.out n)
      obtain ⟨L, hL⟩ : ∃ L, (chgL ns ms).length = L := ⟨_, rfl⟩
      rw [hL] at HT3 ⊢
      have HLL := Lib.hid hL
      have hL20 : L ≤ 20 := by rw [← hL]; exact HL20.out
      clear ho3 hb3 ht3 hL
      go_wp2
      go_loopw [6, 21] (fun o i wr => DfRel ns ms x3 W W3 o i wr) (fun _ i _ => L - (intOf i).toNat)
      case atStart => exact ⟨0, rfl, Nat.zero_le _, World.ownsRow_nil _ _ _ _, Below.refl _ _⟩
      case round =>
        obtain ⟨n, rfl, hn, hown, HB⟩ := hrel
        have HO := Lib.hid hown
        rw [HLL.out] at hn
        clear hown
        by_cases hlt : n < L
        · have hlt' : (n : Int) < L := by omega
          obtain ⟨b, off, q, rfl, hq, y0⟩ := (HT3.out.keep HB.out).node hlt
          have HLT := Lib.hid hlt
          have HX := Lib.hid hq
          have HPQ := Lib.hid (chg_path HW1.out HW2.out hq)
          obtain ⟨k1, u1, hg1⟩ : ∃ k v, getT ns q = (k, v) := ⟨_, _, rfl⟩
          obtain ⟨k2, u2, hg2⟩ : ∃ k v, getT ms q = (k, v) := ⟨_, _, rfl⟩
          have HST := Lib.hid (show dfAcc ns ms (n + 1) = dfAcc ns ms n ++ [⟨q, k1, u1, k2, u2⟩] by rw [df_next hq]; unfold diffC; rw [hg1, hg2])
          have HGA := Lib.hid (fun W' (hb : Below W.heap.size W W') => show Calls Tryz.prog 21 #[.slice a1 len1 cap1, .string q] W' (ConRet k1 u1 W') by have := HG1.out q (by have := HPQ.out.2; omega) W' hb; rwa [treeGet_eq HW1.out HPQ.out.1, hg1] at this)
          have HGB := Lib.hid (fun W' (hb : Below W.heap.size W W') => show Calls Tryz.prog 21 #[.slice a2 len2 cap2, .string q] W' (ConRet k2 u2 W') by have := HG2.out q (by have := HPQ.out.2; omega) W' hb; rwa [treeGet_eq HW2.out HPQ.out.1, hg2] at this)
          have HBW := Lib.hid (show Below W.heap.size W wr from B3.out.trans (HB.out.mono B3.out.size))
          clear hn hlt hq hg1 hg2
          go_wp2_with fail
          refine (HGA.out _ HBW.out).mono ?_
          rintro e W4 ⟨rfl, hb4⟩
          have HO4 := Lib.hid (own_below HO.out hb4)
          have HB4 := Lib.hid (And.intro (below_next HBW.out hb4) (HB.out.trans (hb4.mono HB.out.size)))
          clear hb4 y0
          go_wp2_with fail
          refine (HGB.out _ HB4.out.1).mono ?_
          rintro e W5 ⟨rfl, hb5⟩
          have HO5 := Lib.hid (own_below HO4.out hb5)
          have HB5 := Lib.hid (HB4.out.2.trans (hb5.mono HB4.out.2.size))
          clear hb5
          unfold con
          go_wp2_with (at_builtin; refine wpList_append_cmds rfl _ _ rfl W3.heap.size _ (dfAcc ns ms n) rfl (HO5.out.alloc _) _ _ _ [(⟨q, k1, u1, k2, u2⟩ : Cmd)] rfl (cmds_lit W5 ⟨q, k1, u1, k2, u2⟩) (by have := HDL.out n; simp; omega) (by have := HB5.out.size; simp; omega) ?_; intro v6 w6 ho6 hg6)
          have HB6 := Lib.hid ((HB5.out.alloc HB5.out.size _).grown hg6 (by have := HB5.out.size; rw [World.size_alloc]; omega) (fun k e => (HO5.out.lt k e).1))
          rw [← HST.out] at ho6
          clear hg6
          go_roundw
          case rel => exact ⟨n + 1, by go_num, by have := HLT.out; have := HLL.out; omega, ho6, HB6⟩
          case measure => have := HLT.out; simp [intOf]; omega
        · have hnl : n = L := by omega
          subst hnl
          have HO9 := HO.out
          rw [show dfAcc ns ms n = diffL ns ms by rw [← HLL.out]; exact df_all] at HO9
          obtain ⟨xs, hxs⟩ : ∃ xs, diffL ns ms = xs := ⟨_, rfl⟩
          rw [hxs] at HO9
          have HXS := Lib.hid hxs
          obtain ⟨a9, cap9, rfl, hA9⟩ := cmds_of_own HO9
          obtain ⟨out, ok, hr⟩ : ∃ out ok, logCanon xs = (out, ok) := ⟨_, _, rfl⟩
          have HR := Lib.hid (show canonDiff ns ms = (out, ok) by rw [canonDiff_yes HW1.out HW2.out, hxs]; exact hr)
          have HXL : xs.length ≤ 20 := by rw [← hxs]; unfold diffL; rw [List.length_map]; exact HL20.out
          have HLC := Lib.hid (show Calls Tryz.prog 22 #[.slice a9 xs.length cap9] wr (MovePost (out, ok) wr) by
            have := logCanon_c a9 xs.length cap9 xs (by omega) (by rw [← hxs]; exact diff_short HW1.out HW2.out) wr hA9
            rwa [hr] at this)
          have HBW := Lib.hid (show Below W.heap.size W wr from B3.out.trans (HB.out.mono B3.out.size))
          clear hr hxs HXL HO9 hA9 hlt hn
          go_wp2_with fail
          refine HLC.out.mono ?_
          rintro e W9 ⟨sl, rfl, ho, hb⟩
          have HO9 := Lib.hid ho
          have HB9 := Lib.hid (And.intro (below_next HBW.out hb) HBW.out.size)
          clear ho hb
          go_wp2
          go_ret2
          exact move_end HR.out (own_lower HO9.out HB9.out.2) HB9.out.1

end Go.Proofs.YtnboodcllmdjeaaGreat

/-
  WALKS: spec.CanonDiff.
-/
namespace Go.Proofs.YtnboodcllmdjeaaGreat
open Go.RowKit
set_option linter.unusedVariables false

theorem df_end {L n b off : Nat} {xs : List ByteArray} {q : ByteArray} {W wr WD w4 : World} {u v4 : Value} {o : Obj} (hT : TextsAt wr (some ⟨b, off, none⟩) L xs) (hK : FarT (some ⟨b, off, none⟩) L u) (hlt : ∀ b' off', (some ⟨b, off, none⟩ : Option Addr) = some ⟨b', off', none⟩ → L ≠ 0 → b' < wr.heap.size)
    (hB9 : Below wr.heap.size wr WD) (hc : (WD.alloc o).cell? ⟨b, off + n, none⟩ = some (.string q)) (hn : n < L) (hBW : Below W.heap.size W WD) (hlow : ∀ k, u.ownBlock = some k → W.heap.size ≤ k) (hg : (WD.alloc o).grownBy w4 u.ownBlock) (hs : SameOrNew (WD.alloc o) u v4) :
    Hid (Below W.heap.size W w4 ∧ w4.cell? ⟨b, off + n, none⟩ = some (.string q)) ∧ Hid (TextsAt w4 (some ⟨b, off, none⟩) L xs) ∧ Hid (FarT (some ⟨b, off, none⟩) L v4) := by
  have hL : L ≠ 0 := by omega
  have hTA : TextsAt (WD.alloc o) (some ⟨b, off, none⟩) L xs := (hT.keep hB9).keep (below_box WD o)
  have hT4 := texts_far hTA hg hK
  refine ⟨⟨(hBW.alloc hBW.size o).grown hg (by have := hBW.size; rw [World.size_alloc]; omega) hlow, ?_⟩, hT4, away_next hK hs (fun b' off' e h0 => by have := hlt b' off' e h0; have := hB9.size; rw [World.size_alloc]; omega)⟩
  exact (World.cell?_of_block (hg.block b (World.block_lt_of_cell? _ _ hc) (fun e => hK b e.symm b off rfl hL rfl))).trans hc

set_option maxHeartbeats 2000000 in
set_option maxRecDepth 100000 in
theorem specCanonDiff_c (a1 : Option Addr) (len1 cap1 : Nat) (ns : List Nd) (a2 : Option Addr) (len2 cap2 : Nat) (ms : List Nd) (hl1 : len1 ≤ 2097152) (hl2 : len2 ≤ 2097152) (hs1 : Short 2097152 ns) (hs2 : Short 2097152 ms) (W : World) (h1 : NodesAt W a1 len1 ns) (h2 : NodesAt W a2 len2 ms) :
    Calls Tryz.prog 7 #[.slice a1 len1 cap1, .slice a2 len2 cap2] W (MovePost (canonDiff ns ms) W) := by
  obtain ⟨i0, hi, hz0, hz1, hz2⟩ := info_parts infoCmd
  obtain ⟨v1, hv1⟩ : ∃ v, validT ns = v := ⟨_, rfl⟩
  obtain ⟨v2, hv2⟩ : ∃ v, validT ms = v := ⟨_, rfl⟩
  have HV1 := Lib.hid (fun W' (hb : Below W.heap.size W W') => show Calls Tryz.prog 23 #[.slice a1 len1 cap1] W' (BoolPost v1 W') by rw [← hv1]; exact specTreeValid_c a1 len1 cap1 ns hl1 hs1 W' (h1.keep hb))
  have HV2 := Lib.hid (fun W' (hb : Below W.heap.size W W') => show Calls Tryz.prog 23 #[.slice a2 len2 cap2] W' (BoolPost v2 W') by rw [← hv2]; exact specTreeValid_c a2 len2 cap2 ms hl2 hs2 W' (h2.keep hb))
  have HTC := Lib.hid (fun W' (hb : Below W.heap.size W W') => specTreeChanged_c a1 len1 cap1 ns a2 len2 cap2 ms hl1 hl2 hs1 hs2 W' (h1.keep hb) (h2.keep hb))
  have HG1 := Lib.hid (fun q W' (hb : Below W.heap.size W W') => l3Get_c a1 len1 cap1 ns q hl1 W' (h1.keep hb))
  have HG2 := Lib.hid (fun q W' (hb : Below W.heap.size W W') => l3Get_c a2 len2 cap2 ms q hl2 W' (h2.keep hb))
  have HW1 := Lib.hid hv1
  have HW2 := Lib.hid hv2
  have HO0 := Lib.hid (show (W.alloc (.cells #[] 34)).ownsRow W.heap.size 34 5 (.slice (some ⟨W.heap.size, 0, none⟩) 0 0) ([] : List Cmd).length (flatC []) from World.ownsRow_lit (e := 34) (size := 5) W #[] 0 (Nat.le_refl _) (by simp [maxLen]) rfl)
  clear h1 h2 hs1 hs2 hl1 hl2 hv1 hv2
  go_enter Tryz.func7, Tryz.ntmps7
  go_wp2_with fail
  refine (HV1.out _ (below_box _ _)).mono ?_
  rintro e W1 ⟨rfl, hb1⟩
  have B1 := Lib.hid (below_next (below_box W _) hb1)
  have HO1 := Lib.hid (own_below HO0.out hb1)
  clear hb1
  cases v1 with
  | false =>
    have HX := Lib.hid (show canonDiff ns ms = ([], false) by unfold canonDiff; rw [HW1.out]; rfl)
    go_wp2
    go_ret2
    exact move_end HX.out HO1.out B1.out
  | true =>
    go_wp2_with fail
    refine (HV2.out _ B1.out).mono ?_
    rintro e W2 ⟨rfl, hb2⟩
    have B2 := Lib.hid (below_next B1.out hb2)
    have HO2 := Lib.hid (own_below HO1.out hb2)
    clear hb2
    cases v2 with
    | false =>
      have HX := Lib.hid (show canonDiff ns ms = ([], false) by unfold canonDiff; rw [HW1.out, HW2.out]; rfl)
      go_wp2
      go_ret2
      exact move_end HX.out HO2.out B2.out
    | true =>
      go_wp2_with fail
      refine (HTC.out _ B2.out).mono ?_
      rintro e W3 ⟨⟨s3, rfl, ho3⟩, hb3⟩
      obtain ⟨x3, p3, rfl, ht3⟩ := texts_of_own ho3
      have B3 := Lib.hid (below_next B2.out hb3)
      have HO3 := Lib.hid (own_below HO2.out hb3)
      have HT3 := Lib.hid ht3
      have HK3 : Hid (FarT x3 (chgL ns ms).length (.slice (some ⟨W.heap.size, 0, none⟩) 0 0)) := by
        intro k hk b off ha h0 e
        cases hk
        subst ha
        have h4 := (ho3.lt b rfl).1
        have h5 := (HO2.out.lt W.heap.size rfl).2
        have e2 : W.heap.size = b := e
        omega
      have HL20 := Lib.hid (chg_bound HW1.out HW2.out)
      have HDL := Lib.hid (fun n => df_len HW1.out HW2.out n)
      clear ho3 hb3 ht3
      go_wp2_with fail
      go_loopw [6, 8] (fun o i wr => ∃ n : Nat, i = .int .i64 n ∧ n ≤ (chgL ns ms).length ∧ wr.ownsRow W.heap.size 34 5 o (dfAcc ns ms n).length (flatC (dfAcc ns ms n)) ∧ Hid (FarT x3 (chgL ns ms).length o) ∧ Hid (TextsAt wr x3 (chgL ns ms).length (chgL ns ms)) ∧ Hid (Below W.heap.size W wr)) (fun _ i _ => (chgL ns ms).length - (intOf i).toNat)
      case atStart => exact ⟨0, rfl, Nat.zero_le _, HO3.out, HK3, HT3, B3⟩
      case round =>
        obtain ⟨n, rfl, hn, hown, HOK, HT, HB⟩ := hrel
        by_cases hlt : n < (chgL ns ms).length
        · have hlt' : (n : Int) < (chgL ns ms).length := by omega
          have hw1 : IntKind.i64.wrap ((n : Int) + 1) = (n : Int) + 1 := IntWalk.i64_in _ (by have := HL20.out; omega)
          have HLT := Lib.hid hlt
          have HTL := Lib.hid (texts_lt HT.out)
          obtain ⟨b, off, q, rfl, hq, y0⟩ := HT.out.node hlt
          have HX := Lib.hid hq
          obtain ⟨k1, v1, hg1⟩ : ∃ k v, getT ns q = (k, v) := ⟨_, _, rfl⟩
          obtain ⟨k2, v2, hg2⟩ : ∃ k v, getT ms q = (k, v) := ⟨_, _, rfl⟩
          have HGA := Lib.hid (fun W' (hb : Below W.heap.size W W') => show Calls Tryz.prog 25 #[.slice a1 len1 cap1, .string q] W' (ConRet k1 v1 W') by have := HG1.out q W' hb; rwa [hg1] at this)
          have HGB := Lib.hid (fun W' (hb : Below W.heap.size W W') => show Calls Tryz.prog 25 #[.slice a2 len2 cap2, .string q] W' (ConRet k2 v2 W') by have := HG2.out q W' hb; rwa [hg2] at this)
          have HST := Lib.hid (show dfAcc ns ms (n + 1) = dfAcc ns ms n ++ [⟨q, k1, v1, k2, v2⟩] by rw [df_next hq]; unfold diffC; rw [hg1, hg2])
          have HAL := Lib.hid (HDL.out n)
          have HO := Lib.hid hown
          have HS0 : Hid (Below W.heap.size W wr.drew ∧ wr.drew.cell? ⟨b, off + n, none⟩ = some (.string q)) := ⟨HB.out.drew, y0⟩
          clear hn hlt hq hg1 hg2 hown
          go_upto_region 8 with (fail)
          have HOW : Hid (wr.drew.ownsRow W.heap.size 34 5 u6 (dfAcc ns ms n).length (flatC (dfAcc ns ms n))) := row_drew HO.out
          have HKP : Hid (∀ w1 w2 : World, (Below W.heap.size W w1 ∧ w1.cell? ⟨b, off + n, none⟩ = some (.string q)) → Below w1.heap.size w1 w2 → (Below W.heap.size W w2 ∧ w2.cell? ⟨b, off + n, none⟩ = some (.string q))) := fun w1 w2 h hb => ⟨below_next h.1 hb, cell_kept hb h.2⟩
          clear y0
          unfold con at HGA HGB
          go_region_held3 (fun w' => Below W.heap.size W w' ∧ w'.cell? ⟨b, off + n, none⟩ = some (.string q))
            (first | exact HS0.out | exact hS4.out | exact HS9.out | exact HSA.out | exact HSB.out | exact HKP.out _ _ (by assumption) (below_box _ _))
            (first
              | (go_at_call 25; (with_reducible refine (HGA.out _ HS0.out.1).mono ?_); rintro e WA ⟨rfl, hbA⟩; have HSA := Lib.hid (HKP.out _ _ HS0.out hbA); have HBA := Lib.hid (show Below wr.heap.size wr WA from below_next (Below.refl _ _).drew hbA); have HOA := Lib.hid (own_below HOW.out hbA); clear hbA)
              | (go_at_call 25; (with_reducible refine (HGB.out _ HSA.out.1).mono ?_); rintro e WD ⟨rfl, hbD⟩; have HS9 := Lib.hid (HKP.out _ _ HSA.out hbD); have HB9 := Lib.hid (below_next HBA.out hbD); have HO9 := Lib.hid (own_below HOA.out hbD); clear hbD)
              | (go_at_call 25; (with_reducible refine (HGB.out _ HS0.out.1).mono ?_); rintro e WB ⟨rfl, hbB⟩; have HSB := Lib.hid (HKP.out _ _ HS0.out hbB); have HBB := Lib.hid (show Below wr.heap.size wr WB from below_next (Below.refl _ _).drew hbB); have HOB := Lib.hid (own_below HOW.out hbB); clear hbB)
              | (go_at_call 25; (with_reducible refine (HGA.out _ HSB.out.1).mono ?_); rintro e WD ⟨rfl, hbD⟩; have HS9 := Lib.hid (HKP.out _ _ HSB.out hbD); have HB9 := Lib.hid (below_next HBB.out hbD); have HO9 := Lib.hid (own_below HOB.out hbD); clear hbD)
              | (rw [if_pos (by rfl)]; refine wp_append_where5 _ _ 26 rfl W.heap.size 34 i0 (.agg #[.string ⟨#[]⟩, .int .i64 0, .int .i64 0, .int .i64 0, .int .i64 0]) 48 Tryz.underlying26 hi hz0 hz1 hz2 rfl u6 (dfAcc ns ms n).length (flatC (dfAcc ns ms n)) rfl (HO9.out.alloc _) ⟨WD.heap.size, 0, none⟩ 1 1 (flatC [(⟨q, k1, v1, k2, v2⟩ : Cmd)]) rfl rfl (cmds_cells (cmds_lit WD ⟨q, k1, v1, k2, v2⟩)) (flatC_cell1 _) (by have := HAL.out; unfold maxLen; omega) (by have := HAL.out; omega) (by have := HS9.out.1.size; rw [World.size_alloc]; omega) ?_; intro v4 w4 ho4 hg4 hn4; obtain ⟨hS4, HT4, HK4⟩ := df_end HT.out HOK.out HTL.out HB9.out (HKP.out _ _ HS9.out (below_box _ _)).2 HLT.out HS9.out.1 (fun k e => (HO9.out.lt k e).1) hg4 hn4))
          all_goals
            have ho4' : w4.ownsRow W.heap.size 34 5 v4 (dfAcc ns ms (n + 1)).length (flatC (dfAcc ns ms (n + 1))) := by rw [HST.out, flatC_append, List.length_append]; exact ho4
            clear ho4 hg4 hn4
            go_wp2
            go_roundw
            case rel => exact ⟨n + 1, by go_num, HLT.out, ho4', HK4, HT4, hS4.out.1⟩
            case measure => have := HLT.out; simp [intOf]; omega
        · have hnl : n = (chgL ns ms).length := by omega
          subst hnl
          have HO9 := hown
          rw [df_all] at HO9
          obtain ⟨xs, hxs⟩ : ∃ xs, diffL ns ms = xs := ⟨_, rfl⟩
          rw [hxs] at HO9
          obtain ⟨a9, cap9, rfl, hA9⟩ := cmds_of_own HO9
          have HR := Lib.hid (show canonDiff ns ms = (sortK xs, true) by rw [canonDiff_yes HW1.out HW2.out, diff_canon HW1.out HW2.out, hxs])
          have HXL : xs.length ≤ 20 := by rw [← hxs]; unfold diffL; rw [List.length_map]; exact HL20.out
          have HLC := Lib.hid (specSort_c a9 xs.length cap9 xs (by omega) wr hA9)
          clear hown HXL HO9 hA9 hlt hn
          go_wp2_with fail
          refine HLC.out.mono ?_
          rintro e W9 ⟨⟨sl, rfl, ho⟩, hb⟩
          have HO9 := Lib.hid ho
          have HB9 := Lib.hid (And.intro (below_next HB.out hb) HB.out.size)
          clear ho hb
          go_wp2
          go_ret2
          exact move_end HR.out (own_lower HO9.out HB9.out.2) HB9.out.1

end Go.Proofs.YtnboodcllmdjeaaGreat

/-
  WALKS: laws.toNode, laws.toNodeS, laws.szNodeS: lists of nodes that come from outside.
-/
namespace Go.Proofs.YtnboodcllmdjeaaGreat
open Go.RowKit
set_option linter.unusedVariables false

/-- A node as a value. -/
abbrev nodeV (n : Nd) : Value := .agg #[.string n.p, .int .i64 n.k, .int .i64 n.v]

def NodeRet (n : Nd) (w : World) (e : Ending) (w' : World) : Prop := e = .returned (nodeV n) ∧ Below w.heap.size w w'

theorem node_results (s : Nat) (fn : Func) (hf : fn.results = #[.cell s 56]) (W : World) (g : Nat) (n : Nd) (tmps : Array Value) (ht : tmps[s]? = some (.pointer (some ⟨g, 0, none⟩)))
    (h : W.cell? ⟨g, 0, none⟩ = some (.string n.p) ∧ W.cell? ⟨g, 1, none⟩ = some (.int .i64 n.k) ∧ W.cell? ⟨g, 2, none⟩ = some (.int .i64 n.v)) : (results fn tmps).run Tryz.prog W = .ok (nodeV n) W := by
  obtain ⟨c0, c1, c2⟩ := h
  simp [results, hf, go_sem, ht, c0, c1, c2]

/-- A block of cells of the call's own. -/
def Blk (W : World) (g : Nat) (cs : Array Value) (t : TypeId) : Prop := W.heap[g]? = some (.cells cs t (0, 0))

theorem blk_new (W : World) (cs : Array Value) (t : TypeId) : Blk (W.alloc (.cells cs t)) W.heap.size cs t := World.alloc_heap_new _ _
theorem Blk.lt {W : World} {g : Nat} {cs : Array Value} {t : TypeId} (h : Blk W g cs t) : g < W.heap.size := by
  unfold Blk at h
  exact (Array.getElem?_eq_some_iff.1 h).1
theorem Blk.below {W W' : World} {g : Nat} {cs : Array Value} {t : TypeId} (h : Blk W g cs t) (hb : Below W.heap.size W W') : Blk W' g cs t := (hb.block g h.lt).trans h
theorem Blk.cell {W : World} {g : Nat} {cs : Array Value} {t : TypeId} (h : Blk W g cs t) (i : Nat) : W.cell? ⟨g, i, none⟩ = cs[i]? := cell_of_row W g i cs t (0, 0) h
theorem Blk.frozen {W : World} {g : Nat} {cs : Array Value} {t : TypeId} (h : Blk W g cs t) (i : Nat) : W.frozen? ⟨g, i, none⟩ = false := frozen_of_row W g i cs t h
theorem Blk.set {W : World} {g : Nat} {cs : Array Value} {t : TypeId} (h : Blk W g cs t) (i : Nat) (u : Value) : Blk (W.setCell ⟨g, i, none⟩ u) g (cs.setIfInBounds i u) t := heap_setCell_same W g i cs t u h
theorem Blk.setOther {W : World} {g : Nat} {cs : Array Value} {t : TypeId} (h : Blk W g cs t) (a : Addr) (u : Value) (ha : g ≠ a.block) : Blk (W.setCell a u) g cs t := (heap_setCell_other W a g u ha).trans h

set_option maxHeartbeats 1000000 in
theorem toNode_c (n : Nd) (w : World) : Calls Tryz.prog 29 #[nodeV n] w (NodeRet n w) := by
  obtain ⟨p, k, v⟩ := n
  have HT := Lib.hid (fun w => toContent_c k v w)
  unfold con at HT
  unfold nodeV
  go_enter Tryz.func29, Tryz.ntmps29
  go_wp2_with fail
  refine (HT.out _).mono ?_; rintro e W1 ⟨rfl, hb1⟩
  have hx : w.heap.size + 1 + 1 = ((w.alloc (.cells #[.string p, .int .i64 k, .int .i64 v] 54)).alloc (.cells #[.string ⟨#[]⟩, .int .i64 0, .int .i64 0] 56)).heap.size := by simp
  have K3 := Lib.hid (show Blk W1 (w.heap.size + 1 + 1) #[.string p, .int .i64 0, .int .i64 0] 56 by rw [hx]; exact (blk_new _ _ _).below hb1)
  have hy : w.heap.size + 1 = (w.alloc (.cells #[.string p, .int .i64 k, .int .i64 v] 54)).heap.size := by simp
  have K2 := Lib.hid (show Blk W1 (w.heap.size + 1) #[.string ⟨#[]⟩, .int .i64 0, .int .i64 0] 56 by rw [hy]; exact ((blk_new _ _ _).below (below_box _ _)).below hb1)
  have B1 := Lib.hid (below_next (below_box w _) (below_next (below_box _ _) (below_next (below_box _ _) hb1)))
  have s1 : W1.cell? ⟨w.heap.size + 1 + 1, 1, none⟩ = some (.int .i64 0) := K3.out.cell 1
  have s2 : W1.cell? ⟨w.heap.size + 1 + 1, 2, none⟩ = some (.int .i64 0) := K3.out.cell 2
  have s0 : W1.cell? ⟨w.heap.size + 1 + 1, 0, none⟩ = some (.string p) := K3.out.cell 0
  have z1 := K3.out.frozen 1
  have z2 := K3.out.frozen 2
  have r0 : W1.cell? ⟨w.heap.size + 1, 0, none⟩ = some (.string ⟨#[]⟩) := K2.out.cell 0
  have r1 : W1.cell? ⟨w.heap.size + 1, 1, none⟩ = some (.int .i64 0) := K2.out.cell 1
  have r2 : W1.cell? ⟨w.heap.size + 1, 2, none⟩ = some (.int .i64 0) := K2.out.cell 2
  have y0 := K2.out.frozen 0
  have y1 := K2.out.frozen 1
  have y2 := K2.out.frozen 2
  clear hb1 hx hy
  unfold con
  go_wp2
  have K4 := (((((K2.out.setOther ⟨w.heap.size + 1 + 1, 1, none⟩ (.int .i64 k) (by simp)).setOther ⟨w.heap.size + 1 + 1, 2, none⟩ (.int .i64 v) (by simp)).set 0 (.string p)).set 1 (.int .i64 k)).set 2 (.int .i64 v))
  refine bodyPost_ret (node_results 2 _ rfl _ (w.heap.size + 1) ⟨p, k, v⟩ _ rfl ⟨K4.cell 0, K4.cell 1, K4.cell 2⟩) rfl ⟨rfl, ?_⟩
  exact below_setCell (below_setCell (below_setCell (below_setCell (below_setCell B1.out _ _ (by simp; omega)) _ _ (by simp; omega)) _ _ (by simp)) _ _ (by simp)) _ _ (by simp)

theorem flatN_take_set : ∀ (ns : List Nd) (i : Nat) (n : Nd) (zs : List Value), ns[i]? = some n → 3 ≤ zs.length →
    (((flatN (ns.take i) ++ zs).set (i * 3) (.string n.p)).set (i * 3 + 1) (.int .i64 n.k)).set (i * 3 + 2) (.int .i64 n.v) = flatN (ns.take (i + 1)) ++ zs.drop 3 := by
  intro ns i n zs hn hz
  have hi := (List.getElem?_eq_some_iff.1 hn).1
  have hl : (flatN (ns.take i)).length = i * 3 := by rw [flatN_length, List.length_take]; omega
  rw [List.take_add_one, hn, flatN_append]
  match zs, hz with
  | a :: b :: c :: r, _ =>
    show _ = (flatN (ns.take i) ++ [.string n.p, .int .i64 n.k, .int .i64 n.v]) ++ r
    rw [List.set_append_right _ _ (by omega), hl, show i * 3 - i * 3 = 0 by omega]
    rw [List.set_append_right _ _ (by omega), hl, show i * 3 + 1 - i * 3 = 1 by omega]
    rw [List.set_append_right _ _ (by omega), hl, show i * 3 + 2 - i * 3 = 2 by omega]
    simp

theorem below_of_none {W w : World} (h : W.grownBy w none) : Below W.heap.size W w := ⟨h.os, h.tape, h.output, h.size, fun k hk => h.block k hk (by simp)⟩

theorem stored3 {W : World} {base : Nat} {e : TypeId} {g cap n : Nat} {xs : List Value} (h : W.ownsRow base e 3 (.slice (some ⟨g, 0, none⟩) n cap) n xs) (j : Nat) (u v x : Value) :
    (((W.setCell ⟨g, j, none⟩ u).setCell ⟨g, j + 1, none⟩ v).setCell ⟨g, j + 2, none⟩ x).ownsRow base e 3 (.slice (some ⟨g, 0, none⟩) n cap) n (((xs.set j u).set (j + 1) v).set (j + 2) x) :=
  ((((h.stored j u).1.stored (j + 1) v).1).stored (j + 2) x).1

def ToRel (ns : List Nd) (len : Nat) (W : World) (i : Value) (wr : World) : Prop :=
  ∃ (n : Nat) (zs : List Value), i = .int .i64 n ∧ n ≤ len ∧ zs.length = (len - n) * 3 ∧ wr.ownsRow W.heap.size 56 3 (.slice (some ⟨W.heap.size, 0, none⟩) len len) len (flatN (ns.take n) ++ zs) ∧ Hid (Below W.heap.size W wr)

set_option maxHeartbeats 2000000 in
set_option maxRecDepth 100000 in
theorem toNodeS_c (a : Option Addr) (len cap : Nat) (ns : List Nd) (hl : len ≤ 2097152) (W : World) (hN : NodesAt W a len ns) :
    Calls Tryz.prog 12 #[.slice a len cap] W fun e W' => OwnsNodes W.heap.size ns e W' ∧ Below W.heap.size W W' := by
  obtain ⟨i0, hi, hz0, hz1, hz2⟩ := info_parts infoNode
  have HN := Lib.hid hN
  have HE := Lib.hid hN.1
  have HT := Lib.hid (fun n w => toNode_c n w)
  have HL := Lib.hid hl
  clear hN
  go_enter Tryz.func12, Tryz.ntmps12
  go_wp2_with (refine wpList_make_full _ rfl _ _ 23 rfl W.heap.size 56 i0 (.agg #[.string ⟨#[]⟩, .int .i64 0, .int .i64 0]) 3 Tryz.underlying23 hi hz0 hz1 .i64 .i64 _ _ len rfl rfl rfl rfl (by rw [hz2]; omega) (by unfold maxLen; omega) (Nat.le_refl _) ?_; intro w1 hown1 hg1)
  have hb1 := below_of_none hg1
  clear hg1
  go_loopw [4] (fun i wr => ToRel ns len W i wr) (fun i _ => len - (intOf i).toNat)
  case atStart =>
    refine ⟨0, _, rfl, by omega, ?_, (by simpa [flatN_nil] using hown1), hb1⟩
    have := hown1.1
    omega
  case round =>
    obtain ⟨i, zs, rfl, hi1, hzl, hown, HB⟩ := hrel
    by_cases hlt : i < len
    · obtain ⟨b, off, n, rfl, hn, c0, c1, c2⟩ := (HN.out.keep HB.out).node hlt
      have hlt' : (i : Int) < len := by omega
      have HLT := Lib.hid hlt
      have HNN := Lib.hid hn
      have hz3 : 3 ≤ zs.length := by omega
      have HZ := Lib.hid (And.intro hzl hz3)
      obtain ⟨p, k, v⟩ := n
      have HTN := Lib.hid (fun w => HT.out ⟨p, k, v⟩ w)
      unfold nodeV NodeRet at HTN
      clear hi1 hlt hn hzl hz3 hown1
      go_wp2_with fail
      refine (HTN.out _).mono ?_; rintro e W2 ⟨rfl, hb2⟩
      have HO2 := Lib.hid (own_below hown hb2)
      have HB2 := Lib.hid (below_next HB.out hb2)
      clear hown hb2 c0 c1 c2
      have hll : (flatN (ns.take i)).length = i * 3 := by rw [flatN_length, List.length_take]; have := HE.out; have := HLT.out; omega
      have cell : ∀ j, j < 3 → ∃ u, W2.cell? ⟨W.heap.size, i * 3 + j, none⟩ = some u := by
        intro j hj
        have hx := HZ.out.1
        have hy := HLT.out
        rw [HO2.out.cellAt _ (by omega)]
        exact ⟨_, List.getElem?_eq_getElem (by rw [List.length_append, hll]; omega)⟩
      obtain ⟨u0, e0⟩ := cell 0 (by omega)
      replace e0 : W2.cell? ⟨W.heap.size, i * 3, none⟩ = some u0 := e0
      obtain ⟨u1, e1⟩ := cell 1 (by omega)
      obtain ⟨u2, e2⟩ := cell 2 (by omega)
      have y0 := HO2.out.frozenAt (i * 3)
      have y1 := HO2.out.frozenAt (i * 3 + 1)
      have y2 := HO2.out.frozenAt (i * 3 + 2)
      clear cell hll
      go_wp2
      have HS3 := stored3 HO2.out (i * 3) (.string p) (.int .i64 k) (.int .i64 v)
      rw [flatN_take_set ns i ⟨p, k, v⟩ zs HNN.out HZ.out.2] at HS3
      go_roundw
      case rel => exact ⟨i + 1, zs.drop 3, by go_num, by have := HLT.out; omega, by rw [List.length_drop]; have h1 := HZ.out.1; have h2 := HZ.out.2; have h3 := HLT.out; omega, HS3, below_setCell (below_setCell (below_setCell HB2.out _ _ (Nat.le_refl _)) _ _ (Nat.le_refl _)) _ _ (Nat.le_refl _)⟩
      case measure => have := HLT.out; simp [intOf]; omega
    · have hge : (len : Int) ≤ i := by omega
      have hz0' : zs = [] := List.eq_nil_of_length_eq_zero (by omega)
      subst hz0'
      rw [List.append_nil, List.take_of_length_le (by have := HE.out; omega)] at hown
      clear hi1 hlt
      go_wp2
      go_ret
      exact ⟨⟨_, rfl, by have h := HE.out; rw [h]; exact hown⟩, HB.out⟩

end Go.Proofs.YtnboodcllmdjeaaGreat

/-
  WALKS: lists of commands in the laws: laws.toCommandS, szCommandS, eqCommandS, sameLog.
-/
namespace Go.Proofs.YtnboodcllmdjeaaGreat
open Go.RowKit
set_option linter.unusedVariables false

theorem flatC_take_set : ∀ (cs : List Cmd) (i : Nat) (c : Cmd) (zs : List Value), cs[i]? = some c → 5 ≤ zs.length →
    (((((flatC (cs.take i) ++ zs).set (i * 5) (.string c.p)).set (i * 5 + 1) (.int .i64 c.fk)).set (i * 5 + 2) (.int .i64 c.fv)).set (i * 5 + 3) (.int .i64 c.tk)).set (i * 5 + 4) (.int .i64 c.tv) = flatC (cs.take (i + 1)) ++ zs.drop 5 := by
  intro cs i c zs hn hz
  have hi := (List.getElem?_eq_some_iff.1 hn).1
  have hl : (flatC (cs.take i)).length = i * 5 := by rw [flatC_length, List.length_take]; omega
  rw [List.take_add_one, hn, flatC_append]
  match zs, hz with
  | a :: b :: c' :: d :: e :: r, _ =>
    show _ = (flatC (cs.take i) ++ [.string c.p, .int .i64 c.fk, .int .i64 c.fv, .int .i64 c.tk, .int .i64 c.tv]) ++ r
    rw [List.set_append_right _ _ (by omega), hl, show i * 5 - i * 5 = 0 by omega]
    rw [List.set_append_right _ _ (by omega), hl, show i * 5 + 1 - i * 5 = 1 by omega]
    rw [List.set_append_right _ _ (by omega), hl, show i * 5 + 2 - i * 5 = 2 by omega]
    rw [List.set_append_right _ _ (by omega), hl, show i * 5 + 3 - i * 5 = 3 by omega]
    rw [List.set_append_right _ _ (by omega), hl, show i * 5 + 4 - i * 5 = 4 by omega]
    simp

theorem stored5 {W : World} {base : Nat} {e : TypeId} {g cap n : Nat} {xs : List Value} (h : W.ownsRow base e 5 (.slice (some ⟨g, 0, none⟩) n cap) n xs) (j : Nat) (u v x y z : Value) :
    (((((W.setCell ⟨g, j, none⟩ u).setCell ⟨g, j + 1, none⟩ v).setCell ⟨g, j + 2, none⟩ x).setCell ⟨g, j + 3, none⟩ y).setCell ⟨g, j + 4, none⟩ z).ownsRow base e 5 (.slice (some ⟨g, 0, none⟩) n cap) n (((((xs.set j u).set (j + 1) v).set (j + 2) x).set (j + 3) y).set (j + 4) z) :=
  ((((((h.stored j u).1.stored (j + 1) v).1).stored (j + 2) x).1.stored (j + 3) y).1.stored (j + 4) z).1

def ToRelC (cs : List Cmd) (len : Nat) (W : World) (i : Value) (wr : World) : Prop :=
  ∃ (n : Nat) (zs : List Value), i = .int .i64 n ∧ n ≤ len ∧ zs.length = (len - n) * 5 ∧ wr.ownsRow W.heap.size 34 5 (.slice (some ⟨W.heap.size, 0, none⟩) len len) len (flatC (cs.take n) ++ zs) ∧ Hid (Below W.heap.size W wr)

/-- What is left; if anything is, the list and its texts are of modest length. -/
def SzCmds (len : Nat) (cs : List Cmd) (w : World) (e : Ending) (w' : World) : Prop := ∃ z : Int, e = .returned (.int .i64 z) ∧ z ≤ 1048576 ∧ (0 ≤ z → len ≤ 1048576 ∧ ShortC 1048576 cs) ∧ Below w.heap.size w w'

def SzRelC (len : Nat) (cs : List Cmd) (w : World) (l i : Value) (wr : World) : Prop :=
  ∃ (n : Nat) (z : Int), i = .int .i64 n ∧ n ≤ len ∧ l = .int .i64 z ∧ Hid (0 ≤ z ∧ z ≤ 1048576) ∧ Hid (∀ j m, j < n → cs[j]? = some m → m.p.size ≤ 1048576) ∧ Hid (Below w.heap.size w wr)

/-- Two lists of commands that read alike. -/
def EqRelC (len : Nat) (W : World) (i : Value) (wr : World) : Prop := ∃ n : Nat, i = .int .i64 n ∧ n ≤ len ∧ Hid (Below W.heap.size W wr)

set_option maxHeartbeats 2000000 in
set_option maxRecDepth 100000 in
theorem eqCommandS_c (a1 a2 : Option Addr) (len c1 c2 : Nat) (cs : List Cmd) (hl : len ≤ 2097152) (W : World) (h1 : CmdsAt W a1 len cs) (h2 : CmdsAt W a2 len cs) :
    Calls Tryz.prog 13 #[.slice a1 len c1, .slice a2 len c2] W (BoolPost true W) := by
  have H1 := Lib.hid h1
  have H2 := Lib.hid h2
  have HC := Lib.hid (fun c w => eqCommand_c c w)
  unfold cmdV at HC
  have hl' : (len : Int) ≤ 2097152 := by omega
  clear h1 h2
  go_enter Tryz.func13, Tryz.ntmps13
  go_wp2
  go_loopw [5] (fun i wr => EqRelC len W i wr) (fun i _ => len - (intOf i).toNat)
  case atStart => exact ⟨0, rfl, by omega, Below.refl _ _⟩
  case round =>
    obtain ⟨i, rfl, hi, HB⟩ := hrel
    by_cases hlt : i < len
    · obtain ⟨b, off, n, HA1, hn1, c0, c1, c2, c3, c4⟩ := (H1.out.keep HB.out).node hlt
      obtain ⟨b', off', n', HA2, hn2, d0, d1, d2, d3, d4⟩ := (H2.out.keep HB.out).node hlt
      obtain rfl : n' = n := by rw [hn1] at hn2; exact (Option.some.inj hn2).symm
      have hlt' : (i : Int) < len := by omega
      have hil : (i : Int) ≤ 2097152 := by omega
      have HLT := Lib.hid hlt
      obtain rfl := HA1
      obtain rfl := HA2
      obtain ⟨p, fk, fv, tk, tv⟩ := n'
      simp only at c0 c1 c2 c3 c4 d0 d1 d2 d3 d4
      have HS0 := Lib.hid (show wr.drew.cell? ⟨b, off + i * 5, none⟩ = some (.string p) ∧ wr.drew.cell? ⟨b, off + i * 5 + 1, none⟩ = some (.int .i64 fk) ∧ wr.drew.cell? ⟨b, off + i * 5 + 2, none⟩ = some (.int .i64 fv) ∧ wr.drew.cell? ⟨b, off + i * 5 + 3, none⟩ = some (.int .i64 tk) ∧ wr.drew.cell? ⟨b, off + i * 5 + 4, none⟩ = some (.int .i64 tv) ∧ wr.drew.cell? ⟨b', off' + i * 5, none⟩ = some (.string p) ∧ wr.drew.cell? ⟨b', off' + i * 5 + 1, none⟩ = some (.int .i64 fk) ∧ wr.drew.cell? ⟨b', off' + i * 5 + 2, none⟩ = some (.int .i64 fv) ∧ wr.drew.cell? ⟨b', off' + i * 5 + 3, none⟩ = some (.int .i64 tk) ∧ wr.drew.cell? ⟨b', off' + i * 5 + 4, none⟩ = some (.int .i64 tv) ∧ Below W.heap.size W wr.drew from ⟨c0, c1, c2, c3, c4, d0, d1, d2, d3, d4, HB.out.drew⟩)
      have HCX := Lib.hid (HC.out ⟨p, fk, fv, tk, tv⟩ wr.drew)
      simp only at HCX
      have HKP := Lib.hid (fun (u1 u2 : World) (h : u1.cell? ⟨b, off + i * 5, none⟩ = some (.string p) ∧ u1.cell? ⟨b, off + i * 5 + 1, none⟩ = some (.int .i64 fk) ∧ u1.cell? ⟨b, off + i * 5 + 2, none⟩ = some (.int .i64 fv) ∧ u1.cell? ⟨b, off + i * 5 + 3, none⟩ = some (.int .i64 tk) ∧ u1.cell? ⟨b, off + i * 5 + 4, none⟩ = some (.int .i64 tv) ∧ u1.cell? ⟨b', off' + i * 5, none⟩ = some (.string p) ∧ u1.cell? ⟨b', off' + i * 5 + 1, none⟩ = some (.int .i64 fk) ∧ u1.cell? ⟨b', off' + i * 5 + 2, none⟩ = some (.int .i64 fv) ∧ u1.cell? ⟨b', off' + i * 5 + 3, none⟩ = some (.int .i64 tk) ∧ u1.cell? ⟨b', off' + i * 5 + 4, none⟩ = some (.int .i64 tv) ∧ Below W.heap.size W u1) (hb : Below u1.heap.size u1 u2) => show u2.cell? ⟨b, off + i * 5, none⟩ = some (.string p) ∧ u2.cell? ⟨b, off + i * 5 + 1, none⟩ = some (.int .i64 fk) ∧ u2.cell? ⟨b, off + i * 5 + 2, none⟩ = some (.int .i64 fv) ∧ u2.cell? ⟨b, off + i * 5 + 3, none⟩ = some (.int .i64 tk) ∧ u2.cell? ⟨b, off + i * 5 + 4, none⟩ = some (.int .i64 tv) ∧ u2.cell? ⟨b', off' + i * 5, none⟩ = some (.string p) ∧ u2.cell? ⟨b', off' + i * 5 + 1, none⟩ = some (.int .i64 fk) ∧ u2.cell? ⟨b', off' + i * 5 + 2, none⟩ = some (.int .i64 fv) ∧ u2.cell? ⟨b', off' + i * 5 + 3, none⟩ = some (.int .i64 tk) ∧ u2.cell? ⟨b', off' + i * 5 + 4, none⟩ = some (.int .i64 tv) ∧ Below W.heap.size W u2 from ⟨cell_kept hb h.1, cell_kept hb h.2.1, cell_kept hb h.2.2.1, cell_kept hb h.2.2.2.1, cell_kept hb h.2.2.2.2.1, cell_kept hb h.2.2.2.2.2.1, cell_kept hb h.2.2.2.2.2.2.1, cell_kept hb h.2.2.2.2.2.2.2.1, cell_kept hb h.2.2.2.2.2.2.2.2.1, cell_kept hb h.2.2.2.2.2.2.2.2.2.1, below_next h.2.2.2.2.2.2.2.2.2.2 hb⟩)
      clear hlt hi hn1 hn2 c0 c1 c2 c3 c4 d0 d1 d2 d3 d4
      go_upto_region 6 with (fail)
      go_region_held3 (fun w' => w'.cell? ⟨b, off + i * 5, none⟩ = some (.string p) ∧ w'.cell? ⟨b, off + i * 5 + 1, none⟩ = some (.int .i64 fk) ∧ w'.cell? ⟨b, off + i * 5 + 2, none⟩ = some (.int .i64 fv) ∧ w'.cell? ⟨b, off + i * 5 + 3, none⟩ = some (.int .i64 tk) ∧ w'.cell? ⟨b, off + i * 5 + 4, none⟩ = some (.int .i64 tv) ∧ w'.cell? ⟨b', off' + i * 5, none⟩ = some (.string p) ∧ w'.cell? ⟨b', off' + i * 5 + 1, none⟩ = some (.int .i64 fk) ∧ w'.cell? ⟨b', off' + i * 5 + 2, none⟩ = some (.int .i64 fv) ∧ w'.cell? ⟨b', off' + i * 5 + 3, none⟩ = some (.int .i64 tk) ∧ w'.cell? ⟨b', off' + i * 5 + 4, none⟩ = some (.int .i64 tv) ∧ Below W.heap.size W w')
        (first | exact HS0.out | exact HKP.out _ _ HS0.out hb7)
        (first | (go_at_call 30; (with_reducible refine (HCX.out).mono ?_); rintro e W7 ⟨rfl, hb7⟩))
      rename_i hS
      have HB7 := Lib.hid hS.2.2.2.2.2.2.2.2.2.2
      clear hS
      go_wp2
      go_roundw
      case rel => exact ⟨i + 1, by go_num, by have := HLT.out; omega, HB7.out⟩
      case measure => have := HLT.out; simp [intOf]; omega
    · have hge : (len : Int) ≤ i := by omega
      clear hi hlt
      go_wp2
      go_ret
      exact ⟨rfl, HB.out⟩

set_option maxHeartbeats 2000000 in
set_option maxRecDepth 100000 in
theorem sameLog_c (a1 a2 : Option Addr) (len c1 c2 : Nat) (cs : List Cmd) (hl : len ≤ 2097152) (W : World) (h1 : CmdsAt W a1 len cs) (h2 : CmdsAt W a2 len cs) :
    Calls Tryz.prog 8 #[.slice a1 len c1, .slice a2 len c2] W (BoolPost true W) := by
  have H1 := Lib.hid h1
  have H2 := Lib.hid h2
  clear h1 h2
  go_enter Tryz.func8, Tryz.ntmps8
  go_wp2
  go_loopw [5] (fun i wr => ∃ n : Nat, i = .int .i64 n ∧ n ≤ len ∧ Hid (Below W.heap.size W wr)) (fun i _ => len - (intOf i).toNat)
  case atStart => exact ⟨0, rfl, by omega, Below.refl _ _⟩
  case round =>
    obtain ⟨i, rfl, hi, HB⟩ := hrel
    by_cases hlt : i < len
    · obtain ⟨b, off, n, rfl, hn, c0, c1, c2, c3, c4⟩ := (H1.out.keep HB.out).node hlt
      obtain ⟨b', off', n', rfl, hn', d0, d1, d2, d3, d4⟩ := (H2.out.keep HB.out).node hlt
      obtain rfl : n = n' := Option.some.inj (hn.symm.trans hn')
      have hlt' : (i : Int) < len := by omega
      have hi0 : (0 : Int) ≤ i := by omega
      have HLT := Lib.hid hlt
      obtain ⟨p, fk, fv, tk, tv⟩ := n
      simp only at c0 c1 c2 c3 c4 d0 d1 d2 d3 d4
      have hne := fun w => cmdNeS p fk fv tk tv w
      clear hi hlt hn hn'
      go_wp2
      go_quiet (fail)
      have HB2 := Lib.hid (below_drewN HB.out nq)
      clear c0 c1 c2 c3 c4 d0 d1 d2 d3 d4
      go_wp2
      go_roundw
      case rel => exact ⟨i + 1, by go_num, by have := HLT.out; omega, HB2⟩
      case measure => have := HLT.out; simp [intOf]; omega
    · have hge : (len : Int) ≤ i := by omega
      clear hi hlt
      go_wp2
      go_ret
      exact ⟨rfl, HB.out⟩

end Go.Proofs.YtnboodcllmdjeaaGreat

/-
  WALKS: laws.eqNode, laws.eqNodeS, at equal lists.
-/
namespace Go.Proofs.YtnboodcllmdjeaaGreat
open Go.RowKit
set_option linter.unusedVariables false

set_option maxHeartbeats 1000000 in
theorem eqNode_c (n : Nd) (w : World) : Calls Tryz.prog 31 #[nodeV n, nodeV n] w (BoolPost true w) := by
  obtain ⟨p, k, v⟩ := n
  have HC := Lib.hid (fun w => eqContent_c k v w)
  unfold nodeV
  go_enter Tryz.func31, Tryz.ntmps31
  go_wp2_with fail
  refine (HC.out _).mono ?_
  rintro e W1 ⟨rfl, hb1⟩
  have HB := Lib.hid (below_next (below_next (below_box _ _) (below_box _ _)) hb1)
  clear hb1
  go_wp2
  go_ret
  exact ⟨rfl, HB.out⟩

def EqRel (len : Nat) (W : World) (i : Value) (wr : World) : Prop := ∃ n : Nat, i = .int .i64 n ∧ n ≤ len ∧ Hid (Below W.heap.size W wr)

set_option maxHeartbeats 2000000 in
set_option maxRecDepth 100000 in
theorem eqNodeS_c (a1 a2 : Option Addr) (len c1 c2 : Nat) (ns : List Nd) (hl : len ≤ 2097152) (W : World) (h1 : NodesAt W a1 len ns) (h2 : NodesAt W a2 len ns) :
    Calls Tryz.prog 14 #[.slice a1 len c1, .slice a2 len c2] W (BoolPost true W) := by
  have H1 := Lib.hid h1
  have H2 := Lib.hid h2
  have HC := Lib.hid (fun n w => eqNode_c n w)
  unfold nodeV at HC
  have hl' : (len : Int) ≤ 2097152 := by omega
  clear h1 h2
  go_enter Tryz.func14, Tryz.ntmps14
  go_wp2
  go_loopw [5] (fun i wr => EqRel len W i wr) (fun i _ => len - (intOf i).toNat)
  case atStart => exact ⟨0, rfl, by omega, Below.refl _ _⟩
  case round =>
    obtain ⟨i, rfl, hi, HB⟩ := hrel
    by_cases hlt : i < len
    · obtain ⟨b, off, n, HA1, hn1, c0, c1, c2⟩ := (H1.out.keep HB.out).node hlt
      obtain ⟨b', off', n', HA2, hn2, d0, d1, d2⟩ := (H2.out.keep HB.out).node hlt
      obtain rfl : n' = n := by rw [hn1] at hn2; exact (Option.some.inj hn2).symm
      have hlt' : (i : Int) < len := by omega
      have hil : (i : Int) ≤ 2097152 := by omega
      have HLT := Lib.hid hlt
      obtain rfl := HA1
      obtain rfl := HA2
      obtain ⟨p, k, v⟩ := n'
      simp only at c0 c1 c2 d0 d1 d2
      have HS0 := Lib.hid (show wr.drew.cell? ⟨b, off + i * 3, none⟩ = some (.string p) ∧ wr.drew.cell? ⟨b, off + i * 3 + 1, none⟩ = some (.int .i64 k) ∧ wr.drew.cell? ⟨b, off + i * 3 + 2, none⟩ = some (.int .i64 v) ∧
        wr.drew.cell? ⟨b', off' + i * 3, none⟩ = some (.string p) ∧ wr.drew.cell? ⟨b', off' + i * 3 + 1, none⟩ = some (.int .i64 k) ∧ wr.drew.cell? ⟨b', off' + i * 3 + 2, none⟩ = some (.int .i64 v) from ⟨c0, c1, c2, d0, d1, d2⟩)
      have HCX := Lib.hid (HC.out ⟨p, k, v⟩ wr.drew)
      clear hlt hi hn1 hn2
      go_upto_region 6 with (fail)
      refine wp_region_held_drew (S := (fun w' => w'.cell? ⟨b, off + i * 3, none⟩ = some (.string p) ∧ w'.cell? ⟨b, off + i * 3 + 1, none⟩ = some (.int .i64 k) ∧ w'.cell? ⟨b, off + i * 3 + 2, none⟩ = some (.int .i64 v) ∧ w'.cell? ⟨b', off' + i * 3, none⟩ = some (.string p) ∧ w'.cell? ⟨b', off' + i * 3 + 1, none⟩ = some (.int .i64 k) ∧ w'.cell? ⟨b', off' + i * 3 + 2, none⟩ = some (.int .i64 v))) (by kernel_rfl) HS0.out (fun hH => ?_)
      refine wpAnyH_take (i := 0) (oi := _) (v := ?_) rfl (by kernel_rfl) (by kernel_rfl) (by kernel_rfl) (fun _ _ _ h => h) (Or.inl ⟨by rfl, ?_⟩) (by assumption) ?_
      rotate_left
      · (intro w hSw; (try dsimp only at hSw); go_simp; try with_reducible rfl)
      try simp only [Act.put, List.getElem_toArray, List.getElem_cons_zero, List.setIfInBounds_toArray, List.set_cons_zero, List.set_cons_succ]
      refine wpAnyH_take (i := 1) (oi := _) (v := ?_) rfl (by kernel_rfl) (by kernel_rfl) (by kernel_rfl) (fun _ _ _ h => h) (Or.inl ⟨by rfl, ?_⟩) (by assumption) ?_
      rotate_left
      · (intro w hSw; (try dsimp only at hSw); go_simp; try with_reducible rfl)
      try simp only [Act.put, List.getElem_toArray, List.getElem_cons_zero, List.getElem_cons_succ, List.setIfInBounds_toArray, List.set_cons_zero, List.set_cons_succ]
      refine wpAnyH_take (i := 2) (oi := _) (v := ?_) rfl (by kernel_rfl) (by kernel_rfl) (by kernel_rfl) (fun _ _ _ h => h) (Or.inl ⟨by rfl, ?_⟩) (by assumption) ?_
      rotate_left
      · (intro w hSw; (try dsimp only at hSw); go_simp; try with_reducible rfl)
      try simp only [Act.put, List.getElem_toArray, List.getElem_cons_zero, List.getElem_cons_succ, List.setIfInBounds_toArray, List.set_cons_zero, List.set_cons_succ]
      refine wpAnyH_take (i := 3) (oi := _) (v := ?_) rfl (by kernel_rfl) (by kernel_rfl) (by kernel_rfl) (fun _ _ _ h => h) (Or.inl ⟨by rfl, ?_⟩) (by assumption) ?_
      rotate_left
      · (intro w hSw; (try dsimp only at hSw); go_simp; try with_reducible rfl)
      try simp only [Act.put, List.getElem_toArray, List.getElem_cons_zero, List.getElem_cons_succ, List.setIfInBounds_toArray, List.set_cons_zero, List.set_cons_succ]
      refine wpAnyH_take (i := 4) (oi := _) (v := ?_) rfl (by kernel_rfl) (by kernel_rfl) (by kernel_rfl) (fun _ _ _ h => h) (Or.inl ⟨by rfl, ?_⟩) (by assumption) ?_
      rotate_left
      · (intro w hSw; (try dsimp only at hSw); go_simp; try with_reducible rfl)
      try simp only [Act.put, List.getElem_toArray, List.getElem_cons_zero, List.getElem_cons_succ, List.setIfInBounds_toArray, List.set_cons_zero, List.set_cons_succ]
      refine wpAnyH_take (i := 5) (oi := _) (v := ?_) rfl (by kernel_rfl) (by kernel_rfl) (by kernel_rfl) (fun _ _ _ h => h) (Or.inl ⟨by rfl, ?_⟩) (by assumption) ?_
      rotate_left
      · (intro w hSw; (try dsimp only at hSw); go_simp; try with_reducible rfl)
      try simp only [Act.put, List.getElem_toArray, List.getElem_cons_zero, List.getElem_cons_succ, List.setIfInBounds_toArray, List.set_cons_zero, List.set_cons_succ]
      refine wpAnyH_take (i := 6) (oi := _) (v := ?_) rfl (by kernel_rfl) (by kernel_rfl) (by kernel_rfl) (fun _ _ _ h => h) (Or.inl ⟨by rfl, ?_⟩) (by assumption) ?_
      rotate_left
      · (intro w hSw; (try dsimp only at hSw); go_simp; try with_reducible rfl)
      try simp only [Act.put, List.getElem_toArray, List.getElem_cons_zero, List.getElem_cons_succ, List.setIfInBounds_toArray, List.set_cons_zero, List.set_cons_succ]
      refine wpAnyH_take (i := 7) (oi := _) (v := ?_) rfl (by kernel_rfl) (by kernel_rfl) (by kernel_rfl) (fun _ _ _ h => h) (Or.inl ⟨by rfl, ?_⟩) (by assumption) ?_
      rotate_left
      · (intro w hSw; (try dsimp only at hSw); go_simp; try with_reducible rfl)
      try simp only [Act.put, List.getElem_toArray, List.getElem_cons_zero, List.getElem_cons_succ, List.setIfInBounds_toArray, List.set_cons_zero, List.set_cons_succ]
      refine wpAnyH_ready (rs := [8]) (by kernel_rfl) (by simp) ?_
      refine AllReadyH.cons rfl (fun K hK => ?_) (AllReadyH.nil)
      go_simp
      go_at_call 31; (with_reducible refine (HCX.out).mono ?_); rintro e W7 ⟨rfl, hb7⟩
      refine hK.out _ _ ⟨cell_kept hb7 HS0.out.1, cell_kept hb7 HS0.out.2.1, cell_kept hb7 HS0.out.2.2.1, cell_kept hb7 HS0.out.2.2.2.1, cell_kept hb7 HS0.out.2.2.2.2.1, cell_kept hb7 HS0.out.2.2.2.2.2⟩ (fun hHeld => ?_)
      try simp only [Act.put, List.getElem_toArray, List.getElem_cons_zero, List.getElem_cons_succ, List.setIfInBounds_toArray, List.set_cons_zero, List.set_cons_succ]
      have H7 := Lib.hid (below_next (show Below W.heap.size W wr.drew from HB.out.drew) hb7)
      refine wpAnyH_take (i := 9) (oi := _) (v := ?_) rfl (by kernel_rfl) (by kernel_rfl) (by kernel_rfl) (fun _ _ _ h => h) (Or.inl ⟨by rfl, ?_⟩) (by assumption) ?_
      rotate_left
      · (intro w hSw; (try dsimp only at hSw); go_simp; try with_reducible rfl)
      try simp only [Act.put, List.getElem_toArray, List.getElem_cons_zero, List.getElem_cons_succ, List.setIfInBounds_toArray, List.set_cons_zero, List.set_cons_succ]
      refine wpAnyH_done (by kernel_rfl) ?_ _
      go_wp2
      go_roundw
      case rel => exact ⟨i + 1, by go_num, by have := HLT.out; omega, H7.out⟩
      case measure => have := HLT.out; simp [intOf]; omega
    · have hge : (len : Int) ≤ i := by omega
      clear hlt
      go_wp2
      go_ret
      exact ⟨rfl, HB.out⟩

end Go.Proofs.YtnboodcllmdjeaaGreat

/-
  WALKS: laws.markText, markNodeS, markStringS, heldNodeS, heldStringS, eqStringS: what a test writes into memory of the program's, and finds again.
-/
namespace Go.Proofs.YtnboodcllmdjeaaGreat
open Go.RowKit
set_option linter.unusedVariables false

/-- The digits of a number, ahead of a text. -/
def digs : Nat → Nat → ByteArray → ByteArray
  | 0, _, out => out
  | f + 1, k, out => if k = 0 then out else digs f (k / 10) (⟨#[UInt8.ofNat (48 + k % 10)]⟩ ++ out)

/-- The text of a mark. -/
def mtext (k : Nat) : ByteArray := ⟨#[109]⟩ ++ digs k k ⟨#[]⟩

theorem digs_zero (f : Nat) (out : ByteArray) : digs f 0 out = out := by cases f <;> simp [digs]
theorem digs_more : ∀ (f g k : Nat) (out : ByteArray), k ≤ f → k ≤ g → digs f k out = digs g k out
  | 0, g, k, out, h, _ => by rw [show k = 0 by omega, digs_zero, digs_zero]
  | f + 1, 0, k, out, _, h => by rw [show k = 0 by omega, digs_zero, digs_zero]
  | f + 1, g + 1, k, out, h1, h2 => by
    unfold digs
    split
    · rfl
    · exact digs_more f g _ _ (by omega) (by omega)
theorem digs_step {k : Nat} (out : ByteArray) (hk : 0 < k) : digs k k out = digs (k / 10) (k / 10) (⟨#[UInt8.ofNat (48 + k % 10)]⟩ ++ out) := by
  obtain ⟨f, rfl⟩ : ∃ f, k = f + 1 := ⟨k - 1, by omega⟩
  conv => lhs; unfold digs
  rw [if_neg (by omega)]
  exact digs_more _ _ _ _ (by omega) (by omega)

theorem convByte (w : World) (r : Nat) (hr : r ≤ 9) : (convert 22 9 (.slice (some ⟨w.heap.size, 0, none⟩) 1 1)).run Tryz.prog (w.alloc (.cells #[.int .u8 (48 + (r : Int))] 5)) =
    .ok (.string ⟨#[UInt8.ofNat (48 + r)]⟩) (w.alloc (.cells #[.int .u8 (48 + (r : Int))] 5)) := by
  rw [run_convert_bytes_string _ _ _ _ _ _ _ Tryz.underlying22 Tryz.underlying5 Tryz.underlying9, run_bytesToString _ _ _ _ [48 + (r : Int)] ?_]
  · simp only [List.foldl_cons, List.foldl_nil]
    have : (48 + (r : Int)).toNat = 48 + r := by omega
    rw [this]; rfl
  · simp [loadCells, go_sem, Addr.add]

def MarkRel (k0 : Nat) (W : World) (kv o : Value) (wr : World) : Prop :=
  ∃ (k : Nat) (out : ByteArray), kv = .int .i64 k ∧ o = .string out ∧ out.size + k ≤ k0 ∧ Hid (digs k k out = digs k0 k0 ⟨#[]⟩) ∧ Hid (Below W.heap.size W wr)

set_option maxHeartbeats 2000000 in
set_option maxRecDepth 100000 in
theorem markText_c (k0 : Nat) (h1 : 1 ≤ k0) (h2 : k0 ≤ 1099511627776) (W : World) :
    Calls Tryz.prog 32 #[.int .i64 k0] W fun e W' => e = .returned (.string (mtext k0)) ∧ Below W.heap.size W W' := by
  have hp : (0 : Int) < k0 := by omega
  go_enter Tryz.func32, Tryz.ntmps32
  go_wp2
  go_loopw [0, 3] (fun kv o wr => MarkRel k0 W kv o wr) (fun kv _ _ => (intOf kv).toNat)
  case atStart => exact ⟨k0, ⟨#[]⟩, rfl, rfl, by show 0 + k0 ≤ k0; omega, rfl, Below.refl _ _⟩
  case round =>
    obtain ⟨k, out, rfl, rfl, hsz, HD, HB⟩ := hrel
    by_cases hk : 0 < k
    · have hk' : (0 : Int) < k := by omega
      have hkm : (k : Int) ≤ 1099511627776 := by omega
      obtain ⟨r, hr⟩ : ∃ r, r = k % 10 := ⟨_, rfl⟩
      obtain ⟨q, hq⟩ : ∃ q, q = k / 10 := ⟨_, rfl⟩
      have hr0 : (k : Int).tmod 10 = (r : Int) := by rw [hr]; rfl
      have hq0 : (k : Int).tdiv 10 = (q : Int) := by rw [hq]; rfl
      have hr9 : (r : Int) ≤ 9 := by omega
      have hqk : q < k := by omega
      have hqm : (q : Int) ≤ 1099511627776 := by omega
      have HSZ := Lib.hid hsz
      have HQK := Lib.hid hqk
      have HDS := Lib.hid (show digs k k out = digs q q (⟨#[UInt8.ofNat (48 + r)]⟩ ++ out) by rw [hr, hq]; exact digs_step out hk)
      have hos : out.size ≤ 1099511627776 := by omega
      have hcv := convByte wr r (by omega)
      clear hk hsz hr hq hqk
      go_wp2
      have he : (48 + UInt8.ofNat r) = UInt8.ofNat (48 + r) := by rw [UInt8.ofNat_add]; rfl
      rw [he]
      go_roundw
      case rel =>
        refine ⟨q, ⟨#[UInt8.ofNat (48 + r)]⟩ ++ out, rfl, rfl, ?_, ?_, below_next HB.out (below_box _ _)⟩
        · rw [ByteArray.size_append]
          have h5 := HSZ.out
          have h6 := HQK.out
          show 1 + out.size + q ≤ k0
          omega
        · show _ = _
          rw [← HDS.out]; exact HD.out
      case measure => have := HQK.out; simp [intOf]; omega
    · have hk0 : k = 0 := by omega
      subst hk0
      have hos : out.size ≤ 1099511627776 := by omega
      have HE := Lib.hid (show ⟨#[109]⟩ ++ out = mtext k0 by unfold mtext; rw [← HD.out, digs_zero])
      clear hsz hk
      go_wp2
      refine bodyPost_ret (v := .string (⟨#[109]⟩ ++ out)) (by simp [results, Tryz.f32, go_sem]) rfl ⟨by rw [HE.out], HB.out⟩

/-! ## Lists of nodes -/

/-- The nodes that a test writes. -/
def markN (n : Nat) : List Nd := (List.range n).map (fun i => ⟨mtext (1 + 3 * i), 1 + 3 * (i : Int) + 1, 1 + 3 * (i : Int) + 1 + 1⟩)
theorem markN_len (n : Nat) : (markN n).length = n := by simp [markN]
theorem markN_get {n i : Nat} (h : i < n) : (markN n)[i]? = some ⟨mtext (1 + 3 * i), 1 + 3 * (i : Int) + 1, 1 + 3 * (i : Int) + 1 + 1⟩ := by
  unfold markN; rw [List.getElem?_map, List.getElem?_range h]; rfl

def MarkedRel (len base : Nat) (v : Value) (W : World) (kv i : Value) (wr : World) : Prop :=
  ∃ (n : Nat) (zs : List Value), i = .int .i64 n ∧ kv = .int .i64 (1 + 3 * (n : Int)) ∧ n ≤ len ∧ zs.length = (len - n) * 3 ∧ wr.ownsRow base 56 3 v len (flatN ((markN len).take n) ++ zs) ∧ Hid (W.grownBy wr v.ownBlock)

theorem _root_.Go.World.grownBy.set {A B : World} {g : Nat} {n cap : Nat} (h : A.grownBy B (Value.slice (some ⟨g, 0, none⟩) n cap).ownBlock) (g' i : Nat) (hg : g' = g) (u : Value) : A.grownBy (B.setCell ⟨g', i, none⟩ u) (Value.slice (some ⟨g, 0, none⟩) n cap).ownBlock := by
  subst hg
  exact ⟨h.os, h.tape, h.output, by (have hz : (B.setCell ⟨g', i, none⟩ u).heap.size = B.heap.size := by simp [World.setCell]); (rw [hz]); exact h.size, fun k hk hr => (Below.heap_setCell _ _ _ _ (fun e => hr (by rw [e]; rfl))).trans (h.block k hk hr)⟩

theorem grown_next {A B C : World} {row : Option Nat} (h : A.grownBy B row) (k : Below B.heap.size B C) : A.grownBy C row :=
  ⟨k.os.trans h.os, k.tape.trans h.tape, k.output.trans h.output, Nat.le_trans h.size k.size, fun i hi hr => (k.block i (by have := h.size; omega)).trans (h.block i hi hr)⟩

set_option maxHeartbeats 2000000 in
set_option maxRecDepth 100000 in
theorem markNodeS_c (v : Value) (base len : Nat) (xs : List Value) (hl : len ≤ 2097152) (W : World) (h : W.ownsRow base 56 3 v len xs) :
    Calls Tryz.prog 15 #[v, .int .i64 1] W fun e W' => e = .returned (.int .i64 (1 + 3 * (len : Int))) ∧ W.grownBy W' v.ownBlock ∧ W'.ownsRow base 56 3 v len (flatN (markN len)) := by
  have HX := Lib.hid h
  have hxl := h.1
  have HMT := Lib.hid (fun k (h1 : 1 ≤ k) (h2 : k ≤ 1099511627776) w => markText_c k h1 h2 w)
  obtain ⟨a, cap, hv⟩ : ∃ a cap, v = .slice a len cap := by
    rcases own_cases h with ⟨h1, h2⟩ | ⟨g, cap, h1⟩
    · exact ⟨none, 0, by rw [h1, h2]⟩
    · exact ⟨_, cap, h1⟩
  have hl' : (len : Int) ≤ 2097152 := by omega
  clear h
  subst hv
  go_enter Tryz.func15, Tryz.ntmps15
  go_wp2
  go_loopw [1, 5] (fun kv i wr => MarkedRel len base (.slice a len cap) W kv i wr) (fun _ i _ => len - (intOf i).toNat)
  case atStart => exact ⟨0, xs, rfl, rfl, by omega, by rw [hxl]; rfl, HX.out, ⟨rfl, rfl, rfl, Nat.le_refl _, fun _ _ _ => rfl⟩⟩
  case round =>
    obtain ⟨i, zs, rfl, rfl, hi, hzl, hown, HG⟩ := hrel
    by_cases hlt : i < len
    · have hlt' : (i : Int) < len := by omega
      have hil : (i : Int) ≤ 2097152 := by omega
      have HLT := Lib.hid hlt
      have HZ := Lib.hid (And.intro hzl (show 3 ≤ zs.length by omega))
      rcases own_cases hown with ⟨_, h2⟩ | ⟨g, cap', h2⟩
      · omega
      simp at h2
      obtain ⟨rfl, rfl⟩ := h2
      have HO := Lib.hid hown
      have HM := Lib.hid (show Calls Tryz.prog 32 #[.int .i64 (1 + 3 * (i : Int))] wr (fun e W' => e = .returned (.string (mtext (1 + 3 * i))) ∧ Below wr.heap.size wr W') by have := HMT.out (1 + 3 * i) (by omega) (by omega) wr; rwa [show ((1 + 3 * i : Nat) : Int) = 1 + 3 * (i : Int) by push_cast; rfl] at this)
      clear hi hlt hzl hown
      go_wp2_with fail
      refine HM.out.mono ?_
      rintro e W2 ⟨rfl, hb2⟩
      have HO2 := Lib.hid (own_below HO.out hb2)
      have HG2 := Lib.hid (grown_next HG.out hb2)
      have hll : (flatN ((markN len).take i)).length = i * 3 := by rw [flatN_length, List.length_take, markN_len]; have := HLT.out; omega
      have cell : ∀ j, j < 3 → ∃ u, W2.cell? ⟨g, i * 3 + j, none⟩ = some u := by
        intro j hj
        have hx := HZ.out.1
        have hy := HLT.out
        rw [HO2.out.cellAt _ (by omega)]
        exact ⟨_, List.getElem?_eq_getElem (by rw [List.length_append, hll]; omega)⟩
      obtain ⟨u0, e0⟩ := cell 0 (by omega)
      replace e0 : W2.cell? ⟨g, i * 3, none⟩ = some u0 := e0
      obtain ⟨u1, e1⟩ := cell 1 (by omega)
      obtain ⟨u2, e2⟩ := cell 2 (by omega)
      have y0 := HO2.out.frozenAt (i * 3)
      have y1 := HO2.out.frozenAt (i * 3 + 1)
      have y2 := HO2.out.frozenAt (i * 3 + 2)
      generalize hmt : mtext (1 + 3 * i) = mt
      have HMTX := Lib.hid hmt
      clear cell hll hb2 hmt
      go_wp2
      have HS3 := stored3 HO2.out (i * 3) (.string mt) (.int .i64 (1 + 3 * (i : Int) + 1)) (.int .i64 (1 + 3 * (i : Int) + 1 + 1))
      rw [← HMTX.out, flatN_take_set (markN len) i _ zs (markN_get HLT.out) HZ.out.2] at HS3
      go_roundw
      case rel =>
        refine ⟨i + 1, zs.drop 3, by push_cast; rfl, by rw [show 1 + 3 * ((i + 1 : Nat) : Int) = 1 + 3 * (i : Int) + 1 + 1 + 1 by omega], by have := HLT.out; omega, by rw [List.length_drop]; have h1 := HZ.out.1; have h2 := HZ.out.2; have h3 := HLT.out; omega, ?_, ?_⟩
        · rw [← HMTX.out]; exact HS3
        · exact ((HG2.out.set _ _ rfl _).set _ _ rfl _).set _ _ rfl _
      case measure => have := HLT.out; simp [intOf]; omega
    · have hge : (len : Int) ≤ i := by omega
      have hie : i = len := by omega
      have hz0' : zs = [] := List.eq_nil_of_length_eq_zero (by omega)
      subst hz0'
      subst hie
      rw [List.append_nil, List.take_of_length_le (by rw [markN_len]; omega)] at hown
      clear hi hlt
      go_wp2
      refine bodyPost_ret (v := .int .i64 (1 + 3 * (i : Int))) (by simp [results, Tryz.f15, go_sem]) rfl ⟨rfl, HG.out, hown⟩


def HeldRel (len st : Nat) (W : World) (kv i : Value) (wr : World) : Prop :=
  ∃ n : Nat, i = .int .i64 n ∧ kv = .int .i64 (1 + (st : Int) * (n : Int)) ∧ n ≤ len ∧ Hid (Below W.heap.size W wr)

def markS (n : Nat) : List ByteArray := (List.range n).map (fun i => mtext (1 + i))
theorem markS_len (n : Nat) : (markS n).length = n := by simp [markS]
theorem markS_get {n i : Nat} (h : i < n) : (markS n)[i]? = some (mtext (1 + i)) := by
  unfold markS; rw [List.getElem?_map, List.getElem?_range h]; rfl

def MarkedSRel (len base : Nat) (v : Value) (W : World) (kv i : Value) (wr : World) : Prop :=
  ∃ (n : Nat) (zs : List Value), i = .int .i64 n ∧ kv = .int .i64 (1 + (n : Int)) ∧ n ≤ len ∧ zs.length = len - n ∧ wr.ownsRow base 9 1 v len (((markS len).take n).map Value.string ++ zs) ∧ Hid (W.grownBy wr v.ownBlock)

theorem take_set_one {α : Type} (l : List α) (i : Nat) (x : α) (zs : List α) (h : l.length = i) (hz : 1 ≤ zs.length) : (l ++ zs).set i x = (l ++ [x]) ++ zs.drop 1 := by
  match zs, hz with
  | a :: r, _ =>
    rw [List.set_append_right _ _ (by omega), h, Nat.sub_self]
    simp

def HeldSRel (len : Nat) (W : World) (kv i : Value) (wr : World) : Prop :=
  ∃ n : Nat, i = .int .i64 n ∧ kv = .int .i64 (1 + (n : Int)) ∧ n ≤ len ∧ Hid (Below W.heap.size W wr)

end Go.Proofs.YtnboodcllmdjeaaGreat

/-
  WALKS: laws.markCommandS (from any number on), laws.heldCommandS.
-/
namespace Go.Proofs.YtnboodcllmdjeaaGreat
open Go.RowKit
set_option linter.unusedVariables false

/-- The commands that a test writes. -/
def markCK (k0 n : Nat) : List Cmd := (List.range n).map (fun i => ⟨mtext (k0 + 5 * i), (k0 : Int) + 5 * (i : Int) + 1, (k0 : Int) + 5 * (i : Int) + 1 + 1, (k0 : Int) + 5 * (i : Int) + 1 + 1 + 1, (k0 : Int) + 5 * (i : Int) + 1 + 1 + 1 + 1⟩)
theorem markCK_len (k0 n : Nat) : (markCK k0 n).length = n := by simp [markCK]
theorem markCK_get {k0 n i : Nat} (h : i < n) : (markCK k0 n)[i]? = some ⟨mtext (k0 + 5 * i), (k0 : Int) + 5 * (i : Int) + 1, (k0 : Int) + 5 * (i : Int) + 1 + 1, (k0 : Int) + 5 * (i : Int) + 1 + 1 + 1, (k0 : Int) + 5 * (i : Int) + 1 + 1 + 1 + 1⟩ := by
  unfold markCK; rw [List.getElem?_map, List.getElem?_range h]; rfl

def MarkedCRel (k0 len base : Nat) (v : Value) (W : World) (kv i : Value) (wr : World) : Prop :=
  ∃ (n : Nat) (zs : List Value), i = .int .i64 n ∧ kv = .int .i64 ((k0 : Int) + 5 * (n : Int)) ∧ n ≤ len ∧ zs.length = (len - n) * 5 ∧ wr.ownsRow base 34 5 v len (flatC ((markCK k0 len).take n) ++ zs) ∧ Hid (W.grownBy wr v.ownBlock)

set_option maxHeartbeats 4000000 in
set_option maxRecDepth 100000 in
theorem markCommandS_c (v : Value) (base len k0 : Nat) (hk1 : 1 ≤ k0) (hk2 : k0 ≤ 1000000000) (xs : List Value) (hl : len ≤ 2097152) (W : World) (h : W.ownsRow base 34 5 v len xs) :
    Calls Tryz.prog 16 #[v, .int .i64 k0] W fun e W' => e = .returned (.int .i64 ((k0 : Int) + 5 * (len : Int))) ∧ W.grownBy W' v.ownBlock ∧ W'.ownsRow base 34 5 v len (flatC (markCK k0 len)) := by
  have HX := Lib.hid h
  have hxl := h.1
  have HMT := Lib.hid (fun k (h1 : 1 ≤ k) (h2 : k ≤ 1099511627776) w => markText_c k h1 h2 w)
  obtain ⟨a, cap, hv⟩ : ∃ a cap, v = .slice a len cap := by
    rcases own_cases h with ⟨h1, h2⟩ | ⟨g, cap, h1⟩
    · exact ⟨none, 0, by rw [h1, h2]⟩
    · exact ⟨_, cap, h1⟩
  have hl' : (len : Int) ≤ 2097152 := by omega
  have hk2' : (k0 : Int) ≤ 1000000000 := by omega
  have hk1' : (1 : Int) ≤ k0 := by omega
  clear h
  subst hv
  go_enter Tryz.func16, Tryz.ntmps16
  go_wp2
  go_loopw [1, 5] (fun kv i wr => MarkedCRel k0 len base (.slice a len cap) W kv i wr) (fun _ i _ => len - (intOf i).toNat)
  case atStart => exact ⟨0, xs, rfl, by simp, by omega, by rw [hxl]; rfl, HX.out, ⟨rfl, rfl, rfl, Nat.le_refl _, fun _ _ _ => rfl⟩⟩
  case round =>
    obtain ⟨i, zs, rfl, rfl, hi, hzl, hown, HG⟩ := hrel
    by_cases hlt : i < len
    · have hlt' : (i : Int) < len := by omega
      have hil : (i : Int) ≤ 2097152 := by omega
      have HLT := Lib.hid hlt
      have HZ := Lib.hid (And.intro hzl (show 5 ≤ zs.length by omega))
      rcases own_cases hown with ⟨_, h2⟩ | ⟨g, cap', h2⟩
      · omega
      simp at h2
      obtain ⟨rfl, rfl⟩ := h2
      have HO := Lib.hid hown
      have HM := Lib.hid (show Calls Tryz.prog 32 #[.int .i64 ((k0 : Int) + 5 * (i : Int))] wr (fun e W' => e = .returned (.string (mtext (k0 + 5 * i))) ∧ Below wr.heap.size wr W') by have := HMT.out (k0 + 5 * i) (by omega) (by omega) wr; rwa [show ((k0 + 5 * i : Nat) : Int) = (k0 : Int) + 5 * (i : Int) by push_cast; rfl] at this)
      clear hi hlt hzl hown
      go_wp2_with fail
      refine HM.out.mono ?_
      rintro e W2 ⟨rfl, hb2⟩
      have HO2 := Lib.hid (own_below HO.out hb2)
      have HG2 := Lib.hid (grown_next HG.out hb2)
      have hll : (flatC ((markCK k0 len).take i)).length = i * 5 := by rw [flatC_length, List.length_take, markCK_len]; have := HLT.out; omega
      have cell : ∀ j, j < 5 → ∃ u, W2.cell? ⟨g, i * 5 + j, none⟩ = some u := by
        intro j hj
        have hx := HZ.out.1
        have hy := HLT.out
        rw [HO2.out.cellAt _ (by omega)]
        exact ⟨_, List.getElem?_eq_getElem (by rw [List.length_append, hll]; omega)⟩
      obtain ⟨u0, e0⟩ := cell 0 (by omega)
      replace e0 : W2.cell? ⟨g, i * 5, none⟩ = some u0 := e0
      obtain ⟨u1, e1⟩ := cell 1 (by omega)
      obtain ⟨u2, e2⟩ := cell 2 (by omega)
      obtain ⟨u3, e3⟩ := cell 3 (by omega)
      obtain ⟨u4, e4⟩ := cell 4 (by omega)
      have y0 := HO2.out.frozenAt (i * 5)
      have y1 := HO2.out.frozenAt (i * 5 + 1)
      have y2 := HO2.out.frozenAt (i * 5 + 2)
      have y3 := HO2.out.frozenAt (i * 5 + 3)
      have y4 := HO2.out.frozenAt (i * 5 + 4)
      generalize hmt : mtext (k0 + 5 * i) = mt
      have HMTX := Lib.hid hmt
      clear cell hll hb2 hmt
      go_wp2
      have HS3 := stored5 HO2.out (i * 5) (.string mt) (.int .i64 ((k0 : Int) + 5 * (i : Int) + 1)) (.int .i64 ((k0 : Int) + 5 * (i : Int) + 1 + 1)) (.int .i64 ((k0 : Int) + 5 * (i : Int) + 1 + 1 + 1)) (.int .i64 ((k0 : Int) + 5 * (i : Int) + 1 + 1 + 1 + 1))
      rw [← HMTX.out, flatC_take_set (markCK k0 len) i _ zs (markCK_get HLT.out) HZ.out.2] at HS3
      go_roundw
      case rel =>
        refine ⟨i + 1, zs.drop 5, by push_cast; rfl, by rw [show (k0 : Int) + 5 * ((i + 1 : Nat) : Int) = (k0 : Int) + 5 * (i : Int) + 1 + 1 + 1 + 1 + 1 by omega], by have := HLT.out; omega, by rw [List.length_drop]; have h1 := HZ.out.1; have h2 := HZ.out.2; have h3 := HLT.out; omega, ?_, ?_⟩
        · rw [← HMTX.out]; exact HS3
        · exact ((((HG2.out.set _ _ rfl _).set _ _ rfl _).set _ _ rfl _).set _ _ rfl _).set _ _ rfl _
      case measure => have := HLT.out; simp [intOf]; omega
    · have hge : (len : Int) ≤ i := by omega
      have hie : i = len := by omega
      have hz0' : zs = [] := List.eq_nil_of_length_eq_zero (by omega)
      subst hz0'
      subst hie
      rw [List.append_nil, List.take_of_length_le (by rw [markCK_len]; omega)] at hown
      clear hi hlt
      go_wp2
      refine bodyPost_ret (v := .int .i64 ((k0 : Int) + 5 * (i : Int))) (by simp [results, Tryz.f16, go_sem]) rfl ⟨rfl, HG.out, hown⟩

def HeldCRel (len : Nat) (W : World) (kv i : Value) (wr : World) : Prop :=
  ∃ n : Nat, i = .int .i64 n ∧ kv = .int .i64 (1 + 5 * (n : Int)) ∧ n ≤ len ∧ Hid (Below W.heap.size W wr)

set_option maxHeartbeats 4000000 in
set_option maxRecDepth 100000 in
theorem heldCommandS_c (a : Option Addr) (len cap : Nat) (hl : len ≤ 2097152) (W : World) (hN : CmdsAt W a len (markCK 1 len)) :
    Calls Tryz.prog 17 #[.slice a len cap, .int .i64 1] W fun e W' => e = .returned (.int .i64 (1 + 5 * (len : Int))) ∧ Below W.heap.size W W' := by
  have HN := Lib.hid hN
  have HMT := Lib.hid (fun k (h1 : 1 ≤ k) (h2 : k ≤ 1099511627776) w => markText_c k h1 h2 w)
  have hl' : (len : Int) ≤ 2097152 := by omega
  clear hN
  go_enter Tryz.func17, Tryz.ntmps17
  go_wp2
  go_loopw [1, 5] (fun kv i wr => HeldCRel len W kv i wr) (fun _ i _ => len - (intOf i).toNat)
  case atStart => exact ⟨0, rfl, rfl, by omega, Below.refl _ _⟩
  case round =>
    obtain ⟨i, rfl, rfl, hi, HB⟩ := hrel
    by_cases hlt : i < len
    · obtain ⟨b, off, n, rfl, hn, c0, c1, c2, c3, c4⟩ := (HN.out.keep HB.out).node hlt
      have hlt' : (i : Int) < len := by omega
      have hil : (i : Int) ≤ 2097152 := by omega
      have HLT := Lib.hid hlt
      rw [markCK_get hlt] at hn
      obtain rfl := Option.some.inj hn
      have HM := Lib.hid (show Calls Tryz.prog 32 #[.int .i64 (1 + 5 * (i : Int))] wr.drew (fun e W' => e = .returned (.string (mtext (1 + 5 * i))) ∧ Below wr.drew.heap.size wr.drew W') by have := HMT.out (1 + 5 * i) (by omega) (by omega) wr.drew; rwa [show ((1 + 5 * i : Nat) : Int) = 1 + 5 * (i : Int) by push_cast; rfl] at this)
      rw [show (((1 : Nat) : Int)) = 1 from rfl] at c1 c2 c3 c4
      simp only at c0 c1 c2 c3 c4
      generalize hmt : mtext (1 + 5 * i) = mt at HM c0
      have HS0 := Lib.hid (show wr.drew.cell? ⟨b, off + i * 5, none⟩ = some (.string mt) ∧ wr.drew.cell? ⟨b, off + i * 5 + 1, none⟩ = some (.int .i64 (1 + 5 * (i : Int) + 1)) ∧ wr.drew.cell? ⟨b, off + i * 5 + 2, none⟩ = some (.int .i64 (1 + 5 * (i : Int) + 1 + 1)) ∧ wr.drew.cell? ⟨b, off + i * 5 + 3, none⟩ = some (.int .i64 (1 + 5 * (i : Int) + 1 + 1 + 1)) ∧ wr.drew.cell? ⟨b, off + i * 5 + 4, none⟩ = some (.int .i64 (1 + 5 * (i : Int) + 1 + 1 + 1 + 1)) ∧ Below W.heap.size W wr.drew from ⟨c0, c1, c2, c3, c4, HB.out.drew⟩)
      have HKP := Lib.hid (fun (u1 u2 : World) (h : u1.cell? ⟨b, off + i * 5, none⟩ = some (.string mt) ∧ u1.cell? ⟨b, off + i * 5 + 1, none⟩ = some (.int .i64 (1 + 5 * (i : Int) + 1)) ∧ u1.cell? ⟨b, off + i * 5 + 2, none⟩ = some (.int .i64 (1 + 5 * (i : Int) + 1 + 1)) ∧ u1.cell? ⟨b, off + i * 5 + 3, none⟩ = some (.int .i64 (1 + 5 * (i : Int) + 1 + 1 + 1)) ∧ u1.cell? ⟨b, off + i * 5 + 4, none⟩ = some (.int .i64 (1 + 5 * (i : Int) + 1 + 1 + 1 + 1)) ∧ Below W.heap.size W u1) (hb : Below u1.heap.size u1 u2) => show u2.cell? ⟨b, off + i * 5, none⟩ = some (.string mt) ∧ u2.cell? ⟨b, off + i * 5 + 1, none⟩ = some (.int .i64 (1 + 5 * (i : Int) + 1)) ∧ u2.cell? ⟨b, off + i * 5 + 2, none⟩ = some (.int .i64 (1 + 5 * (i : Int) + 1 + 1)) ∧ u2.cell? ⟨b, off + i * 5 + 3, none⟩ = some (.int .i64 (1 + 5 * (i : Int) + 1 + 1 + 1)) ∧ u2.cell? ⟨b, off + i * 5 + 4, none⟩ = some (.int .i64 (1 + 5 * (i : Int) + 1 + 1 + 1 + 1)) ∧ Below W.heap.size W u2 from ⟨cell_kept hb h.1, cell_kept hb h.2.1, cell_kept hb h.2.2.1, cell_kept hb h.2.2.2.1, cell_kept hb h.2.2.2.2.1, below_next h.2.2.2.2.2 hb⟩)
      clear hlt hi hn hmt c0 c1 c2 c3 c4
      go_upto_region 4 with (fail)
      go_region_held3 (fun w' => w'.cell? ⟨b, off + i * 5, none⟩ = some (.string mt) ∧ w'.cell? ⟨b, off + i * 5 + 1, none⟩ = some (.int .i64 (1 + 5 * (i : Int) + 1)) ∧ w'.cell? ⟨b, off + i * 5 + 2, none⟩ = some (.int .i64 (1 + 5 * (i : Int) + 1 + 1)) ∧ w'.cell? ⟨b, off + i * 5 + 3, none⟩ = some (.int .i64 (1 + 5 * (i : Int) + 1 + 1 + 1)) ∧ w'.cell? ⟨b, off + i * 5 + 4, none⟩ = some (.int .i64 (1 + 5 * (i : Int) + 1 + 1 + 1 + 1)) ∧ Below W.heap.size W w')
        (first | exact HS0.out | exact HKP.out _ _ HS0.out hb7)
        (first | (go_at_call 32; (with_reducible refine (HM.out).mono ?_); rintro e W7 ⟨rfl, hb7⟩))
      rename_i hS
      obtain ⟨v0, v1, v2, v3, v4, hB7⟩ := hS
      have H7 := Lib.hid hB7
      clear hB7
      go_wp2
      go_roundw
      case rel => exact ⟨i + 1, by push_cast; rfl, by rw [show 1 + 5 * ((i + 1 : Nat) : Int) = 1 + 5 * (i : Int) + 1 + 1 + 1 + 1 + 1 by omega], by have := HLT.out; omega, H7.out⟩
      case measure => have := HLT.out; simp [intOf]; omega
    · have hge : (len : Int) ≤ i := by omega
      have hie : i = len := by omega
      subst hie
      clear hi hlt
      go_wp2
      refine bodyPost_ret (v := .int .i64 (1 + 5 * (i : Int))) (by simp [results, Tryz.f17, go_sem]) rfl ⟨rfl, HB.out⟩

end Go.Proofs.YtnboodcllmdjeaaGreat

/-
  WALKS: laws.szNode, laws.szNodeS: how much a list of nodes from outside holds.
-/
namespace Go.Proofs.YtnboodcllmdjeaaGreat
open Go.RowKit
set_option linter.unusedVariables false

/-- What is left; if anything is, the text is of modest length. -/
def SzOne (n : Nd) (w : World) (e : Ending) (w' : World) : Prop := ∃ z : Int, e = .returned (.int .i64 z) ∧ -1 ≤ z ∧ z ≤ 1048576 ∧ (0 ≤ z → n.p.size ≤ 1048576) ∧ Below w.heap.size w w'

set_option maxHeartbeats 1000000 in
theorem szNode_c (n : Nd) (l : Int) (h0 : 0 ≤ l) (h1 : l ≤ 1048576) (hm : n.p.size ≤ maxLen) (w : World) : Calls Tryz.prog 28 #[nodeV n, .int .i64 l] w (SzOne n w) := by
  obtain ⟨p, k, v⟩ := n
  unfold nodeV
  have hm' : p.size ≤ 9223372036854775807 := Nat.le_trans (show p.size ≤ maxLen from hm) (by unfold maxLen; omega)
  obtain ⟨z, hz⟩ : ∃ z, l - (p.size : Int) = z := ⟨_, rfl⟩
  have hw : IntKind.i64.wrap (l - (p.size : Int)) = z := (IntWalk.i64_in _ (by omega)).trans hz
  by_cases hneg : z < 0
  · clear h0 h1 hm hm' hz
    go_enter Tryz.func28, Tryz.ntmps28
    go_wp2
    go_ret
    exact ⟨-1, rfl, by omega, by omega, fun h => absurd h (by omega), below_box _ _⟩
  · have hpos : 0 ≤ z := by omega
    have HF := Lib.hid (show z ≤ 1048576 ∧ p.size ≤ 1048576 by omega)
    clear h0 h1 hm hm' hz hneg
    go_enter Tryz.func28, Tryz.ntmps28
    go_wp2
    go_ret
    exact ⟨z, rfl, by omega, HF.out.1, fun _ => HF.out.2, below_box _ _⟩

/-- What is left; if anything is, the list and its texts are of modest length. -/
def SzAll (len : Nat) (ns : List Nd) (w : World) (e : Ending) (w' : World) : Prop := ∃ z : Int, e = .returned (.int .i64 z) ∧ (0 ≤ z → len ≤ 1048576 ∧ Short 1048576 ns) ∧ Below w.heap.size w w'

def SzRel (len : Nat) (ns : List Nd) (w : World) (l i : Value) (wr : World) : Prop :=
  ∃ (n : Nat) (z : Int), i = .int .i64 n ∧ n ≤ len ∧ l = .int .i64 z ∧ Hid (0 ≤ z ∧ z ≤ 1048576) ∧ Hid (∀ j m, j < n → ns[j]? = some m → m.p.size ≤ 1048576) ∧ Hid (Below w.heap.size w wr)

set_option maxHeartbeats 1000000 in
theorem szNodeS_c (a : Option Addr) (len cap : Nat) (ns : List Nd) (hlen : len ≤ maxLen) (hm : Short maxLen ns) (w : World) (hN : NodesAt w a len ns) :
    Calls Tryz.prog 11 #[.slice a len cap, .int .i64 1048576] w (SzAll len ns w) := by
  have HN := Lib.hid hN
  have HE := Lib.hid hN.1
  have HM := Lib.hid hm
  have hl : len ≤ 9223372036854775807 := Nat.le_trans hlen (by unfold maxLen; omega)
  have hw0 : IntKind.i64.wrap (1048576 - (len : Int)) = 1048576 - len := IntWalk.i64_in _ (by omega)
  clear hN hm hlen
  by_cases h : len ≤ 1048576
  · obtain ⟨z, hz⟩ : ∃ z, (1048576 : Int) - len = z := ⟨_, rfl⟩
    have hzp : 0 ≤ z := by omega
    have HZ := Lib.hid (show 0 ≤ z ∧ z ≤ 1048576 by omega)
    have hw := hw0.trans hz
    have HL := Lib.hid h
    have hl2 : (len : Int) ≤ 1048576 := by omega
    clear hz hl h hw0
    go_enter Tryz.func11, Tryz.ntmps11
    go_wp2
    clear hzp hw
    go_loopw [1, 5] (fun l i wr => SzRel len ns w l i wr) (fun _ i _ => len - (intOf i).toNat)
    case atStart => exact ⟨0, z, rfl, by omega, rfl, HZ, Lib.hid (fun j m h _ => absurd h (by omega)), Below.refl _ _⟩
    case round =>
      obtain ⟨i, l, rfl, hi, rfl, HLL, HP, HB⟩ := hrel
      by_cases hlt : i < len
      · obtain ⟨b, off, n, rfl, hn, c0, c1, c2⟩ := (HN.out.keep HB.out).node hlt
        have hlt' : (i : Int) < len := by omega
        have HO := Lib.hid (fun w => szNode_c n l HLL.out.1 HLL.out.2 (HM.out n (List.mem_of_getElem? hn)) w)
        have HNN := Lib.hid hn
        have HLT := Lib.hid hlt
        obtain ⟨p, k, v⟩ := n
        unfold nodeV at HO
        clear hi hlt hn
        go_wp2_with fail
        refine (HO.out _).mono ?_; rintro e W2 ⟨z2, rfl, hz0, hz1, hz2, hb2⟩
        have HB2 := Lib.hid (below_next HB.out hb2)
        clear c0 c1 c2 hb2
        by_cases hneg : z2 < 0
        · clear hz0 hz1 hz2
          go_wp2
          go_ret
          exact ⟨-1, rfl, fun h => absurd h (by omega), HB2.out⟩
        · have hpos : 0 ≤ z2 := by omega
          have HZ2 := Lib.hid (And.intro hpos (And.intro hz1 (hz2 hpos)))
          clear hz0 hz1 hz2 hneg
          go_wp2
          go_roundw
          case rel =>
            refine ⟨i + 1, z2, by go_num, by have := HLT.out; omega, rfl, ⟨HZ2.out.1, HZ2.out.2.1⟩, ?_, HB2⟩
            intro j m hj hm
            by_cases hji : j < i
            · exact HP.out j m hji hm
            · have : j = i := by omega
              subst this
              rw [HNN.out] at hm
              obtain rfl := Option.some.inj hm
              exact HZ2.out.2.2
          case measure => have := HLT.out; simp [intOf]; omega
      · have hge : (len : Int) ≤ i := by omega
        have HQ := Lib.hid (show len ≤ i by omega)
        clear hi hlt
        go_wp2
        go_ret
        exact ⟨l, rfl, fun _ => ⟨HL.out, fun n hn => by
          obtain ⟨j, hj⟩ := List.getElem?_of_mem hn
          exact HP.out j n (by have h1 := (List.getElem?_eq_some_iff.1 hj).1; have h2 := HE.out; have h3 := HQ.out; omega) hj⟩, HB.out⟩
  · have hz : (1048576 : Int) - len < 0 := by omega
    obtain ⟨z, hz'⟩ : ∃ z, (1048576 : Int) - len = z := ⟨_, rfl⟩
    have hw := hw0.trans hz'
    rw [hz'] at hz
    clear hz' hl h hw0
    go_enter Tryz.func11, Tryz.ntmps11
    go_wp2
    go_ret
    exact ⟨-1, rfl, fun h => absurd h (by omega), Below.refl _ _⟩

end Go.Proofs.YtnboodcllmdjeaaGreat

/-
  WALKS: laws.szNodeS from whatever is left.
-/
namespace Go.Proofs.YtnboodcllmdjeaaGreat
open Go.RowKit
set_option linter.unusedVariables false

/-- What is left; if anything is, the list and its texts are of modest length. -/
def SzAllG (len : Nat) (ns : List Nd) (w : World) (e : Ending) (w' : World) : Prop := ∃ z : Int, e = .returned (.int .i64 z) ∧ z ≤ 1048576 ∧ (0 ≤ z → len ≤ 1048576 ∧ Short 1048576 ns) ∧ Below w.heap.size w w'

set_option maxHeartbeats 1000000 in
theorem szNodeSG_c (l0 : Int) (hl0 : 0 ≤ l0) (hl1 : l0 ≤ 1048576) (a : Option Addr) (len cap : Nat) (ns : List Nd) (hlen : len ≤ maxLen) (hm : Short maxLen ns) (w : World) (hN : NodesAt w a len ns) :
    Calls Tryz.prog 11 #[.slice a len cap, .int .i64 l0] w (SzAllG len ns w) := by
  have HN := Lib.hid hN
  have HE := Lib.hid hN.1
  have HM := Lib.hid hm
  have hl : len ≤ 9223372036854775807 := Nat.le_trans hlen (by unfold maxLen; omega)
  have hw0 : IntKind.i64.wrap (l0 - (len : Int)) = l0 - len := IntWalk.i64_in _ (by omega)
  clear hN hm hlen
  by_cases h : (len : Int) ≤ l0
  · obtain ⟨z, hz⟩ : ∃ z, l0 - len = z := ⟨_, rfl⟩
    have hzp : 0 ≤ z := by omega
    have HZ := Lib.hid (show 0 ≤ z ∧ z ≤ 1048576 by omega)
    have hw := hw0.trans hz
    have HL := Lib.hid (show len ≤ 1048576 by omega)
    have hl2 : (len : Int) ≤ 1048576 := by omega
    clear hz hl h hw0
    go_enter Tryz.func11, Tryz.ntmps11
    go_wp2
    clear hzp hw
    go_loopw [1, 5] (fun l i wr => SzRel len ns w l i wr) (fun _ i _ => len - (intOf i).toNat)
    case atStart => exact ⟨0, z, rfl, by omega, rfl, HZ, Lib.hid (fun j m h _ => absurd h (by omega)), Below.refl _ _⟩
    case round =>
      obtain ⟨i, l, rfl, hi, rfl, HLL, HP, HB⟩ := hrel
      by_cases hlt : i < len
      · obtain ⟨b, off, n, rfl, hn, c0, c1, c2⟩ := (HN.out.keep HB.out).node hlt
        have hlt' : (i : Int) < len := by omega
        have HO := Lib.hid (fun w => szNode_c n l HLL.out.1 HLL.out.2 (HM.out n (List.mem_of_getElem? hn)) w)
        have HNN := Lib.hid hn
        have HLT := Lib.hid hlt
        obtain ⟨p, k, v⟩ := n
        unfold nodeV at HO
        clear hi hlt hn
        go_wp2_with fail
        refine (HO.out _).mono ?_; rintro e W2 ⟨z2, rfl, hz0, hz1, hz2, hb2⟩
        have HB2 := Lib.hid (below_next HB.out hb2)
        clear c0 c1 c2 hb2
        by_cases hneg : z2 < 0
        · clear hz0 hz1 hz2
          go_wp2
          go_ret
          exact ⟨-1, rfl, by omega, fun h => absurd h (by omega), HB2.out⟩
        · have hpos : 0 ≤ z2 := by omega
          have HZ2 := Lib.hid (And.intro hpos (And.intro hz1 (hz2 hpos)))
          clear hz0 hz1 hz2 hneg
          go_wp2
          go_roundw
          case rel =>
            refine ⟨i + 1, z2, by go_num, by have := HLT.out; omega, rfl, ⟨HZ2.out.1, HZ2.out.2.1⟩, ?_, HB2⟩
            intro j m hj hm
            by_cases hji : j < i
            · exact HP.out j m hji hm
            · have : j = i := by omega
              subst this
              rw [HNN.out] at hm
              obtain rfl := Option.some.inj hm
              exact HZ2.out.2.2
          case measure => have := HLT.out; simp [intOf]; omega
      · have hge : (len : Int) ≤ i := by omega
        have HQ := Lib.hid (show len ≤ i by omega)
        clear hi hlt
        go_wp2
        go_ret
        exact ⟨l, rfl, HLL.out.2, fun _ => ⟨HL.out, fun n hn => by
          obtain ⟨j, hj⟩ := List.getElem?_of_mem hn
          exact HP.out j n (by have h1 := (List.getElem?_eq_some_iff.1 hj).1; have h2 := HE.out; have h3 := HQ.out; omega) hj⟩, HB.out⟩
  · have hz : l0 - len < 0 := by omega
    obtain ⟨z, hz'⟩ : ∃ z, l0 - len = z := ⟨_, rfl⟩
    have hw := hw0.trans hz'
    rw [hz'] at hz
    clear hz' hl h hw0
    go_enter Tryz.func11, Tryz.ntmps11
    go_wp2
    go_ret
    exact ⟨-1, rfl, by omega, fun h => absurd h (by omega), Below.refl _ _⟩

end Go.Proofs.YtnboodcllmdjeaaGreat

/-
  WALKS: laws.markNodeS from any number on.
-/
namespace Go.Proofs.YtnboodcllmdjeaaGreat
open Go.RowKit
set_option linter.unusedVariables false

/-- The nodes that a test writes. -/
def markNK (k0 n : Nat) : List Nd := (List.range n).map (fun i => ⟨mtext (k0 + 3 * i), (k0 : Int) + 3 * (i : Int) + 1, (k0 : Int) + 3 * (i : Int) + 1 + 1⟩)
theorem markNK_len (k0 n : Nat) : (markNK k0 n).length = n := by simp [markNK]
theorem markNK_get {k0 n i : Nat} (h : i < n) : (markNK k0 n)[i]? = some ⟨mtext (k0 + 3 * i), (k0 : Int) + 3 * (i : Int) + 1, (k0 : Int) + 3 * (i : Int) + 1 + 1⟩ := by
  unfold markNK; rw [List.getElem?_map, List.getElem?_range h]; rfl

def MarkedKRel (k0 len base : Nat) (v : Value) (W : World) (kv i : Value) (wr : World) : Prop :=
  ∃ (n : Nat) (zs : List Value), i = .int .i64 n ∧ kv = .int .i64 ((k0 : Int) + 3 * (n : Int)) ∧ n ≤ len ∧ zs.length = (len - n) * 3 ∧ wr.ownsRow base 56 3 v len (flatN ((markNK k0 len).take n) ++ zs) ∧ Hid (W.grownBy wr v.ownBlock)

set_option maxHeartbeats 2000000 in
set_option maxRecDepth 100000 in
theorem markNodeSK_c (v : Value) (base len k0 : Nat) (hk1 : 1 ≤ k0) (hk2 : k0 ≤ 1000000000) (xs : List Value) (hl : len ≤ 2097152) (W : World) (h : W.ownsRow base 56 3 v len xs) :
    Calls Tryz.prog 15 #[v, .int .i64 k0] W fun e W' => e = .returned (.int .i64 ((k0 : Int) + 3 * (len : Int))) ∧ W.grownBy W' v.ownBlock ∧ W'.ownsRow base 56 3 v len (flatN (markNK k0 len)) := by
  have HX := Lib.hid h
  have hxl := h.1
  have HMT := Lib.hid (fun k (h1 : 1 ≤ k) (h2 : k ≤ 1099511627776) w => markText_c k h1 h2 w)
  obtain ⟨a, cap, hv⟩ : ∃ a cap, v = .slice a len cap := by
    rcases own_cases h with ⟨h1, h2⟩ | ⟨g, cap, h1⟩
    · exact ⟨none, 0, by rw [h1, h2]⟩
    · exact ⟨_, cap, h1⟩
  have hl' : (len : Int) ≤ 2097152 := by omega
  have hk2' : (k0 : Int) ≤ 1000000000 := by omega
  have hk1' : (1 : Int) ≤ k0 := by omega
  clear h
  subst hv
  go_enter Tryz.func15, Tryz.ntmps15
  go_wp2
  go_loopw [1, 5] (fun kv i wr => MarkedKRel k0 len base (.slice a len cap) W kv i wr) (fun _ i _ => len - (intOf i).toNat)
  case atStart => exact ⟨0, xs, rfl, by simp, by omega, by rw [hxl]; rfl, HX.out, ⟨rfl, rfl, rfl, Nat.le_refl _, fun _ _ _ => rfl⟩⟩
  case round =>
    obtain ⟨i, zs, rfl, rfl, hi, hzl, hown, HG⟩ := hrel
    by_cases hlt : i < len
    · have hlt' : (i : Int) < len := by omega
      have hil : (i : Int) ≤ 2097152 := by omega
      have HLT := Lib.hid hlt
      have HZ := Lib.hid (And.intro hzl (show 3 ≤ zs.length by omega))
      rcases own_cases hown with ⟨_, h2⟩ | ⟨g, cap', h2⟩
      · omega
      simp at h2
      obtain ⟨rfl, rfl⟩ := h2
      have HO := Lib.hid hown
      have HM := Lib.hid (show Calls Tryz.prog 32 #[.int .i64 ((k0 : Int) + 3 * (i : Int))] wr (fun e W' => e = .returned (.string (mtext (k0 + 3 * i))) ∧ Below wr.heap.size wr W') by have := HMT.out (k0 + 3 * i) (by omega) (by omega) wr; rwa [show ((k0 + 3 * i : Nat) : Int) = (k0 : Int) + 3 * (i : Int) by push_cast; rfl] at this)
      clear hi hlt hzl hown
      go_wp2_with fail
      refine HM.out.mono ?_
      rintro e W2 ⟨rfl, hb2⟩
      have HO2 := Lib.hid (own_below HO.out hb2)
      have HG2 := Lib.hid (grown_next HG.out hb2)
      have hll : (flatN ((markNK k0 len).take i)).length = i * 3 := by rw [flatN_length, List.length_take, markNK_len]; have := HLT.out; omega
      have cell : ∀ j, j < 3 → ∃ u, W2.cell? ⟨g, i * 3 + j, none⟩ = some u := by
        intro j hj
        have hx := HZ.out.1
        have hy := HLT.out
        rw [HO2.out.cellAt _ (by omega)]
        exact ⟨_, List.getElem?_eq_getElem (by rw [List.length_append, hll]; omega)⟩
      obtain ⟨u0, e0⟩ := cell 0 (by omega)
      replace e0 : W2.cell? ⟨g, i * 3, none⟩ = some u0 := e0
      obtain ⟨u1, e1⟩ := cell 1 (by omega)
      obtain ⟨u2, e2⟩ := cell 2 (by omega)
      have y0 := HO2.out.frozenAt (i * 3)
      have y1 := HO2.out.frozenAt (i * 3 + 1)
      have y2 := HO2.out.frozenAt (i * 3 + 2)
      generalize hmt : mtext (k0 + 3 * i) = mt
      have HMTX := Lib.hid hmt
      clear cell hll hb2 hmt
      go_wp2
      have HS3 := stored3 HO2.out (i * 3) (.string mt) (.int .i64 ((k0 : Int) + 3 * (i : Int) + 1)) (.int .i64 ((k0 : Int) + 3 * (i : Int) + 1 + 1))
      rw [← HMTX.out, flatN_take_set (markNK k0 len) i _ zs (markNK_get HLT.out) HZ.out.2] at HS3
      go_roundw
      case rel =>
        refine ⟨i + 1, zs.drop 3, by push_cast; rfl, by rw [show (k0 : Int) + 3 * ((i + 1 : Nat) : Int) = (k0 : Int) + 3 * (i : Int) + 1 + 1 + 1 by omega], by have := HLT.out; omega, by rw [List.length_drop]; have h1 := HZ.out.1; have h2 := HZ.out.2; have h3 := HLT.out; omega, ?_, ?_⟩
        · rw [← HMTX.out]; exact HS3
        · exact ((HG2.out.set _ _ rfl _).set _ _ rfl _).set _ _ rfl _
      case measure => have := HLT.out; simp [intOf]; omega
    · have hge : (len : Int) ≤ i := by omega
      have hie : i = len := by omega
      have hz0' : zs = [] := List.eq_nil_of_length_eq_zero (by omega)
      subst hz0'
      subst hie
      rw [List.append_nil, List.take_of_length_le (by rw [markNK_len]; omega)] at hown
      clear hi hlt
      go_wp2
      refine bodyPost_ret (v := .int .i64 ((k0 : Int) + 3 * (i : Int))) (by simp [results, Tryz.f15, go_sem]) rfl ⟨rfl, HG.out, hown⟩

end Go.Proofs.YtnboodcllmdjeaaGreat
