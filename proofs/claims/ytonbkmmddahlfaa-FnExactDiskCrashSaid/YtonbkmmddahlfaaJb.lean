/-
  DISKS in memory: lists of numbers that stay, files, lists of files.
-/
import Derived.Maps.AppendAt
import Derived.OwnWalk
import Derived.Laws.OwnMore
import Derived.Test.YtonbkmmddahlfaaJa
import Derived.Test.YtonbkmmddahlfaaFd
namespace Go.Proofs.Ytonbkmmddahlfaa
open Go.RowKit
set_option linter.unusedVariables false

/-- Nothing turns but blocks that hold no numbers. -/
def IntKept (W W' : World) : Prop :=
  W'.os = W.os ∧ W'.tape = W.tape ∧ W'.output = W.output ∧ W.heap.size ≤ W'.heap.size ∧ ∀ k cs, k < W.heap.size → W.heap[k]? = some (.cells cs 3 (0, 0)) → W'.heap[k]? = W.heap[k]?

theorem IntKept.refl (W : World) : IntKept W W := ⟨rfl, rfl, rfl, Nat.le_refl _, fun _ _ _ _ => rfl⟩
theorem IntKept.trans {A B C : World} (h : IntKept A B) (k : IntKept B C) : IntKept A C :=
  ⟨k.1.trans h.1, k.2.1.trans h.2.1, k.2.2.1.trans h.2.2.1, Nat.le_trans h.2.2.2.1 k.2.2.2.1, fun i cs hi hc => by
    have e := h.2.2.2.2 i cs hi hc
    exact (k.2.2.2.2 i cs (Nat.lt_of_lt_of_le hi h.2.2.2.1) (e.trans hc)).trans e⟩
theorem IntKept.of_below {W W' : World} (h : Below W.heap.size W W') : IntKept W W' := ⟨h.os, h.tape, h.output, h.size, fun k cs hk _ => h.block k hk⟩
theorem IntKept.of_own {W W' : World} {b : Nat} {e : TypeId} {size n : Nat} {v : Value} {xs : List Value} (ho : W.ownsRow b e size v n xs) (he : e ≠ 3) (hg : W.grownBy W' v.ownBlock) : IntKept W W' := by
  refine ⟨hg.os, hg.tape, hg.output, hg.size, fun k cs hk hc => hg.block k hk ?_⟩
  rcases ho.2 with ⟨rfl, _⟩ | ⟨g, cap, cur, rfl, _, hgg, _⟩
  · simp [Value.ownBlock]
  · intro e1
    have e2 : k = g := by simpa [Value.ownBlock] using e1
    subst e2
    rw [hc] at hgg
    cases hgg
    exact he rfl
theorem IntKept.set {W : World} {b : Nat} {cs : Array Value} {t : TypeId} (hb : W.heap[b]? = some (.cells cs t (0, 0))) (ht : t ≠ 3) (o : Nat) (v : Value) : IntKept W (W.setCell ⟨b, o, none⟩ v) := by
  refine ⟨rfl, rfl, rfl, by simp [World.setCell], fun k ds hk hc => Below.heap_setCell _ _ _ _ (fun e => ?_)⟩
  have e2 : k = b := e
  subst e2
  rw [hb] at hc
  cases hc
  exact ht rfl

/-- A list of numbers in a block of numbers. -/
def LsAt (W : World) (v : Value) (zs : List Int) : Prop :=
  ∃ a c, v = .slice a zs.length c ∧ zs.length ≤ c ∧ c ≤ maxLen ∧ (a = none → c = 0) ∧
    (zs.length = 0 ∨ ∃ b off cs, a = some ⟨b, off, none⟩ ∧ b < W.heap.size ∧ W.heap[b]? = some (.cells cs 3 (0, 0)) ∧ ∀ i z, zs[i]? = some z → W.cell? ⟨b, off + i, none⟩ = some (.int .i64 z))

theorem LsAt.kept {W W' : World} {v : Value} {zs : List Int} (h : LsAt W v zs) (hk : IntKept W W') : LsAt W' v zs := by
  obtain ⟨a, c, h1, h2, h3, h4, h5⟩ := h
  refine ⟨a, c, h1, h2, h3, h4, ?_⟩
  rcases h5 with h0 | ⟨b, off, cs, ha, hb, hcs, hz⟩
  · exact .inl h0
  · have e := hk.2.2.2.2 b cs hb hcs
    exact .inr ⟨b, off, cs, ha, Nat.lt_of_lt_of_le hb hk.2.2.2.1, e.trans hcs, fun i z hi => (World.cell?_of_block e).trans (hz i z hi)⟩
theorem LsAt.keep {W W' : World} {v : Value} {zs : List Int} (h : LsAt W v zs) (hb : Below W.heap.size W W') : LsAt W' v zs := h.kept (IntKept.of_below hb)

theorem LsAt.out {W : World} {v : Value} {zs : List Int} (h : LsAt W v zs) : ∃ a c, v = .slice a zs.length c ∧ IntsAt W a zs.length zs ∧ zs.length ≤ c ∧ c ≤ maxLen ∧ (a = none → c = 0) := by
  obtain ⟨a, c, h1, h2, h3, h4, h5⟩ := h
  refine ⟨a, c, h1, ⟨rfl, ?_⟩, h2, h3, h4⟩
  rcases h5 with h0 | ⟨b, off, cs, ha, hb, hcs, hz⟩
  · exact .inl h0
  · exact .inr ⟨b, off, ha, hz⟩
theorem LsAt.ints {W : World} {a : Option Addr} {len c : Nat} {zs : List Int} (h : LsAt W (.slice a len c) zs) : len = zs.length ∧ IntsAt W a zs.length zs ∧ zs.length ≤ c ∧ c ≤ maxLen ∧ (a = none → c = 0) := by
  obtain ⟨a', c', he, h2, h3, h4, h5⟩ := h.out
  cases he
  exact ⟨rfl, h2, h3, h4, h5⟩
theorem ls_nil (W : World) : LsAt W (.slice none 0 0) [] := ⟨none, 0, rfl, Nat.le_refl _, Nat.zero_le _, fun _ => rfl, .inl rfl⟩

theorem ls_of_own {W : World} {base : Nat} {v : Value} {zs : List Int} (h : W.ownsRow base 3 1 v zs.length (intsV zs)) : LsAt W v zs := by
  rcases h.2 with ⟨rfl, h0⟩ | ⟨g, cap, cur, rfl, h1, h2, h3, h4, h5, h6⟩
  · exact ⟨none, 0, by rw [h0], by omega, Nat.zero_le _, fun _ => rfl, .inl h0⟩
  · refine ⟨some ⟨g, 0, none⟩, cap, rfl, h3, h4, (by simp), .inr ⟨g, 0, cur, rfl, (Array.getElem?_eq_some_iff.1 h2).1, h2, fun i x hx => ?_⟩⟩
    have hi := (List.getElem?_eq_some_iff.1 hx).1
    rw [Nat.zero_add, h.cellAt i (by omega)]
    unfold intsV
    rw [List.getElem?_map, hx]; rfl

/-- A part of a list. -/
theorem LsAt.take {W : World} {a : Option Addr} {len c : Nat} {zs : List Int} (h : LsAt W (.slice a len c) zs) {k : Nat} (hk : k ≤ zs.length) : LsAt W (.slice a k c) (zs.take k) := by
  obtain ⟨a', c', he, h2, h3, h4, h5⟩ := h
  cases he
  have hl : (zs.take k).length = k := by rw [List.length_take]; omega
  refine ⟨a, c, by rw [hl], by rw [hl]; omega, h3, h4, ?_⟩
  rcases h5 with h0 | ⟨b, off, cs, ha, hb, hcs, hz⟩
  · exact .inl (by rw [hl]; omega)
  · refine .inr ⟨b, off, cs, ha, hb, hcs, fun i z hi => hz i z ?_⟩
    rw [List.getElem?_take] at hi
    split at hi
    · exact hi
    · cases hi

/-- The values of lists, one behind the other. -/
def LsAll (W : World) (vs : List Value) (zss : List (List Int)) : Prop := vs.length = zss.length ∧ ∀ (i : Nat) (z : List Int) (v : Value), zss[i]? = some z → vs[i]? = some v → LsAt W v z
theorem LsAll.kept {W W' : World} {vs : List Value} {zss : List (List Int)} (h : LsAll W vs zss) (hk : IntKept W W') : LsAll W' vs zss := ⟨h.1, fun i z v hz hv => (h.2 i z v hz hv).kept hk⟩
theorem LsAll.nil (W : World) : LsAll W [] [] := ⟨rfl, fun i z v hz => by simp at hz⟩
theorem LsAll.push {W : World} {vs : List Value} {zss : List (List Int)} {v : Value} {z : List Int} (h : LsAll W vs zss) (hv : LsAt W v z) : LsAll W (vs ++ [v]) (zss ++ [z]) := by
  refine ⟨by simp [h.1], fun i z' v' hz hv' => ?_⟩
  by_cases hi : i < zss.length
  · rw [List.getElem?_append_left hi] at hz
    rw [List.getElem?_append_left (by have := h.1; omega)] at hv'
    exact h.2 i z' v' hz hv'
  · have e1 : i = zss.length := by
      have := (List.getElem?_eq_some_iff.1 hz).1
      simp at this; omega
    subst e1
    rw [List.getElem?_append_right (Nat.le_refl _)] at hz
    rw [← h.1, List.getElem?_append_right (Nat.le_refl _)] at hv'
    simp at hz hv'
    subst hz; subst hv'
    exact hv
theorem lsAll_inner {W : World} {base : Nat} {vs : List Value} {zss : List (List Int)} (h : Inner W base vs zss) : LsAll W vs zss := ⟨h.1, fun i z v hz hv => ls_of_own (h.2.1 i z v hz hv)⟩

/-! ## Lists of files -/

theorem infoBlob : (Try.prog.info? 48).map (fun i => (i.zero, i.size, i.bytes)) = some (some (.agg #[.int .i64 0, .slice none 0 0, .slice none 0 0]), 3, 56) := by kernel_rfl

/-- The cells of files whose lists are given. -/
def flatBJ : List Bl → List Value → List Value
  | b :: bs, u :: v :: vs => .int .i64 b.n :: u :: v :: flatBJ bs vs
  | _, _ => []
/-- The lists of files. -/
def listsB (bs : List Bl) : List (List Int) := bs.flatMap (fun b => [b.s, b.f])
theorem listsB_cons (b : Bl) (bs : List Bl) : listsB (b :: bs) = b.s :: b.f :: listsB bs := rfl
theorem listsB_append (a b : List Bl) : listsB (a ++ b) = listsB a ++ listsB b := by unfold listsB; rw [List.flatMap_append]
theorem listsB_len (bs : List Bl) : (listsB bs).length = 2 * bs.length := by
  induction bs with
  | nil => rfl
  | cons b r ih => rw [listsB_cons]; simp [ih]; omega

theorem flatB_append : ∀ (a : List Bl) (us : List Value) (b : List Bl) (vs : List Value), us.length = 2 * a.length → flatBJ (a ++ b) (us ++ vs) = flatBJ a us ++ flatBJ b vs
  | [], us, b, vs, h => by
    have : us = [] := List.eq_nil_of_length_eq_zero (by simpa using h)
    subst this; rfl
  | x :: a, us, b, vs, h => by
    match us, h with
    | u :: v :: us, h =>
      simp only [List.cons_append, flatBJ]
      rw [flatB_append a us b vs (by simp at h; omega)]
    | [u], h => simp at h; omega
    | [], h => simp at h
theorem flatB_len : ∀ (bs : List Bl) (vs : List Value), vs.length = 2 * bs.length → (flatBJ bs vs).length = bs.length * 3
  | [], vs, h => by
    have : vs = [] := List.eq_nil_of_length_eq_zero (by simpa using h)
    subst this; rfl
  | x :: a, us, h => by
    match us, h with
    | u :: v :: us, h =>
      simp only [flatBJ, List.length_cons]
      rw [flatB_len a us (by simp at h; omega)]
      omega
    | [u], h => simp at h; omega
    | [], h => simp at h
theorem flatB_get : ∀ (bs : List Bl) (vs : List Value) (i : Nat) (b : Bl), vs.length = 2 * bs.length → bs[i]? = some b →
    ∃ u v, vs[2 * i]? = some u ∧ vs[2 * i + 1]? = some v ∧ (flatBJ bs vs)[i * 3]? = some (.int .i64 b.n) ∧ (flatBJ bs vs)[i * 3 + 1]? = some u ∧ (flatBJ bs vs)[i * 3 + 2]? = some v
  | [], vs, i, b, h, hb => by simp at hb
  | x :: a, us, i, b, h, hb => by
    match us, h with
    | u :: v :: us, h =>
      match i, hb with
      | 0, hb =>
        simp at hb
        subst hb
        exact ⟨u, v, rfl, rfl, rfl, rfl, rfl⟩
      | i + 1, hb =>
        obtain ⟨u', v', h1, h2, h3, h4, h5⟩ := flatB_get a us i b (by simp at h; omega) (by simpa using hb)
        refine ⟨u', v', ?_, ?_, ?_, ?_, ?_⟩
        · rw [show 2 * (i + 1) = 2 * i + 2 by omega]; exact h1
        · rw [show 2 * (i + 1) + 1 = 2 * i + 1 + 2 by omega]; exact h2
        · rw [show (i + 1) * 3 = i * 3 + 3 by omega]; exact h3
        · rw [show (i + 1) * 3 + 1 = i * 3 + 1 + 3 by omega]; exact h4
        · rw [show (i + 1) * 3 + 2 = i * 3 + 2 + 3 by omega]; exact h5
    | [u], h => simp at h; omega
    | [], h => simp at h
theorem listsB_get : ∀ (bs : List Bl) (i : Nat) (b : Bl), bs[i]? = some b → (listsB bs)[2 * i]? = some b.s ∧ (listsB bs)[2 * i + 1]? = some b.f
  | [], i, b, h => by simp at h
  | x :: a, 0, b, h => by simp at h; subst h; exact ⟨rfl, rfl⟩
  | x :: a, i + 1, b, h => by
    obtain ⟨h1, h2⟩ := listsB_get a i b (by simpa using h)
    rw [listsB_cons, show 2 * (i + 1) = 2 * i + 2 by omega]
    exact ⟨h1, h2⟩

/-- A file at a place. -/
def BlobAt (W : World) (b off : Nat) (x : Bl) : Prop :=
  ∃ u v, W.cell? ⟨b, off, none⟩ = some (.int .i64 x.n) ∧ W.cell? ⟨b, off + 1, none⟩ = some u ∧ W.cell? ⟨b, off + 2, none⟩ = some v ∧ LsAt W u x.s ∧ LsAt W v x.f
theorem BlobAt.keep {W W' : World} {b off : Nat} {x : Bl} (h : BlobAt W b off x) (hb : Below W.heap.size W W') : BlobAt W' b off x := by
  obtain ⟨u, v, h1, h2, h3, h4, h5⟩ := h
  exact ⟨u, v, cell_kept hb h1, cell_kept hb h2, cell_kept hb h3, h4.keep hb, h5.keep hb⟩
/-- A list of files in memory. -/
def BlobsAt (W : World) (a : Option Addr) (len : Nat) (bs : List Bl) : Prop :=
  bs.length = len ∧ (len = 0 ∨ ∃ b off, a = some ⟨b, off, none⟩ ∧ ∀ i x, bs[i]? = some x → BlobAt W b (off + i * 3) x)
theorem BlobsAt.keep {W W' : World} {a : Option Addr} {len : Nat} {bs : List Bl} (h : BlobsAt W a len bs) (hb : Below W.heap.size W W') : BlobsAt W' a len bs := by
  obtain ⟨h1, h0 | ⟨b, off, ha, hc⟩⟩ := h
  · exact ⟨h1, .inl h0⟩
  · exact ⟨h1, .inr ⟨b, off, ha, fun i x hn => (hc i x hn).keep hb⟩⟩
theorem BlobsAt.at {W : World} {a : Option Addr} {len : Nat} {bs : List Bl} (h : BlobsAt W a len bs) {i : Nat} (hi : i < len) :
    ∃ b off x u v, a = some ⟨b, off, none⟩ ∧ bs[i]? = some x ∧ W.cell? ⟨b, off + i * 3, none⟩ = some (.int .i64 x.n) ∧ W.cell? ⟨b, off + i * 3 + 1, none⟩ = some u ∧ W.cell? ⟨b, off + i * 3 + 2, none⟩ = some v ∧ LsAt W u x.s ∧ LsAt W v x.f := by
  obtain ⟨h1, h0 | ⟨b, off, ha, hc⟩⟩ := h
  · omega
  · obtain ⟨x, hx⟩ : ∃ x, bs[i]? = some x := ⟨_, List.getElem?_eq_getElem (by omega)⟩
    obtain ⟨u, v, h2⟩ := hc i x hx
    exact ⟨b, off, x, u, v, ha, hx, h2⟩
/-- The same, with the lists' values written out. -/
theorem BlobsAt.at2 {W : World} {a : Option Addr} {len : Nat} {bs : List Bl} (h : BlobsAt W a len bs) {i : Nat} (hi : i < len) :
    ∃ b off x a1 c1 a2 c2, a = some ⟨b, off, none⟩ ∧ bs[i]? = some x ∧ W.cell? ⟨b, off + i * 3, none⟩ = some (.int .i64 x.n) ∧ W.cell? ⟨b, off + i * 3 + 1, none⟩ = some (.slice a1 x.s.length c1) ∧ W.cell? ⟨b, off + i * 3 + 2, none⟩ = some (.slice a2 x.f.length c2) ∧ LsAt W (.slice a1 x.s.length c1) x.s ∧ LsAt W (.slice a2 x.f.length c2) x.f := by
  obtain ⟨b, off, x, u, v, ha, hx, h1, h2, h3, h4, h5⟩ := h.at hi
  obtain ⟨a1, c1, rfl, -⟩ := h4.out
  obtain ⟨a2, c2, rfl, -⟩ := h5.out
  exact ⟨b, off, x, a1, c1, a2, c2, ha, hx, h1, h2, h3, h4, h5⟩

/-- A list of files that the call has made, its lists wherever they lie. -/
def OwnsB (W : World) (base : Nat) (sl : Value) (bs : List Bl) : Prop :=
  ∃ vs, W.ownsRow base 48 3 sl bs.length (flatBJ bs vs) ∧ LsAll W vs (listsB bs)
theorem blobs_of {W : World} {base : Nat} {sl : Value} {bs : List Bl} {vs : List Value} (h : W.ownsRow base 48 3 sl bs.length (flatBJ bs vs)) (hv : LsAll W vs (listsB bs)) :
    ∃ a c, sl = .slice a bs.length c ∧ BlobsAt W a bs.length bs ∧ bs.length ≤ c ∧ c ≤ maxLen ∧ (a = none → c = 0) := by
  have hl : vs.length = 2 * bs.length := by rw [hv.1, listsB_len]
  rcases h.2 with ⟨rfl, h0⟩ | ⟨g, cap, cur, rfl, h1, h2, h3, h4, h5, h6⟩
  · exact ⟨none, 0, by rw [h0], ⟨rfl, .inl h0⟩, by omega, Nat.zero_le _, fun _ => rfl⟩
  · refine ⟨some ⟨g, 0, none⟩, cap, rfl, ⟨rfl, .inr ⟨g, 0, rfl, fun i x hx => ?_⟩⟩, h3, h4, by simp⟩
    have hi := (List.getElem?_eq_some_iff.1 hx).1
    obtain ⟨u, v, e1, e2, e3, e4, e5⟩ := flatB_get bs vs i x hl hx
    obtain ⟨g1, g2⟩ := listsB_get bs i x hx
    refine ⟨u, v, ?_, ?_, ?_, hv.2 _ _ _ g1 e1, hv.2 _ _ _ g2 e2⟩
    · rw [Nat.zero_add, h.cellAt (i * 3) (by omega)]; exact e3
    · rw [Nat.zero_add, h.cellAt (i * 3 + 1) (by omega)]; exact e4
    · rw [Nat.zero_add, h.cellAt (i * 3 + 2) (by omega)]; exact e5
theorem OwnsB.at {W : World} {base : Nat} {sl : Value} {bs : List Bl} (h : OwnsB W base sl bs) : ∃ a c, sl = .slice a bs.length c ∧ BlobsAt W a bs.length bs ∧ bs.length ≤ c ∧ c ≤ maxLen ∧ (a = none → c = 0) := by
  obtain ⟨vs, h1, h2⟩ := h
  exact blobs_of h1 h2
theorem OwnsB.below {W W' : World} {base : Nat} {sl : Value} {bs : List Bl} (h : OwnsB W base sl bs) (hb : Below W.heap.size W W') : OwnsB W' base sl bs := by
  obtain ⟨vs, h1, h2⟩ := h
  exact ⟨vs, own_below1 h1 hb, h2.kept (IntKept.of_below hb)⟩

theorem cell_three_newJ (w : World) (x y z : Value) (t : TypeId) : ∀ j r, [x, y, z][j]? = some r → (w.alloc (.cells #[x, y, z] t)).cell? ((⟨w.heap.size, 0, none⟩ : Addr).add j) = some r := by
  intro j r hj
  match j, hj with
  | 0, hj => simp at hj; subst hj; simp [Addr.add]
  | 1, hj => simp at hj; subst hj; simp [Addr.add]
  | 2, hj => simp at hj; subst hj; simp [Addr.add]

theorem ls_one {W : World} {v : Value} {zs : List Int} (h : LsAt W v zs) : v.oneCell' = true := by
  obtain ⟨a, c, rfl, _⟩ := h
  rfl

/-- append(v, x) at a list of files: x stands in a block of its own. -/
theorem wpList_append_blob {w : World} {ops : Array Oper} {rest : List Oper} {o : Oper} {a : Act} {Q : Exit → Act → World → Prop} (hgd : o.guard = none) (s x : Operand)
    (ho : o.op = .call { callee := .builtin .append, args := #[s, x], argTypes := #[25, 25] })
    (base : Nat) (v : Value) (acc : List Bl) (vs : List Value) (hs : a.eval s = v) (hown : w.ownsRow base 48 3 v acc.length (flatBJ acc vs)) (hvl : vs.length = 2 * acc.length)
    (ad : Addr) (cap : Nat) (y : Bl) (p q : Value) (hx : a.eval x = .slice (some ad) 1 cap) (hc : ∀ j u, [Value.int .i64 y.n, p, q][j]? = some u → w.cell? (ad.add j) = some u) (hp : p.oneCell' = true) (hq : q.oneCell' = true) (hlen : acc.length ≤ 2097152) (hb : base ≤ w.heap.size)
    (h : ∀ v3 w3, w3.ownsRow base 48 3 v3 (acc ++ [y]).length (flatBJ (acc ++ [y]) (vs ++ [p, q])) → w.grownBy w3 v.ownBlock → wpList Try.prog ops Q rest (a.put o.dst v3) w3) : wpList Try.prog ops Q (o :: rest) a w := by
  obtain ⟨i0, hi0, hz0, hz1, hz2⟩ := info_parts infoBlob
  refine wpList_plain hgd fun K hK => ?_
  refine wp_append_own w s x 25 ho base 48 i0 (.agg #[.int .i64 0, .slice none 0 0, .slice none 0 0]) 3 56 Try.underlying25 hi0 hz0 hz1 hz2 rfl (by decide) v acc.length _ hs hown ad 1 cap [.int .i64 y.n, p, q] hx rfl hc (fun u hu => ?_) (by unfold maxLen; omega) (by omega) hb fun v' w' h1 h2 _ => hK _ _ (h v' w' ?_ h2)
  · simp at hu
    rcases hu with rfl | rfl | rfl
    · rfl
    · exact hp
    · exact hq
  · rw [flatB_append acc vs [y] [p, q] hvl, List.length_append]
    exact h1

/-- What a function on disks tells: files or a failure. -/
def DiskPost (r : Option (List Bl)) (W : World) (e : Ending) (w' : World) : Prop :=
  ∃ (a : Option Addr) (c : Nat) (out : List Bl) (b : Bool), e = .returned (.tuple #[.slice a out.length c, .bool b]) ∧ ((b = true ∧ r = some out) ∨ (b = false ∧ r = none ∧ out = [])) ∧ BlobsAt w' a out.length out ∧ (out.length ≤ c ∧ c ≤ maxLen ∧ (a = none → c = 0)) ∧ Below W.heap.size W w'
theorem disk_made {r : Option (List Bl)} {W w' : World} {base : Nat} {sl : Value} {out : List Bl} (hr : r = some out) (ho : OwnsB w' base sl out) (hb : Below W.heap.size W w') : DiskPost r W (.returned (.tuple #[sl, .bool true])) w' := by
  obtain ⟨a, c, rfl, h1, h2⟩ := ho.at
  exact ⟨a, c, out, true, rfl, .inl ⟨rfl, hr⟩, h1, h2, hb⟩
theorem disk_fail {r : Option (List Bl)} {W w' : World} {a : Option Addr} {c : Nat} (hr : r = none) (hc : c ≤ maxLen) (ha : a = none → c = 0) (hb : Below W.heap.size W w') : DiskPost r W (.returned (.tuple #[.slice a 0 c, .bool false])) w' :=
  ⟨a, c, [], false, rfl, .inr ⟨rfl, hr, rfl⟩, ⟨rfl, .inl rfl⟩, ⟨Nat.zero_le _, hc, ha⟩, hb⟩

end Go.Proofs.Ytonbkmmddahlfaa
