/-
  THE HARNESS OF FILES: laws.toBlob, toBlobS, eqBlob, eqBlobS.
-/
import Derived.Test.YtonbkmmddahlfaaKa
import Derived.Test.YtonbkmmddahlfaaJd
namespace Go.Proofs.Ytonbkmmddahlfaa
open Go.RowKit
set_option linter.unusedVariables false
set_option linter.unusedSimpArgs false

theorem kj_first : (0 : Nat) ≤ 0 := Nat.le_refl 0

/-- A block of cells of the call's own. -/
def BlkB (W : World) (g : Nat) (cs : Array Value) (t : TypeId) : Prop := W.heap[g]? = some (.cells cs t (0, 0))
theorem blkB_new (W : World) (cs : Array Value) (t : TypeId) : BlkB (W.alloc (.cells cs t)) W.heap.size cs t := World.alloc_heap_new _ _
theorem BlkB.lt {W : World} {g : Nat} {cs : Array Value} {t : TypeId} (h : BlkB W g cs t) : g < W.heap.size := by
  unfold BlkB at h
  exact (Array.getElem?_eq_some_iff.1 h).1
theorem BlkB.below {W W' : World} {g : Nat} {cs : Array Value} {t : TypeId} (h : BlkB W g cs t) (hb : Below W.heap.size W W') : BlkB W' g cs t := (hb.block g h.lt).trans h
theorem BlkB.alloc {W : World} {g : Nat} {cs : Array Value} {t : TypeId} (h : BlkB W g cs t) (o : Obj) : BlkB (W.alloc o) g cs t := h.below (below_box W o)
theorem BlkB.cell {W : World} {g : Nat} {cs : Array Value} {t : TypeId} (h : BlkB W g cs t) (i : Nat) : W.cell? ⟨g, i, none⟩ = cs[i]? := cell_of_row W g i cs t (0, 0) h
theorem BlkB.frozen {W : World} {g : Nat} {cs : Array Value} {t : TypeId} (h : BlkB W g cs t) (i : Nat) : W.frozen? ⟨g, i, none⟩ = false := frozen_of_row W g i cs t h
theorem BlkB.set {W : World} {g : Nat} {cs : Array Value} {t : TypeId} (h : BlkB W g cs t) (i : Nat) (u : Value) : BlkB (W.setCell ⟨g, i, none⟩ u) g (cs.setIfInBounds i u) t := heap_setCell_same W g i cs t u h
theorem BlkB.setOther {W : World} {g : Nat} {cs : Array Value} {t : TypeId} (h : BlkB W g cs t) (a : Addr) (u : Value) (ha : g ≠ a.block) : BlkB (W.setCell a u) g cs t := (heap_setCell_other W a g u ha).trans h

theorem blob_resultsB (s : Nat) (fn : Func) (hf : fn.results = #[.cell s 48]) (W : World) (g : Nat) (n : Int) (u v : Value) (hu : u.oneCell' = true) (hv : v.oneCell' = true) (tmps : Array Value) (ht : tmps[s]? = some (.pointer (some ⟨g, 0, none⟩)))
    (h : W.cell? ⟨g, 0, none⟩ = some (.int .i64 n) ∧ W.cell? ⟨g, 1, none⟩ = some u ∧ W.cell? ⟨g, 2, none⟩ = some v) : (results fn tmps).run Try.prog W = .ok (.agg #[.int .i64 n, u, v]) W := by
  obtain ⟨c0, c1, c2⟩ := h
  simp [results, hf, go_sem, ht, c0, c1, c2]

theorem own_setB {W : World} {base g j n size : Nat} {e : TypeId} {v u : Value} {xs : List Value} (h : W.ownsRow base e size v n xs) (hne : ∀ k, v.ownBlock = some k → k ≠ g) : (W.setCell ⟨g, j, none⟩ u).ownsRow base e size v n xs := by
  refine ⟨h.1, ?_⟩
  rcases h.2 with h0 | ⟨g', cap, cur, rfl, hb, hg, hr⟩
  · exact .inl h0
  · exact .inr ⟨g', cap, cur, rfl, hb, (heap_setCell_other W ⟨g, j, none⟩ g' u (hne g' rfl)).trans hg, hr⟩

theorem flatB_lenK : ∀ (bs : List Bl) (vs : List Value), vs.length = 2 * bs.length → (flatBJ bs vs).length = bs.length * 3
  | [], vs, h => by
    have : vs = [] := List.eq_nil_of_length_eq_zero (by simpa using h)
    subst this
    rfl
  | b :: bs, u :: v :: vs, h => by
    show (flatBJ bs vs).length + 1 + 1 + 1 = _
    rw [flatB_lenK bs vs (by simp at h; omega)]
    simp
    omega
  | b :: bs, [u], h => by simp at h; omega
  | b :: bs, [], h => by simp at h
theorem flatB_pushK : ∀ (bs : List Bl) (vs : List Value) (b : Bl) (u v : Value), vs.length = 2 * bs.length → flatBJ (bs ++ [b]) (vs ++ [u, v]) = flatBJ bs vs ++ [.int .i64 b.n, u, v]
  | [], vs, b, u, v, h => by
    have : vs = [] := List.eq_nil_of_length_eq_zero (by simpa using h)
    subst this
    rfl
  | c :: bs, x :: y :: vs, b, u, v, h => by
    show _ :: x :: y :: flatBJ (bs ++ [b]) (vs ++ [u, v]) = _ :: x :: y :: flatBJ bs vs ++ _
    rw [flatB_pushK bs vs b u v (by simp at h; omega)]
    rfl
  | c :: bs, [x], b, u, v, h => by simp at h; omega
  | c :: bs, [], b, u, v, h => by simp at h

/-- A file of the call's own. -/
def BlobRet (n : Int) (s f : List Int) (w : World) (e : Ending) (w' : World) : Prop :=
  ∃ u v, e = .returned (.agg #[.int .i64 n, u, v]) ∧ w'.ownsRow w.heap.size 3 1 u s.length (intsV s) ∧ w'.ownsRow w.heap.size 3 1 v f.length (intsV f) ∧ (∀ k, u.ownBlock = some k → v.ownBlock ≠ some k) ∧ Below w.heap.size w w'

set_option maxHeartbeats 1000000 in
set_option maxRecDepth 100000 in
theorem toBlob_c (n : Int) (a1 a2 : Option Addr) (c1 c2 : Nat) (s f : List Int) (hs : s.length ≤ 2097152) (hf : f.length ≤ 2097152) (w : World) (h1 : IntsAt w a1 s.length s) (h2 : IntsAt w a2 f.length f) :
    Calls Try.prog 33 #[.agg #[.int .i64 n, .slice a1 s.length c1, .slice a2 f.length c2]] w (BlobRet n s f w) := by
  have HT1 := Lib.hid (fun W' (hb : Below w.heap.size w W') => toIntS_c a1 s.length c1 s hs W' (h1.keep hb))
  have HT2 := Lib.hid (fun W' (hb : Below w.heap.size w W') => toIntS_c a2 f.length c2 f hf W' (h2.keep hb))
  obtain ⟨ls, hls⟩ : ∃ ls, s.length = ls := ⟨_, rfl⟩
  obtain ⟨lf, hlf⟩ : ∃ lf, f.length = lf := ⟨_, rfl⟩
  rw [hls] at HT1 ⊢
  rw [hlf] at HT2 ⊢
  have HLS := Lib.hid hls
  have HLF := Lib.hid hlf
  have K1 := Lib.hid (((blkB_new w #[.int .i64 n, .slice a1 ls c1, .slice a2 lf c2] 47).alloc (.cells #[.int .i64 0, .slice none 0 0, .slice none 0 0] 48)).alloc (.cells #[.int .i64 n, .slice none 0 0, .slice none 0 0] 48))
  have B0 := Lib.hid (below_next (below_box w (.cells #[.int .i64 n, .slice a1 ls c1, .slice a2 lf c2] 47)) (below_next (below_box _ (.cells #[.int .i64 0, .slice none 0 0, .slice none 0 0] 48)) (below_box _ (.cells #[.int .i64 n, .slice none 0 0, .slice none 0 0] 48))))
  clear h1 h2 hs hf hls hlf
  go_enter Try.func33, Try.ntmps33
  go_wp2_with fail
  refine (HT1.out _ B0.out).mono ?_
  rintro e W1 ⟨⟨u, rfl, ho1⟩, hb1⟩
  obtain ⟨x1, p1, rfl, -⟩ := ints_of_own ho1
  rw [HLS.out] at ho1 ⊢
  have hx : w.heap.size + 1 + 1 = ((w.alloc (.cells #[.int .i64 n, .slice a1 ls c1, .slice a2 lf c2] 47)).alloc (.cells #[.int .i64 0, .slice none 0 0, .slice none 0 0] 48)).heap.size := by simp
  have hy : w.heap.size + 1 = (w.alloc (.cells #[.int .i64 n, .slice a1 ls c1, .slice a2 lf c2] 47)).heap.size := by simp
  have K3 := Lib.hid (show BlkB W1 (w.heap.size + 1 + 1) #[.int .i64 n, .slice none 0 0, .slice none 0 0] 48 by rw [hx]; exact (blkB_new _ _ _).below hb1)
  have K2 := Lib.hid (show BlkB W1 (w.heap.size + 1) #[.int .i64 0, .slice none 0 0, .slice none 0 0] 48 by rw [hy]; exact ((blkB_new _ _ _).alloc _).below hb1)
  have KA := Lib.hid (K1.out.below hb1)
  have B1 := Lib.hid (below_next B0.out hb1)
  have hsz1 := hb1.size
  simp only [World.size_alloc] at hsz1
  have G1 := Lib.hid (fun k (e : (Value.slice x1 ls p1).ownBlock = some k) => show w.heap.size + 3 ≤ k ∧ k < W1.heap.size from by
    have := ho1.lt k e
    simp only [World.size_alloc] at this
    omega)
  have O1 := Lib.hid (own_setB (g := w.heap.size + 1 + 1) (j := 1) (u := .slice x1 ls p1) ho1 (fun k e => by have := (G1.out k e).1; omega))
  have x2 := (KA.out.setOther ⟨w.heap.size + 1 + 1, 1, none⟩ (.slice x1 ls p1) (by simp; omega)).cell 2
  simp at x2
  have z1 := K3.out.frozen 1
  have s1 : W1.cell? ⟨w.heap.size + 1 + 1, 1, none⟩ = some (.slice none 0 0) := K3.out.cell 1
  have BS := Lib.hid (below_setCell B1.out ⟨w.heap.size + 1 + 1, 1, none⟩ (.slice x1 ls p1) (by simp; omega))
  have S3 := Lib.hid (K3.out.set 1 (.slice x1 ls p1))
  have S2 := Lib.hid (K2.out.setOther ⟨w.heap.size + 1 + 1, 1, none⟩ (.slice x1 ls p1) (by simp))
  clear hb1 ho1 hx hy
  go_wp2_with fail
  refine (HT2.out _ BS.out).mono ?_
  rintro e W2 ⟨⟨v, rfl, ho2⟩, hb2⟩
  obtain ⟨x3, p3, rfl, -⟩ := ints_of_own ho2
  rw [HLF.out] at ho2 ⊢
  have T3 := Lib.hid (S3.out.below hb2)
  have T2 := Lib.hid (S2.out.below hb2)
  have B2 := Lib.hid (below_next BS.out hb2)
  have O12 := Lib.hid (own_below1 O1.out hb2)
  have G2 := Lib.hid (fun k (e : (Value.slice x3 lf p3).ownBlock = some k) => show W1.heap.size ≤ k from by
    have := (ho2.lt k e).1
    simpa using this)
  have O2 := Lib.hid ho2
  have t0 : W2.cell? ⟨w.heap.size + 1 + 1, 0, none⟩ = some (.int .i64 n) := T3.out.cell 0
  have t1 : W2.cell? ⟨w.heap.size + 1 + 1, 1, none⟩ = some (.slice x1 ls p1) := T3.out.cell 1
  have t2 : W2.cell? ⟨w.heap.size + 1 + 1, 2, none⟩ = some (.slice none 0 0) := T3.out.cell 2
  have z2 := T3.out.frozen 2
  have r0 : W2.cell? ⟨w.heap.size + 1, 0, none⟩ = some (.int .i64 0) := T2.out.cell 0
  have r1 : W2.cell? ⟨w.heap.size + 1, 1, none⟩ = some (.slice none 0 0) := T2.out.cell 1
  have r2 : W2.cell? ⟨w.heap.size + 1, 2, none⟩ = some (.slice none 0 0) := T2.out.cell 2
  have y0 := T2.out.frozen 0
  have y1 := T2.out.frozen 1
  have y2 := T2.out.frozen 2
  clear ho2 hb2 x2 z1 s1
  go_wp2
  have K4 := (((T2.out.setOther ⟨w.heap.size + 1 + 1, 2, none⟩ (.slice x3 lf p3) (by simp)).set 0 (.int .i64 n)).set 1 (.slice x1 ls p1)).set 2 (.slice x3 lf p3)
  refine bodyPost_ret (blob_resultsB 2 _ rfl _ (w.heap.size + 1) n (.slice x1 ls p1) (.slice x3 lf p3) rfl rfl _ rfl ⟨K4.cell 0, K4.cell 1, K4.cell 2⟩) rfl ⟨_, _, rfl, ?_, ?_, ?_, ?_⟩
  · rw [HLS.out]
    exact own_mono1 (own_setB (own_setB (own_setB (own_setB O12.out (fun k e => by have := (G1.out k e).1; omega)) (fun k e => by have := (G1.out k e).1; omega)) (fun k e => by have := (G1.out k e).1; omega)) (fun k e => by have := (G1.out k e).1; omega)) (by simp; omega)
  · rw [HLF.out]
    exact own_mono1 (own_setB (own_setB (own_setB (own_setB O2.out (fun k e => by have := G2.out k e; omega)) (fun k e => by have := G2.out k e; omega)) (fun k e => by have := G2.out k e; omega)) (fun k e => by have := G2.out k e; omega)) (by simp; omega)
  · intro k e1 e2
    have h1 := (G1.out k e1).2
    have h2 := G2.out k e2
    omega
  · exact below_setCell (below_setCell (below_setCell (below_setCell B2.out _ _ (by simp; omega)) _ _ (by simp)) _ _ (by simp)) _ _ (by simp)

theorem flatB_take_set : ∀ (bs : List Bl) (vs : List Value) (b : Bl) (u v : Value) (zs : List Value), vs.length = 2 * bs.length → 3 ≤ zs.length →
    (((flatBJ bs vs ++ zs).set (bs.length * 3) (.int .i64 b.n)).set (bs.length * 3 + 1) u).set (bs.length * 3 + 2) v = flatBJ (bs ++ [b]) (vs ++ [u, v]) ++ zs.drop 3 := by
  intro bs vs b u v zs hv hz
  have hl : (flatBJ bs vs).length = bs.length * 3 := flatB_lenK bs vs hv
  rw [flatB_pushK bs vs b u v hv]
  match zs, hz with
  | x :: y :: z :: r, _ =>
    rw [List.set_append_right _ _ (by omega), hl, show bs.length * 3 - bs.length * 3 = 0 by omega]
    rw [List.set_append_right _ _ (by omega), hl, show bs.length * 3 + 1 - bs.length * 3 = 1 by omega]
    rw [List.set_append_right _ _ (by omega), hl, show bs.length * 3 + 2 - bs.length * 3 = 2 by omega]
    simp

theorem Inner.setB {W : World} {base g j : Nat} {u : Value} {vs : List Value} {zss : List (List Int)} (h : Inner W base vs zss) (hg : g < base) : Inner (W.setCell ⟨g, j, none⟩ u) base vs zss := by
  refine ⟨h.1, fun i z v hz hv => own_setB (h.2.1 i z v hz hv) (fun k e => ?_), h.2.2⟩
  have := (h.2.1 i z v hz hv).lt k e
  omega

theorem listsB_next {bs : List Bl} {n : Nat} {x : Bl} (h : bs[n]? = some x) : listsB (bs.take (n + 1)) = (listsB (bs.take n) ++ [x.s]) ++ [x.f] := by
  rw [List.take_add_one, h, listsB_append, List.append_assoc]
  rfl

/-- A disk of the call's own, each list in a block of its own. -/
def DiskIn (W : World) (base : Nat) (sl : Value) (bs : List Bl) (vs : List Value) : Prop := W.ownsRow base 48 3 sl bs.length (flatBJ bs vs) ∧ Inner W base vs (listsB bs)
theorem DiskIn.vlen {W : World} {base : Nat} {sl : Value} {bs : List Bl} {vs : List Value} (h : DiskIn W base sl bs vs) : vs.length = 2 * bs.length := by rw [h.2.1, listsB_len]
theorem DiskIn.disk {W : World} {base : Nat} {sl : Value} {bs : List Bl} {vs : List Value} (h : DiskIn W base sl bs vs) : DiskAt W base sl bs vs := ⟨h.1, h.2.1, h.2.2.1⟩
theorem DiskIn.below {W W' : World} {base : Nat} {sl : Value} {bs : List Bl} {vs : List Value} (h : DiskIn W base sl bs vs) (hb : Below W.heap.size W W') : DiskIn W' base sl bs vs := ⟨own_below1 h.1 hb, h.2.below hb⟩
def DiskInPost (bs : List Bl) (W : World) (e : Ending) (w' : World) : Prop := ∃ sl vs, e = .returned sl ∧ DiskIn w' W.heap.size sl bs vs ∧ Below W.heap.size W w'

def ToRelB (bs : List Bl) (len : Nat) (W : World) (i : Value) (wr : World) : Prop :=
  ∃ (n : Nat) (vs zs : List Value), i = .int .i64 n ∧ n ≤ len ∧ zs.length = (len - n) * 3 ∧ vs.length = 2 * n ∧ Hid (wr.ownsRow W.heap.size 48 3 (.slice (some ⟨W.heap.size, 0, none⟩) len len) len (flatBJ (bs.take n) vs ++ zs)) ∧ Hid (Inner wr (W.heap.size + 1) vs (listsB (bs.take n))) ∧ Hid (Below W.heap.size W wr)

theorem stored3B {W : World} {base : Nat} {e : TypeId} {g cap n : Nat} {xs : List Value} (h : W.ownsRow base e 3 (.slice (some ⟨g, 0, none⟩) n cap) n xs) (j : Nat) (u v x : Value) :
    (((W.setCell ⟨g, j, none⟩ u).setCell ⟨g, j + 1, none⟩ v).setCell ⟨g, j + 2, none⟩ x).ownsRow base e 3 (.slice (some ⟨g, 0, none⟩) n cap) n (((xs.set j u).set (j + 1) v).set (j + 2) x) :=
  ((((h.stored j u).1.stored (j + 1) v).1).stored (j + 2) x).1
theorem below_noneB {W w : World} (h : W.grownBy w none) : Below W.heap.size W w := ⟨h.os, h.tape, h.output, h.size, fun k hk => h.block k hk (by simp)⟩

set_option maxHeartbeats 2000000 in
set_option maxRecDepth 100000 in
theorem toBlobS_c (a : Option Addr) (len cap : Nat) (bs : List Bl) (hl : len ≤ 2097152) (hs : UpTo 2097152 bs) (W : World) (hN : RawsAt W a len bs) :
    Calls Try.prog 11 #[.slice a len cap] W (DiskInPost bs W) := by
  obtain ⟨i0, hi, hz0, hz1, hz2⟩ := info_parts infoBlob
  have HN := Lib.hid hN
  have HE := Lib.hid hN.1
  have HS := Lib.hid hs
  have HL := Lib.hid hl
  clear hN hs
  go_enter Try.func11, Try.ntmps11
  go_wp2_with (refine wpList_make_full _ rfl _ _ 25 rfl W.heap.size 48 i0 (.agg #[.int .i64 0, .slice none 0 0, .slice none 0 0]) 3 Try.underlying25 hi hz0 hz1 .i64 .i64 _ _ len rfl rfl rfl rfl (by rw [hz2]; omega) (by unfold maxLen; omega) (Nat.le_refl _) ?_; intro w1 hown1 hg1)
  have hb1 := below_noneB hg1
  have hlt1 := (hown1.lt W.heap.size rfl).2
  clear hg1
  go_loopw [4] (fun i wr => ToRelB bs len W i wr) (fun i _ => len - (intOf i).toNat)
  case atStart =>
    refine ⟨0, [], _, rfl, by omega, ?_, rfl, Lib.hid (by simpa [flatBJ] using hown1), ⟨rfl, fun i z v hz => by simp [listsB] at hz, List.Pairwise.nil⟩, hb1⟩
    have := hown1.1
    omega
  case round =>
    obtain ⟨i, vs, zs, rfl, hi1, hzl, hvl, HOW, HIN, HB⟩ := hrel
    by_cases hlt : i < len
    · obtain ⟨b, off, x, a1, c1, a2, c2, rfl, hx, e0, e1, e2, l1, l2⟩ := (HN.out.keep HB.out).at hlt
      have hlt' : (i : Int) < len := by omega
      have HLT := Lib.hid hlt
      have HXX := Lib.hid hx
      have hz3 : 3 ≤ zs.length := by omega
      have HZ := Lib.hid (And.intro hzl (And.intro hz3 hvl))
      have hsx := HS.out x (List.mem_of_getElem? hx)
      have HTN := Lib.hid (toBlob_c x.n a1 a2 c1 c2 x.s x.f hsx.1 hsx.2 wr l1 l2)
      have HLX := Lib.hid (And.intro (rfl : x.s.length = x.s.length) (rfl : x.f.length = x.f.length))
      clear hi1 hlt hx hzl hz3 hown1 hvl hsx l1 l2
      obtain ⟨xn, xs, xf⟩ := x
      simp only at e0 e1 e2 HTN
      obtain ⟨ls, hls⟩ : ∃ ls, xs.length = ls := ⟨_, rfl⟩
      obtain ⟨lf, hlf⟩ : ∃ lf, xf.length = lf := ⟨_, rfl⟩
      rw [hls] at e1 HTN
      rw [hlf] at e2 HTN
      have HLS := Lib.hid (And.intro hls hlf)
      clear hls hlf HLX
      go_wp2_with fail
      refine HTN.out.mono ?_
      rintro e W2 ⟨u, v, rfl, hu, hv, huv, hb2⟩
      obtain ⟨x1, p1, rfl, -⟩ := ints_of_own hu
      obtain ⟨x2, p2, rfl, -⟩ := ints_of_own hv
      rw [HLS.out.1] at hu huv ⊢
      rw [HLS.out.2] at hv huv ⊢
      have HO2 := Lib.hid (own_below1 HOW.out hb2)
      have HB2 := Lib.hid (below_next HB.out hb2)
      have HI2 := Lib.hid (HIN.out.below hb2)
      have HWS := Lib.hid (show W.heap.size + 1 ≤ wr.heap.size by have := (HOW.out.lt W.heap.size rfl).2; omega)
      have HU := Lib.hid (show W2.ownsRow (W.heap.size + 1) 3 1 (.slice x1 ls p1) xs.length (intsV xs) by rw [HLS.out.1]; exact own_mono1 hu HWS.out)
      have HV := Lib.hid (show W2.ownsRow (W.heap.size + 1) 3 1 (.slice x2 lf p2) xf.length (intsV xf) by rw [HLS.out.2]; exact own_mono1 hv HWS.out)
      have HUB := Lib.hid (fun k (e : (Value.slice x1 ls p1).ownBlock = some k) => (hu.lt k e).1)
      have HVB := Lib.hid (fun k (e : (Value.slice x2 lf p2).ownBlock = some k) => (hv.lt k e).1)
      have HUV := Lib.hid huv
      clear hb2 hu hv huv e0 e1 e2 HTN
      have hll : (flatBJ (bs.take i) vs).length = i * 3 := by rw [flatB_lenK _ _ (by rw [List.length_take]; have := HZ.out.2.2; have := HE.out; have := HLT.out; omega), List.length_take]; have := HE.out; have := HLT.out; omega
      have cell : ∀ j, j < 3 → ∃ u, W2.cell? ⟨W.heap.size, i * 3 + j, none⟩ = some u := by
        intro j hj
        have hx := HZ.out.1
        have hy := HLT.out
        rw [HO2.out.cellAt _ (by omega)]
        exact ⟨_, List.getElem?_eq_getElem (by rw [List.length_append, hll]; omega)⟩
      obtain ⟨u0, e0⟩ := cell 0 (by omega)
      replace e0 : W2.cell? ⟨W.heap.size, i * 3, none⟩ = some u0 := e0
      obtain ⟨u1, e1⟩ := cell 1 (by omega)
      obtain ⟨u2, e2⟩ := cell 2 (by omega)
      have y0 := HO2.out.frozenAt (i * 3)
      have y1 := HO2.out.frozenAt (i * 3 + 1)
      have y2 := HO2.out.frozenAt (i * 3 + 2)
      clear cell hll
      go_wp2
      have HS3 := stored3B HO2.out (i * 3) (.int .i64 xn) (.slice x1 ls p1) (.slice x2 lf p2)
      have hti : (bs.take i).length = i := by rw [List.length_take]; have := HE.out; have := HLT.out; omega
      have hset := flatB_take_set (bs.take i) vs ⟨xn, xs, xf⟩ (.slice x1 ls p1) (.slice x2 lf p2) zs (by rw [hti]; exact HZ.out.2.2) HZ.out.2.1
      rw [hti] at hset
      simp only at hset
      rw [hset] at HS3
      have hnx : bs.take (i + 1) = bs.take i ++ [⟨xn, xs, xf⟩] := by rw [List.take_add_one, HXX.out]; rfl
      have hI3 := ((HI2.out.push HU.out (fun u hu k h1 h2 => by
          have h3 := HIN.out.lt u hu k h1
          have h4 := HUB.out k h2
          omega)).push HV.out (fun u hu k h1 h2 => by
          have h4 := HVB.out k h2
          rcases List.mem_append.1 hu with hu | hu
          · have h3 := HIN.out.lt u hu k h1
            omega
          · rw [List.mem_singleton.1 hu] at h1
            exact HUV.out k h1 h2))
      go_roundw
      case rel =>
        refine ⟨i + 1, (vs ++ [.slice x1 ls p1]) ++ [.slice x2 lf p2], zs.drop 3, by go_num, by have := HLT.out; omega, by rw [List.length_drop]; have h1 := HZ.out.1; have h2 := HZ.out.2; have h3 := HLT.out; omega, by simp; have := HZ.out.2.2; omega, Lib.hid ?_, Lib.hid ?_, below_setCell (below_setCell (below_setCell HB2.out _ _ (Nat.le_refl _)) _ _ (Nat.le_refl _)) _ _ (Nat.le_refl _)⟩
        · rw [hnx, List.append_assoc]
          exact HS3
        · rw [listsB_next HXX.out]
          exact ((hI3.setB (Nat.lt_succ_self _)).setB (Nat.lt_succ_self _)).setB (Nat.lt_succ_self _)
      case measure => have := HLT.out; simp [intOf]; omega
    · have hge : (len : Int) ≤ i := by omega
      have hz0' : zs = [] := List.eq_nil_of_length_eq_zero (by omega)
      subst hz0'
      have HOW2 := HOW.out
      have HIN2 := HIN.out
      rw [List.append_nil, List.take_of_length_le (by have := HE.out; omega)] at HOW2
      rw [List.take_of_length_le (by have := HE.out; omega)] at HIN2
      have HX := Lib.hid (show DiskIn wr W.heap.size (.slice (some ⟨W.heap.size, 0, none⟩) len len) bs vs from ⟨by have h := HE.out; rw [h]; exact HOW2, ⟨HIN2.1, fun i z v hz hv => own_mono1 (HIN2.2.1 i z v hz hv) (Nat.le_succ _), HIN2.2.2⟩⟩)
      clear hi1 hlt HOW2 HIN2
      go_wp2
      go_ret
      exact ⟨_, vs, rfl, HX.out, HB.out⟩

set_option maxHeartbeats 1000000 in
set_option maxRecDepth 100000 in
theorem eqBlob_c (n : Int) (a1 a2 b1 b2 : Option Addr) (ls lf c1 c2 d1 d2 : Nat) (s f : List Int) (hs : ls ≤ 2097152) (hf : lf ≤ 2097152) (W : World) (h1 : IntsAt W a1 ls s) (h2 : IntsAt W a2 lf f) (h3 : IntsAt W b1 ls s) (h4 : IntsAt W b2 lf f) :
    Calls Try.prog 35 #[.agg #[.int .i64 n, .slice a1 ls c1, .slice a2 lf c2], .agg #[.int .i64 n, .slice b1 ls d1, .slice b2 lf d2]] W (BoolPost true W) := by
  have HE1 := Lib.hid (fun W' (hb : Below W.heap.size W W') => eqIntS_c a1 b1 ls c1 d1 s hs W' (h1.keep hb) (h3.keep hb))
  have HE2 := Lib.hid (fun W' (hb : Below W.heap.size W W') => eqIntS_c a2 b2 lf c2 d2 f hf W' (h2.keep hb) (h4.keep hb))
  have K1 := Lib.hid ((blkB_new W #[.int .i64 n, .slice a1 ls c1, .slice a2 lf c2] 48).alloc (.cells #[.int .i64 n, .slice b1 ls d1, .slice b2 lf d2] 48))
  have K2 := Lib.hid (show BlkB ((W.alloc (.cells #[.int .i64 n, .slice a1 ls c1, .slice a2 lf c2] 48)).alloc (.cells #[.int .i64 n, .slice b1 ls d1, .slice b2 lf d2] 48)) (W.heap.size + 1) #[.int .i64 n, .slice b1 ls d1, .slice b2 lf d2] 48 by
    have := blkB_new (W.alloc (.cells #[.int .i64 n, .slice a1 ls c1, .slice a2 lf c2] 48)) #[.int .i64 n, .slice b1 ls d1, .slice b2 lf d2] 48
    rw [World.size_alloc] at this
    exact this)
  have B0 := Lib.hid (below_next (below_box W (.cells #[.int .i64 n, .slice a1 ls c1, .slice a2 lf c2] 48)) (below_box _ (.cells #[.int .i64 n, .slice b1 ls d1, .slice b2 lf d2] 48)))
  clear h1 h2 h3 h4 hs hf
  have hnn : (n != n) = false := by simp
  go_enter Try.func35, Try.ntmps35
  have x0 := K1.out.cell 0
  have x1 := K1.out.cell 1
  have y0 := K2.out.cell 0
  have y1 := K2.out.cell 1
  simp at x0 x1 y0 y1
  go_wp2_with fail
  refine (HE1.out _ B0.out).mono ?_
  rintro e W1 ⟨rfl, hb1⟩
  have B1 := Lib.hid (below_next B0.out hb1)
  have x2 := (K1.out.below hb1).cell 2
  have y2 := (K2.out.below hb1).cell 2
  simp at x2 y2
  clear hb1 x0 x1 y0 y1
  go_wp2_with fail
  refine (HE2.out _ B1.out).mono ?_
  rintro e W2 ⟨rfl, hb2⟩
  have B2 := Lib.hid (below_next B1.out hb2)
  clear hb2
  go_wp2
  go_ret
  exact ⟨rfl, B2.out⟩

def EqRelB (len : Nat) (W : World) (i : Value) (wr : World) : Prop := ∃ n : Nat, i = .int .i64 n ∧ n ≤ len ∧ Hid (Below W.heap.size W wr)

set_option maxHeartbeats 4000000 in
set_option maxRecDepth 100000 in
theorem eqBlobS_c (d1 d2 : Option Addr) (len k1 k2 : Nat) (bs : List Bl) (hl : len ≤ 2097152) (hs : UpTo 2097152 bs) (W : World) (h1 : BlobsAt W d1 len bs) (h2 : BlobsAt W d2 len bs) :
    Calls Try.prog 13 #[.slice d1 len k1, .slice d2 len k2] W (BoolPost true W) := by
  have H1 := Lib.hid h1
  have H2 := Lib.hid h2
  have HS := Lib.hid hs
  clear h1 h2 hs
  go_enter Try.func13, Try.ntmps13
  go_wp2
  go_loopw [5] (fun i wr => EqRelB len W i wr) (fun i _ => len - (intOf i).toNat)
  case atStart => exact ⟨0, rfl, by omega, Below.refl _ _⟩
  case round =>
    obtain ⟨i, rfl, hi, HB⟩ := hrel
    by_cases hlt : i < len
    · obtain ⟨b, off, x, a1, c1, a2, c2, rfl, hx, x0, x1, x2, l1, l2⟩ := (H1.out.keep HB.out).at2 hlt
      obtain ⟨b', off', x', a1', c1', a2', c2', rfl, hx', y0, y1, y2, m1, m2⟩ := (H2.out.keep HB.out).at2 hlt
      obtain rfl : x = x' := Option.some.inj (hx.symm.trans hx')
      have hlt' : (i : Int) < len := by omega
      have hil : (i : Int) ≤ 2097152 := by omega
      have HLT := Lib.hid hlt
      have hxl := HS.out x (List.mem_of_getElem? hx)
      have HC := Lib.hid (fun W' (hw : Below wr.heap.size wr W') => eqBlob_c x.n a1 a2 a1' a2' x.s.length x.f.length c1 c2 c1' c2' x.s x.f hxl.1 hxl.2 W' ((l1.keep hw).ints.2.1) ((l2.keep hw).ints.2.1) ((m1.keep hw).ints.2.1) ((m2.keep hw).ints.2.1))
      generalize x.n = xn at x0 y0 HC
      generalize x.s.length = xs at x1 y1 HC
      generalize x.f.length = xf at x2 y2 HC
      clear hi hlt hx hx' l1 l2 m1 m2 hxl
      have HS0 := Lib.hid (show wr.drew.cell? ⟨b, off + i * 3, none⟩ = some (.int .i64 xn) ∧ wr.drew.cell? ⟨b, off + i * 3 + 1, none⟩ = some (.slice a1 xs c1) ∧ wr.drew.cell? ⟨b, off + i * 3 + 2, none⟩ = some (.slice a2 xf c2) ∧ wr.drew.cell? ⟨b', off' + i * 3, none⟩ = some (.int .i64 xn) ∧ wr.drew.cell? ⟨b', off' + i * 3 + 1, none⟩ = some (.slice a1' xs c1') ∧ wr.drew.cell? ⟨b', off' + i * 3 + 2, none⟩ = some (.slice a2' xf c2') from ⟨x0, x1, x2, y0, y1, y2⟩)
      have HKP := Lib.hid (fun (u2 : World) (hb : Below wr.heap.size wr.drew u2) => show u2.cell? ⟨b, off + i * 3, none⟩ = some (.int .i64 xn) ∧ u2.cell? ⟨b, off + i * 3 + 1, none⟩ = some (.slice a1 xs c1) ∧ u2.cell? ⟨b, off + i * 3 + 2, none⟩ = some (.slice a2 xf c2) ∧ u2.cell? ⟨b', off' + i * 3, none⟩ = some (.int .i64 xn) ∧ u2.cell? ⟨b', off' + i * 3 + 1, none⟩ = some (.slice a1' xs c1') ∧ u2.cell? ⟨b', off' + i * 3 + 2, none⟩ = some (.slice a2' xf c2') from ⟨cell_kept hb HS0.out.1, cell_kept hb HS0.out.2.1, cell_kept hb HS0.out.2.2.1, cell_kept hb HS0.out.2.2.2.1, cell_kept hb HS0.out.2.2.2.2.1, cell_kept hb HS0.out.2.2.2.2.2⟩)
      go_upto_region 6 with (fail)
      clear x0 x1 x2 y0 y1 y2
      go_region_held3 (fun w' => w'.cell? ⟨b, off + i * 3, none⟩ = some (.int .i64 xn) ∧ w'.cell? ⟨b, off + i * 3 + 1, none⟩ = some (.slice a1 xs c1) ∧ w'.cell? ⟨b, off + i * 3 + 2, none⟩ = some (.slice a2 xf c2) ∧ w'.cell? ⟨b', off' + i * 3, none⟩ = some (.int .i64 xn) ∧ w'.cell? ⟨b', off' + i * 3 + 1, none⟩ = some (.slice a1' xs c1') ∧ w'.cell? ⟨b', off' + i * 3 + 2, none⟩ = some (.slice a2' xf c2'))
        (first | exact HS0.out | exact HKP.out _ HB6.out)
        (first
          | (go_at_call 35; (with_reducible refine (HC.out wr.drew (Below.refl _ _).drew).mono ?_); rintro e W6 ⟨rfl, hb6⟩; have HB6 := Lib.hid (show Below wr.heap.size wr.drew W6 from hb6); clear hb6))
      all_goals
        have HB9 := Lib.hid (HB.out.drew.trans (HB6.out.mono HB.out.size))
        go_wp2
        go_roundw
        case rel => exact ⟨i + 1, by go_num, by have := HLT.out; omega, HB9⟩
        case measure => have := HLT.out; simp [intOf]; omega
    · have hge : (len : Int) ≤ i := by omega
      clear hi hlt
      go_wp2
      go_ret
      exact ⟨rfl, HB.out⟩

end Go.Proofs.Ytonbkmmddahlfaa
