/-
  The block of a disk: a mutex and three places; what the places hold, by files.
-/
import Derived.Test.YtonbkmmddahlfaaJf
namespace Go.Proofs.Ytonbkmmddahlfaa
open Go.RowKit
set_option linter.unusedVariables false

/-! ## Plain: three places -/

def zeroB : Bl := ⟨0, [], []⟩
def pl (F : Fs) (k : Int) : Bl := (F k).getD zeroB
def plcJ (F : Fs) : List Bl := [pl F 1, pl F 2, pl F 3]
theorem plc_len (F : Fs) : (plcJ F).length = 3 := rfl
theorem plc_get (F : Fs) {k : Nat} (hk : k < 3) : (plcJ F)[k]? = some (pl F ((k : Int) + 1)) := by
  match k, hk with
  | 0, _ => rfl
  | 1, _ => rfl
  | 2, _ => rfl
theorem pl_upd (F : Fs) (k j : Int) (o : Option Bl) : pl (updF F k o) j = if j = k then o.getD zeroB else pl F j := by
  unfold pl updF
  by_cases h : j = k
  · rw [if_pos h, if_pos h]
  · rw [if_neg h, if_neg h]
theorem plc_set (F : Fs) {k : Nat} (hk : k < 3) (o : Option Bl) : (plcJ F).set k (o.getD zeroB) = plcJ (updF F ((k : Int) + 1) o) := by
  match k, hk with
  | 0, _ => simp [plcJ, pl_upd]
  | 1, _ => simp [plcJ, pl_upd]
  | 2, _ => simp [plcJ, pl_upd]
theorem plc_list {F : Fs} (h : GoodF F) : (plcJ F).filter (fun b => decide (0 < b.n)) = ofF F := by
  have key : ∀ k : Int, 0 < k → [pl F k].filter (fun b => decide (0 < b.n)) = (F k).toList := by
    intro k hk
    unfold pl
    cases e : F k with
    | none => rfl
    | some b =>
      have := (h k b e).1
      simp [this, hk]
  unfold ofF
  rw [← key 1 (by omega), ← key 2 (by omega), ← key 3 (by omega), ← List.filter_append, ← List.filter_append]
  rfl
theorem pl_some {F : Fs} (h : GoodF F) (k : Int) (hk : k ≠ 0) : (pl F k).n = k ↔ ∃ b, F k = some b := by
  unfold pl
  cases e : F k with
  | none =>
    constructor
    · intro h0; exact absurd h0.symm hk
    · rintro ⟨b, hb⟩; cases hb
  | some b => exact ⟨fun _ => ⟨b, rfl⟩, fun _ => (h k b e).1⟩
theorem pl_ok {F : Fs} (h : GoodF F) (k : Int) : (pl F k).s.length + (pl F k).f.length ≤ 400 := by
  unfold pl
  cases e : F k with
  | none => exact Nat.zero_le _
  | some b => exact ((blOk_iff _).1 (h k b e).2).2.2.2
theorem takeB_next {bs : List Bl} {i : Nat} {b : Bl} (h : bs[i]? = some b) : bs.take (i + 1) = bs.take i ++ [b] := by
  rw [List.take_add_one, h]; rfl
theorem take_low : ∀ {bs : List Bl} {l : Int} {i : Nat} {b : Bl}, dvalid l bs = true → bs[i]? = some b → ∀ c ∈ bs.take i, c.n < b.n
  | [], l, i, b, _, hb => by simp at hb
  | x :: r, l, 0, b, _, _ => by simp
  | x :: r, l, i + 1, b, hv, hb => by
    unfold dvalid at hv
    simp only [Bool.and_eq_true, decide_eq_true_eq] at hv
    have hb' : r[i]? = some b := by simpa using hb
    intro c hc
    rw [List.take_succ_cons] at hc
    rcases List.mem_cons.1 hc with rfl | hc
    · exact (dvalid_low hv.2.2 b (List.mem_of_getElem? hb')).1
    · exact take_low hv.2.2 hb' c hc
/-- The places of a disk's first files. -/
theorem plc_take {bs : List Bl} (hv : diskV bs = true) {i : Nat} {b : Bl} (hb : bs[i]? = some b) :
    ∃ k : Nat, k < 3 ∧ b.n = (k : Int) + 1 ∧ plcJ (findB (bs.take (i + 1))) = (plcJ (findB (bs.take i))).set k b := by
  have hok := (dvalid_low hv b (List.mem_of_getElem? hb)).2
  have hn := ((blOk_iff _).1 hok).1
  refine ⟨(b.n - 1).toNat, by omega, by omega, ?_⟩
  have e0 : ((b.n - 1).toNat : Int) + 1 = b.n := by omega
  have := plc_set (findB (bs.take i)) (k := (b.n - 1).toNat) (by omega) (some b)
  rw [e0] at this
  rw [show (plcJ (findB (bs.take i))).set (b.n - 1).toNat b = (plcJ (findB (bs.take i))).set (b.n - 1).toNat ((some b).getD zeroB) from rfl, this]
  congr 1
  funext j
  unfold findB updF
  rw [takeB_next hb, List.find?_append]
  by_cases hj : j = b.n
  · rw [if_pos hj, hj]
    have : List.find? (fun c => c.n == b.n) (bs.take i) = none := by
      rw [List.find?_eq_none]
      intro c hc e
      have e2 : c.n = b.n := by simpa using e
      have := take_low hv hb c hc
      omega
    rw [this]
    simp
  · rw [if_neg hj]
    have : List.find? (fun c => c.n == j) [b] = none := by
      rw [List.find?_cons, show (b.n == j) = false by simpa using fun e => hj e.symm]
      rfl
    rw [this]
    exact Option.or_none

/-! ## The block -/

theorem flatB_set : ∀ (fs : List Bl) (vs : List Value) (k : Nat) (y : Bl) (p q : Value), vs.length = 2 * fs.length → k < fs.length →
    (((flatBJ fs vs).set (k * 3) (.int .i64 y.n)).set (k * 3 + 1) p).set (k * 3 + 2) q = flatBJ (fs.set k y) ((vs.set (2 * k) p).set (2 * k + 1) q)
  | [], vs, k, y, p, q, h, hk => absurd hk (Nat.not_lt_zero _)
  | x :: a, us, k, y, p, q, h, hk => by
    match us, h with
    | u :: v :: us, h =>
      match k, hk with
      | 0, _ => rfl
      | k + 1, hk =>
        have ih := flatB_set a us k y p q (by simp at h; omega) (by simpa using hk)
        simp only [List.set_cons_succ, flatBJ, show (k + 1) * 3 = k * 3 + 3 by omega, show 2 * (k + 1) = 2 * k + 2 by omega, show k * 3 + 3 + 1 = k * 3 + 1 + 3 by omega, show k * 3 + 3 + 2 = k * 3 + 2 + 3 by omega, show 2 * k + 2 + 1 = 2 * k + 1 + 2 by omega]
        rw [ih]
    | [u], h => simp at h; omega
    | [], h => simp at h
theorem listsB_set : ∀ (fs : List Bl) (k : Nat) (y : Bl), k < fs.length → listsB (fs.set k y) = ((listsB fs).set (2 * k) y.s).set (2 * k + 1) y.f
  | [], k, y, hk => absurd hk (Nat.not_lt_zero _)
  | x :: a, 0, y, _ => rfl
  | x :: a, k + 1, y, hk => by
    have ih := listsB_set a k y (by simpa using hk)
    simp only [List.set_cons_succ, listsB_cons, show 2 * (k + 1) = 2 * k + 2 by omega, show 2 * k + 2 + 1 = 2 * k + 1 + 2 by omega]
    rw [ih]
theorem LsAll.set {W : World} {vs : List Value} {zss : List (List Int)} (h : LsAll W vs zss) {i : Nat} {v : Value} {z : List Int} (hv : LsAt W v z) : LsAll W (vs.set i v) (zss.set i z) := by
  refine ⟨by simp [h.1], fun j z' v' hz hv' => ?_⟩
  by_cases hij : i = j
  · subst hij
    have h1 := (List.getElem?_eq_some_iff.1 hz).1
    have h2 := (List.getElem?_eq_some_iff.1 hv').1
    rw [List.length_set] at h1 h2
    rw [List.getElem?_set_self h1] at hz
    rw [List.getElem?_set_self h2] at hv'
    cases hz; cases hv'
    exact hv
  · rw [List.getElem?_set_ne hij] at hz hv'
    exact h.2 j z' v' hz hv'

/-- The block of a disk whose mutex is in state m. -/
def DiskBlk (W : World) (d : Nat) (m : Int) (fs : List Bl) (vs : List Value) : Prop :=
  fs.length = 3 ∧ W.heap[d]? = some (.cells ⟨.int .i32 m :: .int .u32 0 :: flatBJ fs vs⟩ 78 (0, 0)) ∧ LsAll W vs (listsB fs)
theorem DiskBlk.lt {W : World} {d : Nat} {m : Int} {fs : List Bl} {vs : List Value} (h : DiskBlk W d m fs vs) : d < W.heap.size := (Array.getElem?_eq_some_iff.1 h.2.1).1
theorem DiskBlk.vlen {W : World} {d : Nat} {m : Int} {fs : List Bl} {vs : List Value} (h : DiskBlk W d m fs vs) : vs.length = 2 * fs.length := by rw [h.2.2.1, listsB_len]
theorem DiskBlk.keep {W W' : World} {d : Nat} {m : Int} {fs : List Bl} {vs : List Value} (h : DiskBlk W d m fs vs) (hb : Below W.heap.size W W') : DiskBlk W' d m fs vs :=
  ⟨h.1, (hb.block d h.lt).trans h.2.1, h.2.2.kept (IntKept.of_below hb)⟩
theorem blk_cell {W : World} {d o : Nat} {l : List Value} {t : TypeId} {v : Value} (h : W.heap[d]? = some (.cells ⟨l⟩ t (0, 0))) (hv : l[o]? = some v) : W.cell? ⟨d, o, none⟩ = some v := by
  simp [World.cell?, h, hv]
theorem blk_frozen {W : World} {d : Nat} {l : List Value} {t : TypeId} (h : W.heap[d]? = some (.cells ⟨l⟩ t (0, 0))) (o : Nat) : W.frozen? ⟨d, o, none⟩ = false := by
  simp [World.frozen?, h]
theorem blk_set {W : World} {d : Nat} {l : List Value} {t : TypeId} (h : W.heap[d]? = some (.cells ⟨l⟩ t (0, 0))) (o : Nat) (v : Value) : (W.setCell ⟨d, o, none⟩ v).heap[d]? = some (.cells ⟨l.set o v⟩ t (0, 0)) := by
  simp [World.setCell, h, Array.getElem?_modify]
theorem DiskBlk.cells {W : World} {d : Nat} {m : Int} {fs : List Bl} {vs : List Value} (h : DiskBlk W d m fs vs) {k : Nat} {x : Bl} (hk : fs[k]? = some x) :
    ∃ a1 c1 a2 c2, W.cell? ⟨d, 2 + k * 3, none⟩ = some (.int .i64 x.n) ∧ W.cell? ⟨d, 2 + k * 3 + 1, none⟩ = some (.slice a1 x.s.length c1) ∧ W.cell? ⟨d, 2 + k * 3 + 2, none⟩ = some (.slice a2 x.f.length c2) ∧
      LsAt W (.slice a1 x.s.length c1) x.s ∧ LsAt W (.slice a2 x.f.length c2) x.f ∧ vs[2 * k]? = some (.slice a1 x.s.length c1) ∧ vs[2 * k + 1]? = some (.slice a2 x.f.length c2) := by
  obtain ⟨u, v, h1, h2, h3, h4, h5⟩ := flatB_get fs vs k x h.vlen hk
  obtain ⟨g1, g2⟩ := listsB_get fs k x hk
  have l1 := h.2.2.2 _ _ _ g1 h1
  have l2 := h.2.2.2 _ _ _ g2 h2
  obtain ⟨a1, c1, rfl, -⟩ := l1.out
  obtain ⟨a2, c2, rfl, -⟩ := l2.out
  refine ⟨a1, c1, a2, c2, blk_cell h.2.1 ?_, blk_cell h.2.1 ?_, blk_cell h.2.1 ?_, l1, l2, h1, h2⟩
  · rw [show 2 + k * 3 = k * 3 + 2 by omega]; exact h3
  · rw [show 2 + k * 3 + 1 = k * 3 + 1 + 2 by omega]; exact h4
  · rw [show 2 + k * 3 + 2 = k * 3 + 2 + 2 by omega]; exact h5
theorem DiskBlk.frozen {W : World} {d : Nat} {m : Int} {fs : List Bl} {vs : List Value} (h : DiskBlk W d m fs vs) (o : Nat) : W.frozen? ⟨d, o, none⟩ = false := blk_frozen h.2.1 o
theorem DiskBlk.mutex {W : World} {d : Nat} {m : Int} {fs : List Bl} {vs : List Value} (h : DiskBlk W d m fs vs) : W.cell? ⟨d, 0, none⟩ = some (.int .i32 m) := blk_cell h.2.1 rfl
theorem DiskBlk.keptSet {W : World} {d : Nat} {m : Int} {fs : List Bl} {vs : List Value} (h : DiskBlk W d m fs vs) (o : Nat) (v : Value) : IntKept W (W.setCell ⟨d, o, none⟩ v) :=
  IntKept.set h.2.1 (by decide) o v
/-- The mutex turns. -/
theorem DiskBlk.lock {W : World} {d : Nat} {m : Int} {fs : List Bl} {vs : List Value} (h : DiskBlk W d m fs vs) (m' : Int) : DiskBlk (W.setCell ⟨d, 0, none⟩ (.int .i32 m')) d m' fs vs :=
  ⟨h.1, blk_set h.2.1 0 _, h.2.2.kept (h.keptSet _ _)⟩
theorem flatB_set0 : ∀ (fs : List Bl) (vs : List Value) (k : Nat) (y : Bl), vs.length = 2 * fs.length → k < fs.length → (flatBJ fs vs).set (k * 3) (.int .i64 y.n) = flatBJ (fs.set k y) vs
  | [], vs, k, y, h, hk => absurd hk (Nat.not_lt_zero _)
  | x :: a, us, k, y, h, hk => by
    match us, h with
    | u :: v :: us, h =>
      match k, hk with
      | 0, _ => rfl
      | k + 1, hk =>
        have ih := flatB_set0 a us k y (by simp at h; omega) (by simpa using hk)
        simp only [List.set_cons_succ, flatBJ, show (k + 1) * 3 = k * 3 + 3 by omega]
        rw [ih]
    | [u], h => simp at h; omega
    | [], h => simp at h
theorem flatB_set2 : ∀ (fs : List Bl) (vs : List Value) (k : Nat) (q : Value), vs.length = 2 * fs.length → k < fs.length → (flatBJ fs vs).set (k * 3 + 2) q = flatBJ fs (vs.set (2 * k + 1) q)
  | [], vs, k, q, h, hk => absurd hk (Nat.not_lt_zero _)
  | x :: a, us, k, q, h, hk => by
    match us, h with
    | u :: v :: us, h =>
      match k, hk with
      | 0, _ => rfl
      | k + 1, hk =>
        have ih := flatB_set2 a us k q (by simp at h; omega) (by simpa using hk)
        simp only [List.set_cons_succ, flatBJ, show (k + 1) * 3 + 2 = k * 3 + 2 + 3 by omega, show 2 * (k + 1) + 1 = 2 * k + 1 + 2 by omega]
        rw [ih]
    | [u], h => simp at h; omega
    | [], h => simp at h
theorem flatB_same : ∀ (fs : List Bl) (vs : List Value) (k : Nat) (x y : Bl), fs[k]? = some x → y.n = x.n → flatBJ (fs.set k y) vs = flatBJ fs vs
  | [], vs, k, x, y, h, _ => by simp at h
  | z :: a, us, 0, x, y, h, e => by
    simp at h
    subst h
    match us with
    | u :: v :: us => simp [flatBJ, e]
    | [u] => rfl
    | [] => rfl
  | z :: a, us, k + 1, x, y, h, e => by
    match us with
    | u :: v :: us =>
      simp only [List.set_cons_succ, flatBJ]
      rw [flatB_same a us k x y (by simpa using h) e]
    | [u] => rfl
    | [] => rfl
theorem listsB_same : ∀ (fs : List Bl) (k : Nat) (x y : Bl), fs[k]? = some x → y.s = x.s → y.f = x.f → listsB (fs.set k y) = listsB fs
  | [], k, x, y, h, _, _ => by simp at h
  | z :: a, 0, x, y, h, e1, e2 => by
    simp at h
    subst h
    simp [listsB_cons, e1, e2]
  | z :: a, k + 1, x, y, h, e1, e2 => by
    simp only [List.set_cons_succ, listsB_cons]
    rw [listsB_same a k x y (by simpa using h) e1 e2]
theorem listsB_set2 : ∀ (fs : List Bl) (k : Nat) (x y : Bl), fs[k]? = some x → y.s = x.s → listsB (fs.set k y) = (listsB fs).set (2 * k + 1) y.f
  | [], k, x, y, h, _ => by simp at h
  | z :: a, 0, x, y, h, e1 => by
    simp at h
    subst h
    simp [listsB_cons, e1]
  | z :: a, k + 1, x, y, h, e1 => by
    simp only [List.set_cons_succ, listsB_cons, show 2 * (k + 1) + 1 = 2 * k + 1 + 2 by omega]
    rw [listsB_set2 a k x y (by simpa using h) e1]

/-- A place gets another number. -/
theorem DiskBlk.put0 {W : World} {d : Nat} {m : Int} {fs : List Bl} {vs : List Value} (h : DiskBlk W d m fs vs) {k : Nat} {x : Bl} (hk : fs[k]? = some x) (n : Int) : DiskBlk (W.setCell ⟨d, 2 + k * 3, none⟩ (.int .i64 n)) d m (fs.set k ⟨n, x.s, x.f⟩) vs := by
  have hlt := (List.getElem?_eq_some_iff.1 hk).1
  refine ⟨by rw [List.length_set]; exact h.1, ?_, ?_⟩
  · rw [blk_set h.2.1 (2 + k * 3) (.int .i64 n), ← flatB_set0 fs vs k ⟨n, x.s, x.f⟩ h.vlen hlt, show 2 + k * 3 = k * 3 + 1 + 1 by omega]
    rfl
  · rw [listsB_same fs k x ⟨n, x.s, x.f⟩ hk rfl rfl]
    exact h.2.2.kept (h.keptSet _ _)
/-- A place gets other fresh bytes. -/
theorem DiskBlk.put2 {W : World} {d : Nat} {m : Int} {fs : List Bl} {vs : List Value} (h : DiskBlk W d m fs vs) {k : Nat} {x : Bl} (hk : fs[k]? = some x) {q : Value} {f : List Int} (hq : LsAt W q f) : DiskBlk (W.setCell ⟨d, 2 + k * 3 + 2, none⟩ q) d m (fs.set k ⟨x.n, x.s, f⟩) (vs.set (2 * k + 1) q) := by
  have hlt := (List.getElem?_eq_some_iff.1 hk).1
  refine ⟨by rw [List.length_set]; exact h.1, ?_, ?_⟩
  · rw [blk_set h.2.1 (2 + k * 3 + 2) q, flatB_same fs _ k x ⟨x.n, x.s, f⟩ hk rfl, ← flatB_set2 fs vs k q h.vlen hlt, show 2 + k * 3 + 2 = k * 3 + 2 + 1 + 1 by omega]
    rfl
  · rw [listsB_set2 fs k x ⟨x.n, x.s, f⟩ hk rfl]
    exact (h.2.2.set hq).kept (h.keptSet _ _)
/-- A place gets another file. -/
theorem DiskBlk.put {W : World} {d : Nat} {m : Int} {fs : List Bl} {vs : List Value} (h : DiskBlk W d m fs vs) {k : Nat} (hlt : k < 3) {y : Bl} {p q : Value} (hp : LsAt W p y.s) (hq : LsAt W q y.f) :
    DiskBlk (((W.setCell ⟨d, 2 + k * 3, none⟩ (.int .i64 y.n)).setCell ⟨d, 2 + k * 3 + 1, none⟩ p).setCell ⟨d, 2 + k * 3 + 2, none⟩ q) d m (fs.set k y) ((vs.set (2 * k) p).set (2 * k + 1) q) := by
  have b1 := blk_set h.2.1 (2 + k * 3) (.int .i64 y.n)
  have b2 := blk_set b1 (2 + k * 3 + 1) p
  have b3 := blk_set b2 (2 + k * 3 + 2) q
  have hfl : k < fs.length := by have := h.1; omega
  refine ⟨by rw [List.length_set]; exact h.1, ?_, ?_⟩
  · rw [b3, ← flatB_set fs vs k y p q h.vlen hfl, show 2 + k * 3 + 2 = k * 3 + 2 + 1 + 1 by omega, show 2 + k * 3 + 1 = k * 3 + 1 + 1 + 1 by omega, show 2 + k * 3 = k * 3 + 1 + 1 by omega]
    rfl
  · rw [listsB_set fs k y hfl]
    exact ((h.2.2.set hp).set hq).kept (((h.keptSet _ _).trans (IntKept.set b1 (by decide) _ _)).trans (IntKept.set b2 (by decide) _ _))

theorem DiskBlk.put_kept {W : World} {d : Nat} {m : Int} {fs : List Bl} {vs : List Value} (h : DiskBlk W d m fs vs) (o1 o2 o3 : Nat) (u v q : Value) : IntKept W (((W.setCell ⟨d, o1, none⟩ u).setCell ⟨d, o2, none⟩ v).setCell ⟨d, o3, none⟩ q) := by
  have b1 := blk_set h.2.1 o1 u
  have b2 := blk_set b1 o2 v
  exact ((h.keptSet _ _).trans (IntKept.set b1 (by decide) _ _)).trans (IntKept.set b2 (by decide) _ _)
theorem BBox.far3 {W : World} {c d : Nat} {n : Int} {u v : Value} (h : BBox W c n u v) (hne : c ≠ d) (o1 o2 o3 : Nat) (p q r : Value) : BBox (((W.setCell ⟨d, o1, none⟩ p).setCell ⟨d, o2, none⟩ q).setCell ⟨d, o3, none⟩ r) c n u v := by
  unfold BBox at h ⊢
  rw [Below.heap_setCell _ _ _ _ hne, Below.heap_setCell _ _ _ _ hne, Below.heap_setCell _ _ _ _ hne]
  exact h
theorem below_set3 {n : Nat} {W W' : World} {d o1 o2 o3 : Nat} {p q r : Value} (h : Below n W W') (hd : n ≤ d) : Below n W (((W'.setCell ⟨d, o1, none⟩ p).setCell ⟨d, o2, none⟩ q).setCell ⟨d, o3, none⟩ r) :=
  below_setCell (below_setCell (below_setCell h _ _ hd) _ _ hd) _ _ hd

/-- A disk in memory. -/
def ShelfAt (W : World) (d : Nat) (m : Int) (fs : List Bl) : Prop := ∃ vs, DiskBlk W d m fs vs
theorem ShelfAt.keep {W W' : World} {d : Nat} {m : Int} {fs : List Bl} (h : ShelfAt W d m fs) (hb : Below W.heap.size W W') : ShelfAt W' d m fs := by
  obtain ⟨vs, h⟩ := h
  exact ⟨vs, h.keep hb⟩
theorem ShelfAt.lt {W : World} {d : Nat} {m : Int} {fs : List Bl} (h : ShelfAt W d m fs) : d < W.heap.size := by
  obtain ⟨vs, h⟩ := h
  exact h.lt
theorem shelf_new (W : World) : DiskBlk (W.alloc (.cells #[.int .i32 0, .int .u32 0, .int .i64 0, .slice none 0 0, .slice none 0 0, .int .i64 0, .slice none 0 0, .slice none 0 0, .int .i64 0, .slice none 0 0, .slice none 0 0] 78)) W.heap.size 0 (plcJ (findB [])) [.slice none 0 0, .slice none 0 0, .slice none 0 0, .slice none 0 0, .slice none 0 0, .slice none 0 0] := by
  refine ⟨rfl, World.alloc_heap_new W _, rfl, fun i z v hz hv => ?_⟩
  match i, hz, hv with
  | 0, hz, hv => cases hz; cases hv; exact ls_nil _
  | 1, hz, hv => cases hz; cases hv; exact ls_nil _
  | 2, hz, hv => cases hz; cases hv; exact ls_nil _
  | 3, hz, hv => cases hz; cases hv; exact ls_nil _
  | 4, hz, hv => cases hz; cases hv; exact ls_nil _
  | 5, hz, hv => cases hz; cases hv; exact ls_nil _
  | i + 6, hz, hv => cases hz

end Go.Proofs.Ytonbkmmddahlfaa
