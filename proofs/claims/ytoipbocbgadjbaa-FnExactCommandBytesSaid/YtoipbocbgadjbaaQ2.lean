/-
  Texts of this proof, one behind the other: Jb, Je.
-/
import Derived.Maps.AppendAt
import Derived.OwnWalk
import Derived.Laws.OwnMore
import Derived.Lib.AppendZerosOnto
import Derived.Lib.Walk
import Derived.Shelf.Abstract
import Derived.Laws.EntriesVeiled
import Derived.Test.YtoipbocbgadjbaaJa
import Derived.Test.YtoipbocbgadjbaaQ1
import Derived.Test.YtoipbocbgadjbaaGa
/-
  DISKS in memory: lists of numbers that stay, files, lists of files.
-/
namespace Go.Proofs.Ytoipbocbgadjbaa
open Go.RowKit
set_option linter.unusedVariables false

/-- Nothing turns but blocks that hold no numbers. -/
def IntKept (W W' : World) : Prop :=
  W'.os = W.os ∧ W'.tape = W.tape ∧ W'.output = W.output ∧ W.heap.size ≤ W'.heap.size ∧ ∀ k cs, k < W.heap.size → W.heap[k]? = some (.cells cs 3 (0, 0)) → W'.heap[k]? = W.heap[k]?

theorem IntKept.refl (W : World) : IntKept W W := ⟨rfl, rfl, rfl, Nat.le_refl _, fun _ _ _ _ => rfl⟩
theorem IntKept.trans {A B C : World} (h : IntKept A B) (k : IntKept B C) : IntKept A C :=
  ⟨k.1.trans h.1, k.2.1.trans h.2.1, k.2.2.1.trans h.2.2.1, Nat.le_trans h.2.2.2.1 k.2.2.2.1, fun i cs hi hc => by
    have e := h.2.2.2.2 i cs hi hc
    exact (k.2.2.2.2 i cs (Nat.lt_of_lt_of_le hi h.2.2.2.1) (e.trans hc)).trans e⟩
theorem IntKept.of_below {W W' : World} (h : Below W.heap.size W W') : IntKept W W' := ⟨h.os, h.tape, h.output, h.size, fun k cs hk _ => h.block k hk⟩
theorem IntKept.of_own {W W' : World} {b : Nat} {e : TypeId} {size n : Nat} {v : Value} {xs : List Value} (ho : W.ownsRow b e size v n xs) (he : e ≠ 3) (hg : W.grownBy W' v.ownBlock) : IntKept W W' := by
  refine ⟨hg.os, hg.tape, hg.output, hg.size, fun k cs hk hc => hg.block k hk ?_⟩
  rcases ho.2 with ⟨rfl, _⟩ | ⟨g, cap, cur, rfl, _, hgg, _⟩
  · simp [Value.ownBlock]
  · intro e1
    have e2 : k = g := by simpa [Value.ownBlock] using e1
    subst e2
    rw [hc] at hgg
    cases hgg
    exact he rfl
theorem IntKept.set {W : World} {b : Nat} {cs : Array Value} {t : TypeId} (hb : W.heap[b]? = some (.cells cs t (0, 0))) (ht : t ≠ 3) (o : Nat) (v : Value) : IntKept W (W.setCell ⟨b, o, none⟩ v) := by
  refine ⟨rfl, rfl, rfl, by simp [World.setCell], fun k ds hk hc => Below.heap_setCell _ _ _ _ (fun e => ?_)⟩
  have e2 : k = b := e
  subst e2
  rw [hb] at hc
  cases hc
  exact ht rfl

/-- A list of numbers in a block of numbers. -/
def LsAt (W : World) (v : Value) (zs : List Int) : Prop :=
  ∃ a c, v = .slice a zs.length c ∧ zs.length ≤ c ∧ c ≤ maxLen ∧ (a = none → c = 0) ∧
    (zs.length = 0 ∨ ∃ b off cs, a = some ⟨b, off, none⟩ ∧ b < W.heap.size ∧ W.heap[b]? = some (.cells cs 3 (0, 0)) ∧ ∀ i z, zs[i]? = some z → W.cell? ⟨b, off + i, none⟩ = some (.int .i64 z))

theorem LsAt.kept {W W' : World} {v : Value} {zs : List Int} (h : LsAt W v zs) (hk : IntKept W W') : LsAt W' v zs := by
  obtain ⟨a, c, h1, h2, h3, h4, h5⟩ := h
  refine ⟨a, c, h1, h2, h3, h4, ?_⟩
  rcases h5 with h0 | ⟨b, off, cs, ha, hb, hcs, hz⟩
  · exact .inl h0
  · have e := hk.2.2.2.2 b cs hb hcs
    exact .inr ⟨b, off, cs, ha, Nat.lt_of_lt_of_le hb hk.2.2.2.1, e.trans hcs, fun i z hi => (World.cell?_of_block e).trans (hz i z hi)⟩
theorem LsAt.keep {W W' : World} {v : Value} {zs : List Int} (h : LsAt W v zs) (hb : Below W.heap.size W W') : LsAt W' v zs := h.kept (IntKept.of_below hb)

theorem LsAt.out {W : World} {v : Value} {zs : List Int} (h : LsAt W v zs) : ∃ a c, v = .slice a zs.length c ∧ IntsAt W a zs.length zs ∧ zs.length ≤ c ∧ c ≤ maxLen ∧ (a = none → c = 0) := by
  obtain ⟨a, c, h1, h2, h3, h4, h5⟩ := h
  refine ⟨a, c, h1, ⟨rfl, ?_⟩, h2, h3, h4⟩
  rcases h5 with h0 | ⟨b, off, cs, ha, hb, hcs, hz⟩
  · exact .inl h0
  · exact .inr ⟨b, off, ha, hz⟩
theorem LsAt.ints {W : World} {a : Option Addr} {len c : Nat} {zs : List Int} (h : LsAt W (.slice a len c) zs) : len = zs.length ∧ IntsAt W a zs.length zs ∧ zs.length ≤ c ∧ c ≤ maxLen ∧ (a = none → c = 0) := by
  obtain ⟨a', c', he, h2, h3, h4, h5⟩ := h.out
  cases he
  exact ⟨rfl, h2, h3, h4, h5⟩
theorem ls_nil (W : World) : LsAt W (.slice none 0 0) [] := ⟨none, 0, rfl, Nat.le_refl _, Nat.zero_le _, fun _ => rfl, .inl rfl⟩

theorem ls_of_own {W : World} {base : Nat} {v : Value} {zs : List Int} (h : W.ownsRow base 3 1 v zs.length (intsV zs)) : LsAt W v zs := by
  rcases h.2 with ⟨rfl, h0⟩ | ⟨g, cap, cur, rfl, h1, h2, h3, h4, h5, h6⟩
  · exact ⟨none, 0, by rw [h0], by omega, Nat.zero_le _, fun _ => rfl, .inl h0⟩
  · refine ⟨some ⟨g, 0, none⟩, cap, rfl, h3, h4, (by simp), .inr ⟨g, 0, cur, rfl, (Array.getElem?_eq_some_iff.1 h2).1, h2, fun i x hx => ?_⟩⟩
    have hi := (List.getElem?_eq_some_iff.1 hx).1
    rw [Nat.zero_add, h.cellAt i (by omega)]
    unfold intsV
    rw [List.getElem?_map, hx]; rfl

/-- A part of a list. -/
theorem LsAt.take {W : World} {a : Option Addr} {len c : Nat} {zs : List Int} (h : LsAt W (.slice a len c) zs) {k : Nat} (hk : k ≤ zs.length) : LsAt W (.slice a k c) (zs.take k) := by
  obtain ⟨a', c', he, h2, h3, h4, h5⟩ := h
  cases he
  have hl : (zs.take k).length = k := by rw [List.length_take]; omega
  refine ⟨a, c, by rw [hl], by rw [hl]; omega, h3, h4, ?_⟩
  rcases h5 with h0 | ⟨b, off, cs, ha, hb, hcs, hz⟩
  · exact .inl (by rw [hl]; omega)
  · refine .inr ⟨b, off, cs, ha, hb, hcs, fun i z hi => hz i z ?_⟩
    rw [List.getElem?_take] at hi
    split at hi
    · exact hi
    · cases hi

/-- The values of lists, one behind the other. -/
def LsAll (W : World) (vs : List Value) (zss : List (List Int)) : Prop := vs.length = zss.length ∧ ∀ (i : Nat) (z : List Int) (v : Value), zss[i]? = some z → vs[i]? = some v → LsAt W v z
theorem LsAll.kept {W W' : World} {vs : List Value} {zss : List (List Int)} (h : LsAll W vs zss) (hk : IntKept W W') : LsAll W' vs zss := ⟨h.1, fun i z v hz hv => (h.2 i z v hz hv).kept hk⟩
theorem LsAll.nil (W : World) : LsAll W [] [] := ⟨rfl, fun i z v hz => by simp at hz⟩
theorem LsAll.push {W : World} {vs : List Value} {zss : List (List Int)} {v : Value} {z : List Int} (h : LsAll W vs zss) (hv : LsAt W v z) : LsAll W (vs ++ [v]) (zss ++ [z]) := by
  refine ⟨by simp [h.1], fun i z' v' hz hv' => ?_⟩
  by_cases hi : i < zss.length
  · rw [List.getElem?_append_left hi] at hz
    rw [List.getElem?_append_left (by have := h.1; omega)] at hv'
    exact h.2 i z' v' hz hv'
  · have e1 : i = zss.length := by
      have := (List.getElem?_eq_some_iff.1 hz).1
      simp at this; omega
    subst e1
    rw [List.getElem?_append_right (Nat.le_refl _)] at hz
    rw [← h.1, List.getElem?_append_right (Nat.le_refl _)] at hv'
    simp at hz hv'
    subst hz; subst hv'
    exact hv
theorem lsAll_inner {W : World} {base : Nat} {vs : List Value} {zss : List (List Int)} (h : Inner W base vs zss) : LsAll W vs zss := ⟨h.1, fun i z v hz hv => ls_of_own (h.2.1 i z v hz hv)⟩

/-! ## Lists of files -/

/-- The cells of files whose lists are given. -/
def flatBJ : List Bl → List Value → List Value
  | b :: bs, u :: v :: vs => .int .i64 b.n :: u :: v :: flatBJ bs vs
  | _, _ => []
/-- The lists of files. -/
def listsB (bs : List Bl) : List (List Int) := bs.flatMap (fun b => [b.s, b.f])
theorem listsB_cons (b : Bl) (bs : List Bl) : listsB (b :: bs) = b.s :: b.f :: listsB bs := rfl
theorem listsB_append (a b : List Bl) : listsB (a ++ b) = listsB a ++ listsB b := by unfold listsB; rw [List.flatMap_append]
theorem listsB_len (bs : List Bl) : (listsB bs).length = 2 * bs.length := by
  induction bs with
  | nil => rfl
  | cons b r ih => rw [listsB_cons]; simp [ih]; omega

theorem flatB_append : ∀ (a : List Bl) (us : List Value) (b : List Bl) (vs : List Value), us.length = 2 * a.length → flatBJ (a ++ b) (us ++ vs) = flatBJ a us ++ flatBJ b vs
  | [], us, b, vs, h => by
    have : us = [] := List.eq_nil_of_length_eq_zero (by simpa using h)
    subst this; rfl
  | x :: a, us, b, vs, h => by
    match us, h with
    | u :: v :: us, h =>
      simp only [List.cons_append, flatBJ]
      rw [flatB_append a us b vs (by simp at h; omega)]
    | [u], h => simp at h; omega
    | [], h => simp at h
theorem flatB_len : ∀ (bs : List Bl) (vs : List Value), vs.length = 2 * bs.length → (flatBJ bs vs).length = bs.length * 3
  | [], vs, h => by
    have : vs = [] := List.eq_nil_of_length_eq_zero (by simpa using h)
    subst this; rfl
  | x :: a, us, h => by
    match us, h with
    | u :: v :: us, h =>
      simp only [flatBJ, List.length_cons]
      rw [flatB_len a us (by simp at h; omega)]
      omega
    | [u], h => simp at h; omega
    | [], h => simp at h
theorem flatB_get : ∀ (bs : List Bl) (vs : List Value) (i : Nat) (b : Bl), vs.length = 2 * bs.length → bs[i]? = some b →
    ∃ u v, vs[2 * i]? = some u ∧ vs[2 * i + 1]? = some v ∧ (flatBJ bs vs)[i * 3]? = some (.int .i64 b.n) ∧ (flatBJ bs vs)[i * 3 + 1]? = some u ∧ (flatBJ bs vs)[i * 3 + 2]? = some v
  | [], vs, i, b, h, hb => by simp at hb
  | x :: a, us, i, b, h, hb => by
    match us, h with
    | u :: v :: us, h =>
      match i, hb with
      | 0, hb =>
        simp at hb
        subst hb
        exact ⟨u, v, rfl, rfl, rfl, rfl, rfl⟩
      | i + 1, hb =>
        obtain ⟨u', v', h1, h2, h3, h4, h5⟩ := flatB_get a us i b (by simp at h; omega) (by simpa using hb)
        refine ⟨u', v', ?_, ?_, ?_, ?_, ?_⟩
        · rw [show 2 * (i + 1) = 2 * i + 2 by omega]; exact h1
        · rw [show 2 * (i + 1) + 1 = 2 * i + 1 + 2 by omega]; exact h2
        · rw [show (i + 1) * 3 = i * 3 + 3 by omega]; exact h3
        · rw [show (i + 1) * 3 + 1 = i * 3 + 1 + 3 by omega]; exact h4
        · rw [show (i + 1) * 3 + 2 = i * 3 + 2 + 3 by omega]; exact h5
    | [u], h => simp at h; omega
    | [], h => simp at h
theorem listsB_get : ∀ (bs : List Bl) (i : Nat) (b : Bl), bs[i]? = some b → (listsB bs)[2 * i]? = some b.s ∧ (listsB bs)[2 * i + 1]? = some b.f
  | [], i, b, h => by simp at h
  | x :: a, 0, b, h => by simp at h; subst h; exact ⟨rfl, rfl⟩
  | x :: a, i + 1, b, h => by
    obtain ⟨h1, h2⟩ := listsB_get a i b (by simpa using h)
    rw [listsB_cons, show 2 * (i + 1) = 2 * i + 2 by omega]
    exact ⟨h1, h2⟩

/-- A file at a place. -/
def BlobAt (W : World) (b off : Nat) (x : Bl) : Prop :=
  ∃ u v, W.cell? ⟨b, off, none⟩ = some (.int .i64 x.n) ∧ W.cell? ⟨b, off + 1, none⟩ = some u ∧ W.cell? ⟨b, off + 2, none⟩ = some v ∧ LsAt W u x.s ∧ LsAt W v x.f
theorem BlobAt.keep {W W' : World} {b off : Nat} {x : Bl} (h : BlobAt W b off x) (hb : Below W.heap.size W W') : BlobAt W' b off x := by
  obtain ⟨u, v, h1, h2, h3, h4, h5⟩ := h
  exact ⟨u, v, cell_kept hb h1, cell_kept hb h2, cell_kept hb h3, h4.keep hb, h5.keep hb⟩
/-- A list of files in memory. -/
def BlobsAt (W : World) (a : Option Addr) (len : Nat) (bs : List Bl) : Prop :=
  bs.length = len ∧ (len = 0 ∨ ∃ b off, a = some ⟨b, off, none⟩ ∧ ∀ i x, bs[i]? = some x → BlobAt W b (off + i * 3) x)
theorem BlobsAt.keep {W W' : World} {a : Option Addr} {len : Nat} {bs : List Bl} (h : BlobsAt W a len bs) (hb : Below W.heap.size W W') : BlobsAt W' a len bs := by
  obtain ⟨h1, h0 | ⟨b, off, ha, hc⟩⟩ := h
  · exact ⟨h1, .inl h0⟩
  · exact ⟨h1, .inr ⟨b, off, ha, fun i x hn => (hc i x hn).keep hb⟩⟩
theorem BlobsAt.at {W : World} {a : Option Addr} {len : Nat} {bs : List Bl} (h : BlobsAt W a len bs) {i : Nat} (hi : i < len) :
    ∃ b off x u v, a = some ⟨b, off, none⟩ ∧ bs[i]? = some x ∧ W.cell? ⟨b, off + i * 3, none⟩ = some (.int .i64 x.n) ∧ W.cell? ⟨b, off + i * 3 + 1, none⟩ = some u ∧ W.cell? ⟨b, off + i * 3 + 2, none⟩ = some v ∧ LsAt W u x.s ∧ LsAt W v x.f := by
  obtain ⟨h1, h0 | ⟨b, off, ha, hc⟩⟩ := h
  · omega
  · obtain ⟨x, hx⟩ : ∃ x, bs[i]? = some x := ⟨_, List.getElem?_eq_getElem (by omega)⟩
    obtain ⟨u, v, h2⟩ := hc i x hx
    exact ⟨b, off, x, u, v, ha, hx, h2⟩
/-- The same, with the lists' values written out. -/
theorem BlobsAt.at2 {W : World} {a : Option Addr} {len : Nat} {bs : List Bl} (h : BlobsAt W a len bs) {i : Nat} (hi : i < len) :
    ∃ b off x a1 c1 a2 c2, a = some ⟨b, off, none⟩ ∧ bs[i]? = some x ∧ W.cell? ⟨b, off + i * 3, none⟩ = some (.int .i64 x.n) ∧ W.cell? ⟨b, off + i * 3 + 1, none⟩ = some (.slice a1 x.s.length c1) ∧ W.cell? ⟨b, off + i * 3 + 2, none⟩ = some (.slice a2 x.f.length c2) ∧ LsAt W (.slice a1 x.s.length c1) x.s ∧ LsAt W (.slice a2 x.f.length c2) x.f := by
  obtain ⟨b, off, x, u, v, ha, hx, h1, h2, h3, h4, h5⟩ := h.at hi
  obtain ⟨a1, c1, rfl, -⟩ := h4.out
  obtain ⟨a2, c2, rfl, -⟩ := h5.out
  exact ⟨b, off, x, a1, c1, a2, c2, ha, hx, h1, h2, h3, h4, h5⟩

theorem cell_three_newJ (w : World) (x y z : Value) (t : TypeId) : ∀ j r, [x, y, z][j]? = some r → (w.alloc (.cells #[x, y, z] t)).cell? ((⟨w.heap.size, 0, none⟩ : Addr).add j) = some r := by
  intro j r hj
  match j, hj with
  | 0, hj => simp at hj; subst hj; simp [Addr.add]
  | 1, hj => simp at hj; subst hj; simp [Addr.add]
  | 2, hj => simp at hj; subst hj; simp [Addr.add]

theorem ls_one {W : World} {v : Value} {zs : List Int} (h : LsAt W v zs) : v.oneCell' = true := by
  obtain ⟨a, c, rfl, _⟩ := h
  rfl

/-- What a function on disks tells: files or a failure. -/
def DiskPost (r : Option (List Bl)) (W : World) (e : Ending) (w' : World) : Prop :=
  ∃ (a : Option Addr) (c : Nat) (out : List Bl) (b : Bool), e = .returned (.tuple #[.slice a out.length c, .bool b]) ∧ ((b = true ∧ r = some out) ∨ (b = false ∧ r = none ∧ out = [])) ∧ BlobsAt w' a out.length out ∧ (out.length ≤ c ∧ c ≤ maxLen ∧ (a = none → c = 0)) ∧ Below W.heap.size W w'
theorem disk_fail {r : Option (List Bl)} {W w' : World} {a : Option Addr} {c : Nat} (hr : r = none) (hc : c ≤ maxLen) (ha : a = none → c = 0) (hb : Below W.heap.size W w') : DiskPost r W (.returned (.tuple #[.slice a 0 c, .bool false])) w' :=
  ⟨a, c, [], false, rfl, .inr ⟨rfl, hr, rfl⟩, ⟨rfl, .inl rfl⟩, ⟨Nat.zero_le _, hc, ha⟩, hb⟩

end Go.Proofs.Ytoipbocbgadjbaa

/-
  WALKS: the program's files: isFileName, areBytes, isFile; slices.IndexFunc, ContainsFunc, Concat of numbers; settled.
-/
namespace Go.Proofs.Ytoipbocbgadjbaa
open Go.RowKit
set_option linter.unusedVariables false

theorem je_first : (0 : Nat) ≤ 0 := Nat.le_refl 0

/-- A number that is out of a range. -/
def outB (m z : Int) : Bool := decide (z < 0) || decide (m < z)

set_option maxHeartbeats 400000 in
theorem areBytes1_c (n : Int) (w : World) : Calls Try.prog 53 #[.int .i64 n] w fun e w' => e = .returned (.bool (outB 255 n)) ∧ w' = w := by
  by_cases h1 : n < 0
  · have hr := Lib.hid (show true = outB 255 n by unfold outB; rw [decide_eq_true h1]; rfl)
    have d1 : decide (n < 0) = true := decide_eq_true h1
    go_enter Try.func53, Try.ntmps53
    go_wp2
    go_ret
    exact ⟨retb hr.out, rfl⟩
  · by_cases h2 : 255 < n
    · have hr := Lib.hid (show true = outB 255 n by unfold outB; rw [decide_eq_true h2]; simp)
      have d1 : decide (n < 0) = false := decide_eq_false h1
      have d2 : decide (255 < n) = true := decide_eq_true h2
      have h1' : 0 ≤ n := by omega
      clear h1
      go_enter Try.func53, Try.ntmps53
      go_wp2
      go_ret
      exact ⟨retb hr.out, rfl⟩
    · have hr := Lib.hid (show false = outB 255 n by unfold outB; rw [decide_eq_false h1, decide_eq_false h2]; rfl)
      have d1 : decide (n < 0) = false := decide_eq_false h1
      have d2 : decide (255 < n) = false := decide_eq_false h2
      have h1' : 0 ≤ n := by omega
      have h2' : n ≤ 255 := by omega
      clear h1 h2
      go_enter Try.func53, Try.ntmps53
      go_wp2
      go_ret
      exact ⟨retb hr.out, rfl⟩

/-- A rule of numbers in memory that leaves the world alone. -/
def RuleI (v : Value) (f : Int → Bool) : Prop :=
  ∃ g : Nat, v = .func (.func g) #[] #[] ∧ (∀ args w', (callFunc g args).run Try.prog w' = .ok (.enter g args) w') ∧ ∀ (z : Int) (W : World), Calls Try.prog g #[.int .i64 z] W fun e w' => e = .returned (.bool (f z)) ∧ w' = W
theorem rule_bytes : RuleI (.func (.func 53) #[] #[]) (outB 255) := ⟨_, rfl, enters_of Try.func53 (by kernel_rfl) rfl, areBytes1_c⟩
theorem anyI_at {f : Int → Bool} {cs : List Int} {n : Nat} {d : Int} (h : cs[n]? = some d) (hf : f d = true) : cs.any f = true := List.any_eq_true.2 ⟨d, List.mem_of_getElem? h, hf⟩
theorem anyI_none {f : Int → Bool} {cs : List Int} (h : ∀ (j : Nat) (d : Int), cs[j]? = some d → f d = false) : cs.any f = false := by
  rw [Bool.eq_false_iff]
  intro hs
  obtain ⟨d, hd, hf⟩ := List.any_eq_true.1 hs
  obtain ⟨j, hj⟩ := List.getElem?_of_mem hd
  rw [h j d hj] at hf
  cases hf

set_option maxHeartbeats 2000000 in
set_option maxRecDepth 100000 in
theorem indexFuncI_c (a : Option Addr) (len cap : Nat) (cs : List Int) (v : Value) (f : Int → Bool) (hl : len ≤ 2097152) (W : World) (hN : IntsAt W a len cs) (hR : RuleI v f) :
    Calls Try.prog 70 #[.slice a len cap, v] W fun e w' => (∃ i : Int, e = .returned (.int .i64 i) ∧ decide (0 ≤ i) = cs.any f) ∧ w' = W := by
  obtain ⟨g, rfl, eg, hP⟩ := hR
  have HN := Lib.hid hN
  have HE := Lib.hid hN.1
  have HP := Lib.hid hP
  have hl' : (len : Int) ≤ 2097152 := by omega
  clear hN hP
  go_enter Try.func70, Try.ntmps70
  go_wp2
  go_loopw [5, 8] (fun _ k wr => ∃ n : Nat, k = .int .i64 n ∧ n ≤ len ∧ Hid (∀ (j : Nat) (d : Int), j < n → cs[j]? = some d → f d = false) ∧ W = wr) (fun _ k _ => len - (intOf k).toNat)
  case atStart => exact ⟨0, rfl, Nat.zero_le _, Lib.hid (fun j d h => absurd h (Nat.not_lt_zero _)), rfl⟩
  case round =>
    obtain ⟨n, rfl, hn, HNO, rfl⟩ := hrel
    by_cases hlt : n < len
    · have hlt' : (n : Int) < len := by omega
      have hw1 : IntKind.i64.wrap ((n : Int) + 1) = (n : Int) + 1 := IntWalk.i64_in _ (by omega)
      have HLT := Lib.hid hlt
      obtain ⟨b, off, d, rfl, hd, d0⟩ := HN.out.at hlt
      obtain ⟨q, hq⟩ : ∃ q, f d = q := ⟨_, rfl⟩
      have HC := Lib.hid (fun w => show Calls Try.prog g #[.int .i64 d] w (fun e w' => e = .returned (.bool q) ∧ w' = w) by rw [← hq]; exact HP.out d w)
      have HD := Lib.hid (And.intro hd hq)
      clear hn hlt hd hq
      go_wp2_with (go_at_fn g; refine (HC.out _).mono ?_; rintro e W1 ⟨rfl, rfl⟩; clear d0; cases q)
      · go_wp2
        go_roundw
        case rel =>
          refine ⟨n + 1, by go_num, HLT.out, Lib.hid (fun j x hj hx => ?_), trivial⟩
          by_cases h : j < n
          · exact HNO.out j x h hx
          · obtain rfl : j = n := by omega
            rw [HD.out.1] at hx
            obtain rfl := Option.some.inj hx
            exact HD.out.2
        case measure => have := HLT.out; simp [intOf]; omega
      · have hn0 : (0 : Int) ≤ n := by omega
        go_wp2
        go_ret
        exact ⟨⟨n, rfl, by rw [anyI_at HD.out.1 HD.out.2]; exact decide_eq_true hn0⟩, rfl⟩
    · have hge : (len : Int) ≤ n := by omega
      have HX := Lib.hid (anyI_none (f := f) (cs := cs) (fun j d hd => HNO.out j d (by have := (List.getElem?_eq_some_iff.1 hd).1; have := HE.out; omega) hd))
      clear hn hlt
      go_wp2
      go_ret
      exact ⟨⟨-1, rfl, by rw [HX.out]; rfl⟩, rfl⟩

set_option maxHeartbeats 2000000 in
set_option maxRecDepth 100000 in
theorem containsFuncI_c (a : Option Addr) (len cap : Nat) (cs : List Int) (v : Value) (f : Int → Bool) (hl : len ≤ 2097152) (W : World) (hN : IntsAt W a len cs) (hR : RuleI v f) :
    Calls Try.prog 52 #[.slice a len cap, v] W fun e w' => e = .returned (.bool (cs.any f)) ∧ w' = W := by
  have HI := Lib.hid (indexFuncI_c a len cap cs v f hl W hN hR)
  obtain ⟨g, rfl, -⟩ := hR
  clear hN hl
  go_enter Try.func52, Try.ntmps52
  go_wp2_with fail
  refine HI.out.mono ?_
  rintro e W1 ⟨⟨i, rfl, hi⟩, rfl⟩
  have HX := Lib.hid hi
  clear hi
  go_wp2
  go_ret
  exact ⟨retb HX.out, rfl⟩

theorem any_out (zs : List Int) : (!zs.any (outB 255)) = zs.all byteOk := by
  induction zs with
  | nil => rfl
  | cons z r ih =>
    rw [List.any_cons, List.all_cons, Bool.not_or, ih]
    congr 1
    unfold outB byteOk
    by_cases h1 : z < 0
    · rw [decide_eq_true h1, decide_eq_false (show ¬ (0 ≤ z ∧ z ≤ 255) by omega)]; rfl
    · by_cases h2 : 255 < z
      · rw [decide_eq_false h1, decide_eq_true h2, decide_eq_false (show ¬ (0 ≤ z ∧ z ≤ 255) by omega)]; rfl
      · rw [decide_eq_false h1, decide_eq_false h2, decide_eq_true (show 0 ≤ z ∧ z ≤ 255 by omega)]; rfl

set_option maxHeartbeats 1000000 in
theorem areBytes_c (a : Option Addr) (len cap : Nat) (zs : List Int) (hl : len ≤ 2097152) (W : World) (hN : IntsAt W a len zs) :
    Calls Try.prog 33 #[.slice a len cap] W fun e w' => e = .returned (.bool (zs.all byteOk)) ∧ w' = W := by
  obtain ⟨q, hq⟩ : ∃ q, zs.any (outB 255) = q := ⟨_, rfl⟩
  have HC := Lib.hid (show Calls Try.prog 52 #[.slice a len cap, .func (.func 53) #[] #[]] W (fun e w' => e = .returned (.bool q) ∧ w' = W) by rw [← hq]; exact containsFuncI_c a len cap zs _ _ hl W hN rule_bytes)
  have HR := Lib.hid (show zs.all byteOk = !q by rw [← hq, any_out])
  clear hN hl hq
  go_enter Try.func33, Try.ntmps33
  go_wp2_with fail
  refine HC.out.mono ?_
  rintro e W1 ⟨rfl, rfl⟩
  go_wp2
  go_ret
  exact ⟨retb HR.out.symm, rfl⟩

set_option maxHeartbeats 1000000 in
set_option maxRecDepth 100000 in
/-- slices.Grow of nothing: room for n numbers. -/
theorem growI_c (n : Nat) (hn : n ≤ 2097152) (W : World) :
    Calls Try.prog 88 #[.slice none 0 0, .int .i64 n] W fun e W' => OwnsInts W.heap.size [] e W' ∧ Below W.heap.size W W' := by
  by_cases h0 : n = 0
  · subst h0
    go_enter Try.func88, Try.ntmps88
    go_wp2
    refine bodyPost_ret (v := .slice none 0 0) (by simp [results, Try.f88, go_sem]) rfl ⟨⟨_, rfl, World.ownsRow_nil _ _ _ _⟩, Below.refl _ _⟩
  have h1 : 1 ≤ n := by omega
  clear h0
  obtain ⟨i0, hi, hz0, hz1, hz2⟩ := info_parts infoInt
  have hold : (Builtin.firstCells i0.size 0 (.slice none 0 0)).run Try.prog W.drew = .ok (([] : List Value)).toArray W.drew := run_firstCells_none W.drew i0.size 0 0 0
  have hrz : ∀ ty, (Builtin.append_ #[28, 3] ty #[.slice none 0 0, .int .i64 n]).run Try.prog W =
      .ok (.slice (some ⟨W.heap.size, 0, none⟩) (0 + n) (grownCap W (0 + n) 0 3)) (W.drew.alloc (.cells (([] : List Value).toArray ++ Builtin.zeroCells (Value.int .i64 0).cells n ++ Builtin.zeroCells (Value.int .i64 0).cells (grownCap W (0 + n) 0 3 - (0 + n))) 3)) := fun ty =>
    Lib.run_append_grow_zeros W 28 3 ty 3 i0 (.int .i64 0) .i64 .i64 Try.underlying28 Try.underlying3 hi hz0 none 0 0 [] hold n (by omega) (by omega) (by omega) (by omega) (by rw [hz2]; omega) (growslice_fits (by omega) (by rw [hz2]; omega))
  have hGn : 0 + n ≤ grownCap W (0 + n) 0 3 := grownCap_ge W _ _ _
  have hGm : grownCap W (0 + n) 0 3 ≤ maxLen := grownCap_le_maxLen W (0 + n) 0 3 (by unfold maxLen; omega)
  rw [Nat.zero_add] at hrz hGn hGm
  obtain ⟨G, hG⟩ : ∃ G, G = grownCap W n 0 3 := ⟨_, rfl⟩
  rw [← hG] at hrz hGn hGm
  have HGN := Lib.hid hGn
  have HGM := Lib.hid hGm
  have n0 : 0 < (n : Int) := by omega
  have hn' : (n : Int) ≤ 2097152 := by omega
  have hG63 : G ≤ 9223372036854775807 := by unfold maxLen at hGm; omega
  clear hold hG hGn hGm
  go_enter Try.func88, Try.ntmps88
  go_wp2_with (at_builtin; refine Lib.wpList_append_run _ rfl _ _ _ _ rfl _ _ rfl rfl _ _ (hrz _) ?_)
  refine bodyPost_ret (v := .slice (some ⟨W.heap.size, 0, none⟩) 0 G) (by simp [results, Try.f88, go_sem]) rfl ⟨⟨_, rfl, ?_⟩, ((Below.refl _ W).alloc (Nat.le_refl _) _).drew⟩
  exact World.ownsRow_made (e := 3) (size := 1) W _ G (Nat.le_refl _) HGM.out (by
    rw [Array.size_append, size_zeroCells, size_zeroCells]
    have := HGN.out
    simp
    omega)

/-- Two lists in a block of their own. -/
def TwoAtJ (W : World) (g : Nat) (u v : Value) : Prop := W.cell? ⟨g, 0, none⟩ = some u ∧ W.cell? ⟨g, 1, none⟩ = some v
theorem TwoAtJ.keep {W W' : World} {g : Nat} {u v : Value} (h : TwoAtJ W g u v) (hb : Below W.heap.size W W') : TwoAtJ W' g u v := ⟨cell_kept hb h.1, cell_kept hb h.2⟩
theorem two_newJ (W : World) (u v : Value) (t : TypeId) : TwoAtJ (W.alloc (.cells #[u, v] t)) W.heap.size u v := ⟨by rw [World.cell?_alloc_new]; rfl, by rw [World.cell?_alloc_new]; rfl⟩
theorem TwoAtJ.at {W : World} {g : Nat} {s f : List Int} {u v : Value} (h : TwoAtJ W g u v) (h1 : LsAt W u s) (h2 : LsAt W v f) {i : Nat} (hi : i < 2) :
    ∃ a c z, [s, f][i]? = some z ∧ W.cell? ⟨g, i, none⟩ = some (.slice a z.length c) ∧ IntsAt W a z.length z ∧ (a = none → c = 0) := by
  match i, hi with
  | 0, _ =>
    obtain ⟨a, c, rfl, h3, -, -, h4⟩ := h1.out
    exact ⟨a, c, s, rfl, h.1, h3, h4⟩
  | 1, _ =>
    obtain ⟨a, c, rfl, h3, -, -, h4⟩ := h2.out
    exact ⟨a, c, f, rfl, h.2, h3, h4⟩
theorem flatI_next {bs : List (List Int)} {i : Nat} {z : List Int} (h : bs[i]? = some z) : (bs.take (i + 1)).flatten = (bs.take i).flatten ++ z := by
  rw [takeT_next h, List.flatten_append]; simp
theorem flatI_le (bs : List (List Int)) (i : Nat) : (bs.take i).flatten.length ≤ bs.flatten.length := by
  conv => rhs; rw [← List.take_append_drop i bs, List.flatten_append, List.length_append]
  omega

set_option maxHeartbeats 2000000 in
set_option maxRecDepth 100000 in
/-- slices.Concat of two lists of numbers. -/
theorem concat2_c (g cap : Nat) (u v : Value) (s f : List Int) (ht : s.length + f.length ≤ 2097152) (W : World) (h : TwoAtJ W g u v) (h1 : LsAt W u s) (h2 : LsAt W v f) :
    Calls Try.prog 80 #[.slice (some ⟨g, 0, none⟩) 2 cap] W fun e W' => OwnsInts W.heap.size (s ++ f) e W' ∧ Below W.heap.size W W' := by
  obtain ⟨bs, hbs⟩ : ∃ bs, bs = [s, f] := ⟨_, rfl⟩
  have hfl : bs.flatten = s ++ f := by rw [hbs]; simp
  have hbl : bs.length = 2 := by rw [hbs]; rfl
  have HA := Lib.hid (fun W' (hb : Below W.heap.size W W') (i : Nat) (hi : i < 2) => show ∃ a c z, bs[i]? = some z ∧ W'.cell? ⟨g, i, none⟩ = some (.slice a z.length c) ∧ IntsAt W' a z.length z ∧ (a = none → c = 0) by rw [hbs]; exact (h.keep hb).at (h1.keep hb) (h2.keep hb) hi)
  have HE := Lib.hid hbl
  have HT := Lib.hid (show bs.flatten.length ≤ 2097152 by rw [hfl, List.length_append]; exact ht)
  have HFL := Lib.hid hfl
  obtain ⟨tot, htot⟩ : ∃ tot, tot = bs.flatten.length := ⟨_, rfl⟩
  have HG := Lib.hid (fun W' => show Calls Try.prog 88 #[.slice none 0 0, .int .i64 tot] W' (fun e W'' => OwnsInts W'.heap.size [] e W'' ∧ Below W'.heap.size W' W'') from growI_c tot (by rw [htot]; exact HT.out) W')
  have HTO := Lib.hid htot
  clear h h1 h2 ht htot hbs hfl hbl
  go_enter Try.func80, Try.ntmps80
  go_wp2_with fail
  go_loopw [3, 11] (fun s i wr => ∃ n : Nat, i = .int .i64 n ∧ n ≤ 2 ∧ s = .int .i64 ((bs.take n).flatten.length : Nat) ∧ W = wr) (fun _ i _ => 2 - (intOf i).toNat)
  case atStart => exact ⟨0, rfl, by omega, rfl, rfl⟩
  case round =>
    obtain ⟨i, rfl, hi1, rfl, rfl⟩ := hrel
    by_cases hlt : i < 2
    · obtain ⟨ai, ci, z, hz, c0, hzi, -⟩ := HA.out _ (Below.refl _ _) i hlt
      have hlt' : (i : Int) < 2 := by omega
      have HLT := Lib.hid hlt
      have HFN := Lib.hid (flatI_next hz)
      have hf1 := flatI_le bs (i + 1)
      rw [HFN.out, List.length_append] at hf1
      have hf2 := HT.out
      obtain ⟨s, hs⟩ : ∃ s, s = (bs.take i).flatten.length := ⟨_, rfl⟩
      rw [← hs] at hf1 ⊢
      have HS := Lib.hid hs
      have hsz : (s : Int) + z.length ≤ 2097152 := by omega
      have hsz0 : (0 : Int) ≤ (s : Int) + z.length := by omega
      obtain ⟨zl, hzl⟩ : ∃ x, z.length = x := ⟨_, rfl⟩
      have HZL := Lib.hid hzl
      rw [hzl] at hsz hsz0 c0
      clear hlt hi1 hz hzi hf1 hf2 hs hzl
      go_wp2_with fail
      go_roundw
      case rel => exact ⟨i + 1, by push_cast; rfl, by have := HLT.out; omega, by rw [HFN.out, List.length_append, ← HS.out, HZL.out]; push_cast; rfl, trivial⟩
      case measure => have := HLT.out; simp [intOf]; omega
    · have hge : (2 : Int) ≤ i := by omega
      have htk : bs.take i = bs := List.take_of_length_le (by have := HE.out; omega)
      rw [htk, ← HTO.out]
      clear hi1 hlt htk
      go_wp2_with fail
      refine (HG.out _).mono ?_
      rintro e W2 ⟨⟨s2, rfl, ho2⟩, hb2⟩
      have HO2 := Lib.hid ho2
      have HB2 := Lib.hid hb2
      clear ho2 hb2 hge
      go_wp2_with fail
      go_loopw [6, 27] (fun o i w3 => ∃ n : Nat, i = .int .i64 n ∧ n ≤ 2 ∧ w3.ownsRow W.heap.size 3 1 o (bs.take n).flatten.length (intsV (bs.take n).flatten) ∧ Hid (Below W.heap.size W w3)) (fun _ i _ => 2 - (intOf i).toNat)
      case atStart => exact ⟨0, rfl, by omega, HO2.out, HB2.out⟩
      case round =>
        obtain ⟨j, rfl, hi1, hown, HB⟩ := hrel
        by_cases hlt : j < 2
        · obtain ⟨ai, ci, z, hz, c0, hzi, hci⟩ := HA.out _ HB.out j hlt
          have hlt' : (j : Int) < 2 := by omega
          have HLT := Lib.hid hlt
          have HFN := Lib.hid (flatI_next hz)
          have hf1 := flatI_le bs (j + 1)
          rw [HFN.out, List.length_append] at hf1
          have HF1 := Lib.hid hf1
          have HZI := Lib.hid hzi
          have HCI := Lib.hid hci
          have HO := Lib.hid hown
          have hlt0 := HO.out.lt
          clear hlt hi1 hz hzi hf1 hown hci
          go_wp2_with (at_builtin; refine wpList_append_ints rfl _ _ rfl W.heap.size _ ((bs.take j).flatten) rfl HO.out ai z.length ci z rfl HZI.out HCI.out (by have := HF1.out; have := HT.out; omega) HB.out.size ?_; intro v5 w5 ho5 hg5)
          have B5 : Below W.heap.size W w5 := HB.out.grown hg5 HB.out.size (fun g e => (hlt0 g e).1)
          go_roundw
          case rel => exact ⟨j + 1, by push_cast; rfl, by have := HLT.out; omega, by rw [HFN.out]; exact ho5, B5⟩
          case measure => have := HLT.out; simp [intOf]; omega
        · have hge : (2 : Int) ≤ j := by omega
          have htk : bs.take j = bs := List.take_of_length_le (by have := HE.out; omega)
          rw [htk, HFL.out] at hown
          have HO := Lib.hid hown
          clear hi1 hlt htk hown
          go_wp2
          refine bodyPost_ret (v := u6) (by simp [results, Try.f80, go_sem]) rfl ⟨⟨_, rfl, HO.out⟩, HB.out⟩

end Go.Proofs.Ytoipbocbgadjbaa
