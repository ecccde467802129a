/-
  WALKS: the draws of disks.
-/
import Derived.Test.YtonbkmmddahlfaaFf
import Derived.Test.YtonbkmmddahlfaaJq
namespace Go.Proofs.Ytonbkmmddahlfaa
open Go.RowKit
set_option linter.unusedVariables false

theorem jd_first : (0 : Nat) ≤ 0 := Nat.le_refl 0

/-- Drawn bytes, of the call's own. -/
def BytesDraw (N0 B p : Nat) (W : World) (e : Ending) (W' : World) : Prop :=
  ∃ (sl : Value) (zs : List Int) (q : Nat), e = .returned sl ∧ W'.ownsRow W.heap.size 3 1 sl zs.length (intsV zs) ∧ zs.length ≤ 200 ∧ (∀ z ∈ zs, -1 ≤ z ∧ z ≤ 256) ∧ q ≤ p + 206 ∧ RdAt N0 W' B q ∧ W.grownBy W' (some B)
def BytesRelD (N0 B p : Nat) (NN : Nat) (W : World) (o i : Value) (wr : World) : Prop :=
  ∃ (zs : List Int) (q : Nat), i = .int .i64 (zs.length : Nat) ∧ zs.length ≤ NN ∧ wr.ownsRow W.heap.size 3 1 o zs.length (intsV zs) ∧ Hid (∀ z ∈ zs, (0 : Int) ≤ z ∧ z ≤ 255) ∧ Hid (q ≤ p + 2 + zs.length) ∧ RdAt N0 wr B q ∧ Hid (W.grownBy wr (some B))

/-- A drawn number of a file. -/
def NameDraw (N0 B p : Nat) (W : World) (e : Ending) (W' : World) : Prop :=
  ∃ (n : Int) (q : Nat), e = .returned (.int .i64 n) ∧ (0 ≤ n ∧ n ≤ 4) ∧ q ≤ p + 2 ∧ RdAt N0 W' B q ∧ W.grownBy W' (some B)

/-- A row of the call's own does not mind the reader. -/
theorem own_readerNJ {W0 W W' : World} {B n size : Nat} {e : TypeId} {v : Value} {xs : List Value} (h : W.ownsRow W0.heap.size e size v n xs) (hB : B < W0.heap.size) (hg : W.grownBy W' (some B)) : W'.ownsRow W0.heap.size e size v n xs := by
  refine h.kept hg ?_
  have hlt := h.lt
  cases hv : v.ownBlock with
  | none => simp
  | some g => have := (hlt g hv).1; simp; omega
/-- Lists of the call's own, some perhaps twice. -/
def OwnAll (W : World) (base : Nat) (vs : List Value) (zss : List (List Int)) : Prop := vs.length = zss.length ∧ ∀ (i : Nat) (z : List Int) (v : Value), zss[i]? = some z → vs[i]? = some v → W.ownsRow base 3 1 v z.length (intsV z)
theorem OwnAll.ls {W : World} {base : Nat} {vs : List Value} {zss : List (List Int)} (h : OwnAll W base vs zss) : LsAll W vs zss := ⟨h.1, fun i z v hz hv => ls_of_own (h.2 i z v hz hv)⟩
theorem OwnAll.reader {W0 W W' : World} {B : Nat} {vs : List Value} {zss : List (List Int)} (h : OwnAll W W0.heap.size vs zss) (hB : B < W0.heap.size) (hg : W.grownBy W' (some B)) : OwnAll W' W0.heap.size vs zss := ⟨h.1, fun i z v hz hv => own_reader1 (h.2 i z v hz hv) hB hg⟩
theorem OwnAll.below {W W' : World} {base : Nat} {vs : List Value} {zss : List (List Int)} (h : OwnAll W base vs zss) (hb : Below W.heap.size W W') : OwnAll W' base vs zss := ⟨h.1, fun i z v hz hv => own_below1 (h.2 i z v hz hv) hb⟩
theorem OwnAll.down {W : World} {b c : Nat} {vs : List Value} {zss : List (List Int)} (h : OwnAll W c vs zss) (hbc : b ≤ c) : OwnAll W b vs zss := ⟨h.1, fun i z v hz hv => own_mono1 (h.2 i z v hz hv) hbc⟩
theorem OwnAll.grownB {W W' : World} {base b n : Nat} {vs ys : List Value} {bs : List (List Int)} {o : Value} (h : OwnAll W base vs bs) (ho : W.ownsRow b 48 3 o n ys) (hg : W.grownBy W' o.ownBlock) : OwnAll W' base vs bs :=
  ⟨h.1, fun i z v hz hv => own_farT (h.2 i z v hz hv) hg (own_types (h.2 i z v hz hv) ho (by decide))⟩
theorem OwnAll.push {W : World} {base : Nat} {vs : List Value} {zss : List (List Int)} {v : Value} {z : List Int} (h : OwnAll W base vs zss) (hv : W.ownsRow base 3 1 v z.length (intsV z)) : OwnAll W base (vs ++ [v]) (zss ++ [z]) := by
  refine ⟨by simp [h.1], fun i z' v' hz hv' => ?_⟩
  by_cases hi : i < zss.length
  · rw [List.getElem?_append_left hi] at hz
    rw [List.getElem?_append_left (by have := h.1; omega)] at hv'
    exact h.2 i z' v' hz hv'
  · have e1 : i = zss.length := by
      have := (List.getElem?_eq_some_iff.1 hz).1
      simp at this; omega
    subst e1
    rw [List.getElem?_append_right (Nat.le_refl _)] at hz
    rw [← h.1, List.getElem?_append_right (Nat.le_refl _)] at hv'
    simp at hz hv'
    subst hz; subst hv'
    exact hv

/-- Drawn files: each list at most 200 long. -/
def SmallB (bs : List Bl) : Prop := ∀ b ∈ bs, b.s.length ≤ 200 ∧ b.f.length ≤ 200
/-- A drawn disk in the call's own memory. -/
def DiskAt (W : World) (base : Nat) (sl : Value) (bs : List Bl) (vs : List Value) : Prop := W.ownsRow base 48 3 sl bs.length (flatBJ bs vs) ∧ OwnAll W base vs (listsB bs)
theorem DiskAt.reader {W0 W W' : World} {B : Nat} {sl : Value} {bs : List Bl} {vs : List Value} (h : DiskAt W W0.heap.size sl bs vs) (hB : B < W0.heap.size) (hg : W.grownBy W' (some B)) : DiskAt W' W0.heap.size sl bs vs := ⟨own_readerNJ h.1 hB hg, h.2.reader hB hg⟩
theorem DiskAt.below {W W' : World} {base : Nat} {sl : Value} {bs : List Bl} {vs : List Value} (h : DiskAt W base sl bs vs) (hb : Below W.heap.size W W') : DiskAt W' base sl bs vs := ⟨own_below1 h.1 hb, h.2.below hb⟩
theorem DiskAt.vlen {W : World} {base : Nat} {sl : Value} {bs : List Bl} {vs : List Value} (h : DiskAt W base sl bs vs) : vs.length = 2 * bs.length := by rw [h.2.1, listsB_len]
theorem DiskAt.grown {W w3 : World} {base : Nat} {sl v3 : Value} {bs : List Bl} {vs : List Value} {x : Bl} {p q : Value} (h : DiskAt W base sl bs vs) (hp : W.ownsRow base 3 1 p x.s.length (intsV x.s)) (hq : W.ownsRow base 3 1 q x.f.length (intsV x.f))
    (ho : w3.ownsRow base 48 3 v3 (bs ++ [x]).length (flatBJ (bs ++ [x]) (vs ++ [p, q]))) (hg : W.grownBy w3 sl.ownBlock) : DiskAt w3 base v3 (bs ++ [x]) (vs ++ [p, q]) := by
  refine ⟨ho, ?_⟩
  have := ((h.2.push hp).push hq).grownB h.1 hg
  rw [listsB_append]
  rwa [List.append_assoc, List.append_assoc] at this
theorem DiskAt.at {W : World} {base : Nat} {sl : Value} {bs : List Bl} {vs : List Value} (h : DiskAt W base sl bs vs) : ∃ a c, sl = .slice a bs.length c ∧ BlobsAt W a bs.length bs ∧ bs.length ≤ c ∧ c ≤ maxLen ∧ (a = none → c = 0) := blobs_of h.1 h.2.ls
theorem DiskAt.down {W : World} {b c : Nat} {sl : Value} {bs : List Bl} {vs : List Value} (h : DiskAt W c sl bs vs) (hbc : b ≤ c) : DiskAt W b sl bs vs := ⟨own_mono1 h.1 hbc, h.2.down hbc⟩

/-- A drawn disk. -/
def DiskDraw (N0 B p : Nat) (W : World) (e : Ending) (W' : World) : Prop :=
  ∃ (sl : Value) (vs : List Value) (bs : List Bl) (q : Nat), e = .returned sl ∧ DiskAt W' W.heap.size sl bs vs ∧ bs.length ≤ 4 ∧ SmallB bs ∧ q ≤ p + 1300 ∧ RdAt N0 W' B q ∧ W.grownBy W' (some B)
def DiskRel (N0 B p : Nat) (W : World) (o k : Value) (wr : World) : Prop :=
  ∃ (j : Nat) (vs : List Value) (bs : List Bl) (q : Nat), k = .int .i64 ((j : Int) + 1) ∧ j ≤ 3 ∧ Hid (DiskAt wr W.heap.size o bs vs) ∧ Hid (bs.length ≤ j) ∧ Hid (SmallB bs) ∧ Hid (q ≤ p + 413 * j) ∧ Hid (RdAt N0 wr B q) ∧ Hid (W.grownBy wr (some B))
theorem grown_thenJ {W W1 w6 : World} {B : Nat} (h : W.grownBy W1 (some B)) (k : Below W.heap.size W1 w6) : W.grownBy w6 (some B) :=
  ⟨k.os.trans h.os, k.tape.trans h.tape, k.output.trans h.output, Nat.le_trans h.size k.size, fun i hi hne => (k.block i hi).trans (h.block i hi hne)⟩
theorem small_push {bs : List Bl} {x : Bl} (h : SmallB bs) (hx : x.s.length ≤ 200 ∧ x.f.length ≤ 200) : SmallB (bs ++ [x]) := by
  intro b hb
  rcases List.mem_append.1 hb with hb | hb
  · exact h b hb
  · rw [List.mem_singleton.1 hb]; exact hx
theorem diskAt_set {W : World} {base g cap : Nat} {bs : List Bl} {vs : List Value} {x : Bl} (h : DiskAt W base (.slice (some ⟨g, 0, none⟩) bs.length cap) bs vs) (hx : bs[0]? = some x) (z : Int) :
    DiskAt (W.setCell ⟨g, 0, none⟩ (.int .i64 z)) base (.slice (some ⟨g, 0, none⟩) bs.length cap) (bs.set 0 ⟨z, x.s, x.f⟩) vs := by
  have hl := (List.getElem?_eq_some_iff.1 hx).1
  have ho := (h.1.stored 0 (.int .i64 z)).1
  have hf := flatB_set0 bs vs 0 ⟨z, x.s, x.f⟩ h.vlen hl
  have hls := listsB_same bs 0 x ⟨z, x.s, x.f⟩ hx rfl rfl
  refine ⟨?_, ?_⟩
  · rw [List.length_set, ← hf]
    exact ho
  · rw [hls]
    exact ⟨h.2.1, fun i y v hy hv => own_farT (row := .slice (some ⟨g, 0, none⟩) bs.length cap) (h.2.2 i y v hy hv) (grownBy_setCell_at W g 0 _) (own_types (h.2.2 i y v hy hv) h.1 (by decide))⟩

theorem diskAt_lit (W : World) : DiskAt (W.alloc (.cells #[] 48)) W.heap.size (.slice (some ⟨W.heap.size, 0, none⟩) 0 0) [] [] :=
  ⟨World.ownsRow_lit (e := 48) (size := 3) W #[] 0 (Nat.le_refl _) (by simp [maxLen]) rfl, rfl, by intro i z v hz; simp [listsB] at hz⟩
theorem diskAt_first {W : World} {base : Nat} {sl : Value} {bs : List Bl} {vs : List Value} (h : DiskAt W base sl bs vs) (h0 : 0 < bs.length) :
    ∃ g cap x p q, sl = .slice (some ⟨g, 0, none⟩) bs.length cap ∧ base ≤ g ∧ g < W.heap.size ∧ bs[0]? = some x ∧ W.cell? ⟨g, 0, none⟩ = some (.int .i64 x.n) ∧ W.cell? ⟨g, 1, none⟩ = some p ∧ W.cell? ⟨g, 2, none⟩ = some q ∧
      W.ownsRow base 3 1 p x.s.length (intsV x.s) ∧ W.ownsRow base 3 1 q x.f.length (intsV x.f) ∧ W.frozen? ⟨g, 0, none⟩ = false := by
  have hv := h.vlen
  have ha := h.2.2
  have ho := h.1
  obtain ⟨x, hx⟩ : ∃ x, bs[0]? = some x := ⟨_, List.getElem?_eq_getElem h0⟩
  obtain ⟨u, v, hu, hv', f0, f1, f2⟩ := flatB_get bs vs 0 x hv hx
  obtain ⟨l0, l1⟩ := listsB_get bs 0 x hx
  rcases h.1.2 with ⟨rfl, h1⟩ | ⟨g, cap, cur, rfl, h1, h2, h3, h4, h5, h6⟩
  · omega
  · refine ⟨g, cap, x, u, v, rfl, h1, (Array.getElem?_eq_some_iff.1 h2).1, hx, ?_, ?_, ?_, ha _ _ _ l0 hu, ha _ _ _ l1 hv', ho.frozenAt 0⟩
    · rw [ho.cellAt 0 (by omega)]; exact f0
    · rw [ho.cellAt 1 (by omega)]; exact f1
    · rw [ho.cellAt 2 (by omega)]; exact f2
theorem small_set {bs : List Bl} {x : Bl} (h : SmallB bs) (hx : bs[0]? = some x) (z : Int) : SmallB (bs.set 0 ⟨z, x.s, x.f⟩) := by
  intro b hb
  rcases List.mem_or_eq_of_mem_set hb with hb | rfl
  · exact h b hb
  · exact h x (List.mem_of_getElem? hx)
theorem pick_three {W W' : World} {B : Nat} {r : Int} (t : TypeId) (hB : B < W.heap.size) (hg : (W.alloc (.cells #[.int .i64 0, .int .i64 3, .int .i64 4] t)).grownBy W' (some B)) (h0 : 0 ≤ r) (h1 : r < 3) :
    ∃ z : Int, W'.cell? ⟨W.heap.size, r.toNat, none⟩ = some (.int .i64 z) := by
  have hb := hg.block W.heap.size (by simp) (by simp; omega)
  have hr : r = 0 ∨ r = 1 ∨ r = 2 := by omega
  rcases hr with rfl | rfl | rfl
  · exact ⟨0, by rw [World.cell?_of_block hb, World.cell?_alloc_new]; rfl⟩
  · exact ⟨3, by rw [World.cell?_of_block hb, World.cell?_alloc_new]; rfl⟩
  · exact ⟨4, by rw [World.cell?_of_block hb, World.cell?_alloc_new]; rfl⟩

end Go.Proofs.Ytonbkmmddahlfaa
