/-
  WALKS: the reader that draws (spec.l6Rd): l6Open, pick. For any seat.
-/
import Derived.Test.YtonbkmmddahlfaaBn
import Derived.WalkKit
import Derived.BigQuiet
import Derived.Deep.QuietTactic
import Derived.Lib.Hide
import Derived.OwnWalk
import Derived.Maps.AppendAt
import Derived.Outline
import Derived.IntWalk
import Derived.Below
import Derived.RangeFuncRecord
namespace Go.Proofs.Ytonbkmmddahlfaa
open Go.RowKit
set_option linter.unusedVariables false

/-- A reader in block B: its bytes, which lie elsewhere, and its place; all of it stands in the first N0 blocks. -/
def RdAt (N0 : Nat) (W : World) (B : Nat) (p : Nat) : Prop :=
  N0 ≤ W.heap.size ∧ B < N0 ∧ ∃ (a : Option Addr) (len cap : Nat), W.cell? ⟨B, 0, none⟩ = some (.slice a len cap) ∧ W.cell? ⟨B, 1, none⟩ = some (.int .i64 p) ∧ W.frozen? ⟨B, 1, none⟩ = false ∧ len ≤ 2000 ∧ len ≤ cap ∧ cap ≤ maxLen ∧ p ≤ 30000 ∧
    (len = 0 ∨ ∃ (b off : Nat) (zs : List Int), a = some ⟨b, off, none⟩ ∧ b ≠ B ∧ b < N0 ∧ zs.length = len ∧ (∀ i, i < len → W.cell? ⟨b, off + i, none⟩ = some (.int .u8 (zs.getD i 0))) ∧ ∀ i, i < len → 0 ≤ zs.getD i 0 ∧ zs.getD i 0 ≤ 255)

theorem grownBy_trans {A B C : World} {row : Option Nat} (h : A.grownBy B row) (k : B.grownBy C row) : A.grownBy C row :=
  ⟨k.os.trans h.os, k.tape.trans h.tape, k.output.trans h.output, Nat.le_trans h.size k.size, fun i hi hr => (k.block i (Nat.lt_of_lt_of_le hi h.size) hr).trans (h.block i hi hr)⟩

theorem grownBy_setCell_at (W : World) (B o : Nat) (v : Value) : W.grownBy (W.setCell ⟨B, o, none⟩ v) (some B) :=
  ⟨rfl, rfl, rfl, by simp [World.setCell], fun k _ hk => Below.heap_setCell _ _ _ _ (fun e => hk (by rw [e]))⟩

theorem RdAt.bump {N0 : Nat} {W : World} {B p : Nat} (h : RdAt N0 W B p) (hp : p < 30000) : RdAt N0 (W.setCell ⟨B, 1, none⟩ (.int .i64 ((p : Int) + 1))) B (p + 1) := by
  obtain ⟨hN, hB, a, len, cap, c0, c1, f1, hl, hlc, hcm, hp1, hrow⟩ := h
  refine ⟨by simpa [World.setCell] using hN, hB, a, len, cap, ?_, ?_, ?_, hl, hlc, hcm, by omega, ?_⟩
  · rw [World.cell?_setCell_other _ _ _ _ (by simp)]; exact c0
  · have := World.cell?_setCell_same W ⟨B, 1, none⟩ (.int .i64 ((p : Int) + 1)) c1
    rw [this]; rfl
  · rw [World.frozen?_setCell]; exact f1
  · rcases hrow with h0 | ⟨b, off, zs, ha, hb, hbN, hzl, hc, hw⟩
    · exact .inl h0
    · refine .inr ⟨b, off, zs, ha, hb, hbN, hzl, fun i hi => ?_, hw⟩
      rw [World.cell?_setCell_other _ _ _ _ (fun e => hb (congrArg Addr.block e).symm)]
      exact hc i hi

theorem RdAt.drew {N0 : Nat} {W : World} {B p : Nat} (h : RdAt N0 W B p) : RdAt N0 W.drew B p := h

theorem bits_xor_i64_nat (a b : Nat) (ha : a < 4611686018427387904) (hb : b < 4611686018427387904) :
    bits .xor .i64 (a : Int) (b : Int) = ((a ^^^ b : Nat) : Int) := by
  have hx : a ^^^ b < 2 ^ 62 := Nat.xor_lt_two_pow (by omega) (by omega)
  have h1 : (BitVec.ofInt 64 (a : Int)).toNat = a := by
    rw [BitVec.ofInt_natCast, BitVec.toNat_ofNat]; exact Nat.mod_eq_of_lt (by omega)
  have h2 : (BitVec.ofInt 64 (b : Int)).toNat = b := by
    rw [BitVec.ofInt_natCast, BitVec.toNat_ofNat]; exact Nat.mod_eq_of_lt (by omega)
  show IntKind.i64.wrap ((BitVec.ofInt 64 (a : Int) ^^^ BitVec.ofInt 64 (b : Int)).toNat : Int) = _
  rw [BitVec.toNat_xor, h1, h2, IntKind.wrap_i64]
  omega

theorem xor_shift_nonneg (x : Int) (h0 : 0 ≤ x) (h1 : x ≤ 100000000) : 0 ≤ bits .xor .i64 x (x / 64) := by
  obtain ⟨k, rfl⟩ := Int.eq_ofNat_of_zero_le h0
  have d : ((k : Int) / 64) = ((k / 64 : Nat) : Int) := by simp
  rw [d, bits_xor_i64_nat _ _ (by omega) (by omega)]
  omega

def PickPost (N0 B p : Nat) (n : Int) (W : World) (e : Ending) (W' : World) : Prop :=
  ∃ r : Int, e = .returned (.int .i64 r) ∧ 0 ≤ r ∧ r < n ∧ RdAt N0 W' B (p + 1) ∧ W.grownBy W' (some B)

theorem pick_end {N0 B p : Nat} {n : Int} {W : World} (hR : RdAt N0 W B p) (hp : p < 30000) (r : Int) (h0 : 0 ≤ r) (h1 : r < n) :
    PickPost N0 B p n W (.returned (.int .i64 r)) (W.setCell ⟨B, 1, none⟩ (.int .i64 ((p : Int) + 1))) :=
  ⟨r, rfl, h0, h1, hR.bump hp, grownBy_setCell_at _ _ _ _⟩

theorem drewN_cell (W : World) : ∀ (n : Nat) (a : Addr), (W.drewN n).cell? a = W.cell? a ∧ (W.drewN n).frozen? a = W.frozen? a ∧ (W.drewN n).heap = W.heap
  | 0, _ => ⟨rfl, rfl, rfl⟩
  | n + 1, a => drewN_cell W.drew n a

theorem RdAt.drewN {N0 : Nat} {W : World} {B p : Nat} (n : Nat) (h : RdAt N0 W B p) : RdAt N0 (W.drewN n) B p := by
  obtain ⟨hN, hB, a, len, cap, c0, c1, f1, hl, hlc, hcm, hp1, hrow⟩ := h
  refine ⟨by rw [(drewN_cell W n ⟨0, 0, none⟩).2.2]; exact hN, hB, a, len, cap, (drewN_cell W n _).1.trans c0, (drewN_cell W n _).1.trans c1, (drewN_cell W n _).2.1.trans f1, hl, hlc, hcm, hp1, ?_⟩
  rcases hrow with h0 | ⟨b, off, zs, ha, hb, hbN, hzl, hc, hw⟩
  · exact .inl h0
  · exact .inr ⟨b, off, zs, ha, hb, hbN, hzl, fun i hi => (drewN_cell W n _).1.trans (hc i hi), hw⟩

theorem grownBy_drewN {W W' : World} {row : Option Nat} (h : W.grownBy W' row) (n : Nat) : W.grownBy (W'.drewN n) row :=
  ⟨h.os, h.tape, h.output, h.size, h.block⟩

theorem pick_end_drew {N0 B p : Nat} {n : Int} {W : World} (nq : Nat) (hR : RdAt N0 W B p) (hp : p < 30000) (r : Int) (h0 : 0 ≤ r) (h1 : r < n) :
    PickPost N0 B p n W (.returned (.int .i64 r)) ((W.setCell ⟨B, 1, none⟩ (.int .i64 ((p : Int) + 1))).drewN nq) :=
  ⟨r, rfl, h0, h1, (hR.bump hp).drewN nq, grownBy_drewN (grownBy_setCell_at _ _ _ _) nq⟩

theorem RdAt.kept {N0 : Nat} {W W' : World} {B p : Nat} (h : RdAt N0 W B p) (hg : Below N0 W W') : RdAt N0 W' B p := by
  obtain ⟨hN, hB, a, len, cap, c0, c1, f1, hl, hlc, hcm, hp1, hrow⟩ := h
  refine ⟨Nat.le_trans hN hg.size, hB, a, len, cap, (hg.cell (p := ⟨B, 0, none⟩) hB).trans c0, (hg.cell (p := ⟨B, 1, none⟩) hB).trans c1, (World.frozen?_of_block (hg.block B hB)).trans f1, hl, hlc, hcm, hp1, ?_⟩
  rcases hrow with h0 | ⟨b, off, zs, ha, hb, hbN, hzl, hc, hw⟩
  · exact .inl h0
  · exact .inr ⟨b, off, zs, ha, hb, hbN, hzl, fun i hi => (hg.cell (p := ⟨b, off + i, none⟩) hbN).trans (hc i hi), hw⟩

theorem RdAt.lt {N0 : Nat} {W : World} {B p : Nat} (h : RdAt N0 W B p) : B < W.heap.size := Nat.lt_of_lt_of_le h.2.1 h.1
theorem RdAt.le {N0 : Nat} {W : World} {B p : Nat} (h : RdAt N0 W B p) : N0 ≤ W.heap.size := h.1
/-- Kept where all that stood is kept. -/
theorem RdAt.keep {N0 : Nat} {W W' : World} {B p : Nat} (h : RdAt N0 W B p) (hg : Below W.heap.size W W') : RdAt N0 W' B p := h.kept (hg.mono h.1)

theorem grownBy_none {W W' : World} (h : W.grownBy W' none) (row : Option Nat) : W.grownBy W' row := ⟨h.os, h.tape, h.output, h.size, fun k hk _ => h.block k hk (by simp)⟩

theorem below_grown {W W' : World} (h : Below W.heap.size W W') : W.grownBy W' none := ⟨h.os, h.tape, h.output, h.size, fun k hk _ => h.block k hk⟩

/-- What the walk is told of the code: it is nil; or it leads to a row of cells. -/
def IsRow (k : IntKind) (w : World) (a : Option Addr) (len cap : Nat) (zs : List Int) : Prop :=
  (a = none ∧ len = 0 ∧ cap = 0 ∧ zs = []) ∨
  ∃ x, a = some x ∧ len ≤ cap ∧ cap ≤ maxLen ∧ zs.length = cap ∧ (∀ i, i < zs.length → w.cell? (x.add i) = some (.int k (zs.getD i 0))) ∧ ∀ n ∈ zs, (Lit.int k n).wf = true

theorem u8_bounds {n : Int} (h : (Lit.int .u8 n).wf = true) : 0 ≤ n ∧ n ≤ 255 := by
  simpa [Lit.wf, IntKind.min, IntKind.max, IntKind.signed, IntKind.bits] using h

theorem addr_add (b off i : Nat) : (⟨b, off, none⟩ : Addr).add i = ⟨b, off + i, none⟩ := by
  unfold Addr.add; split <;> simp_all

/-- A new reader. -/
def OpenPost (W : World) (e : Ending) (W' : World) : Prop :=
  e = .returned (.pointer (some ⟨W.heap.size, 0, none⟩)) ∧ RdAt (W.heap.size + 1) W' W.heap.size 0 ∧ Below W.heap.size W W'

theorem rd_new (W : World) (a : Option Addr) (len cap : Nat) (hl : len ≤ 2000) (hlc : len ≤ cap) (hcm : cap ≤ maxLen)
    (h : len = 0 ∨ ∃ (b off : Nat) (zs : List Int), a = some ⟨b, off, none⟩ ∧ zs.length = len ∧ (∀ i, i < len → W.cell? ⟨b, off + i, none⟩ = some (.int .u8 (zs.getD i 0))) ∧ ∀ i, i < len → 0 ≤ zs.getD i 0 ∧ zs.getD i 0 ≤ 255) (t : TypeId) :
    RdAt (W.heap.size + 1) (W.alloc (.cells #[.slice a len cap, .int .i64 0] t)) W.heap.size 0 := by
  refine ⟨by simp, by omega, a, len, cap, ?_, ?_, ?_, hl, hlc, hcm, by omega, ?_⟩
  · rw [World.cell?_alloc_new]; rfl
  · rw [World.cell?_alloc_new]; rfl
  · have hnew := World.alloc_heap_new W (.cells #[.slice a len cap, .int .i64 0] t)
    simp only [World.frozen?, hnew]; rfl
  · by_cases hz : len = 0
    · exact .inl hz
    · rcases h with h0 | ⟨b, off, zs, ha, hzl, hc, hw⟩
      · exact .inl h0
      · have hb : b < W.heap.size := World.block_lt_of_cell? W _ (hc 0 (by omega))
        refine .inr ⟨b, off, zs, ha, by omega, by omega, hzl, fun i hi => ?_, hw⟩
        rw [World.cell?_alloc_lt W _ _ hb]
        exact hc i hi

/-- A drawn text. -/
def DrawPost (m : Nat) (W : World) (e : Ending) (W' : World) : Prop :=
  ∃ s : ByteArray, e = .returned (.string s) ∧ s.size ≤ m ∧ Below W.heap.size W W'

theorem below_of_reader {W W1 W2 : World} (hB : Below W.heap.size W W1) (hg : W1.grownBy W2 (some W.heap.size)) : Below W.heap.size W W2 :=
  hB.grown hg hB.size (fun k e => by cases e; exact Nat.le_refl _)

theorem below_of_eq {a b : World} (h : b = a) : Below a.heap.size a b := by subst h; exact Below.refl _ _

theorem grownBy_below {W W' W2 : World} {row : Option Nat} (h : W.grownBy W' row) (k : Below W'.heap.size W' W2) : W.grownBy W2 row :=
  grownBy_trans h (grownBy_none (below_grown k) row)

/-- A store into a block that the call has made. -/
theorem grownBy_setCell_new {W W' : World} {row : Option Nat} (h : W.grownBy W' row) (a : Addr) (v : Value) (ha : W.heap.size ≤ a.block) : W.grownBy (W'.setCell a v) row :=
  ⟨h.os, h.tape, h.output, by simpa [World.setCell] using h.size, fun k hk hr => (Below.heap_setCell _ _ _ _ (by omega)).trans (h.block k hk hr)⟩

theorem RdAt.setNew {N0 : Nat} {W : World} {B p : Nat} (h : RdAt N0 W B p) (a : Addr) (v : Value) (ha : N0 ≤ a.block) : RdAt N0 (W.setCell a v) B p :=
  h.kept ⟨rfl, rfl, rfl, by simp [World.setCell], fun k hk => Below.heap_setCell _ _ _ _ (by omega)⟩

theorem RdAt.alloc {N0 : Nat} {W : World} {B p : Nat} (h : RdAt N0 W B p) (o : Obj) : RdAt N0 (W.alloc o) B p := h.keep ((Below.refl _ _).alloc (Nat.le_refl _) _)

theorem grownBy_new (W : World) (o : Obj) (row : Option Nat) : W.grownBy (W.alloc o) row := World.grownBy_alloc W _ row

theorem IsRow.keep {k : IntKind} {w w' : World} {a : Option Addr} {len cap : Nat} {zs : List Int} (h : IsRow k w a len cap zs) (hb : Below w.heap.size w w') : IsRow k w' a len cap zs := by
  rcases h with h | ⟨x, rfl, h1, h2, h3, h4, h5⟩
  · exact .inl h
  · exact .inr ⟨x, rfl, h1, h2, h3, fun i hi => (hb.cell (World.block_lt_of_cell? w _ (h4 i hi))).trans (h4 i hi), h5⟩

theorem IsRow.alloc {k : IntKind} {w : World} {a : Option Addr} {len cap : Nat} {zs : List Int} (h : IsRow k w a len cap zs) (o : Obj) : IsRow k (w.alloc o) a len cap zs := h.keep ((Below.refl _ _).alloc (Nat.le_refl _) _)

/-- A store into a block above. -/
theorem below_setCell {n : Nat} {W W' : World} (h : Below n W W') (a : Addr) (v : Value) (ha : n ≤ a.block) : Below n W (W'.setCell a v) :=
  ⟨h.os, h.tape, h.output, by simpa [World.setCell] using h.size, fun k hk => (Below.heap_setCell _ _ _ _ (by omega)).trans (h.block k hk)⟩

theorem below_box (W : World) (o : Obj) : Below W.heap.size W (W.alloc o) := (Below.refl _ _).alloc (Nat.le_refl _) _

/-- A box that was made first still holds what it held. -/
theorem box_cell {w W' : World} {cs : Array Value} {t : TypeId} (h : Below (w.alloc (.cells cs t)).heap.size (w.alloc (.cells cs t)) W') (i : Nat) : W'.cell? ⟨w.heap.size, i, none⟩ = cs[i]? :=
  (h.cell (p := ⟨w.heap.size, i, none⟩) (by simp)).trans (World.cell?_alloc_new _ _ _ _)

end Go.Proofs.Ytonbkmmddahlfaa
