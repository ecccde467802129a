/-
  WALKS: the reader that draws (spec.l6Rd): l6Open, pick, of.
-/
import Derived.Test.YtlnjcikoeiffgaaPm
import Derived.Test.YtlnjcikoeiffgaaChecked
import Derived.WalkKit
import Derived.BigQuiet
import Derived.Deep.QuietTactic
import Derived.Lib.Hide
import Derived.OwnWalk
import Derived.Maps.AppendAt
import Derived.Outline
import Derived.IntWalk
import Derived.Below
namespace Go.Proofs.Ytlnjcikoeiffgaa
open Go.RowKit
set_option linter.unusedVariables false

/-- A reader in block B: its bytes, which lie elsewhere, and its place. -/
def RdAt (W : World) (B : Nat) (p : Nat) : Prop :=
  ∃ (a : Option Addr) (len cap : Nat), W.cell? ⟨B, 0, none⟩ = some (.slice a len cap) ∧ W.cell? ⟨B, 1, none⟩ = some (.int .i64 p) ∧ W.frozen? ⟨B, 1, none⟩ = false ∧ len ≤ 2000 ∧ len ≤ cap ∧ cap ≤ maxLen ∧ p ≤ 30000 ∧
    (len = 0 ∨ ∃ (b off : Nat) (zs : List Int), a = some ⟨b, off, none⟩ ∧ b ≠ B ∧ zs.length = len ∧ (∀ i, i < len → W.cell? ⟨b, off + i, none⟩ = some (.int .u8 (zs.getD i 0))) ∧ ∀ i, i < len → 0 ≤ zs.getD i 0 ∧ zs.getD i 0 ≤ 255)

theorem grownBy_trans {A B C : World} {row : Option Nat} (h : A.grownBy B row) (k : B.grownBy C row) : A.grownBy C row :=
  ⟨k.os.trans h.os, k.tape.trans h.tape, k.output.trans h.output, Nat.le_trans h.size k.size, fun i hi hr => (k.block i (Nat.lt_of_lt_of_le hi h.size) hr).trans (h.block i hi hr)⟩

theorem grownBy_setCell_at (W : World) (B o : Nat) (v : Value) : W.grownBy (W.setCell ⟨B, o, none⟩ v) (some B) :=
  ⟨rfl, rfl, rfl, by simp [World.setCell], fun k _ hk => Below.heap_setCell _ _ _ _ (fun e => hk (by rw [e]))⟩

theorem RdAt.bump {W : World} {B p : Nat} (h : RdAt W B p) (hp : p < 30000) : RdAt (W.setCell ⟨B, 1, none⟩ (.int .i64 ((p : Int) + 1))) B (p + 1) := by
  obtain ⟨a, len, cap, c0, c1, f1, hl, hlc, hcm, hp1, hrow⟩ := h
  refine ⟨a, len, cap, ?_, ?_, ?_, hl, hlc, hcm, by omega, ?_⟩
  · rw [World.cell?_setCell_other _ _ _ _ (by simp)]; exact c0
  · have := World.cell?_setCell_same W ⟨B, 1, none⟩ (.int .i64 ((p : Int) + 1)) c1
    rw [this]; rfl
  · rw [World.frozen?_setCell]; exact f1
  · rcases hrow with h0 | ⟨b, off, zs, ha, hb, hzl, hc, hw⟩
    · exact .inl h0
    · refine .inr ⟨b, off, zs, ha, hb, hzl, fun i hi => ?_, hw⟩
      rw [World.cell?_setCell_other _ _ _ _ (fun e => hb (congrArg Addr.block e).symm)]
      exact hc i hi

theorem RdAt.drew {W : World} {B p : Nat} (h : RdAt W B p) : RdAt W.drew B p := h

theorem bits_xor_i64_nat (a b : Nat) (ha : a < 4611686018427387904) (hb : b < 4611686018427387904) :
    bits .xor .i64 (a : Int) (b : Int) = ((a ^^^ b : Nat) : Int) := by
  have hx : a ^^^ b < 2 ^ 62 := Nat.xor_lt_two_pow (by omega) (by omega)
  have h1 : (BitVec.ofInt 64 (a : Int)).toNat = a := by
    rw [BitVec.ofInt_natCast, BitVec.toNat_ofNat]; exact Nat.mod_eq_of_lt (by omega)
  have h2 : (BitVec.ofInt 64 (b : Int)).toNat = b := by
    rw [BitVec.ofInt_natCast, BitVec.toNat_ofNat]; exact Nat.mod_eq_of_lt (by omega)
  show IntKind.i64.wrap ((BitVec.ofInt 64 (a : Int) ^^^ BitVec.ofInt 64 (b : Int)).toNat : Int) = _
  rw [BitVec.toNat_xor, h1, h2, IntKind.wrap_i64]
  omega

theorem xor_shift_nonneg (x : Int) (h0 : 0 ≤ x) (h1 : x ≤ 100000000) : 0 ≤ bits .xor .i64 x (x / 64) := by
  obtain ⟨k, rfl⟩ := Int.eq_ofNat_of_zero_le h0
  have d : ((k : Int) / 64) = ((k / 64 : Nat) : Int) := by simp
  rw [d, bits_xor_i64_nat _ _ (by omega) (by omega)]
  omega

def PickPost (B p : Nat) (n : Int) (W : World) (e : Ending) (W' : World) : Prop :=
  ∃ r : Int, e = .returned (.int .i64 r) ∧ 0 ≤ r ∧ r < n ∧ RdAt W' B (p + 1) ∧ W.grownBy W' (some B)

theorem pick_end {B p : Nat} {n : Int} {W : World} (hR : RdAt W B p) (hp : p < 30000) (r : Int) (h0 : 0 ≤ r) (h1 : r < n) :
    PickPost B p n W (.returned (.int .i64 r)) (W.setCell ⟨B, 1, none⟩ (.int .i64 ((p : Int) + 1))) :=
  ⟨r, rfl, h0, h1, hR.bump hp, grownBy_setCell_at _ _ _ _⟩

theorem drewN_cell (W : World) : ∀ (n : Nat) (a : Addr), (W.drewN n).cell? a = W.cell? a ∧ (W.drewN n).frozen? a = W.frozen? a ∧ (W.drewN n).heap = W.heap
  | 0, _ => ⟨rfl, rfl, rfl⟩
  | n + 1, a => drewN_cell W.drew n a

theorem RdAt.drewN {W : World} {B p : Nat} (n : Nat) (h : RdAt W B p) : RdAt (W.drewN n) B p := by
  obtain ⟨a, len, cap, c0, c1, f1, hl, hlc, hcm, hp1, hrow⟩ := h
  refine ⟨a, len, cap, (drewN_cell W n _).1.trans c0, (drewN_cell W n _).1.trans c1, (drewN_cell W n _).2.1.trans f1, hl, hlc, hcm, hp1, ?_⟩
  rcases hrow with h0 | ⟨b, off, zs, ha, hb, hzl, hc, hw⟩
  · exact .inl h0
  · exact .inr ⟨b, off, zs, ha, hb, hzl, fun i hi => (drewN_cell W n _).1.trans (hc i hi), hw⟩

theorem grownBy_drewN {W W' : World} {row : Option Nat} (h : W.grownBy W' row) (n : Nat) : W.grownBy (W'.drewN n) row :=
  ⟨h.os, h.tape, h.output, h.size, h.block⟩

theorem pick_end_drew {B p : Nat} {n : Int} {W : World} (nq : Nat) (hR : RdAt W B p) (hp : p < 30000) (r : Int) (h0 : 0 ≤ r) (h1 : r < n) :
    PickPost B p n W (.returned (.int .i64 r)) ((W.setCell ⟨B, 1, none⟩ (.int .i64 ((p : Int) + 1))).drewN nq) :=
  ⟨r, rfl, h0, h1, (hR.bump hp).drewN nq, grownBy_drewN (grownBy_setCell_at _ _ _ _) nq⟩

set_option maxHeartbeats 1000000 in
set_option maxRecDepth 100000 in
theorem pick_c (B p : Nat) (n : Int) (hn : 1 ≤ n) (hn2 : n ≤ 30000) (W : World) (hp : p < 30000) (hR : RdAt W B p) :
    Calls Try.prog 38 #[.pointer (some ⟨B, 0, none⟩), .int .i64 n] W (PickPost B p n W) := by
  have HR := Lib.hid hR
  obtain ⟨a, len, cap, c0, c1, f1, hl, hlc, hcm, hp1, hrow⟩ := hR
  by_cases h0 : len = 0
  · subst h0
    clear hrow
    go_enter Try.func38, Try.ntmps38
    go_wp2
    go_ret
    exact pick_end HR.out hp 0 (by omega) (by omega)
  · rcases hrow with h | ⟨b, off, zs, rfl, hb, hzl, hc, hw⟩
    · exact absurd h h0
    have e1 : ((len : Int) == 0) = false := beq_eq_false_iff_ne.2 (by omega)
    by_cases hk : p < len
    · have hcp := hc p hk
      have hwp := hw p hk
      obtain ⟨z, hzz⟩ : ∃ z, zs.getD p 0 = z := ⟨_, rfl⟩
      rw [hzz] at hcp hwp
      obtain ⟨z0, z1⟩ := hwp
      clear hc hw hzz h0 hzl
      go_enter Try.func38, Try.ntmps38
      go_wp2
      go_ret
      exact pick_end HR.out hp _ (Int.emod_nonneg _ (by omega)) (Int.emod_lt_of_pos _ (by omega))
    · have hk1 : len ≤ p := by omega
      have hi1 : p % len < len := Nat.mod_lt _ (by omega)
      have hi2 : (p * 7 + 3) % len < len := Nat.mod_lt _ (by omega)
      have hcp := hc _ hi1
      have hwp := hw _ hi1
      have hcq := hc _ hi2
      have hwq := hw _ hi2
      obtain ⟨z, hzz⟩ : ∃ z, zs.getD (p % len) 0 = z := ⟨_, rfl⟩
      obtain ⟨y, hyy⟩ : ∃ z, zs.getD ((p * 7 + 3) % len) 0 = z := ⟨_, rfl⟩
      rw [hzz] at hcp hwp
      rw [hyy] at hcq hwq
      obtain ⟨z0, z1⟩ := hwp
      obtain ⟨y0, y1⟩ := hwq
      have l1 : (1 : Int) ≤ len := by omega
      have d1 : (0 : Int) ≤ (p : Int) % len := Int.emod_nonneg _ (by omega)
      have d2 : (p : Int) % len < len := Int.emod_lt_of_pos _ (by omega)
      have d3 : ((p : Int) % len).toNat = p % len := by rw [← Int.natCast_emod]; rfl
      have d4 : (0 : Int) ≤ ((p : Int) * 7 + 3) % len := Int.emod_nonneg _ (by omega)
      have d5 : ((p : Int) * 7 + 3) % len < len := Int.emod_lt_of_pos _ (by omega)
      have d6 : (((p : Int) * 7 + 3) % len).toNat = (p * 7 + 3) % len := by
        have : ((p : Int) * 7 + 3) % len = (((p * 7 + 3) % len : Nat) : Int) := by simp
        rw [this]; rfl
      have q0 : (0 : Int) ≤ (p : Int) / len := Int.ediv_nonneg (by omega) (by omega)
      have q1 : (p : Int) / len ≤ p := Int.ediv_le_self _ (by omega)
      have w1 : IntKind.i64.wrap (z * 131) = z * 131 := IntWalk.i64_in _ (by omega)
      have w2 : IntKind.i64.wrap ((p : Int) * 7) = (p : Int) * 7 := IntWalk.i64_in _ (by omega)
      have w3 : IntKind.i64.wrap ((p : Int) * 7 + 3) = (p : Int) * 7 + 3 := IntWalk.i64_in _ (by omega)
      have w4 : IntKind.i64.wrap (y * 1117) = y * 1117 := IntWalk.i64_in _ (by omega)
      have w5 : IntKind.i64.wrap (z * 131 + y * 1117) = z * 131 + y * 1117 := IntWalk.i64_in _ (by omega)
      have w6 : IntKind.i64.wrap ((p : Int) * 29) = (p : Int) * 29 := IntWalk.i64_in _ (by omega)
      have w7 : IntKind.i64.wrap (z * 131 + y * 1117 + (p : Int) * 29) = z * 131 + y * 1117 + (p : Int) * 29 := IntWalk.i64_in _ (by omega)
      have w8 : IntKind.i64.wrap ((p : Int) / len * 53) = (p : Int) / len * 53 := IntWalk.i64_in _ (by omega)
      have w9 : IntKind.i64.wrap (z * 131 + y * 1117 + (p : Int) * 29 + (p : Int) / len * 53) = z * 131 + y * 1117 + (p : Int) * 29 + (p : Int) / len * 53 := IntWalk.i64_in _ (by omega)
      have hx : (0 : Int) ≤ z * 131 + y * 1117 + (p : Int) * 29 + (p : Int) / len * 53 := by omega
      clear hc hw hzz hyy h0 hzl hk
      go_enter Try.func38, Try.ntmps38
      go_wp2
      go_quiet (fail)
      have hx2 : z * 131 + y * 1117 + (p : Int) * 29 + (p : Int) / len * 53 ≤ 100000000 := by omega
      clear w1 w2 w3 w4 w5 w6 w7 w8 w9 d1 d2 d3 d4 d5 d6 q0 q1
      generalize z * 131 + y * 1117 + (p : Int) * 29 + (p : Int) / len * 53 = x at *
      go_wp2
      go_ret
      have hv := xor_shift_nonneg x hx hx2
      rw [Int.tmod_eq_emod_of_nonneg hv]
      exact pick_end_drew nq HR.out hp _ (Int.emod_nonneg _ (by omega)) (Int.emod_lt_of_pos _ (by omega))

/-- One of the texts of a list, the reader one place on. -/
def OfPost (B p : Nat) (xs : List ByteArray) (W : World) (e : Ending) (W' : World) : Prop :=
  ∃ x ∈ xs, e = .returned (.string x) ∧ RdAt W' B (p + 1) ∧ W.grownBy W' (some B)

set_option maxHeartbeats 1000000 in
theorem of_c (B p L c : Nat) (xs : List ByteArray) (hx : 1 ≤ xs.length) (hx2 : xs.length ≤ 1000) (hLB : L ≠ B) (W : World) (hp : p < 30000) (hR : RdAt W B p)
    (hc : ∀ j x, xs[j]? = some x → W.cell? ⟨L, j, none⟩ = some (.string x)) :
    Calls Try.prog 42 #[.pointer (some ⟨B, 0, none⟩), .slice (some ⟨L, 0, none⟩) xs.length c] W (OfPost B p xs W) := by
  have HP := Lib.hid (fun W hR => pick_c B p xs.length (by omega) (by omega) W hp hR)
  have HC := Lib.hid hc
  clear hc
  go_enter Try.func42, Try.ntmps42
  go_wp2_with fail
  refine (HP.out W hR).mono ?_
  rintro e W1 ⟨r, rfl, h0, h1, hR1, hg⟩
  obtain ⟨k, rfl⟩ := Int.eq_ofNat_of_zero_le h0
  have hk : k < xs.length := by omega
  obtain ⟨x, hxk⟩ : ∃ x, xs[k]? = some x := ⟨xs[k], List.getElem?_eq_getElem hk⟩
  have hcell : W1.cell? ⟨L, k, none⟩ = some (.string x) := hg.cell (HC.out k x hxk) (by simpa using hLB)
  have HX := Lib.hid hxk
  clear hxk h0 h1 hR
  go_wp2
  go_ret
  exact ⟨x, List.mem_of_getElem? HX.out, rfl, hR1, hg⟩

end Go.Proofs.Ytlnjcikoeiffgaa
