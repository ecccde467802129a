/-
  WALKS: the program's BodySum; its cursor's next and take; slices.Clone of numbers.
-/
import Derived.Lib.SliceRun
import Derived.Test.YtdlkofgapjdeaaaFb
namespace Go.Proofs.Ytdlkofgapjdeaaa
open Go.RowKit
set_option linter.unusedVariables false

theorem bodySum_bad {zs : List Int} (h : bodyOk zs = false) : bodySum zs = -1 := by unfold bodySum; rw [h]; rfl
theorem bodySum_ok {zs : List Int} (h : bodyOk zs = true) : bodySum zs = sumB zs := by unfold bodySum; rw [h]; rfl
theorem bodyOk_short {zs : List Int} (h : zs.length = 0 ∨ 16 < zs.length) : bodyOk zs = false := by
  rw [Bool.eq_false_iff]
  intro hc
  have := bodyOk_len hc
  omega
theorem bodyOk_bytes {zs : List Int} (h1 : 1 ≤ zs.length) (h2 : zs.length ≤ 16) : bodyOk zs = zs.all byteOk := by
  unfold bodyOk
  rw [decide_eq_true ⟨h1, h2⟩, Bool.and_true]

/-- The sum that the program returns. -/
def SumPost (zs : List Int) (W : World) (e : Ending) (w' : World) : Prop := e = .returned (.int .i64 (bodySum zs)) ∧ w' = W

def ISumRel (zs : List Int) (W : World) (n i : Value) (wr : World) : Prop := ∃ k : Nat, i = .int .i64 k ∧ k ≤ zs.length ∧ n = .int .i64 (sumB (zs.take k)) ∧ Hid ((zs.take k).all byteOk = true) ∧ wr = W

set_option maxHeartbeats 1000000 in
theorem implBodySum_c (a : Option Addr) (len cap : Nat) (zs : List Int) (W : World) (hN : IntsAt W a len zs) :
    Calls Try.prog 16 #[.slice a len cap] W (SumPost zs W) := by
  have HE := Lib.hid hN.1
  have HN := Lib.hid hN
  clear hN
  by_cases h0 : len = 0
  · have hr := Lib.hid (bodySum_bad (bodyOk_short (zs := zs) (.inl (by rw [HE.out]; exact h0))))
    subst h0
    go_enter Try.func16, Try.ntmps16
    go_wp2
    refine bodyPost_ret (v := .int .i64 (-1)) (by simp [results, Try.f16, go_sem]) rfl ⟨by rw [hr.out], rfl⟩
  · have e0 : ((len : Int) == 0) = false := beq_eq_false_iff_ne.2 (by omega)
    by_cases h16 : 16 < len
    · have hr := Lib.hid (bodySum_bad (bodyOk_short (zs := zs) (.inr (by rw [HE.out]; exact h16))))
      have h16' : (16 : Int) < len := by omega
      clear h0 h16
      go_enter Try.func16, Try.ntmps16
      go_wp2
      refine bodyPost_ret (v := .int .i64 (-1)) (by simp [results, Try.f16, go_sem]) rfl ⟨by rw [hr.out], rfl⟩
    · have h16' : (len : Int) ≤ 16 := by omega
      have HL := Lib.hid (show 1 ≤ zs.length ∧ zs.length ≤ 16 by have := HE.out; omega)
      have hl16 : len ≤ 16 := by omega
      clear h0 h16
      go_enter Try.func16, Try.ntmps16
      go_wp2
      go_loopw [3, 16] (fun n i wr => ISumRel zs W n i wr) (fun _ i _ => len - (intOf i).toNat)
      case atStart => exact ⟨0, rfl, by omega, rfl, by simp [Hid], rfl⟩
      case round =>
        obtain ⟨i, rfl, hi, rfl, HA, rfl⟩ := hrel
        by_cases hlt : i < len
        · obtain ⟨b, off, z, rfl, hz, c0⟩ := HN.out.at hlt
          have hlt' : (i : Int) < len := by omega
          have hil : (i : Int) ≤ 16 := by omega
          have HLT := Lib.hid hlt
          by_cases hz0 : z < 0
          · have hr := Lib.hid (bodySum_bad (zs := zs) (by rw [bodyOk_bytes HL.out.1 HL.out.2]; exact all_take_false (i := i + 1) (by rw [take_all hz]; simp [byteOk]; intro _; omega)))
            clear hlt hi hz
            go_wp2
            refine bodyPost_ret (v := .int .i64 (-1)) (by simp [results, Try.f16, go_sem]) rfl ⟨by rw [hr.out], rfl⟩
          · have z0 : 0 ≤ z := by omega
            clear hz0
            by_cases hz1 : 255 < z
            · have hr := Lib.hid (bodySum_bad (zs := zs) (by rw [bodyOk_bytes HL.out.1 HL.out.2]; exact all_take_false (i := i + 1) (by rw [take_all hz]; simp [byteOk]; intro _; omega)))
              clear hlt hi hz
              go_wp2
              refine bodyPost_ret (v := .int .i64 (-1)) (by simp [results, Try.f16, go_sem]) rfl ⟨by rw [hr.out], rfl⟩
            · have z1 : z ≤ 255 := by omega
              clear hz1
              have HAN := Lib.hid (show (zs.take (i + 1)).all byteOk = true by rw [take_all hz, show (zs.take i).all byteOk = true from HA.out]; simp [byteOk]; omega)
              obtain ⟨m0, m1⟩ := sumB_range (zs.take i)
              have hnx := sumB_next hz
              generalize sumB (zs.take i) = m at m0 m1 hnx
              have w1 : IntKind.i64.wrap (31 * m) = 31 * m := IntWalk.i64_in _ (by omega)
              have w2 : IntKind.i64.wrap (31 * m + z) = 31 * m + z := IntWalk.i64_in _ (by omega)
              have hrem : (31 * m + z).tmod 251 = (31 * m + z) % 251 := Int.tmod_eq_emod_of_nonneg (by omega)
              rw [← hnx] at hrem
              have HNX := Lib.hid hnx
              generalize hq : sumB (zs.take (i + 1)) = q at hrem HNX
              have HQ := Lib.hid hq
              clear hlt hi hz hnx hq
              go_wp2
              go_roundw
              case rel => exact ⟨i + 1, by push_cast; rfl, by have := HE.out; have := HLT.out; omega, by rw [HQ.out], HAN.out, rfl⟩
              case measure => have := HLT.out; simp [intOf]; omega
        · have hge : (len : Int) ≤ i := by omega
          have htk : zs.take i = zs := List.take_of_length_le (by have := HE.out; omega)
          rw [htk] at HA ⊢
          have hr := Lib.hid (bodySum_ok (zs := zs) (by rw [bodyOk_bytes HL.out.1 HL.out.2]; exact HA.out))
          clear hi hlt htk
          go_wp2
          refine bodyPost_ret (v := .int .i64 (sumB zs)) (by simp [results, Try.f16, go_sem]) rfl ⟨by rw [hr.out], rfl⟩

/-- A cursor in block B: a list that lies elsewhere, and a place in it. -/
structure CurAt (W : World) (B : Nat) (a : Option Addr) (len cap : Nat) (zs : List Int) (p : Nat) : Prop where
  c0 : W.cell? ⟨B, 0, none⟩ = some (.slice a len cap)
  c1 : W.cell? ⟨B, 1, none⟩ = some (.int .i64 p)
  f0 : W.frozen? ⟨B, 0, none⟩ = false
  f1 : W.frozen? ⟨B, 1, none⟩ = false
  le : p ≤ len
  ints : IntsAt W a len zs
  far : len ≠ 0 → ∀ x, a = some x → x.block ≠ B

theorem CurAt.ints_set {W : World} {B : Nat} {a : Option Addr} {len cap p : Nat} {zs : List Int} (h : CurAt W B a len cap zs p) (j : Nat) (v : Value) : IntsAt (W.setCell ⟨B, j, none⟩ v) a len zs := by
  obtain ⟨h1, h2⟩ := h.ints
  refine ⟨h1, ?_⟩
  rcases h2 with h0 | ⟨b, off, ha, hc⟩
  · exact .inl h0
  · by_cases hl : len = 0
    · exact .inl hl
    · refine .inr ⟨b, off, ha, fun i z hz => ?_⟩
      rw [World.cell?_setCell_other _ _ _ _ (fun e => h.far hl _ ha (congrArg Addr.block e).symm)]
      exact hc i z hz

theorem CurAt.move {W : World} {B : Nat} {a : Option Addr} {len cap p : Nat} {zs : List Int} (h : CurAt W B a len cap zs p) (q : Nat) (hq : q ≤ len) : CurAt (W.setCell ⟨B, 1, none⟩ (.int .i64 q)) B a len cap zs q := by
  refine ⟨?_, ?_, ?_, ?_, hq, h.ints_set _ _, h.far⟩
  · rw [World.cell?_setCell_other _ _ _ _ (by simp)]; exact h.c0
  · rw [World.cell?_setCell_same W ⟨B, 1, none⟩ _ h.c1]
  · rw [World.frozen?_setCell]; exact h.f0
  · rw [World.frozen?_setCell]; exact h.f1

theorem CurAt.drew {W : World} {B : Nat} {a : Option Addr} {len cap p : Nat} {zs : List Int} (h : CurAt W B a len cap zs p) (n : Nat) : CurAt (W.drewN n) B a len cap zs p := by
  have hc : ∀ x, (W.drewN n).cell? x = W.cell? x := fun x => (drewN_cell W n x).1
  have hf : ∀ x, (W.drewN n).frozen? x = W.frozen? x := fun x => (drewN_cell W n x).2.1
  refine ⟨by rw [hc]; exact h.c0, by rw [hc]; exact h.c1, by rw [hf]; exact h.f0, by rw [hf]; exact h.f1, h.le, ?_, h.far⟩
  obtain ⟨h1, h2⟩ := h.ints
  refine ⟨h1, ?_⟩
  rcases h2 with h0 | ⟨b, off, ha, hh⟩
  · exact .inl h0
  · exact .inr ⟨b, off, ha, fun i z hz => by rw [hc]; exact hh i z hz⟩

theorem IntsAt.lt {W : World} {a : Option Addr} {len : Nat} {zs : List Int} (h : IntsAt W a len zs) (hl : len ≠ 0) : ∀ x, a = some x → x.block < W.heap.size := by
  intro x hx
  obtain ⟨b, off, z, rfl, _, hc⟩ := h.at (i := 0) (by omega)
  cases hx
  exact World.block_lt_of_cell? W _ hc

theorem CurAt.lt {W : World} {B : Nat} {a : Option Addr} {len cap p : Nat} {zs : List Int} (h : CurAt W B a len cap zs p) : B < W.heap.size := World.block_lt_of_cell? W _ h.c0

theorem CurAt.keep {W W' : World} {B : Nat} {a : Option Addr} {len cap p : Nat} {zs : List Int} (h : CurAt W B a len cap zs p) (hb : Below W.heap.size W W') : CurAt W' B a len cap zs p :=
  ⟨cell_kept hb h.c0, cell_kept hb h.c1, (hb.frozen (p := ⟨B, 0, none⟩) h.lt).trans h.f0, (hb.frozen (p := ⟨B, 1, none⟩) h.lt).trans h.f1, h.le, h.ints.keep hb, h.far⟩

/-- A new cursor. -/
theorem CurAt.new {W : World} {a : Option Addr} {len cap p : Nat} {zs : List Int} (hp : p ≤ len) (h : IntsAt W a len zs) : CurAt (W.alloc (.cells #[.slice a len cap, .int .i64 p] 47)) W.heap.size a len cap zs p :=
  ⟨by simp, by simp, by simp, by simp, hp, h.keep (below_box W _), fun hl x hx => by have := h.lt hl x hx; omega⟩

/-- The other cursor's place is taken over. -/
theorem CurAt.over {W : World} {B : Nat} {a : Option Addr} {len cap p : Nat} {zs : List Int} (h : CurAt W B a len cap zs p) (q : Nat) (hq : q ≤ len) : CurAt ((W.setCell ⟨B, 0, none⟩ (.slice a len cap)).setCell ⟨B, 1, none⟩ (.int .i64 q)) B a len cap zs q := by
  have h1 : CurAt (W.setCell ⟨B, 0, none⟩ (.slice a len cap)) B a len cap zs p := by
    refine ⟨?_, ?_, ?_, ?_, h.le, h.ints_set _ _, h.far⟩
    · rw [World.cell?_setCell_same W ⟨B, 0, none⟩ _ h.c0]
    · rw [World.cell?_setCell_other _ _ _ _ (by simp)]; exact h.c1
    · rw [World.frozen?_setCell]; exact h.f0
    · rw [World.frozen?_setCell]; exact h.f1
  exact h1.move q hq

theorem grown_drewN (W : World) (n : Nat) (row : Option Nat) : W.grownBy (W.drewN n) row := grownBy_drewN ⟨rfl, rfl, rfl, Nat.le_refl _, fun _ _ _ => rfl⟩ n

/-- What next leaves: the next number or -1. -/
def NextPost (a : Option Addr) (len cap : Nat) (zs : List Int) (B p : Nat) (W : World) (e : Ending) (w' : World) : Prop :=
  (p = len ∧ e = .returned (.int .i64 (-1)) ∧ CurAt w' B a len cap zs p ∨ ∃ z, zs[p]? = some z ∧ e = .returned (.int .i64 z) ∧ CurAt w' B a len cap zs (p + 1)) ∧ W.grownBy w' (some B)

set_option maxHeartbeats 1000000 in
theorem next_c (a : Option Addr) (len cap : Nat) (zs : List Int) (B p : Nat) (hl : len ≤ 2097152) (W : World) (hC : CurAt W B a len cap zs p) :
    Calls Try.prog 51 #[.pointer (some ⟨B, 0, none⟩)] W (NextPost a len cap zs B p W) := by
  have HC := Lib.hid hC
  obtain ⟨c0, c1, f0, f1, hp, -, -⟩ := hC
  by_cases hpl : p = len
  · have HPL := Lib.hid hpl
    have e0 : ((p : Int) == len) = true := by rw [hpl]; simp
    clear hp hpl
    go_enter Try.func51, Try.ntmps51
    go_wp2
    go_quiet (fail)
    go_wp2
    refine bodyPost_ret (v := .int .i64 (-1)) (by simp [results, Try.f51, go_sem]) rfl ⟨.inl ⟨HPL.out, rfl, HC.out.drew nq⟩, grown_drewN W nq _⟩
  · have e0 : ((p : Int) == len) = false := beq_eq_false_iff_ne.2 (by omega)
    have hlt : p < len := by omega
    obtain ⟨b, off, z, rfl, hz, cz⟩ := HC.out.ints.at hlt
    have hbB : b ≠ B := HC.out.far (by omega) _ rfl
    have hlt' : (p : Int) < len := by omega
    have hp' : (p : Int) ≤ 2097152 := by omega
    have HZ := Lib.hid hz
    clear hp hpl hz
    go_enter Try.func51, Try.ntmps51
    go_wp2
    go_quiet (fail)
    go_wp2
    have HC1 := Lib.hid ((HC.out.drew nq).move (p + 1) hlt)
    rw [show ((p + 1 : Nat) : Int) = (p : Int) + 1 by push_cast; rfl] at HC1
    have HG1 := Lib.hid (grownBy_trans (grown_drewN W nq (some B)) (grownBy_setCell_at (W.drewN nq) B 1 (.int .i64 ((p : Int) + 1))))
    generalize (W.drewN nq).setCell ⟨B, 1, none⟩ (.int .i64 ((p : Int) + 1)) = W1 at HC1 HG1 ⊢
    clear c0 c1 f0 f1 cz nq
    obtain ⟨c0, c1, f0, f1, -, hI, -⟩ := HC1.out
    rw [show ((p + 1 : Nat) : Int) = (p : Int) + 1 by push_cast; rfl] at c1
    have cz : W1.cell? ⟨b, off + p, none⟩ = some (.int .i64 z) := by
      obtain ⟨_, h0 | ⟨b', off', ha, hc⟩⟩ := hI
      · omega
      · cases ha; exact hc p z HZ.out
    clear hI
    have e1 : (p : Int) + 1 - 1 = p := by omega
    go_quiet (fail)
    go_wp2
    refine bodyPost_ret (v := .int .i64 z) (by simp [results, Try.f51, go_sem]) rfl ⟨.inr ⟨z, HZ.out, rfl, HC1.out.drew nq⟩, grownBy_drewN HG1.out nq⟩

/-- What take leaves: the next numbers, where they lie, or nothing. -/
def TakePost (a : Option Addr) (len cap : Nat) (zs : List Int) (B p : Nat) (n : Int) (W : World) (e : Ending) (w' : World) : Prop :=
  ((n < 0 ∨ len - p < n) ∧ e = .returned (.slice none 0 0) ∧ CurAt w' B a len cap zs p ∨
    ∃ m : Nat, n = m ∧ p + m ≤ len ∧ ∃ b, e = .returned (.slice b m (cap - p)) ∧ (∀ W', IntsAt W' a len zs → IntsAt W' b m ((zs.drop p).take m)) ∧ CurAt w' B a len cap zs (p + m)) ∧ W.grownBy w' (some B)

theorem part_ints {W : World} {a : Option Addr} {len p m : Nat} {zs : List Int} (h : IntsAt W a len zs) (hpm : p + m ≤ len) : IntsAt W (a.map fun x => x.add p) m ((zs.drop p).take m) := by
  obtain ⟨h1, h2⟩ := h
  refine ⟨by rw [List.length_take, List.length_drop]; omega, ?_⟩
  rcases h2 with h0 | ⟨b, off, ha, hc⟩
  · left; omega
  · right
    refine ⟨b, off + p, by rw [ha, Option.map_some, add_off], fun i z hz => ?_⟩
    rw [List.getElem?_take] at hz
    split at hz
    · rw [List.getElem?_drop] at hz
      rw [show off + p + i = off + (p + i) by omega]
      exact hc _ z hz
    · cases hz

set_option maxHeartbeats 1000000 in
theorem take_c (a : Option Addr) (len cap : Nat) (zs : List Int) (B p : Nat) (n : Int) (hl : len ≤ 2097152) (hlc : len ≤ cap) (hcm : cap ≤ maxLen) (W : World) (hC : CurAt W B a len cap zs p) :
    Calls Try.prog 52 #[.pointer (some ⟨B, 0, none⟩), .int .i64 n] W (TakePost a len cap zs B p n W) := by
  have HC := Lib.hid hC
  obtain ⟨c0, c1, f0, f1, hp, -, -⟩ := hC
  have hp' : (p : Int) ≤ len := by omega
  have hl' : (len : Int) ≤ 2097152 := by omega
  by_cases hn0 : n < 0
  · have HN := Lib.hid hn0
    have e0 : decide (n < 0) = true := decide_eq_true hn0
    go_enter Try.func52, Try.ntmps52
    go_wp2
    go_quiet (fail)
    go_wp2
    refine bodyPost_ret (v := .slice none 0 0) (by simp [results, Try.f52, go_sem]) rfl ⟨.inl ⟨.inl HN.out, rfl, HC.out.drew nq⟩, grown_drewN W nq _⟩
  · have n0 : 0 ≤ n := by omega
    have e0 : decide (n < 0) = false := decide_eq_false hn0
    clear hn0
    by_cases hbig : (len : Int) - p < n
    · have HN := Lib.hid hbig
      go_enter Try.func52, Try.ntmps52
      go_wp2
      go_quiet (fail)
      go_wp2
      refine bodyPost_ret (v := .slice none 0 0) (by simp [results, Try.f52, go_sem]) rfl ⟨.inl ⟨.inr HN.out, rfl, HC.out.drew nq⟩, grown_drewN W nq _⟩
    · have hle : n ≤ (len : Int) - p := by omega
      obtain ⟨m, rfl⟩ : ∃ m : Nat, n = m := ⟨n.toNat, by omega⟩
      have hpm : p + m ≤ len := by omega
      have hpm' : (p : Int) + m ≤ len := by omega
      clear hbig
      go_enter Try.func52, Try.ntmps52
      go_wp2
      go_quiet (fail)
      go_wp2
      have HC1 := Lib.hid ((HC.out.drew nq).move (p + m) hpm)
      rw [show ((p + m : Nat) : Int) = (p : Int) + m by push_cast; rfl] at HC1
      have HG1 := Lib.hid (grownBy_trans (grown_drewN W nq (some B)) (grownBy_setCell_at (W.drewN nq) B 1 (.int .i64 ((p : Int) + m))))
      generalize (W.drewN nq).setCell ⟨B, 1, none⟩ (.int .i64 ((p : Int) + m)) = W1 at HC1 HG1 ⊢
      clear c0 c1 f0 f1 nq
      obtain ⟨c0, c1, f0, f1, -, hI, -⟩ := HC1.out
      rw [show ((p + m : Nat) : Int) = (p : Int) + m by push_cast; rfl] at c1
      have e1 : (p : Int) + m - m = p := by omega
      have k1 : (p : Int) ≤ p + m := by omega
      have k2 : (p : Int) + m ≤ cap := by omega
      have k3 : (0 : Int) ≤ p := by omega
      have hcm' : cap ≤ 9223372036854775807 := Nat.le_trans hcm (by unfold maxLen; omega)
      clear hI
      go_quiet (fail)
      go_wp2
      · subst h
        have m0 : m = 0 := by omega
        refine bodyPost_ret (v := .slice a m 0) (by simp [results, Try.f52, go_sem]) rfl ⟨.inr ⟨m, rfl, hpm, a, by rw [Nat.sub_self], fun W' _ => ⟨by rw [m0]; simp, .inl m0⟩, HC1.out.drew nq⟩, grownBy_drewN HG1.out nq⟩
      · refine bodyPost_ret (v := .slice (a.map fun x => x.add p) m (cap - p)) (by simp [results, Try.f52, go_sem]) rfl ⟨.inr ⟨m, rfl, hpm, _, rfl, fun W' hI => part_ints hI hpm, HC1.out.drew nq⟩, grownBy_drewN HG1.out nq⟩

/-- slices.Clone of numbers that lie somewhere. -/
theorem clone_c (b off len cap : Nat) (zs : List Int) (hl : len ≤ 2097152) (W : World) (hN : IntsAt W (some ⟨b, off, none⟩) len zs) :
    Calls Try.prog 53 #[.slice (some ⟨b, off, none⟩) len cap] W fun e W' => OwnsInts W.heap.size zs e W' ∧ Below W.heap.size W W' := by
  obtain ⟨i0, hi, hz0, hz1, hz2⟩ := info_parts infoInt
  have HE := Lib.hid hN.1
  have HN := Lib.hid hN
  have q23 : ∀ (w : World) (a : Option Addr) (n c n' c' : Nat), (binOp .eql 23 (.slice a n c) (.slice none n' c')).run Try.prog w = .ok (.bool a.isNone) w := fun w a n c n' c' => Lib.run_eql_slice_nil w _ _ a n c n' c' Try.underlying23
  clear hN
  go_enter Try.func53, Try.ntmps53
  go_wp2_with (at_builtin; refine wpList_append_own _ rfl _ _ 23 rfl W.heap.size 3 i0 (.int .i64 0) 1 8 Try.underlying23 hi hz0 hz1 hz2 rfl (by decide) _ _ _ rfl (World.ownsRow_lit (e := 3) (size := 1) W #[] 0 (Nat.le_refl _) (by simp [maxLen]) rfl) ⟨b, off, none⟩ len cap (intsV zs) rfl (by rw [intsV_length, HE.out]; omega) (fun j u h => cell_kept (below_box _ _) (ints_cells HN.out j u h)) (intsV_cells _) (by unfold maxLen; omega) (by omega) (by simp) ?_; intro v3 w3 ho3 hg3 hn3)
  have B3 : Below W.heap.size W w3 := (below_box W _).grown hg3 (by simp) (fun k e => by cases e; exact Nat.le_refl _)
  refine bodyPost_ret (v := v3) (by simp [results, Try.f53, go_sem]) rfl ⟨⟨v3, rfl, ?_⟩, B3⟩
  rw [HE.out, show len = 0 + len by omega]
  exact ho3

end Go.Proofs.Ytdlkofgapjdeaaa
