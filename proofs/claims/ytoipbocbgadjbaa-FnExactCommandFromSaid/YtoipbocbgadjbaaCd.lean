/-
  WALKS: contents that are drawn (spec.l91Content).
-/
import Derived.Test.YtoipbocbgadjbaaCv
namespace Go.Proofs.Ytoipbocbgadjbaa
open Go.RowKit
set_option linter.unusedVariables false

/-- A drawn content: its numbers are small; the reader some places on. -/
def ConDraw (N0 B p : Nat) (W : World) (e : Ending) (W' : World) : Prop :=
  ∃ (k v : Int) (q : Nat), e = .returned (con k v) ∧ -1 ≤ k ∧ k ≤ 3 ∧ -1 ≤ v ∧ v ≤ 100 ∧ q ≤ p + 4 ∧ RdAt N0 W' B q ∧ W.grownBy W' (some B)

theorem con_draw {N0 B p : Nat} {W W' : World} (k v : Int) (q : Nat) (hk : -1 ≤ k ∧ k ≤ 3) (hv : -1 ≤ v ∧ v ≤ 100) (hq : q ≤ p + 4) (hR : RdAt N0 W' B q) (hg : W.grownBy W' (some B)) :
    ConDraw N0 B p W (.returned (con k v)) W' := ⟨k, v, q, rfl, hk.1, hk.2, hv.1, hv.2, hq, hR, hg⟩

/-- What stands in a new block of two numbers, when a reader has gone on. -/
theorem new_pair {W W1 : World} {B : Nat} {a b : Value} {t : TypeId} (hg : (W.alloc (.cells #[a, b] t)).grownBy W1 (some B)) (hB : B < W.heap.size) :
    W1.cell? ⟨W.heap.size, 0, none⟩ = some a ∧ W1.cell? ⟨W.heap.size, 1, none⟩ = some b ∧ W1.frozen? ⟨W.heap.size, 0, none⟩ = false ∧ W1.frozen? ⟨W.heap.size, 1, none⟩ = false ∧ W.heap.size < W1.heap.size := by
  have hne : some W.heap.size ≠ some B := by simp; omega
  have hs : W.heap.size < (W.alloc (.cells #[a, b] t)).heap.size := by simp
  have hb := hg.block W.heap.size hs hne
  have hz := hg.size
  refine ⟨hg.cell (by rw [World.cell?_alloc_new]; rfl) hne, hg.cell (by rw [World.cell?_alloc_new]; rfl) hne, (World.frozen?_of_block hb).trans ?_, (World.frozen?_of_block hb).trans ?_, by omega⟩
  · simp only [World.frozen?, World.alloc_heap_new]; rfl
  · simp only [World.frozen?, World.alloc_heap_new]; rfl

theorem set_same {W : World} {a : Addr} {v u : Value} (h : W.cell? a = some u) : (W.setCell a v).cell? a = some v := by
  rw [World.cell?_setCell_same W a v h]

theorem set_two {W : World} {n : Nat} {a b u v : Value} (c0 : W.cell? ⟨n, 0, none⟩ = some u) (c1 : W.cell? ⟨n, 1, none⟩ = some v) :
    ((W.setCell ⟨n, 0, none⟩ a).setCell ⟨n, 1, none⟩ b).cell? ⟨n, 0, none⟩ = some a ∧ ((W.setCell ⟨n, 0, none⟩ a).setCell ⟨n, 1, none⟩ b).cell? ⟨n, 1, none⟩ = some b := by
  refine ⟨?_, set_same (u := v) ?_⟩
  · rw [World.cell?_setCell_other _ _ _ _ (by simp)]; exact set_same c0
  · rw [World.cell?_setCell_other _ _ _ _ (by simp)]; exact c1

theorem con_results (fn : Func) (hf : fn.results = #[.cell 2 24]) (W : World) (n : Nat) (k v : Int) (tmps : Array Value) (ht : tmps[2]? = some (.pointer (some ⟨n, 0, none⟩)))
    (h : W.cell? ⟨n, 0, none⟩ = some (.int .i64 k) ∧ W.cell? ⟨n, 1, none⟩ = some (.int .i64 v)) : (results fn tmps).run Try.prog W = .ok (con k v) W := by
  obtain ⟨c0, c1⟩ := h
  simp [results, hf, go_sem, ht, c0, c1]

/-- Two numbers in a block of the call's own. -/
def Two (W : World) (n : Nat) (a b : Value) : Prop :=
  W.cell? ⟨n, 0, none⟩ = some a ∧ W.cell? ⟨n, 1, none⟩ = some b ∧ W.frozen? ⟨n, 0, none⟩ = false ∧ W.frozen? ⟨n, 1, none⟩ = false ∧ n < W.heap.size

theorem Two.keep {W W' : World} {n B : Nat} {a b : Value} (h : Two W n a b) (hg : W.grownBy W' (some B)) (hB : n ≠ B) : Two W' n a b := by
  obtain ⟨c0, c1, f0, f1, hz⟩ := h
  have hne : some n ≠ some B := by simpa using hB
  have hb := hg.block n hz hne
  have hs := hg.size
  exact ⟨hg.cell c0 hne, hg.cell c1 hne, (World.frozen?_of_block hb).trans f0, (World.frozen?_of_block hb).trans f1, by omega⟩

theorem Two.below {W W' : World} {n : Nat} {a b : Value} (h : Two W n a b) (hg : Below W.heap.size W W') : Two W' n a b := by
  obtain ⟨c0, c1, f0, f1, hz⟩ := h
  exact ⟨(hg.cell (p := ⟨n, 0, none⟩) hz).trans c0, (hg.cell (p := ⟨n, 1, none⟩) hz).trans c1, (World.frozen?_of_block (hg.block n hz)).trans f0, (World.frozen?_of_block (hg.block n hz)).trans f1, Nat.lt_of_lt_of_le hz hg.size⟩

theorem two_new (W : World) (a b : Value) (t : TypeId) : Two (W.alloc (.cells #[a, b] t)) W.heap.size a b := by
  refine ⟨by rw [World.cell?_alloc_new]; rfl, by rw [World.cell?_alloc_new]; rfl, ?_, ?_, by simp⟩
  · simp only [World.frozen?, World.alloc_heap_new]; rfl
  · simp only [World.frozen?, World.alloc_heap_new]; rfl

theorem Two.set0 {W : World} {n : Nat} {a b c : Value} (h : Two W n a b) : Two (W.setCell ⟨n, 0, none⟩ c) n c b := by
  obtain ⟨c0, c1, f0, f1, hz⟩ := h
  exact ⟨set_same c0, by rw [World.cell?_setCell_other _ _ _ _ (by simp)]; exact c1, by rw [World.frozen?_setCell]; exact f0, by rw [World.frozen?_setCell]; exact f1, by simpa [World.setCell] using hz⟩

theorem Two.set1 {W : World} {n : Nat} {a b c : Value} (h : Two W n a b) : Two (W.setCell ⟨n, 1, none⟩ c) n a c := by
  obtain ⟨c0, c1, f0, f1, hz⟩ := h
  exact ⟨by rw [World.cell?_setCell_other _ _ _ _ (by simp)]; exact c0, set_same c1, by rw [World.frozen?_setCell]; exact f0, by rw [World.frozen?_setCell]; exact f1, by simpa [World.setCell] using hz⟩

theorem Two.setOther {W : World} {n : Nat} {a b c : Value} {x : Addr} (h : Two W n a b) (hx : x.block ≠ n) : Two (W.setCell x c) n a b := by
  obtain ⟨c0, c1, f0, f1, hz⟩ := h
  exact ⟨by rw [World.cell?_setCell_other _ _ _ _ (fun e => hx (congrArg Addr.block e))]; exact c0, by rw [World.cell?_setCell_other _ _ _ _ (fun e => hx (congrArg Addr.block e))]; exact c1, by rw [World.frozen?_setCell]; exact f0, by rw [World.frozen?_setCell]; exact f1, by simpa [World.setCell] using hz⟩

/-- The end of the draw: the result's two cells are written. -/
theorem con_end {N0 B p q : Nat} {W W' : World} {a b : Value} {k v : Int} {tmps : Array Value} (hT : Two W' W.heap.size a b) (hk : -1 ≤ k ∧ k ≤ 3) (hv : -1 ≤ v ∧ v ≤ 100) (hq : q ≤ p + 4)
    (hR : RdAt N0 W' B q) (hL : N0 ≤ W.heap.size) (hg : W.grownBy W' (some B)) (ht : tmps[2]? = some (.pointer (some ⟨W.heap.size, 0, none⟩))) :
    bodyPost Try.prog Try.f55 (ConDraw N0 B p W) .ret ⟨tmps, []⟩ ((W'.setCell ⟨W.heap.size, 0, none⟩ (.int .i64 k)).setCell ⟨W.heap.size, 1, none⟩ (.int .i64 v)) :=
  bodyPost_ret (con_results _ rfl _ W.heap.size k v _ ht (let h2 := (hT.set0 (c := .int .i64 k)).set1 (c := .int .i64 v); ⟨h2.1, h2.2.1⟩)) rfl
    (con_draw k v q hk hv hq ((hR.setNew _ _ hL).setNew _ _ hL) (grownBy_setCell_new (grownBy_setCell_new hg _ _ (Nat.le_refl _)) _ _ (Nat.le_refl _)))

set_option maxHeartbeats 1000000 in
theorem l91Content_c (N0 B p : Nat) (W : World) (hp : p < 29000) (hR : RdAt N0 W B p) :
    Calls Try.prog 55 #[.pointer (some ⟨B, 0, none⟩)] W (ConDraw N0 B p W) := by
  have HP1 := Lib.hid (fun W hR => pick_c N0 B p 6 (by omega) (by omega) W (by omega) hR)
  have HP2 := Lib.hid (fun W hR => pick_c N0 B (p + 1) 5 (by omega) (by omega) W (by omega) hR)
  have HP3 := Lib.hid (fun W hR => pick_c N0 B (p + 1 + 1) 40 (by omega) (by omega) W (by omega) hR)
  have HP4 := Lib.hid (fun W hR => pick_c N0 B (p + 1 + 1 + 1) 3 (by omega) (by omega) W (by omega) hR)
  have HR := Lib.hid hR
  have hle := hR.le
  have hlt := hR.lt
  have HL := Lib.hid hle
  have HT := Lib.hid hlt
  clear hR hle hlt hp
  go_enter Try.func55, Try.ntmps55
  go_wp2_with fail
  refine (HP1.out _ (HR.out.alloc _)).mono ?_
  rintro e W1 ⟨r, rfl, h0, h1, hR1, hg1⟩
  have TW1 := Lib.hid (show Two W1 W.heap.size _ _ from new_pair hg1 HT.out)
  have GW1 := Lib.hid (grownBy_trans (grownBy_new W _ (some B)) hg1)
  clear hg1
  by_cases r0 : r = 0
  · subst r0
    obtain ⟨g0, g1, f0, f1, -⟩ := TW1.out
    clear h0 h1
    go_wp2
    exact con_end TW1.out (by omega) (by omega) (by omega) hR1 HL.out GW1.out rfl
  · have b0 : (r == 0) = false := beq_eq_false_iff_ne.2 r0
    by_cases r1 : r = 1
    · subst r1
      obtain ⟨g0, g1, f0, f1, -⟩ := TW1.out
      clear h0 h1 r0
      go_wp2
      exact con_end TW1.out (by omega) (by omega) (by omega) hR1 HL.out GW1.out rfl
    by_cases r2 : r = 2
    · subst r2
      obtain ⟨g0, g1, f0, f1, -⟩ := TW1.out
      clear h0 h1 r0 r1
      go_wp2
      exact con_end TW1.out (by omega) (by omega) (by omega) hR1 HL.out GW1.out rfl
    have b1 : (r == 1) = false := beq_eq_false_iff_ne.2 r1
    have b2 : (r == 2) = false := beq_eq_false_iff_ne.2 r2
    clear h0 h1 r0 r1 r2
    go_wp2_with fail
    refine (HP2.out _ hR1).mono ?_
    rintro e W2 ⟨z, rfl, z0, z1, hR2, hg2⟩
    have ZB := Lib.hid (And.intro z0 z1)
    have TW2 := Lib.hid (TW1.out.keep hg2 (by have := HT.out; omega))
    have GW2 := Lib.hid (grownBy_trans GW1.out hg2)
    have HT2 := Lib.hid hR2.lt
    have HL2 := Lib.hid hR2.le
    clear hg2 hR1 TW1 GW1 z0 z1
    go_wp2_with fail
    refine (HP3.out _ (hR2.alloc _)).mono ?_
    rintro e W3 ⟨s, rfl, s0, s1, hR3, hg3⟩
    have CW3 := Lib.hid (show Two W3 W2.heap.size _ _ from new_pair hg3 HT2.out)
    have GW3 := Lib.hid (grownBy_trans GW2.out (grownBy_trans (grownBy_new W2 _ (some B)) hg3))
    have TW3 := Lib.hid (TW2.out.keep (grownBy_trans (grownBy_new W2 _ (some B)) hg3) (by have := HT.out; omega))
    have hsz : W.heap.size < W2.heap.size := TW2.out.2.2.2.2
    have HS := Lib.hid hsz
    clear hg3 hR2 TW2 GW2 hsz
    by_cases s0' : s = 0
    · subst s0'
      clear s0 s1
      go_wp2_with fail
      refine (HP4.out _ (hR3.alloc _)).mono ?_
      rintro e W4 ⟨x, rfl, x0, x1, hR4, hg4⟩
      have CW4 := Lib.hid (CW3.out.keep (grownBy_trans (grownBy_new W3 _ (some B)) hg4) (by have := HT2.out; omega))
      have TW4 := Lib.hid (TW3.out.keep (grownBy_trans (grownBy_new W3 _ (some B)) hg4) (by have := HT.out; omega))
      have GW4 := Lib.hid (grownBy_trans GW3.out (grownBy_trans (grownBy_new W3 _ (some B)) hg4))
      have hx : x = 0 ∨ x = 1 ∨ x = 2 := by omega
      rcases hx with hx | hx | hx
      · subst hx
        have L0 : W4.cell? ⟨W3.heap.size, 0, none⟩ = some (.int .i64 (-1)) := hg4.cell (by rw [World.cell?_alloc_new]; rfl) (by have := hR3.lt; simp; omega)
        have CW5 := Lib.hid (CW4.out.set1 (c := (.int .i64 (-1))))
        have TW5 := Lib.hid (TW4.out.setOther (c := (.int .i64 (-1))) (x := ⟨W2.heap.size, 1, none⟩) (by have := HS.out; show W2.heap.size ≠ _; omega))
        obtain ⟨d0, d1, e0, e1, -⟩ := CW4.out
        obtain ⟨m0, m1, -, -, -⟩ := CW5.out
        obtain ⟨g0, g1, f0, f1, -⟩ := TW5.out
        clear x0 x1 hg4
        go_wp2
        exact con_end (TW5.out) (by omega) (by omega) (by omega) (hR4.setNew _ _ HL2.out) HL.out (grownBy_setCell_new GW4.out _ _ (Nat.le_of_lt HS.out)) rfl
      · subst hx
        have L0 : W4.cell? ⟨W3.heap.size, 1, none⟩ = some (.int .i64 99) := hg4.cell (by rw [World.cell?_alloc_new]; rfl) (by have := hR3.lt; simp; omega)
        have CW5 := Lib.hid (CW4.out.set1 (c := (.int .i64 99)))
        have TW5 := Lib.hid (TW4.out.setOther (c := (.int .i64 99)) (x := ⟨W2.heap.size, 1, none⟩) (by have := HS.out; show W2.heap.size ≠ _; omega))
        obtain ⟨d0, d1, e0, e1, -⟩ := CW4.out
        obtain ⟨m0, m1, -, -, -⟩ := CW5.out
        obtain ⟨g0, g1, f0, f1, -⟩ := TW5.out
        clear x0 x1 hg4
        go_wp2
        exact con_end (TW5.out) (by omega) (by omega) (by omega) (hR4.setNew _ _ HL2.out) HL.out (grownBy_setCell_new GW4.out _ _ (Nat.le_of_lt HS.out)) rfl
      · subst hx
        have L0 : W4.cell? ⟨W3.heap.size, 2, none⟩ = some (.int .i64 100) := hg4.cell (by rw [World.cell?_alloc_new]; rfl) (by have := hR3.lt; simp; omega)
        have CW5 := Lib.hid (CW4.out.set1 (c := (.int .i64 100)))
        have TW5 := Lib.hid (TW4.out.setOther (c := (.int .i64 100)) (x := ⟨W2.heap.size, 1, none⟩) (by have := HS.out; show W2.heap.size ≠ _; omega))
        obtain ⟨d0, d1, e0, e1, -⟩ := CW4.out
        obtain ⟨m0, m1, -, -, -⟩ := CW5.out
        obtain ⟨g0, g1, f0, f1, -⟩ := TW5.out
        clear x0 x1 hg4
        go_wp2
        exact con_end (TW5.out) (by omega) (by omega) (by omega) (hR4.setNew _ _ HL2.out) HL.out (grownBy_setCell_new GW4.out _ _ (Nat.le_of_lt HS.out)) rfl
    · have c0 : (s == 0) = false := beq_eq_false_iff_ne.2 s0'
      by_cases s1' : s = 1
      · subst s1'
        clear s0 s1 s0'
        go_wp2_with fail
        refine (HP4.out _ (hR3.alloc _)).mono ?_
        rintro e W4 ⟨x, rfl, x0, x1, hR4, hg4⟩
        have CW4 := Lib.hid (CW3.out.keep (grownBy_trans (grownBy_new W3 _ (some B)) hg4) (by have := HT2.out; omega))
        have TW4 := Lib.hid (TW3.out.keep (grownBy_trans (grownBy_new W3 _ (some B)) hg4) (by have := HT.out; omega))
        have GW4 := Lib.hid (grownBy_trans GW3.out (grownBy_trans (grownBy_new W3 _ (some B)) hg4))
        have hx : x = 0 ∨ x = 1 ∨ x = 2 := by omega
        rcases hx with hx | hx | hx
        · subst hx
          have L0 : W4.cell? ⟨W3.heap.size, 0, none⟩ = some (.int .i64 3) := hg4.cell (by rw [World.cell?_alloc_new]; rfl) (by have := hR3.lt; simp; omega)
          have CW5 := Lib.hid (CW4.out.set0 (c := (.int .i64 3)))
          have TW5 := Lib.hid (TW4.out.setOther (c := (.int .i64 3)) (x := ⟨W2.heap.size, 0, none⟩) (by have := HS.out; show W2.heap.size ≠ _; omega))
          obtain ⟨d0, d1, e0, e1, -⟩ := CW4.out
          obtain ⟨m0, m1, -, -, -⟩ := CW5.out
          obtain ⟨g0, g1, f0, f1, -⟩ := TW5.out
          clear x0 x1 hg4
          go_wp2
          exact con_end (TW5.out) (by omega) (by have := ZB.out; omega) (by omega) (hR4.setNew _ _ HL2.out) HL.out (grownBy_setCell_new GW4.out _ _ (Nat.le_of_lt HS.out)) rfl
        · subst hx
          have L0 : W4.cell? ⟨W3.heap.size, 1, none⟩ = some (.int .i64 (-1)) := hg4.cell (by rw [World.cell?_alloc_new]; rfl) (by have := hR3.lt; simp; omega)
          have CW5 := Lib.hid (CW4.out.set0 (c := (.int .i64 (-1))))
          have TW5 := Lib.hid (TW4.out.setOther (c := (.int .i64 (-1))) (x := ⟨W2.heap.size, 0, none⟩) (by have := HS.out; show W2.heap.size ≠ _; omega))
          obtain ⟨d0, d1, e0, e1, -⟩ := CW4.out
          obtain ⟨m0, m1, -, -, -⟩ := CW5.out
          obtain ⟨g0, g1, f0, f1, -⟩ := TW5.out
          clear x0 x1 hg4
          go_wp2
          exact con_end (TW5.out) (by omega) (by have := ZB.out; omega) (by omega) (hR4.setNew _ _ HL2.out) HL.out (grownBy_setCell_new GW4.out _ _ (Nat.le_of_lt HS.out)) rfl
        · subst hx
          have L0 : W4.cell? ⟨W3.heap.size, 2, none⟩ = some (.int .i64 1) := hg4.cell (by rw [World.cell?_alloc_new]; rfl) (by have := hR3.lt; simp; omega)
          have CW5 := Lib.hid (CW4.out.set0 (c := (.int .i64 1)))
          have TW5 := Lib.hid (TW4.out.setOther (c := (.int .i64 1)) (x := ⟨W2.heap.size, 0, none⟩) (by have := HS.out; show W2.heap.size ≠ _; omega))
          obtain ⟨d0, d1, e0, e1, -⟩ := CW4.out
          obtain ⟨m0, m1, -, -, -⟩ := CW5.out
          obtain ⟨g0, g1, f0, f1, -⟩ := TW5.out
          clear x0 x1 hg4
          go_wp2
          exact con_end (TW5.out) (by omega) (by have := ZB.out; omega) (by omega) (hR4.setNew _ _ HL2.out) HL.out (grownBy_setCell_new GW4.out _ _ (Nat.le_of_lt HS.out)) rfl
      · have c1 : (s == 1) = false := beq_eq_false_iff_ne.2 s1'
        obtain ⟨d0, d1, e0, e1, -⟩ := CW3.out
        obtain ⟨g0, g1, f0, f1, -⟩ := TW3.out
        clear s0 s1 s0' s1'
        go_wp2
        exact con_end TW3.out (by omega) (by have := ZB.out; omega) (by omega) hR3 HL.out GW3.out rfl

end Go.Proofs.Ytoipbocbgadjbaa
