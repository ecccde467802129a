/-
  WALKS: bodies that are drawn (spec.l91Body).
-/
import Derived.Test.YtdlkofgapjdeaaaFe
namespace Go.Proofs.Ytdlkofgapjdeaaa
open Go.RowKit
set_option linter.unusedVariables false

/-- A row of the call's own does not mind the reader. -/
theorem own_reader1 {W0 W W' : World} {B n : Nat} {e : TypeId} {v : Value} {xs : List Value} (h : W.ownsRow W0.heap.size e 1 v n xs) (hB : B < W0.heap.size) (hg : W.grownBy W' (some B)) : W'.ownsRow W0.heap.size e 1 v n xs := by
  refine h.kept hg ?_
  have hlt := h.lt
  cases hv : v.ownBlock with
  | none => simp
  | some g => have := (hlt g hv).1; simp; omega

/-- A drawn list of numbers, of the call's own. -/
def BodyDraw (N0 B p : Nat) (W : World) (e : Ending) (W' : World) : Prop :=
  ∃ (sl : Value) (zs : List Int) (q : Nat), e = .returned sl ∧ W'.ownsRow W.heap.size 3 1 sl zs.length (intsV zs) ∧ zs.length ≤ 17 ∧ (∀ z ∈ zs, -1 ≤ z ∧ z ≤ 256) ∧ q ≤ p + 23 ∧ RdAt N0 W' B q ∧ W.grownBy W' (some B)

def BodyRel (N0 B p : Nat) (NN : Nat) (W : World) (o i : Value) (wr : World) : Prop :=
  ∃ (zs : List Int) (q : Nat), i = .int .i64 (zs.length : Nat) ∧ zs.length ≤ NN ∧ wr.ownsRow W.heap.size 3 1 o zs.length (intsV zs) ∧ Hid (∀ z ∈ zs, (0 : Int) ≤ z ∧ z ≤ 255) ∧ Hid (q ≤ p + 3 + zs.length) ∧ RdAt N0 wr B q ∧ Hid (W.grownBy wr (some B))

/-- A number of a table that was made ahead of a draw. -/
theorem pick_cell {W W' : World} {B n : Nat} {r : Int} (t : TypeId) (ns : List Nat) (hB : B < W.heap.size) (hg : (W.alloc (.cells ((ns.map fun (k : Nat) => Value.int .i64 (k : Int)).toArray) t)).grownBy W' (some B)) (h0 : 0 ≤ r) (h1 : r < ns.length) (hm : ∀ k ∈ ns, k ≤ n) :
    ∃ NN : Nat, NN ≤ n ∧ W'.cell? ⟨W.heap.size, r.toNat, none⟩ = some (.int .i64 (NN : Int)) := by
  have hi : r.toNat < ns.length := by omega
  refine ⟨ns[r.toNat], hm _ (List.getElem_mem hi), ?_⟩
  have hb := hg.block W.heap.size (by simp) (by simp; omega)
  rw [World.cell?_of_block hb, World.cell?_alloc_new]
  simp [hi]

theorem own_slice1 {W : World} {base : Nat} {e : TypeId} {v : Value} {zs : List Int} (h : W.ownsRow base e 1 v zs.length (intsV zs)) (h0 : 0 < zs.length) : ∃ g cap, v = .slice (some ⟨g, 0, none⟩) zs.length cap ∧ base ≤ g ∧ g < W.heap.size := by
  rcases h.2 with ⟨_, h1⟩ | ⟨g, cap, cur, rfl, h1, h2, _⟩
  · omega
  · exact ⟨g, cap, rfl, h1, by rw [Array.getElem?_eq_some_iff] at h2; exact h2.1⟩

theorem own_store1 {W : World} {base : Nat} {e : TypeId} {g cap : Nat} {zs : List Int} (h : W.ownsRow base e 1 (.slice (some ⟨g, 0, none⟩) zs.length cap) zs.length (intsV zs)) (k : Nat) (z : Int) :
    (W.setCell ⟨g, k, none⟩ (.int .i64 z)).ownsRow base e 1 (.slice (some ⟨g, 0, none⟩) zs.length cap) (zs.set k z).length (intsV (zs.set k z)) := by
  have := (h.stored k (.int .i64 z)).1
  rw [List.length_set, show intsV (zs.set k z) = (intsV zs).set k (.int .i64 z) by unfold intsV; rw [List.map_set]]
  exact this

theorem own_cell1 {W : World} {base : Nat} {e : TypeId} {g cap : Nat} {zs : List Int} (h : W.ownsRow base e 1 (.slice (some ⟨g, 0, none⟩) zs.length cap) zs.length (intsV zs)) {k : Nat} (hk : k < zs.length) :
    W.cell? ⟨g, k, none⟩ = some (.int .i64 (zs[k]'hk)) := by
  rw [h.cellAt k (by omega)]
  unfold intsV
  rw [List.getElem?_map, List.getElem?_eq_getElem hk]; rfl

theorem pick_bad {W W' : World} {B : Nat} {r : Int} (t : TypeId) (hB : B < W.heap.size) (hg : (W.alloc (.cells #[.int .i64 (-1), .int .i64 256] t)).grownBy W' (some B)) (h0 : 0 ≤ r) (h1 : r < 2) :
    ∃ z : Int, -1 ≤ z ∧ z ≤ 256 ∧ W'.cell? ⟨W.heap.size, r.toNat, none⟩ = some (.int .i64 z) := by
  have hb := hg.block W.heap.size (by simp) (by simp; omega)
  have hr : r = 0 ∨ r = 1 := by omega
  rcases hr with rfl | rfl
  · refine ⟨-1, by omega, by omega, ?_⟩
    rw [World.cell?_of_block hb, World.cell?_alloc_new]; rfl
  · refine ⟨256, by omega, by omega, ?_⟩
    rw [World.cell?_of_block hb, World.cell?_alloc_new]; rfl

set_option maxHeartbeats 2000000 in
set_option maxRecDepth 100000 in
theorem l91Body_c (N0 B p : Nat) (W : World) (hp : p < 29000) (hR : RdAt N0 W B p) :
    Calls Try.prog 38 #[.pointer (some ⟨B, 0, none⟩)] W (BodyDraw N0 B p W) := by
  obtain ⟨i0, hi, hz0, hz1, hz2⟩ := info_parts infoInt
  have HLT := Lib.hid hR.lt
  have HP := Lib.hid (fun q n h1 h2 W hq hR => pick_c N0 B q n h1 h2 W hq hR)
  have HPP := Lib.hid hp
  have HN0 := Lib.hid hR.le
  have HRA := Lib.hid (hR.alloc (.cells #[] 3))
  have HOA := Lib.hid (World.ownsRow_lit (e := 3) (size := 1) W #[] 0 (Nat.le_refl _) (by simp [maxLen]) rfl)
  clear hp hR
  go_enter Try.func38, Try.ntmps38
  go_upto_region 2 with (fail)
  go_wp2_with fail
  refine (HP.out p 6 (by omega) (by omega) _ (by have := HPP.out; omega) HRA.out).mono ?_
  rintro e W1 ⟨r1, rfl, r10, r11, hR1, hg1⟩
  have HR1 := Lib.hid hR1
  have HO1 := Lib.hid (own_reader1 HOA.out HLT.out hg1)
  have HG1 := Lib.hid (grownBy_trans (grownBy_new W _ _) hg1)
  have HB1 := Lib.hid (And.intro r10 r11)
  clear hR1 hg1
  go_wp2_with fail
  refine (HP.out (p + 1) 20 (by omega) (by omega) _ (by have := HPP.out; omega) HR1.out).mono ?_
  rintro e W2 ⟨r2, rfl, r20, r21, hR2, hg2⟩
  have HR2 := Lib.hid hR2
  have HO2 := Lib.hid (own_reader1 HO1.out HLT.out hg2)
  have HG2 := Lib.hid (grownBy_trans HG1.out hg2)
  clear hR2 hg2
  by_cases e2 : r2 = 0
  · subst e2
    clear r20 r21
    have HRB := Lib.hid (HR2.out.alloc (.cells #[.int .i64 0, .int .i64 16, .int .i64 17] 3))
    have HLT2 := Lib.hid HR2.out.lt
    clear HB1 r10 r11
    go_wp2_with fail
    refine (HP.out (p + 2) 3 (by omega) (by omega) _ (by have := HPP.out; omega) HRB.out).mono ?_
    rintro e W3 ⟨r3, rfl, r30, r31, hR3, hg3⟩
    have OWN := Lib.hid (own_reader1 (HO2.out.alloc _) HLT.out hg3)
    have GG := Lib.hid (grownBy_trans (grownBy_trans HG2.out (grownBy_new W2 _ _)) hg3)
    obtain ⟨NN, hNN, hcN⟩ := pick_cell 3 [0, 16, 17] HLT2.out hg3 r30 r31 (n := 17) (by intro k hk; simp at hk; omega)
    have RR := Lib.hid hR3
    have QB := Lib.hid (show p + 2 + 1 ≤ p + 3 by omega)
    clear hR3 hg3
    go_upto_region 5 with (fail)
    have HNN := Lib.hid hNN
    clear hNN
    go_wp2
    go_loopw [3, 5] (fun o i wr => BodyRel N0 B p NN W o i wr) (fun _ i _ => NN - (intOf i).toNat)
    case atStart => exact ⟨[], _, rfl, by simp, OWN.out, by intro z hz; (try simp at hz), (show _ ≤ _ from Nat.le_trans QB.out (by simp)), RR.out, GG.out⟩
    case round =>
      obtain ⟨zs, q, rfl, hj, hrow, HZ, HQ, hRq, HG⟩ := hrel
      by_cases hlt : zs.length < NN
      · have hlt' : (zs.length : Int) < NN := by omega
        have HJ := Lib.hid (And.intro hlt HNN.out)
        have hz17 : (zs.length : Int) ≤ 17 := by have := HNN.out; omega
        have HRQ := Lib.hid hRq
        have HROW := Lib.hid hrow
        clear hj hlt hRq hrow
        go_wp2_with fail
        refine (HP.out q 256 (by omega) (by omega) _ (by have h5 := HQ.out; have h6 := HPP.out; have h7 := HJ.out; omega) HRQ.out).mono ?_
        rintro e W5 ⟨y, rfl, y0, y1, hR5, hg5⟩
        have hrow5 := own_reader1 HROW.out HLT.out hg5
        have hG5 := grownBy_trans HG.out hg5
        have HG5 := Lib.hid hG5
        have hltb := hrow5.lt
        have HR5 := Lib.hid hR5
        have HY := Lib.hid (And.intro y0 y1)
        have HB5 := Lib.hid hG5.size
        clear hg5 hR5 hG5 y0 y1
        go_wp2_with (at_builtin; refine wpList_append_own _ rfl _ _ 23 rfl W.heap.size 3 i0 (.int .i64 0) 1 8 Try.underlying23 hi hz0 hz1 hz2 rfl (by decide) _ _ _ rfl (hrow5.alloc _) ⟨W5.heap.size, 0, none⟩ 1 1 [.int .i64 y] rfl rfl (cell_int_new _ _ _) (fun x hx => by simp at hx; subst hx; rfl) (by have := HJ.out; unfold maxLen; omega) (by have := HJ.out; omega) (by have := HB5.out; simp; omega) ?_; intro v6 w6 ho6 hg6 hn6)
        have B6 : Below W.heap.size W5 w6 := ((Below.refl _ W5).alloc HB5.out _).grown hg6 (by have := HB5.out; simp; omega) (fun g e => (hltb g e).1)
        have hRd := HR5.out.kept (B6.mono HN0.out)
        have hGd : W.grownBy w6 (some B) := ⟨B6.os.trans HG5.out.os, B6.tape.trans HG5.out.tape, B6.output.trans HG5.out.output, Nat.le_trans HG5.out.size B6.size, fun k hk hne => (B6.block k hk).trans (HG5.out.block k hk hne)⟩
        go_roundw
        case rel =>
          refine ⟨zs ++ [y], q + 1, by rw [List.length_append]; go_num, by have := HJ.out; simp; omega, own_join1 (more := [y]) ho6, ?_, by have := HQ.out; show _ ≤ _; simp; omega, hRd, hGd⟩
          intro z hz
          rcases List.mem_append.1 hz with h | h
          · exact HZ.out z h
          · rw [List.mem_singleton.1 h]; have := HY.out; omega
        case measure => have := HJ.out; simp [intOf]; omega
      · have hjn : zs.length = NN := by omega
        have hge : ((NN : Nat) : Int) ≤ zs.length := by omega
        have HJN := Lib.hid hjn
        have HRQ := Lib.hid hRq
        have HROW := Lib.hid hrow
        have HZ2 : Hid (∀ z ∈ zs, (-1 : Int) ≤ z ∧ z ≤ 256) := by intro z hz; have := HZ.out z hz; omega
        have HL17 := Lib.hid (show zs.length ≤ 17 by have := HNN.out; omega)
        have HQE := Lib.hid (show q ≤ p + 20 by have h1 := HQ.out; have h2 := HNN.out; omega)
        have hN17 : (NN : Int) ≤ 17 := by have := HNN.out; omega
        clear hlt hj hjn hRq hrow
        by_cases h0 : NN = 0
        · subst h0
          go_wp2
          go_ret
          exact ⟨_, zs, q, rfl, HROW.out, HL17.out, HZ2.out, by have := HQE.out; omega, HRQ.out, HG.out⟩
        · have hN0 : (0 : Int) < NN := by omega
          have HNP := Lib.hid (show 0 < zs.length by have := HJN.out; omega)
          clear h0
          go_wp2_with fail
          refine (HP.out q 24 (by omega) (by omega) _ (by have h5 := HQE.out; have h6 := HPP.out; omega) HRQ.out).mono ?_
          rintro e W5 ⟨r5, rfl, r50, r51, hR5, hg5⟩
          have HO5 := Lib.hid (own_reader1 HROW.out HLT.out hg5)
          have HG5 := Lib.hid (grownBy_trans HG.out hg5)
          have HR5 := Lib.hid hR5
          clear hR5 hg5
          by_cases e5 : r5 = 0
          · subst e5
            clear r50 r51
            go_wp2_with fail
            refine (HP.out (q + 1) NN (by omega) (by omega) _ (by have h5 := HQE.out; have h6 := HPP.out; omega) HR5.out).mono ?_
            rintro e W6 ⟨r6, rfl, r60, r61, hR6, hg6⟩
            obtain ⟨k, rfl⟩ := Int.eq_ofNat_of_zero_le r60
            have HKL := Lib.hid (show k < zs.length by have := HJN.out; omega)
            obtain ⟨g, cap, rfl, hgb, -⟩ := own_slice1 HO5.out HNP.out
            have HO6 := Lib.hid (own_reader1 HO5.out HLT.out hg6)
            have HG6 := Lib.hid (grownBy_trans HG5.out hg6)
            have HR6 := Lib.hid hR6
            have HRC := Lib.hid (hR6.alloc (.cells #[.int .i64 (-1), .int .i64 256] 3))
            have HGB := Lib.hid hgb
            clear r60 hR6 hg6 hgb
            go_wp2_with fail
            refine (HP.out (q + 1 + 1) 2 (by omega) (by omega) _ (by have h5 := HQE.out; have h6 := HPP.out; omega) HRC.out).mono ?_
            rintro e W7 ⟨r7, rfl, r70, r71, hR7, hg7⟩
            obtain ⟨zb, hz1b, hz2b, hcb⟩ := pick_bad 3 HR6.out.lt hg7 r70 r71
            have HO7 := Lib.hid (own_reader1 (HO6.out.alloc _) HLT.out hg7)
            have HG7 := Lib.hid (grownBy_trans (grownBy_trans HG6.out (grownBy_new W6 _ _)) hg7)
            have HR7 := Lib.hid hR7
            have HZB := Lib.hid (And.intro hz1b hz2b)
            have c1 := own_cell1 HO7.out HKL.out
            have z1 := HO7.out.frozenAt k
            have hkl : (k : Int) < zs.length := by have := HKL.out; omega
            clear hR7 hg7 hz1b hz2b
            go_wp2
            go_ret
            refine ⟨_, zs.set k zb, q + 1 + 1 + 1, rfl, own_store1 HO7.out k zb, by rw [List.length_set]; exact HL17.out, ?_, by have := HQE.out; omega,
              HR7.out.setNew _ _ (by have := HN0.out; have := HGB.out; show N0 ≤ g; omega), grownBy_setCell_new HG7.out _ _ HGB.out⟩
            intro z hz
            rcases List.mem_or_eq_of_mem_set hz with h | rfl
            · exact HZ2.out z h
            · exact HZB.out
          · have e5' : (r5 == 0) = false := by simpa using e5
            clear e5 r50 r51
            go_wp2
            go_ret
            exact ⟨_, zs, q + 1, rfl, HO5.out, HL17.out, HZ2.out, by have := HQE.out; omega, HR5.out, HG5.out⟩
  · have e2' : (r2 == 0) = false := by simpa using e2
    obtain ⟨NN, eN⟩ : ∃ NN : Nat, 1 + r1 = (NN : Int) := ⟨(1 + r1).toNat, by omega⟩
    have HNN := Lib.hid (show NN ≤ 17 by omega)
    have OWN := HO2
    have GG := HG2
    have RR := HR2
    have QB := Lib.hid (show p + 2 ≤ p + 3 by omega)
    rw [eN]
    clear e2 r20 r21 eN r10 r11 HB1
    go_upto_region 5 with (fail)
    go_wp2
    go_loopw [3, 5] (fun o i wr => BodyRel N0 B p NN W o i wr) (fun _ i _ => NN - (intOf i).toNat)
    case atStart => exact ⟨[], _, rfl, by simp, OWN.out, by intro z hz; (try simp at hz), (show _ ≤ _ from Nat.le_trans QB.out (by simp)), RR.out, GG.out⟩
    case round =>
      obtain ⟨zs, q, rfl, hj, hrow, HZ, HQ, hRq, HG⟩ := hrel
      by_cases hlt : zs.length < NN
      · have hlt' : (zs.length : Int) < NN := by omega
        have HJ := Lib.hid (And.intro hlt HNN.out)
        have hz17 : (zs.length : Int) ≤ 17 := by have := HNN.out; omega
        have HRQ := Lib.hid hRq
        have HROW := Lib.hid hrow
        clear hj hlt hRq hrow
        go_wp2_with fail
        refine (HP.out q 256 (by omega) (by omega) _ (by have h5 := HQ.out; have h6 := HPP.out; have h7 := HJ.out; omega) HRQ.out).mono ?_
        rintro e W5 ⟨y, rfl, y0, y1, hR5, hg5⟩
        have hrow5 := own_reader1 HROW.out HLT.out hg5
        have hG5 := grownBy_trans HG.out hg5
        have HG5 := Lib.hid hG5
        have hltb := hrow5.lt
        have HR5 := Lib.hid hR5
        have HY := Lib.hid (And.intro y0 y1)
        have HB5 := Lib.hid hG5.size
        clear hg5 hR5 hG5 y0 y1
        go_wp2_with (at_builtin; refine wpList_append_own _ rfl _ _ 23 rfl W.heap.size 3 i0 (.int .i64 0) 1 8 Try.underlying23 hi hz0 hz1 hz2 rfl (by decide) _ _ _ rfl (hrow5.alloc _) ⟨W5.heap.size, 0, none⟩ 1 1 [.int .i64 y] rfl rfl (cell_int_new _ _ _) (fun x hx => by simp at hx; subst hx; rfl) (by have := HJ.out; unfold maxLen; omega) (by have := HJ.out; omega) (by have := HB5.out; simp; omega) ?_; intro v6 w6 ho6 hg6 hn6)
        have B6 : Below W.heap.size W5 w6 := ((Below.refl _ W5).alloc HB5.out _).grown hg6 (by have := HB5.out; simp; omega) (fun g e => (hltb g e).1)
        have hRd := HR5.out.kept (B6.mono HN0.out)
        have hGd : W.grownBy w6 (some B) := ⟨B6.os.trans HG5.out.os, B6.tape.trans HG5.out.tape, B6.output.trans HG5.out.output, Nat.le_trans HG5.out.size B6.size, fun k hk hne => (B6.block k hk).trans (HG5.out.block k hk hne)⟩
        go_roundw
        case rel =>
          refine ⟨zs ++ [y], q + 1, by rw [List.length_append]; go_num, by have := HJ.out; simp; omega, own_join1 (more := [y]) ho6, ?_, by have := HQ.out; show _ ≤ _; simp; omega, hRd, hGd⟩
          intro z hz
          rcases List.mem_append.1 hz with h | h
          · exact HZ.out z h
          · rw [List.mem_singleton.1 h]; have := HY.out; omega
        case measure => have := HJ.out; simp [intOf]; omega
      · have hjn : zs.length = NN := by omega
        have hge : ((NN : Nat) : Int) ≤ zs.length := by omega
        have HJN := Lib.hid hjn
        have HRQ := Lib.hid hRq
        have HROW := Lib.hid hrow
        have HZ2 : Hid (∀ z ∈ zs, (-1 : Int) ≤ z ∧ z ≤ 256) := by intro z hz; have := HZ.out z hz; omega
        have HL17 := Lib.hid (show zs.length ≤ 17 by have := HNN.out; omega)
        have HQE := Lib.hid (show q ≤ p + 20 by have h1 := HQ.out; have h2 := HNN.out; omega)
        have hN17 : (NN : Int) ≤ 17 := by have := HNN.out; omega
        clear hlt hj hjn hRq hrow
        by_cases h0 : NN = 0
        · subst h0
          go_wp2
          go_ret
          exact ⟨_, zs, q, rfl, HROW.out, HL17.out, HZ2.out, by have := HQE.out; omega, HRQ.out, HG.out⟩
        · have hN0 : (0 : Int) < NN := by omega
          have HNP := Lib.hid (show 0 < zs.length by have := HJN.out; omega)
          clear h0
          go_wp2_with fail
          refine (HP.out q 24 (by omega) (by omega) _ (by have h5 := HQE.out; have h6 := HPP.out; omega) HRQ.out).mono ?_
          rintro e W5 ⟨r5, rfl, r50, r51, hR5, hg5⟩
          have HO5 := Lib.hid (own_reader1 HROW.out HLT.out hg5)
          have HG5 := Lib.hid (grownBy_trans HG.out hg5)
          have HR5 := Lib.hid hR5
          clear hR5 hg5
          by_cases e5 : r5 = 0
          · subst e5
            clear r50 r51
            go_wp2_with fail
            refine (HP.out (q + 1) NN (by omega) (by omega) _ (by have h5 := HQE.out; have h6 := HPP.out; omega) HR5.out).mono ?_
            rintro e W6 ⟨r6, rfl, r60, r61, hR6, hg6⟩
            obtain ⟨k, rfl⟩ := Int.eq_ofNat_of_zero_le r60
            have HKL := Lib.hid (show k < zs.length by have := HJN.out; omega)
            obtain ⟨g, cap, rfl, hgb, -⟩ := own_slice1 HO5.out HNP.out
            have HO6 := Lib.hid (own_reader1 HO5.out HLT.out hg6)
            have HG6 := Lib.hid (grownBy_trans HG5.out hg6)
            have HR6 := Lib.hid hR6
            have HRC := Lib.hid (hR6.alloc (.cells #[.int .i64 (-1), .int .i64 256] 3))
            have HGB := Lib.hid hgb
            clear r60 hR6 hg6 hgb
            go_wp2_with fail
            refine (HP.out (q + 1 + 1) 2 (by omega) (by omega) _ (by have h5 := HQE.out; have h6 := HPP.out; omega) HRC.out).mono ?_
            rintro e W7 ⟨r7, rfl, r70, r71, hR7, hg7⟩
            obtain ⟨zb, hz1b, hz2b, hcb⟩ := pick_bad 3 HR6.out.lt hg7 r70 r71
            have HO7 := Lib.hid (own_reader1 (HO6.out.alloc _) HLT.out hg7)
            have HG7 := Lib.hid (grownBy_trans (grownBy_trans HG6.out (grownBy_new W6 _ _)) hg7)
            have HR7 := Lib.hid hR7
            have HZB := Lib.hid (And.intro hz1b hz2b)
            have c1 := own_cell1 HO7.out HKL.out
            have z1 := HO7.out.frozenAt k
            have hkl : (k : Int) < zs.length := by have := HKL.out; omega
            clear hR7 hg7 hz1b hz2b
            go_wp2
            go_ret
            refine ⟨_, zs.set k zb, q + 1 + 1 + 1, rfl, own_store1 HO7.out k zb, by rw [List.length_set]; exact HL17.out, ?_, by have := HQE.out; omega,
              HR7.out.setNew _ _ (by have := HN0.out; have := HGB.out; show N0 ≤ g; omega), grownBy_setCell_new HG7.out _ _ HGB.out⟩
            intro z hz
            rcases List.mem_or_eq_of_mem_set hz with h | rfl
            · exact HZ2.out z h
            · exact HZB.out
          · have e5' : (r5 == 0) = false := by simpa using e5
            clear e5 r50 r51
            go_wp2
            go_ret
            exact ⟨_, zs, q + 1, rfl, HO5.out, HL17.out, HZ2.out, by have := HQE.out; omega, HR5.out, HG5.out⟩

end Go.Proofs.Ytdlkofgapjdeaaa
