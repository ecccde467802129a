/-
  WALKS: the draws of disks.
-/
import Derived.Test.YtaehgdglbplomaaFf
import Derived.Test.YtaehgdglbplomaaJq
namespace Go.Proofs.Ytaehgdglbplomaa
open Go.RowKit
set_option linter.unusedVariables false

theorem jd_first : (0 : Nat) ≤ 0 := Nat.le_refl 0

/-- Drawn bytes, of the call's own. -/
def BytesDraw (N0 B p : Nat) (W : World) (e : Ending) (W' : World) : Prop :=
  ∃ (sl : Value) (zs : List Int) (q : Nat), e = .returned sl ∧ W'.ownsRow W.heap.size 3 1 sl zs.length (intsV zs) ∧ zs.length ≤ 200 ∧ (∀ z ∈ zs, -1 ≤ z ∧ z ≤ 256) ∧ q ≤ p + 206 ∧ RdAt N0 W' B q ∧ W.grownBy W' (some B)
def BytesRelD (N0 B p : Nat) (NN : Nat) (W : World) (o i : Value) (wr : World) : Prop :=
  ∃ (zs : List Int) (q : Nat), i = .int .i64 (zs.length : Nat) ∧ zs.length ≤ NN ∧ wr.ownsRow W.heap.size 3 1 o zs.length (intsV zs) ∧ Hid (∀ z ∈ zs, (0 : Int) ≤ z ∧ z ≤ 255) ∧ Hid (q ≤ p + 2 + zs.length) ∧ RdAt N0 wr B q ∧ Hid (W.grownBy wr (some B))

set_option maxHeartbeats 4000000 in
set_option maxRecDepth 100000 in
theorem l92Bytes_c (N0 B p : Nat) (W : World) (hp : p < 25000) (hR : RdAt N0 W B p) :
    Calls Try.prog 49 #[.pointer (some ⟨B, 0, none⟩)] W (BytesDraw N0 B p W) := by
  obtain ⟨i0, hi, hz0, hz1, hz2⟩ := info_parts infoInt
  have HLT := Lib.hid hR.lt
  have HP := Lib.hid (fun q n h1 h2 W hq hR => pick_c N0 B q n h1 h2 W hq hR)
  have HPP := Lib.hid hp
  have HN0 := Lib.hid hR.le
  have HRA := Lib.hid (hR.alloc (.cells #[] 3))
  have HOA := Lib.hid (World.ownsRow_lit (e := 3) (size := 1) W #[] 0 (Nat.le_refl _) (by simp [maxLen]) rfl)
  clear hp hR
  go_enter Try.func49, Try.ntmps49
  go_upto_region 2 with (fail)
  go_wp2_with fail
  refine (HP.out p 8 (by omega) (by omega) _ (by have := HPP.out; omega) HRA.out).mono ?_
  rintro e W1 ⟨r1, rfl, r10, r11, hR1, hg1⟩
  have HR1 := Lib.hid hR1
  have HO1 := Lib.hid (own_reader1 HOA.out HLT.out hg1)
  have HG1 := Lib.hid (grownBy_trans (grownBy_new W _ _) hg1)
  obtain ⟨NN, rfl⟩ := Int.eq_ofNat_of_zero_le r10
  have hN8 := Lib.hid (show NN ≤ 200 by omega)
  clear hR1 hg1
  go_wp2_with fail
  refine (HP.out (p + 1) 20 (by omega) (by omega) _ (by have := HPP.out; omega) HR1.out).mono ?_
  rintro e W2 ⟨r2, rfl, r20, r21, hR2, hg2⟩
  have OWN := Lib.hid (own_reader1 HO1.out HLT.out hg2)
  have GG := Lib.hid (grownBy_trans HG1.out hg2)
  have RR := Lib.hid hR2
  have QB := Lib.hid (show p + 1 + 1 ≤ p + 2 by omega)
  clear hR2 hg2 HRA HOA HR1 HO1 HG1
  by_cases e2 : r2 = 0
  · subst e2
    clear r20 r21 r10 r11 hN8
    obtain ⟨NN, hNN⟩ : ∃ NN : Nat, NN = 200 := ⟨_, rfl⟩
    have h200 : (200 : Int) = (NN : Int) := by omega
    have HNN := Lib.hid (show NN ≤ 200 by omega)
    go_upto_region 5 with (fail)
    rw [h200]
    clear h200 hNN
    go_wp2
    go_loopw [3, 5] (fun o i wr => BytesRelD N0 B p NN W o i wr) (fun _ i _ => NN - (intOf i).toNat)
    case atStart => exact ⟨[], _, rfl, by simp, OWN.out, by intro z hz; (try simp at hz), (show _ ≤ _ from Nat.le_trans QB.out (by simp)), RR.out, GG.out⟩
    case round =>
      obtain ⟨zs, q, rfl, hj, hrow, HZ, HQ, hRq, HG⟩ := hrel
      by_cases hlt : zs.length < NN
      · have hlt' : (zs.length : Int) < NN := by omega
        have HJ := Lib.hid (And.intro hlt HNN.out)
        have hz17 : (zs.length : Int) ≤ 200 := by have := HNN.out; omega
        have HRQ := Lib.hid hRq
        have HROW := Lib.hid hrow
        clear hj hlt hRq hrow
        go_wp2_with fail
        refine (HP.out q 256 (by omega) (by omega) _ (by have h5 := HQ.out; have h6 := HPP.out; have h7 := HJ.out; omega) HRQ.out).mono ?_
        rintro e W5 ⟨y, rfl, y0, y1, hR5, hg5⟩
        have hrow5 := own_reader1 HROW.out HLT.out hg5
        have hG5 := grownBy_trans HG.out hg5
        have HG5 := Lib.hid hG5
        have hltb := hrow5.lt
        have HR5 := Lib.hid hR5
        have HY := Lib.hid (And.intro y0 y1)
        have HB5 := Lib.hid hG5.size
        clear hg5 hR5 hG5 y0 y1
        go_wp2_with (at_builtin; refine wpList_append_own _ rfl _ _ 24 rfl W.heap.size 3 i0 (.int .i64 0) 1 8 Try.underlying24 hi hz0 hz1 hz2 rfl (by decide) _ _ _ rfl (hrow5.alloc _) ⟨W5.heap.size, 0, none⟩ 1 1 [.int .i64 y] rfl rfl (cell_int_new _ _ _) (fun x hx => by simp at hx; subst hx; rfl) (by have := HJ.out; unfold maxLen; omega) (by have := HJ.out; omega) (by have := HB5.out; simp; omega) ?_; intro v6 w6 ho6 hg6 hn6)
        have B6 : Below W.heap.size W5 w6 := ((Below.refl _ W5).alloc HB5.out _).grown hg6 (by have := HB5.out; simp; omega) (fun g e => (hltb g e).1)
        have hRd := HR5.out.kept (B6.mono HN0.out)
        have hGd : W.grownBy w6 (some B) := ⟨B6.os.trans HG5.out.os, B6.tape.trans HG5.out.tape, B6.output.trans HG5.out.output, Nat.le_trans HG5.out.size B6.size, fun k hk hne => (B6.block k hk).trans (HG5.out.block k hk hne)⟩
        go_roundw
        case rel =>
          refine ⟨zs ++ [y], q + 1, by rw [List.length_append]; go_num, by have := HJ.out; simp; omega, own_join1 (more := [y]) ho6, ?_, by have := HQ.out; show _ ≤ _; simp; omega, hRd, hGd⟩
          intro z hz
          rcases List.mem_append.1 hz with h | h
          · exact HZ.out z h
          · rw [List.mem_singleton.1 h]; have := HY.out; omega
        case measure => have := HJ.out; simp [intOf]; omega
      · have hjn : zs.length = NN := by omega
        have hge : ((NN : Nat) : Int) ≤ zs.length := by omega
        have HJN := Lib.hid hjn
        have HRQ := Lib.hid hRq
        have HROW := Lib.hid hrow
        have HZ2 : Hid (∀ z ∈ zs, (-1 : Int) ≤ z ∧ z ≤ 256) := by intro z hz; have := HZ.out z hz; omega
        have HL17 := Lib.hid (show zs.length ≤ 200 by have := HNN.out; omega)
        have HQE := Lib.hid (show q ≤ p + 202 by have h1 := HQ.out; have h2 := HNN.out; omega)
        have hN17 : (NN : Int) ≤ 200 := by have := HNN.out; omega
        clear hlt hj hjn hRq hrow
        by_cases h0 : NN = 0
        · subst h0
          go_wp2
          go_ret
          exact ⟨_, zs, q, rfl, HROW.out, HL17.out, HZ2.out, by have := HQE.out; omega, HRQ.out, HG.out⟩
        · have hN0 : (0 : Int) < NN := by omega
          have HNP := Lib.hid (show 0 < zs.length by have := HJN.out; omega)
          clear h0
          go_wp2_with fail
          refine (HP.out q 30 (by omega) (by omega) _ (by have h5 := HQE.out; have h6 := HPP.out; omega) HRQ.out).mono ?_
          rintro e W5 ⟨r5, rfl, r50, r51, hR5, hg5⟩
          have HO5 := Lib.hid (own_reader1 HROW.out HLT.out hg5)
          have HG5 := Lib.hid (grownBy_trans HG.out hg5)
          have HR5 := Lib.hid hR5
          clear hR5 hg5
          by_cases e5 : r5 = 0
          · subst e5
            clear r50 r51
            go_wp2_with fail
            refine (HP.out (q + 1) NN (by omega) (by omega) _ (by have h5 := HQE.out; have h6 := HPP.out; omega) HR5.out).mono ?_
            rintro e W6 ⟨r6, rfl, r60, r61, hR6, hg6⟩
            obtain ⟨k, rfl⟩ := Int.eq_ofNat_of_zero_le r60
            have HKL := Lib.hid (show k < zs.length by have := HJN.out; omega)
            obtain ⟨g, cap, rfl, hgb, -⟩ := own_slice1 HO5.out HNP.out
            have HO6 := Lib.hid (own_reader1 HO5.out HLT.out hg6)
            have HG6 := Lib.hid (grownBy_trans HG5.out hg6)
            have HR6 := Lib.hid hR6
            have HRC := Lib.hid (hR6.alloc (.cells #[.int .i64 (-1), .int .i64 256] 3))
            have HGB := Lib.hid hgb
            clear r60 hR6 hg6 hgb
            go_wp2_with fail
            refine (HP.out (q + 1 + 1) 2 (by omega) (by omega) _ (by have h5 := HQE.out; have h6 := HPP.out; omega) HRC.out).mono ?_
            rintro e W7 ⟨r7, rfl, r70, r71, hR7, hg7⟩
            obtain ⟨zb, hz1b, hz2b, hcb⟩ := pick_bad 3 HR6.out.lt hg7 r70 r71
            have HO7 := Lib.hid (own_reader1 (HO6.out.alloc _) HLT.out hg7)
            have HG7 := Lib.hid (grownBy_trans (grownBy_trans HG6.out (grownBy_new W6 _ _)) hg7)
            have HR7 := Lib.hid hR7
            have HZB := Lib.hid (And.intro hz1b hz2b)
            have c1 := own_cell1 HO7.out HKL.out
            have z1 := HO7.out.frozenAt k
            have hkl : (k : Int) < zs.length := by have := HKL.out; omega
            clear hR7 hg7 hz1b hz2b
            go_wp2
            go_ret
            refine ⟨_, zs.set k zb, q + 1 + 1 + 1, rfl, own_store1 HO7.out k zb, by rw [List.length_set]; exact HL17.out, ?_, by have := HQE.out; omega,
              HR7.out.setNew _ _ (by have := HN0.out; have := HGB.out; show N0 ≤ g; omega), grownBy_setCell_new HG7.out _ _ HGB.out⟩
            intro z hz
            rcases List.mem_or_eq_of_mem_set hz with h | rfl
            · exact HZ2.out z h
            · exact HZB.out
          · have e5' : (r5 == 0) = false := by simpa using e5
            clear e5 r50 r51
            go_wp2
            go_ret
            exact ⟨_, zs, q + 1, rfl, HO5.out, HL17.out, HZ2.out, by have := HQE.out; omega, HR5.out, HG5.out⟩
  · have e2' : (r2 == 0) = false := by simpa using e2
    have HNN := hN8
    clear e2 r20 r21 r10 r11 hN8
    go_upto_region 5 with (fail)
    go_wp2
    go_loopw [3, 5] (fun o i wr => BytesRelD N0 B p NN W o i wr) (fun _ i _ => NN - (intOf i).toNat)
    case atStart => exact ⟨[], _, rfl, by simp, OWN.out, by intro z hz; (try simp at hz), (show _ ≤ _ from Nat.le_trans QB.out (by simp)), RR.out, GG.out⟩
    case round =>
      obtain ⟨zs, q, rfl, hj, hrow, HZ, HQ, hRq, HG⟩ := hrel
      by_cases hlt : zs.length < NN
      · have hlt' : (zs.length : Int) < NN := by omega
        have HJ := Lib.hid (And.intro hlt HNN.out)
        have hz17 : (zs.length : Int) ≤ 200 := by have := HNN.out; omega
        have HRQ := Lib.hid hRq
        have HROW := Lib.hid hrow
        clear hj hlt hRq hrow
        go_wp2_with fail
        refine (HP.out q 256 (by omega) (by omega) _ (by have h5 := HQ.out; have h6 := HPP.out; have h7 := HJ.out; omega) HRQ.out).mono ?_
        rintro e W5 ⟨y, rfl, y0, y1, hR5, hg5⟩
        have hrow5 := own_reader1 HROW.out HLT.out hg5
        have hG5 := grownBy_trans HG.out hg5
        have HG5 := Lib.hid hG5
        have hltb := hrow5.lt
        have HR5 := Lib.hid hR5
        have HY := Lib.hid (And.intro y0 y1)
        have HB5 := Lib.hid hG5.size
        clear hg5 hR5 hG5 y0 y1
        go_wp2_with (at_builtin; refine wpList_append_own _ rfl _ _ 24 rfl W.heap.size 3 i0 (.int .i64 0) 1 8 Try.underlying24 hi hz0 hz1 hz2 rfl (by decide) _ _ _ rfl (hrow5.alloc _) ⟨W5.heap.size, 0, none⟩ 1 1 [.int .i64 y] rfl rfl (cell_int_new _ _ _) (fun x hx => by simp at hx; subst hx; rfl) (by have := HJ.out; unfold maxLen; omega) (by have := HJ.out; omega) (by have := HB5.out; simp; omega) ?_; intro v6 w6 ho6 hg6 hn6)
        have B6 : Below W.heap.size W5 w6 := ((Below.refl _ W5).alloc HB5.out _).grown hg6 (by have := HB5.out; simp; omega) (fun g e => (hltb g e).1)
        have hRd := HR5.out.kept (B6.mono HN0.out)
        have hGd : W.grownBy w6 (some B) := ⟨B6.os.trans HG5.out.os, B6.tape.trans HG5.out.tape, B6.output.trans HG5.out.output, Nat.le_trans HG5.out.size B6.size, fun k hk hne => (B6.block k hk).trans (HG5.out.block k hk hne)⟩
        go_roundw
        case rel =>
          refine ⟨zs ++ [y], q + 1, by rw [List.length_append]; go_num, by have := HJ.out; simp; omega, own_join1 (more := [y]) ho6, ?_, by have := HQ.out; show _ ≤ _; simp; omega, hRd, hGd⟩
          intro z hz
          rcases List.mem_append.1 hz with h | h
          · exact HZ.out z h
          · rw [List.mem_singleton.1 h]; have := HY.out; omega
        case measure => have := HJ.out; simp [intOf]; omega
      · have hjn : zs.length = NN := by omega
        have hge : ((NN : Nat) : Int) ≤ zs.length := by omega
        have HJN := Lib.hid hjn
        have HRQ := Lib.hid hRq
        have HROW := Lib.hid hrow
        have HZ2 : Hid (∀ z ∈ zs, (-1 : Int) ≤ z ∧ z ≤ 256) := by intro z hz; have := HZ.out z hz; omega
        have HL17 := Lib.hid (show zs.length ≤ 200 by have := HNN.out; omega)
        have HQE := Lib.hid (show q ≤ p + 202 by have h1 := HQ.out; have h2 := HNN.out; omega)
        have hN17 : (NN : Int) ≤ 200 := by have := HNN.out; omega
        clear hlt hj hjn hRq hrow
        by_cases h0 : NN = 0
        · subst h0
          go_wp2
          go_ret
          exact ⟨_, zs, q, rfl, HROW.out, HL17.out, HZ2.out, by have := HQE.out; omega, HRQ.out, HG.out⟩
        · have hN0 : (0 : Int) < NN := by omega
          have HNP := Lib.hid (show 0 < zs.length by have := HJN.out; omega)
          clear h0
          go_wp2_with fail
          refine (HP.out q 30 (by omega) (by omega) _ (by have h5 := HQE.out; have h6 := HPP.out; omega) HRQ.out).mono ?_
          rintro e W5 ⟨r5, rfl, r50, r51, hR5, hg5⟩
          have HO5 := Lib.hid (own_reader1 HROW.out HLT.out hg5)
          have HG5 := Lib.hid (grownBy_trans HG.out hg5)
          have HR5 := Lib.hid hR5
          clear hR5 hg5
          by_cases e5 : r5 = 0
          · subst e5
            clear r50 r51
            go_wp2_with fail
            refine (HP.out (q + 1) NN (by omega) (by omega) _ (by have h5 := HQE.out; have h6 := HPP.out; omega) HR5.out).mono ?_
            rintro e W6 ⟨r6, rfl, r60, r61, hR6, hg6⟩
            obtain ⟨k, rfl⟩ := Int.eq_ofNat_of_zero_le r60
            have HKL := Lib.hid (show k < zs.length by have := HJN.out; omega)
            obtain ⟨g, cap, rfl, hgb, -⟩ := own_slice1 HO5.out HNP.out
            have HO6 := Lib.hid (own_reader1 HO5.out HLT.out hg6)
            have HG6 := Lib.hid (grownBy_trans HG5.out hg6)
            have HR6 := Lib.hid hR6
            have HRC := Lib.hid (hR6.alloc (.cells #[.int .i64 (-1), .int .i64 256] 3))
            have HGB := Lib.hid hgb
            clear r60 hR6 hg6 hgb
            go_wp2_with fail
            refine (HP.out (q + 1 + 1) 2 (by omega) (by omega) _ (by have h5 := HQE.out; have h6 := HPP.out; omega) HRC.out).mono ?_
            rintro e W7 ⟨r7, rfl, r70, r71, hR7, hg7⟩
            obtain ⟨zb, hz1b, hz2b, hcb⟩ := pick_bad 3 HR6.out.lt hg7 r70 r71
            have HO7 := Lib.hid (own_reader1 (HO6.out.alloc _) HLT.out hg7)
            have HG7 := Lib.hid (grownBy_trans (grownBy_trans HG6.out (grownBy_new W6 _ _)) hg7)
            have HR7 := Lib.hid hR7
            have HZB := Lib.hid (And.intro hz1b hz2b)
            have c1 := own_cell1 HO7.out HKL.out
            have z1 := HO7.out.frozenAt k
            have hkl : (k : Int) < zs.length := by have := HKL.out; omega
            clear hR7 hg7 hz1b hz2b
            go_wp2
            go_ret
            refine ⟨_, zs.set k zb, q + 1 + 1 + 1, rfl, own_store1 HO7.out k zb, by rw [List.length_set]; exact HL17.out, ?_, by have := HQE.out; omega,
              HR7.out.setNew _ _ (by have := HN0.out; have := HGB.out; show N0 ≤ g; omega), grownBy_setCell_new HG7.out _ _ HGB.out⟩
            intro z hz
            rcases List.mem_or_eq_of_mem_set hz with h | rfl
            · exact HZ2.out z h
            · exact HZB.out
          · have e5' : (r5 == 0) = false := by simpa using e5
            clear e5 r50 r51
            go_wp2
            go_ret
            exact ⟨_, zs, q + 1, rfl, HO5.out, HL17.out, HZ2.out, by have := HQE.out; omega, HR5.out, HG5.out⟩

/-- A drawn number of a file. -/
def NameDraw (N0 B p : Nat) (W : World) (e : Ending) (W' : World) : Prop :=
  ∃ (n : Int) (q : Nat), e = .returned (.int .i64 n) ∧ (0 ≤ n ∧ n ≤ 4) ∧ q ≤ p + 2 ∧ RdAt N0 W' B q ∧ W.grownBy W' (some B)

set_option maxHeartbeats 1000000 in
set_option maxRecDepth 100000 in
theorem l92Name_c (N0 B p : Nat) (W : World) (hp : p < 29000) (hR : RdAt N0 W B p) :
    Calls Try.prog 48 #[.pointer (some ⟨B, 0, none⟩)] W (NameDraw N0 B p W) := by
  have HP := Lib.hid (fun q n h1 h2 W hq hR => pick_c N0 B q n h1 h2 W hq hR)
  have HPP := Lib.hid hp
  have HR0 := Lib.hid hR
  clear hp hR
  go_enter Try.func48, Try.ntmps48
  go_wp2_with fail
  refine (HP.out p 16 (by omega) (by omega) _ (by have := HPP.out; omega) HR0.out).mono ?_
  rintro e W1 ⟨r1, rfl, r10, r11, hR1, hg1⟩
  have HR1 := Lib.hid hR1
  have HG1 := Lib.hid hg1
  clear hR1 hg1
  by_cases e1 : r1 = 0
  · subst e1
    clear r10 r11
    go_wp2_with fail
    refine (HP.out (p + 1) 2 (by omega) (by omega) _ (by have := HPP.out; omega) HR1.out).mono ?_
    rintro e W2 ⟨r2, rfl, r20, r21, hR2, hg2⟩
    have HR2 := Lib.hid hR2
    have HG2 := Lib.hid (grownBy_trans HG1.out hg2)
    have hw : IntKind.i64.wrap (r2 * 4) = r2 * 4 := IntWalk.i64_in _ (by omega)
    have HB2 := Lib.hid (show 0 ≤ r2 * 4 ∧ r2 * 4 ≤ 4 by omega)
    clear hR2 hg2
    go_wp2
    go_ret
    exact ⟨_, p + 1 + 1, rfl, HB2.out, by omega, HR2.out, HG2.out⟩
  · have e1' : (r1 == 0) = false := by simpa using e1
    clear e1 r10 r11
    go_wp2_with fail
    refine (HP.out (p + 1) 3 (by omega) (by omega) _ (by have := HPP.out; omega) HR1.out).mono ?_
    rintro e W2 ⟨r2, rfl, r20, r21, hR2, hg2⟩
    have HR2 := Lib.hid hR2
    have HG2 := Lib.hid (grownBy_trans HG1.out hg2)
    have hw : IntKind.i64.wrap (1 + r2) = 1 + r2 := IntWalk.i64_in _ (by omega)
    have HB2 := Lib.hid (show 0 ≤ 1 + r2 ∧ 1 + r2 ≤ 4 by omega)
    clear hR2 hg2
    go_wp2
    go_ret
    exact ⟨_, p + 1 + 1, rfl, HB2.out, by omega, HR2.out, HG2.out⟩

/-! ## Disks -/

/-- A row of the call's own does not mind the reader. -/
theorem own_readerN {W0 W W' : World} {B n size : Nat} {e : TypeId} {v : Value} {xs : List Value} (h : W.ownsRow W0.heap.size e size v n xs) (hB : B < W0.heap.size) (hg : W.grownBy W' (some B)) : W'.ownsRow W0.heap.size e size v n xs := by
  refine h.kept hg ?_
  have hlt := h.lt
  cases hv : v.ownBlock with
  | none => simp
  | some g => have := (hlt g hv).1; simp; omega
/-- Lists of the call's own, some perhaps twice. -/
def OwnAll (W : World) (base : Nat) (vs : List Value) (zss : List (List Int)) : Prop := vs.length = zss.length ∧ ∀ (i : Nat) (z : List Int) (v : Value), zss[i]? = some z → vs[i]? = some v → W.ownsRow base 3 1 v z.length (intsV z)
theorem OwnAll.ls {W : World} {base : Nat} {vs : List Value} {zss : List (List Int)} (h : OwnAll W base vs zss) : LsAll W vs zss := ⟨h.1, fun i z v hz hv => ls_of_own (h.2 i z v hz hv)⟩
theorem OwnAll.reader {W0 W W' : World} {B : Nat} {vs : List Value} {zss : List (List Int)} (h : OwnAll W W0.heap.size vs zss) (hB : B < W0.heap.size) (hg : W.grownBy W' (some B)) : OwnAll W' W0.heap.size vs zss := ⟨h.1, fun i z v hz hv => own_reader1 (h.2 i z v hz hv) hB hg⟩
theorem OwnAll.below {W W' : World} {base : Nat} {vs : List Value} {zss : List (List Int)} (h : OwnAll W base vs zss) (hb : Below W.heap.size W W') : OwnAll W' base vs zss := ⟨h.1, fun i z v hz hv => own_below1 (h.2 i z v hz hv) hb⟩
theorem OwnAll.down {W : World} {b c : Nat} {vs : List Value} {zss : List (List Int)} (h : OwnAll W c vs zss) (hbc : b ≤ c) : OwnAll W b vs zss := ⟨h.1, fun i z v hz hv => own_mono1 (h.2 i z v hz hv) hbc⟩
theorem OwnAll.grownB {W W' : World} {base b n : Nat} {vs ys : List Value} {bs : List (List Int)} {o : Value} (h : OwnAll W base vs bs) (ho : W.ownsRow b 45 3 o n ys) (hg : W.grownBy W' o.ownBlock) : OwnAll W' base vs bs :=
  ⟨h.1, fun i z v hz hv => own_farT (h.2 i z v hz hv) hg (own_types (h.2 i z v hz hv) ho (by decide))⟩
theorem OwnAll.push {W : World} {base : Nat} {vs : List Value} {zss : List (List Int)} {v : Value} {z : List Int} (h : OwnAll W base vs zss) (hv : W.ownsRow base 3 1 v z.length (intsV z)) : OwnAll W base (vs ++ [v]) (zss ++ [z]) := by
  refine ⟨by simp [h.1], fun i z' v' hz hv' => ?_⟩
  by_cases hi : i < zss.length
  · rw [List.getElem?_append_left hi] at hz
    rw [List.getElem?_append_left (by have := h.1; omega)] at hv'
    exact h.2 i z' v' hz hv'
  · have e1 : i = zss.length := by
      have := (List.getElem?_eq_some_iff.1 hz).1
      simp at this; omega
    subst e1
    rw [List.getElem?_append_right (Nat.le_refl _)] at hz
    rw [← h.1, List.getElem?_append_right (Nat.le_refl _)] at hv'
    simp at hz hv'
    subst hz; subst hv'
    exact hv

/-- Drawn files: each list at most 200 long. -/
def SmallB (bs : List Bl) : Prop := ∀ b ∈ bs, b.s.length ≤ 200 ∧ b.f.length ≤ 200
/-- A drawn disk in the call's own memory. -/
def DiskAt (W : World) (base : Nat) (sl : Value) (bs : List Bl) (vs : List Value) : Prop := W.ownsRow base 45 3 sl bs.length (flatB bs vs) ∧ OwnAll W base vs (listsB bs)
theorem DiskAt.reader {W0 W W' : World} {B : Nat} {sl : Value} {bs : List Bl} {vs : List Value} (h : DiskAt W W0.heap.size sl bs vs) (hB : B < W0.heap.size) (hg : W.grownBy W' (some B)) : DiskAt W' W0.heap.size sl bs vs := ⟨own_readerN h.1 hB hg, h.2.reader hB hg⟩
theorem DiskAt.below {W W' : World} {base : Nat} {sl : Value} {bs : List Bl} {vs : List Value} (h : DiskAt W base sl bs vs) (hb : Below W.heap.size W W') : DiskAt W' base sl bs vs := ⟨own_below1 h.1 hb, h.2.below hb⟩
theorem DiskAt.vlen {W : World} {base : Nat} {sl : Value} {bs : List Bl} {vs : List Value} (h : DiskAt W base sl bs vs) : vs.length = 2 * bs.length := by rw [h.2.1, listsB_len]
theorem DiskAt.grown {W w3 : World} {base : Nat} {sl v3 : Value} {bs : List Bl} {vs : List Value} {x : Bl} {p q : Value} (h : DiskAt W base sl bs vs) (hp : W.ownsRow base 3 1 p x.s.length (intsV x.s)) (hq : W.ownsRow base 3 1 q x.f.length (intsV x.f))
    (ho : w3.ownsRow base 45 3 v3 (bs ++ [x]).length (flatB (bs ++ [x]) (vs ++ [p, q]))) (hg : W.grownBy w3 sl.ownBlock) : DiskAt w3 base v3 (bs ++ [x]) (vs ++ [p, q]) := by
  refine ⟨ho, ?_⟩
  have := ((h.2.push hp).push hq).grownB h.1 hg
  rw [listsB_append]
  rwa [List.append_assoc, List.append_assoc] at this
theorem DiskAt.at {W : World} {base : Nat} {sl : Value} {bs : List Bl} {vs : List Value} (h : DiskAt W base sl bs vs) : ∃ a c, sl = .slice a bs.length c ∧ BlobsAt W a bs.length bs ∧ bs.length ≤ c ∧ c ≤ maxLen ∧ (a = none → c = 0) := blobs_of h.1 h.2.ls
theorem DiskAt.down {W : World} {b c : Nat} {sl : Value} {bs : List Bl} {vs : List Value} (h : DiskAt W c sl bs vs) (hbc : b ≤ c) : DiskAt W b sl bs vs := ⟨own_mono1 h.1 hbc, h.2.down hbc⟩

/-- A drawn disk. -/
def DiskDraw (N0 B p : Nat) (W : World) (e : Ending) (W' : World) : Prop :=
  ∃ (sl : Value) (vs : List Value) (bs : List Bl) (q : Nat), e = .returned sl ∧ DiskAt W' W.heap.size sl bs vs ∧ bs.length ≤ 4 ∧ SmallB bs ∧ q ≤ p + 1300 ∧ RdAt N0 W' B q ∧ W.grownBy W' (some B)
def DiskRel (N0 B p : Nat) (W : World) (o k : Value) (wr : World) : Prop :=
  ∃ (j : Nat) (vs : List Value) (bs : List Bl) (q : Nat), k = .int .i64 ((j : Int) + 1) ∧ j ≤ 3 ∧ Hid (DiskAt wr W.heap.size o bs vs) ∧ Hid (bs.length ≤ j) ∧ Hid (SmallB bs) ∧ Hid (q ≤ p + 413 * j) ∧ Hid (RdAt N0 wr B q) ∧ Hid (W.grownBy wr (some B))
theorem grown_then {W W1 w6 : World} {B : Nat} (h : W.grownBy W1 (some B)) (k : Below W.heap.size W1 w6) : W.grownBy w6 (some B) :=
  ⟨k.os.trans h.os, k.tape.trans h.tape, k.output.trans h.output, Nat.le_trans h.size k.size, fun i hi hne => (k.block i hi).trans (h.block i hi hne)⟩
theorem small_push {bs : List Bl} {x : Bl} (h : SmallB bs) (hx : x.s.length ≤ 200 ∧ x.f.length ≤ 200) : SmallB (bs ++ [x]) := by
  intro b hb
  rcases List.mem_append.1 hb with hb | hb
  · exact h b hb
  · rw [List.mem_singleton.1 hb]; exact hx
theorem diskAt_set {W : World} {base g cap : Nat} {bs : List Bl} {vs : List Value} {x : Bl} (h : DiskAt W base (.slice (some ⟨g, 0, none⟩) bs.length cap) bs vs) (hx : bs[0]? = some x) (z : Int) :
    DiskAt (W.setCell ⟨g, 0, none⟩ (.int .i64 z)) base (.slice (some ⟨g, 0, none⟩) bs.length cap) (bs.set 0 ⟨z, x.s, x.f⟩) vs := by
  have hl := (List.getElem?_eq_some_iff.1 hx).1
  have ho := (h.1.stored 0 (.int .i64 z)).1
  have hf := flatB_set0 bs vs 0 ⟨z, x.s, x.f⟩ h.vlen hl
  have hls := listsB_same bs 0 x ⟨z, x.s, x.f⟩ hx rfl rfl
  refine ⟨?_, ?_⟩
  · rw [List.length_set, ← hf]
    exact ho
  · rw [hls]
    exact ⟨h.2.1, fun i y v hy hv => own_farT (row := .slice (some ⟨g, 0, none⟩) bs.length cap) (h.2.2 i y v hy hv) (grownBy_setCell_at W g 0 _) (own_types (h.2.2 i y v hy hv) h.1 (by decide))⟩

theorem diskAt_lit (W : World) : DiskAt (W.alloc (.cells #[] 45)) W.heap.size (.slice (some ⟨W.heap.size, 0, none⟩) 0 0) [] [] :=
  ⟨World.ownsRow_lit (e := 45) (size := 3) W #[] 0 (Nat.le_refl _) (by simp [maxLen]) rfl, rfl, by intro i z v hz; simp [listsB] at hz⟩
theorem diskAt_first {W : World} {base : Nat} {sl : Value} {bs : List Bl} {vs : List Value} (h : DiskAt W base sl bs vs) (h0 : 0 < bs.length) :
    ∃ g cap x p q, sl = .slice (some ⟨g, 0, none⟩) bs.length cap ∧ base ≤ g ∧ g < W.heap.size ∧ bs[0]? = some x ∧ W.cell? ⟨g, 0, none⟩ = some (.int .i64 x.n) ∧ W.cell? ⟨g, 1, none⟩ = some p ∧ W.cell? ⟨g, 2, none⟩ = some q ∧
      W.ownsRow base 3 1 p x.s.length (intsV x.s) ∧ W.ownsRow base 3 1 q x.f.length (intsV x.f) ∧ W.frozen? ⟨g, 0, none⟩ = false := by
  have hv := h.vlen
  have ha := h.2.2
  have ho := h.1
  obtain ⟨x, hx⟩ : ∃ x, bs[0]? = some x := ⟨_, List.getElem?_eq_getElem h0⟩
  obtain ⟨u, v, hu, hv', f0, f1, f2⟩ := flatB_get bs vs 0 x hv hx
  obtain ⟨l0, l1⟩ := listsB_get bs 0 x hx
  rcases h.1.2 with ⟨rfl, h1⟩ | ⟨g, cap, cur, rfl, h1, h2, h3, h4, h5, h6⟩
  · omega
  · refine ⟨g, cap, x, u, v, rfl, h1, (Array.getElem?_eq_some_iff.1 h2).1, hx, ?_, ?_, ?_, ha _ _ _ l0 hu, ha _ _ _ l1 hv', ho.frozenAt 0⟩
    · rw [ho.cellAt 0 (by omega)]; exact f0
    · rw [ho.cellAt 1 (by omega)]; exact f1
    · rw [ho.cellAt 2 (by omega)]; exact f2
theorem small_set {bs : List Bl} {x : Bl} (h : SmallB bs) (hx : bs[0]? = some x) (z : Int) : SmallB (bs.set 0 ⟨z, x.s, x.f⟩) := by
  intro b hb
  rcases List.mem_or_eq_of_mem_set hb with hb | rfl
  · exact h b hb
  · exact h x (List.mem_of_getElem? hx)
theorem pick_three {W W' : World} {B : Nat} {r : Int} (t : TypeId) (hB : B < W.heap.size) (hg : (W.alloc (.cells #[.int .i64 0, .int .i64 3, .int .i64 4] t)).grownBy W' (some B)) (h0 : 0 ≤ r) (h1 : r < 3) :
    ∃ z : Int, W'.cell? ⟨W.heap.size, r.toNat, none⟩ = some (.int .i64 z) := by
  have hb := hg.block W.heap.size (by simp) (by simp; omega)
  have hr : r = 0 ∨ r = 1 ∨ r = 2 := by omega
  rcases hr with rfl | rfl | rfl
  · exact ⟨0, by rw [World.cell?_of_block hb, World.cell?_alloc_new]; rfl⟩
  · exact ⟨3, by rw [World.cell?_of_block hb, World.cell?_alloc_new]; rfl⟩
  · exact ⟨4, by rw [World.cell?_of_block hb, World.cell?_alloc_new]; rfl⟩

set_option maxHeartbeats 4000000 in
set_option maxRecDepth 100000 in
theorem l92Disk_c (N0 B p : Nat) (W : World) (hp : p < 20000) (hR : RdAt N0 W B p) :
    Calls Try.prog 47 #[.pointer (some ⟨B, 0, none⟩)] W (DiskDraw N0 B p W) := by
  have HLT := Lib.hid hR.lt
  have HP := Lib.hid (fun q n h1 h2 W hq hR => pick_c N0 B q n h1 h2 W hq hR)
  have HBY := Lib.hid (fun q W hq hR => l92Bytes_c N0 B q W hq hR)
  have HPP := Lib.hid hp
  have HN0 := Lib.hid hR.le
  have HRA := Lib.hid (hR.alloc (.cells #[] 45))
  have HOA := Lib.hid (diskAt_lit W)
  have HGA := Lib.hid (grownBy_new W (.cells #[] 45) (some B))
  clear hp hR
  go_enter Try.func47, Try.ntmps47
  go_wp2_with fail
  go_loopw [3, 4, 5] (fun o k _ wr => DiskRel N0 B p W o k wr) (fun _ k _ _ => 4 - (intOf k).toNat)
  case atStart => exact ⟨0, [], [], p, rfl, by omega, HOA.out, Lib.hid (Nat.le_refl _), Lib.hid (by intro b hb; cases hb), Lib.hid (by omega), HRA.out, HGA.out⟩
  case round =>
    obtain ⟨j, vs, bs, q, rfl, hj, HD, HLN, HSM, HQ, HRd, HG⟩ := hrel
    by_cases hlt : j < 3
    · have hlt' : (j : Int) + 1 ≤ 3 := by omega
      have HJ := Lib.hid hlt
      clear hj hlt
      go_wp2_with fail
      refine (HP.out q 3 (by omega) (by omega) _ (by have h5 := HQ.out; have h6 := HPP.out; have := HJ.out; omega) HRd.out).mono ?_
      rintro e W1 ⟨r1, rfl, r10, r11, hR1, hg1⟩
      have HR1 := Lib.hid hR1
      have HD1 := Lib.hid (HD.out.reader HLT.out hg1)
      have HG1 := Lib.hid (grownBy_trans HG.out hg1)
      clear hR1 hg1
      by_cases e1 : r1 = 0
      · subst e1
        clear r10 r11
        go_wp2
        go_roundw
        case rel => exact ⟨j + 1, vs, bs, q + 1, by go_num, HJ.out, HD1.out, Lib.hid (by have := HLN.out; omega), HSM, Lib.hid (by have := HQ.out; omega), HR1.out, HG1.out⟩
        case measure => have := HJ.out; simp [intOf]; omega
      · have e1' : (0 : Int) < r1 := by omega
        clear e1 r10 r11
        go_wp2_with fail
        refine (HBY.out (q + 1) _ (by have h5 := HQ.out; have h6 := HPP.out; have := HJ.out; omega) HR1.out).mono ?_
        rintro e W2 ⟨s1, z1, q2, rfl, ho2, hl2, -, hq2, hR2, hg2⟩
        have HG2 := Lib.hid (grownBy_trans HG1.out hg2)
        have HD2 := Lib.hid (HD1.out.reader HLT.out hg2)
        have HO2 := Lib.hid (own_mono1 ho2 HG1.out.size)
        have HQ2 := Lib.hid (show q2 ≤ q + 207 by omega)
        have HR2 := Lib.hid hR2
        have HL2 := Lib.hid hl2
        clear ho2 hl2 hq2 hR2 hg2
        go_wp2_with fail
        refine (HBY.out q2 _ (by have h5 := HQ.out; have h6 := HPP.out; have := HJ.out; have := HQ2.out; omega) HR2.out).mono ?_
        rintro e W3 ⟨s2, z2, q3, rfl, ho3, hl3, -, hq3, hR3, hg3⟩
        have HG3 := Lib.hid (grownBy_trans HG2.out hg3)
        have HD3 := Lib.hid (HD2.out.reader HLT.out hg3)
        have HO3 := Lib.hid (own_reader1 HO2.out HLT.out hg3)
        have HP3 := Lib.hid (own_mono1 ho3 HG2.out.size)
        have HQ3 := Lib.hid (show q3 ≤ p + 413 * (j + 1) by have h5 := HQ.out; have h6 := HQ2.out; omega)
        have HR3 := Lib.hid hR3
        have HL3 := Lib.hid (And.intro HL2.out hl3)
        clear hl3 hq3 hR3 hg3
        obtain ⟨a1, c1, rfl, -⟩ := (ls_of_own HO3.out).out
        obtain ⟨a2, c2, rfl, -⟩ := (ls_of_own HP3.out).out
        have hbx := below_box W3 (.cells #[.int .i64 ((j : Int) + 1), .slice a1 z1.length c1, .slice a2 z2.length c2] 45)
        have HD4 := Lib.hid (HD3.out.below hbx)
        have HO4 := Lib.hid (own_below1 HO3.out hbx)
        have HP4 := Lib.hid (own_below1 HP3.out hbx)
        have hlt4 := HD4.out.1.lt
        have HB3 := Lib.hid HG3.out.size
        clear ho3 hbx
        go_wp2_with (at_builtin; (refine wpList_append_blob rfl _ _ rfl W.heap.size _ bs vs rfl HD4.out.1 HD4.out.vlen ⟨W3.heap.size, 0, none⟩ 1 ⟨(j : Int) + 1, z1, z2⟩ (.slice a1 z1.length c1) (.slice a2 z2.length c2) rfl (cell_three_new _ _ _ _ _) rfl rfl (by have := HLN.out; have := HJ.out; omega) (by have := HB3.out; simp; omega) ?_); intro v5 w5 ho5 hg5)
        have hB5 : Below W.heap.size W3 w5 := ((Below.refl _ W3).alloc HB3.out _).grown hg5 (by have := HB3.out; simp; omega) (fun g e => (hlt4 g e).1)
        have hD5 := HD4.out.grown (x := ⟨(j : Int) + 1, z1, z2⟩) HO4.out HP4.out ho5 hg5
        have hRd := HR3.out.kept (hB5.mono HN0.out)
        have hGd := grown_then HG3.out hB5
        go_roundw
        case rel => exact ⟨j + 1, _, _, q3, by go_num, HJ.out, Lib.hid hD5, Lib.hid (by have := HLN.out; rw [List.length_append]; simp; omega), Lib.hid (small_push HSM.out HL3.out), HQ3, Lib.hid hRd, Lib.hid hGd⟩
        case measure => have := HJ.out; simp [intOf]; omega
    · obtain rfl : j = 3 := by omega
      have HLN3 := Lib.hid (show bs.length ≤ 3 from HLN.out)
      have HQE := Lib.hid (show q ≤ p + 1239 by have h1 := HQ.out; omega)
      clear hlt hj
      by_cases h0 : 0 < bs.length
      · obtain ⟨g, cap, x, pv, qv, rfl, hgb, hgs, hx, -, -, -, -⟩ := diskAt_first HD.out h0
        have h0' : (0 : Int) < bs.length := by omega
        have H0 := Lib.hid h0
        have HX := Lib.hid hx
        have HGB := Lib.hid hgb
        clear hgb hgs hx h0
        go_wp2_with fail
        refine (HP.out q 24 (by omega) (by omega) _ (by have h5 := HQE.out; have h6 := HPP.out; omega) HRd.out).mono ?_
        rintro e W1 ⟨r1, rfl, r10, r11, hR1, hg1⟩
        have HR1 := Lib.hid hR1
        have HD1 := Lib.hid (HD.out.reader HLT.out hg1)
        have HG1 := Lib.hid (grownBy_trans HG.out hg1)
        clear hR1 hg1
        by_cases e1 : r1 = 0
        · subst e1
          clear r10 r11
          have HRC := Lib.hid (HR1.out.alloc (.cells #[.int .i64 0, .int .i64 3, .int .i64 4] 3))
          go_wp2_with fail
          refine (HP.out (q + 1) 3 (by omega) (by omega) _ (by have h5 := HQE.out; have h6 := HPP.out; omega) HRC.out).mono ?_
          rintro e W2 ⟨r2, rfl, r20, r21, hR2, hg2⟩
          obtain ⟨zb, hcb⟩ := pick_three 3 HR1.out.lt hg2 r20 r21
          have HD2 := Lib.hid ((HD1.out.below (below_box _ _)).reader HLT.out hg2)
          have HG2 := Lib.hid (grownBy_trans (grownBy_trans HG1.out (grownBy_new W1 _ _)) hg2)
          have HR2 := Lib.hid hR2
          obtain ⟨g', cap', x', pv', qv', hgg, -, -, -, c0, c1, c2, -, -, z0⟩ := diskAt_first HD2.out H0.out
          cases hgg
          clear hR2 hg2
          go_wp2
          go_ret
          exact ⟨_, vs, _, q + 1 + 1, rfl, diskAt_set HD2.out HX.out zb, by rw [List.length_set]; have := HLN3.out; omega, small_set HSM.out HX.out zb, by have := HQE.out; omega,
            HR2.out.setNew _ _ (by have := HN0.out; have := HGB.out; show N0 ≤ g; omega), grownBy_setCell_new HG2.out _ _ HGB.out⟩
        · have e1' : (r1 == 0) = false := by simpa using e1
          clear e1
          by_cases e2 : r1 = 1
          · subst e2
            clear r10 r11
            obtain ⟨g', cap', x', pv', qv', hgg, -, -, hx', c0, c1, c2, o1, o2, -⟩ := diskAt_first HD1.out H0.out
            cases hgg
            obtain rfl : x' = x := by have := HX.out; rw [hx'] at this; exact Option.some.inj this
            have HO1 := Lib.hid o1
            have HP1 := Lib.hid o2
            obtain ⟨a1, k1, rfl, -⟩ := (ls_of_own o1).out
            obtain ⟨a2, k2, rfl, -⟩ := (ls_of_own o2).out
            have hbx := below_box W1 (.cells #[.int .i64 x'.n, .slice a1 x'.s.length k1, .slice a2 x'.f.length k2] 45)
            have HD4 := Lib.hid (HD1.out.below hbx)
            have HO4 := Lib.hid (own_below1 HO1.out hbx)
            have HP4 := Lib.hid (own_below1 HP1.out hbx)
            have hlt4 := HD4.out.1.lt
            have HB3 := Lib.hid HG1.out.size
            have HSX := Lib.hid (HSM.out x' (List.mem_of_getElem? hx'))
            clear o1 o2 hx' hbx
            generalize hxn : x'.n = xn at c0
            generalize hxs : x'.s.length = xs at c1
            generalize hxf : x'.f.length = xf at c2
            go_wp2_with (at_builtin; (refine wpList_append_blob rfl _ _ rfl W.heap.size _ bs vs rfl (by first | exact HD4.out.1 | (simp only [hxn, hxs, hxf] at HD4; exact HD4.out.1)) HD4.out.vlen ⟨W1.heap.size, 0, none⟩ 1 ⟨xn, x'.s, x'.f⟩ (.slice a1 xs k1) (.slice a2 xf k2) rfl (cell_three_new _ _ _ _ _) rfl rfl (by have := HLN3.out; omega) (by have := HB3.out; simp; omega) ?_); intro v5 w5 ho5 hg5)
            subst hxn hxs hxf
            have hB5 : Below W.heap.size W1 w5 := ((Below.refl _ W1).alloc HB3.out _).grown hg5 (by have := HB3.out; simp; omega) (fun g e => (hlt4 g e).1)
            have hD5 := HD4.out.grown (x := x') HO4.out HP4.out ho5 hg5
            have hRd := HR1.out.kept (hB5.mono HN0.out)
            have hGd := grown_then HG1.out hB5
            go_wp2
            go_ret
            exact ⟨_, _, _, q + 1, rfl, hD5, by have := HLN3.out; rw [List.length_append]; simp; omega, small_push HSM.out HSX.out, by have := HQE.out; omega, hRd, hGd⟩
          · have e2' : (r1 == 1) = false := by simpa using e2
            clear e2 r10 r11
            go_wp2
            go_ret
            exact ⟨_, vs, bs, q + 1, rfl, HD1.out, by have := HLN3.out; omega, HSM.out, by have := HQE.out; omega, HR1.out, HG1.out⟩
      · have h0' : ¬ ((0 : Int) < bs.length) := by omega
        obtain rfl : bs = [] := List.eq_nil_of_length_eq_zero (by omega)
        obtain ⟨a, c, rfl, -⟩ := HD.out.at
        clear h0 h0'
        go_wp2
        go_ret
        exact ⟨_, vs, [], q, rfl, HD.out, by simp, HSM.out, by have := HQE.out; omega, HRd.out, HG.out⟩

end Go.Proofs.Ytaehgdglbplomaa
