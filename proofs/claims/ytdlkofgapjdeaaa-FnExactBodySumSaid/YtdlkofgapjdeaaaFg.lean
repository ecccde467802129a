/-
  WALKS: lists of bodies that are drawn (spec.l91Bodies).
-/
import Derived.Test.YtdlkofgapjdeaaaFf
namespace Go.Proofs.Ytdlkofgapjdeaaa
open Go.RowKit
set_option linter.unusedVariables false

/-- The reader does not mind a table of the call's own. -/
theorem Inner.reader {W0 W W' : World} {B : Nat} {vs : List Value} {bs : List (List Int)} (h : Inner W W0.heap.size vs bs) (hB : B < W0.heap.size) (hg : W.grownBy W' (some B)) : Inner W' W0.heap.size vs bs :=
  ⟨h.1, fun i z v hz hv => own_reader1 (h.2.1 i z v hz hv) hB hg, h.2.2⟩

/-- A drawn list of lists, of the call's own. -/
def BodiesDraw (N0 B p : Nat) (W : World) (e : Ending) (W' : World) : Prop :=
  ∃ (sl : Value) (vs : List Value) (bs : List (List Int)) (q : Nat), e = .returned sl ∧ W'.ownsRow W.heap.size 23 1 sl bs.length vs ∧ Inner W' W.heap.size vs bs ∧ bs.length ≤ 41 ∧ ShortT 17 bs ∧ q ≤ p + 1000 ∧ RdAt N0 W' B q ∧ W.grownBy W' (some B)

def BodiesRel (N0 B p : Nat) (NN : Nat) (W : World) (o i : Value) (wr : World) : Prop :=
  ∃ (j : Nat) (vs : List Value) (bs : List (List Int)) (q : Nat), i = .int .i64 j ∧ j ≤ NN ∧ wr.ownsRow W.heap.size 23 1 o bs.length vs ∧ Hid (Inner wr W.heap.size vs bs) ∧ Hid (bs.length ≤ j) ∧ Hid (ShortT 17 bs) ∧ Hid (q ≤ p + 3 + 24 * j) ∧ RdAt N0 wr B q ∧ Hid (W.grownBy wr (some B))

theorem short_push {m : Nat} {bs : List (List Int)} {z : List Int} (h : ShortT m bs) (hz : z.length ≤ m) : ShortT m (bs ++ [z]) := by
  intro x hx
  rcases List.mem_append.1 hx with h1 | h1
  · exact h x h1
  · rw [List.mem_singleton.1 h1]; exact hz

set_option maxHeartbeats 4000000 in
set_option maxRecDepth 100000 in
theorem l91Bodies_c (N0 B p : Nat) (W : World) (hp : p < 20000) (hR : RdAt N0 W B p) :
    Calls Try.prog 44 #[.pointer (some ⟨B, 0, none⟩)] W (BodiesDraw N0 B p W) := by
  obtain ⟨j0, ji, jz0, jz1, jz2⟩ := info_parts infoInts
  have HLT := Lib.hid hR.lt
  have HP := Lib.hid (fun q n h1 h2 W hq hR => pick_c N0 B q n h1 h2 W hq hR)
  have HBY := Lib.hid (fun q W hq hR => l91Body_c N0 B q W hq hR)
  have HPP := Lib.hid hp
  have HN0 := Lib.hid hR.le
  have HRA := Lib.hid (hR.alloc (.cells #[] 23))
  have HOA := Lib.hid (World.ownsRow_lit (e := 23) (size := 1) W #[] 0 (Nat.le_refl _) (by simp [maxLen]) rfl)
  clear hp hR
  go_enter Try.func44, Try.ntmps44
  go_upto_region 2 with (fail)
  go_wp2_with fail
  refine (HP.out p 6 (by omega) (by omega) _ (by have := HPP.out; omega) HRA.out).mono ?_
  rintro e W1 ⟨r1, rfl, r10, r11, hR1, hg1⟩
  have HR1 := Lib.hid hR1
  have HO1 := Lib.hid (own_reader1 HOA.out HLT.out hg1)
  have HG1 := Lib.hid (grownBy_trans (grownBy_new W _ _) hg1)
  clear hR1 hg1
  go_wp2_with fail
  refine (HP.out (p + 1) 20 (by omega) (by omega) _ (by have := HPP.out; omega) HR1.out).mono ?_
  rintro e W2 ⟨r2, rfl, r20, r21, hR2, hg2⟩
  have HR2 := Lib.hid hR2
  have HO2 := Lib.hid (own_reader1 HO1.out HLT.out hg2)
  have HG2 := Lib.hid (grownBy_trans HG1.out hg2)
  clear hR2 hg2
  by_cases e2 : r2 = 0
  · subst e2
    clear r20 r21 r10 r11
    go_wp2_with fail
    refine (HP.out (p + 2) 2 (by omega) (by omega) _ (by have := HPP.out; omega) HR2.out).mono ?_
    rintro e W3 ⟨r3, rfl, r30, r31, hR3, hg3⟩
    have OWN := Lib.hid (own_reader1 HO2.out HLT.out hg3)
    have GG := Lib.hid (grownBy_trans HG2.out hg3)
    have RR := Lib.hid hR3
    have QB := Lib.hid (show p + 2 + 1 ≤ p + 3 by omega)
    obtain ⟨NN, eN⟩ : ∃ NN : Nat, 40 + r3 = (NN : Int) := ⟨(40 + r3).toNat, by omega⟩
    have HNN := Lib.hid (show NN ≤ 41 by omega)
    clear hR3 hg3
    go_upto_region 5 with (fail)
    clear eN r30 r31
    go_wp2
    go_loopw [3, 5, 6] (fun o i _ wr => BodiesRel N0 B p NN W o i wr) (fun _ i _ _ => NN - (intOf i).toNat)
    case atStart => exact ⟨0, [], [], _, rfl, by simp, OWN.out, ⟨rfl, fun i z v hz => by simp at hz, List.Pairwise.nil⟩, by simp [Hid], (by intro x hx; cases hx), (show _ ≤ _ from Nat.le_trans QB.out (by simp)), RR.out, GG.out⟩
    case round =>
      obtain ⟨j, vs, bs, q, rfl, hj, hrow, HIN, HBL, HSH, HQ, hRq, HG⟩ := hrel
      by_cases hlt : j < NN
      · have hlt' : (j : Int) < NN := by omega
        have HJ := Lib.hid (And.intro hlt HNN.out)
        have hz41 : (j : Int) ≤ 41 := by have := HNN.out; omega
        have HRQ := Lib.hid hRq
        have HROW := Lib.hid hrow
        have HGR := Lib.hid HG.out.size
        clear hj hlt hRq hrow
        go_wp2_with fail
        refine (HBY.out q _ (by have h5 := HQ.out; have h6 := HPP.out; have h7 := HJ.out; omega) HRQ.out).mono ?_
        rintro e W4 ⟨s2, zs, q2, rfl, ho4, hzl, -, hq2, hR4, hg4⟩
        obtain ⟨a2, c2, rfl, hzi⟩ := ints_of_own ho4
        have HO4 := Lib.hid (own_reader1 HROW.out HLT.out hg4)
        have HI4 := Lib.hid (Inner.reader HIN.out HLT.out hg4)
        have HG4 := Lib.hid (grownBy_trans HG.out hg4)
        have HR4 := Lib.hid hR4
        have HZ4 := Lib.hid ho4
        have HQ2 := Lib.hid hq2
        have HZL := Lib.hid hzl
        have HVD := Lib.hid (show ∀ u ∈ vs, ∀ k, u.ownBlock = some k → (Value.slice a2 zs.length c2).ownBlock ≠ some k from fun u hu k e1 e2 => by
          have h1 := HIN.out.lt u hu k e1
          have h2 := (HZ4.out.lt k e2).1
          omega)
        obtain ⟨pb, hpb⟩ : ∃ pb, bodyOk zs = pb := ⟨_, rfl⟩
        have HBD := Lib.hid (show Calls Try.prog 40 #[.slice a2 zs.length c2] W4 (fun e W' => e = .returned (.bool pb) ∧ W' = W4) by rw [← hpb]; exact l4Body_c a2 zs.length c2 zs (by omega) W4 hzi)
        clear hg4 hR4 ho4 hq2 hzl hzi hpb
        cases pb with
        | true =>
          go_upto_region 9 with (fail)
          go_wp2_with fail
          refine HBD.out.mono ?_
          rintro e W5 ⟨rfl, rfl⟩
          have HIP := Lib.hid (HI4.out.below (below_box W5 (.cells #[.slice a2 zs.length c2] 23)))
          have hltx := HO4.out.lt
          go_wp2_with (at_builtin; refine wpList_append_own _ rfl _ _ 29 rfl W.heap.size 23 j0 (.slice none 0 0) 1 24 Try.underlying29 ji jz0 jz1 jz2 rfl (by decide) _ _ _ rfl (HO4.out.alloc _) ⟨W5.heap.size, 0, none⟩ 1 1 [.slice a2 zs.length c2] rfl rfl (cell_int_new _ _ _) (fun y hy => by simp at hy; subst hy; rfl) (by have := HJ.out; have := HBL.out; unfold maxLen; omega) (by have := HJ.out; have := HBL.out; omega) (by have := HG4.out.size; simp; omega) ?_; intro v7 w7 ho7 hg7 hn7)
          have B7 : Below W.heap.size W5 w7 := ((Below.refl _ W5).alloc HG4.out.size _).grown hg7 (by have := HG4.out.size; simp; omega) (fun g e => (hltx g e).1)
          have hI7 := HIP.out.grown (HO4.out.alloc _) hg7
          have hO7 : w7.ownsRow wr.heap.size 3 1 (.slice a2 zs.length c2) zs.length (intsV zs) := own_farT (own_below1 HZ4.out (below_box W5 _)) hg7 (own_types HZ4.out HO4.out (by decide))
          have hRd := HR4.out.kept (B7.mono HN0.out)
          have hGd : W.grownBy w7 (some B) := ⟨B7.os.trans HG4.out.os, B7.tape.trans HG4.out.tape, B7.output.trans HG4.out.output, Nat.le_trans HG4.out.size B7.size, fun k hk hne => (B7.block k hk).trans (HG4.out.block k hk hne)⟩
          go_roundw
          case rel =>
            refine ⟨j + 1, vs ++ [.slice a2 zs.length c2], bs ++ [zs], q2, by go_num, by have := HJ.out; omega, by rw [List.length_append]; exact ho7, hI7.push (own_mono1 hO7 HGR.out) HVD.out, by have h5 := HBL.out; show (bs ++ [zs]).length ≤ _; simp; omega, short_push HSH.out HZL.out, (by show _ ≤ _; have h5 := HQ.out; have h6 := HQ2.out; omega), hRd, hGd⟩
          case measure => have := HJ.out; simp [intOf]; omega
        | false =>
          go_upto_region 9 with (fail)
          go_wp2_with fail
          refine HBD.out.mono ?_
          rintro e W5 ⟨rfl, rfl⟩
          go_wp2_with fail
          refine (HP.out q2 8 (by omega) (by omega) _ (by have h5 := HQ.out; have h6 := HPP.out; have h7 := HJ.out; have h8 := HQ2.out; omega) HR4.out).mono ?_
          rintro e W6 ⟨r6, rfl, r60, r61, hR6, hg6⟩
          have HO6 := Lib.hid (own_reader1 HO4.out HLT.out hg6)
          have HI6 := Lib.hid (Inner.reader HI4.out HLT.out hg6)
          have HG6 := Lib.hid (grownBy_trans HG4.out hg6)
          have HR6 := Lib.hid hR6
          have HZ6 := Lib.hid (own_reader1 HZ4.out (Nat.lt_of_lt_of_le HLT.out HGR.out) hg6)
          clear hR6 hg6
          by_cases e6 : r6 = 0
          · subst e6
            clear r60 r61
            have HIP := Lib.hid (HI6.out.below (below_box W6 (.cells #[.slice a2 zs.length c2] 23)))
            have hltx := HO6.out.lt
            go_wp2_with (at_builtin; refine wpList_append_own _ rfl _ _ 29 rfl W.heap.size 23 j0 (.slice none 0 0) 1 24 Try.underlying29 ji jz0 jz1 jz2 rfl (by decide) _ _ _ rfl (HO6.out.alloc _) ⟨W6.heap.size, 0, none⟩ 1 1 [.slice a2 zs.length c2] rfl rfl (cell_int_new _ _ _) (fun y hy => by simp at hy; subst hy; rfl) (by have := HJ.out; have := HBL.out; unfold maxLen; omega) (by have := HJ.out; have := HBL.out; omega) (by have := HG6.out.size; simp; omega) ?_; intro v7 w7 ho7 hg7 hn7)
            have B7 : Below W.heap.size W6 w7 := ((Below.refl _ W6).alloc HG6.out.size _).grown hg7 (by have := HG6.out.size; simp; omega) (fun g e => (hltx g e).1)
            have hI7 := HIP.out.grown (HO6.out.alloc _) hg7
            have hO7 : w7.ownsRow wr.heap.size 3 1 (.slice a2 zs.length c2) zs.length (intsV zs) := own_farT (own_below1 HZ6.out (below_box W6 _)) hg7 (own_types HZ6.out HO6.out (by decide))
            have hRd := HR6.out.kept (B7.mono HN0.out)
            have hGd : W.grownBy w7 (some B) := ⟨B7.os.trans HG6.out.os, B7.tape.trans HG6.out.tape, B7.output.trans HG6.out.output, Nat.le_trans HG6.out.size B7.size, fun k hk hne => (B7.block k hk).trans (HG6.out.block k hk hne)⟩
            go_roundw
            case rel =>
              refine ⟨j + 1, vs ++ [.slice a2 zs.length c2], bs ++ [zs], (q2 + 1), by go_num, by have := HJ.out; omega, by rw [List.length_append]; exact ho7, hI7.push (own_mono1 hO7 HGR.out) HVD.out, by have h5 := HBL.out; show (bs ++ [zs]).length ≤ _; simp; omega, short_push HSH.out HZL.out, (by show _ ≤ _; have h5 := HQ.out; have h6 := HQ2.out; omega), hRd, hGd⟩
            case measure => have := HJ.out; simp [intOf]; omega
          · have e6' : (r6 == 0) = false := by simpa using e6
            clear e6 r60 r61
            go_wp2
            go_roundw
            case rel => exact ⟨j + 1, vs, bs, q2 + 1, by go_num, by have := HJ.out; omega, HO6.out, HI6.out, by have h5 := HBL.out; show _ ≤ _; omega, HSH, (by show _ ≤ _; have h5 := HQ.out; have h6 := HQ2.out; omega), HR6.out, HG6⟩
            case measure => have := HJ.out; simp [intOf]; omega
      · have hjn : j = NN := by omega
        have hge : ((NN : Nat) : Int) ≤ j := by omega
        have HJN := Lib.hid hjn
        clear hlt hj hjn
        go_wp2
        go_ret
        exact ⟨_, vs, bs, q, rfl, hrow, HIN.out, by have h1 := HBL.out; have h2 := HJN.out; have h3 := HNN.out; omega, HSH.out, by have h1 := HQ.out; have h2 := HJN.out; have h3 := HNN.out; omega, hRq, HG.out⟩
  · have e2' : (r2 == 0) = false := by simpa using e2
    obtain ⟨NN, eN⟩ : ∃ NN : Nat, r1 = (NN : Int) := ⟨r1.toNat, by omega⟩
    have HNN := Lib.hid (show NN ≤ 41 by omega)
    have OWN := HO2
    have GG := HG2
    have RR := HR2
    have QB := Lib.hid (show p + 2 ≤ p + 3 by omega)
    rw [eN]
    clear e2 r20 r21 eN r10 r11
    go_upto_region 5 with (fail)
    go_wp2
    go_loopw [3, 5, 6] (fun o i _ wr => BodiesRel N0 B p NN W o i wr) (fun _ i _ _ => NN - (intOf i).toNat)
    case atStart => exact ⟨0, [], [], _, rfl, by simp, OWN.out, ⟨rfl, fun i z v hz => by simp at hz, List.Pairwise.nil⟩, by simp [Hid], (by intro x hx; cases hx), (show _ ≤ _ from Nat.le_trans QB.out (by simp)), RR.out, GG.out⟩
    case round =>
      obtain ⟨j, vs, bs, q, rfl, hj, hrow, HIN, HBL, HSH, HQ, hRq, HG⟩ := hrel
      by_cases hlt : j < NN
      · have hlt' : (j : Int) < NN := by omega
        have HJ := Lib.hid (And.intro hlt HNN.out)
        have hz41 : (j : Int) ≤ 41 := by have := HNN.out; omega
        have HRQ := Lib.hid hRq
        have HROW := Lib.hid hrow
        have HGR := Lib.hid HG.out.size
        clear hj hlt hRq hrow
        go_wp2_with fail
        refine (HBY.out q _ (by have h5 := HQ.out; have h6 := HPP.out; have h7 := HJ.out; omega) HRQ.out).mono ?_
        rintro e W4 ⟨s2, zs, q2, rfl, ho4, hzl, -, hq2, hR4, hg4⟩
        obtain ⟨a2, c2, rfl, hzi⟩ := ints_of_own ho4
        have HO4 := Lib.hid (own_reader1 HROW.out HLT.out hg4)
        have HI4 := Lib.hid (Inner.reader HIN.out HLT.out hg4)
        have HG4 := Lib.hid (grownBy_trans HG.out hg4)
        have HR4 := Lib.hid hR4
        have HZ4 := Lib.hid ho4
        have HQ2 := Lib.hid hq2
        have HZL := Lib.hid hzl
        have HVD := Lib.hid (show ∀ u ∈ vs, ∀ k, u.ownBlock = some k → (Value.slice a2 zs.length c2).ownBlock ≠ some k from fun u hu k e1 e2 => by
          have h1 := HIN.out.lt u hu k e1
          have h2 := (HZ4.out.lt k e2).1
          omega)
        obtain ⟨pb, hpb⟩ : ∃ pb, bodyOk zs = pb := ⟨_, rfl⟩
        have HBD := Lib.hid (show Calls Try.prog 40 #[.slice a2 zs.length c2] W4 (fun e W' => e = .returned (.bool pb) ∧ W' = W4) by rw [← hpb]; exact l4Body_c a2 zs.length c2 zs (by omega) W4 hzi)
        clear hg4 hR4 ho4 hq2 hzl hzi hpb
        cases pb with
        | true =>
          go_upto_region 9 with (fail)
          go_wp2_with fail
          refine HBD.out.mono ?_
          rintro e W5 ⟨rfl, rfl⟩
          have HIP := Lib.hid (HI4.out.below (below_box W5 (.cells #[.slice a2 zs.length c2] 23)))
          have hltx := HO4.out.lt
          go_wp2_with (at_builtin; refine wpList_append_own _ rfl _ _ 29 rfl W.heap.size 23 j0 (.slice none 0 0) 1 24 Try.underlying29 ji jz0 jz1 jz2 rfl (by decide) _ _ _ rfl (HO4.out.alloc _) ⟨W5.heap.size, 0, none⟩ 1 1 [.slice a2 zs.length c2] rfl rfl (cell_int_new _ _ _) (fun y hy => by simp at hy; subst hy; rfl) (by have := HJ.out; have := HBL.out; unfold maxLen; omega) (by have := HJ.out; have := HBL.out; omega) (by have := HG4.out.size; simp; omega) ?_; intro v7 w7 ho7 hg7 hn7)
          have B7 : Below W.heap.size W5 w7 := ((Below.refl _ W5).alloc HG4.out.size _).grown hg7 (by have := HG4.out.size; simp; omega) (fun g e => (hltx g e).1)
          have hI7 := HIP.out.grown (HO4.out.alloc _) hg7
          have hO7 : w7.ownsRow wr.heap.size 3 1 (.slice a2 zs.length c2) zs.length (intsV zs) := own_farT (own_below1 HZ4.out (below_box W5 _)) hg7 (own_types HZ4.out HO4.out (by decide))
          have hRd := HR4.out.kept (B7.mono HN0.out)
          have hGd : W.grownBy w7 (some B) := ⟨B7.os.trans HG4.out.os, B7.tape.trans HG4.out.tape, B7.output.trans HG4.out.output, Nat.le_trans HG4.out.size B7.size, fun k hk hne => (B7.block k hk).trans (HG4.out.block k hk hne)⟩
          go_roundw
          case rel =>
            refine ⟨j + 1, vs ++ [.slice a2 zs.length c2], bs ++ [zs], q2, by go_num, by have := HJ.out; omega, by rw [List.length_append]; exact ho7, hI7.push (own_mono1 hO7 HGR.out) HVD.out, by have h5 := HBL.out; show (bs ++ [zs]).length ≤ _; simp; omega, short_push HSH.out HZL.out, (by show _ ≤ _; have h5 := HQ.out; have h6 := HQ2.out; omega), hRd, hGd⟩
          case measure => have := HJ.out; simp [intOf]; omega
        | false =>
          go_upto_region 9 with (fail)
          go_wp2_with fail
          refine HBD.out.mono ?_
          rintro e W5 ⟨rfl, rfl⟩
          go_wp2_with fail
          refine (HP.out q2 8 (by omega) (by omega) _ (by have h5 := HQ.out; have h6 := HPP.out; have h7 := HJ.out; have h8 := HQ2.out; omega) HR4.out).mono ?_
          rintro e W6 ⟨r6, rfl, r60, r61, hR6, hg6⟩
          have HO6 := Lib.hid (own_reader1 HO4.out HLT.out hg6)
          have HI6 := Lib.hid (Inner.reader HI4.out HLT.out hg6)
          have HG6 := Lib.hid (grownBy_trans HG4.out hg6)
          have HR6 := Lib.hid hR6
          have HZ6 := Lib.hid (own_reader1 HZ4.out (Nat.lt_of_lt_of_le HLT.out HGR.out) hg6)
          clear hR6 hg6
          by_cases e6 : r6 = 0
          · subst e6
            clear r60 r61
            have HIP := Lib.hid (HI6.out.below (below_box W6 (.cells #[.slice a2 zs.length c2] 23)))
            have hltx := HO6.out.lt
            go_wp2_with (at_builtin; refine wpList_append_own _ rfl _ _ 29 rfl W.heap.size 23 j0 (.slice none 0 0) 1 24 Try.underlying29 ji jz0 jz1 jz2 rfl (by decide) _ _ _ rfl (HO6.out.alloc _) ⟨W6.heap.size, 0, none⟩ 1 1 [.slice a2 zs.length c2] rfl rfl (cell_int_new _ _ _) (fun y hy => by simp at hy; subst hy; rfl) (by have := HJ.out; have := HBL.out; unfold maxLen; omega) (by have := HJ.out; have := HBL.out; omega) (by have := HG6.out.size; simp; omega) ?_; intro v7 w7 ho7 hg7 hn7)
            have B7 : Below W.heap.size W6 w7 := ((Below.refl _ W6).alloc HG6.out.size _).grown hg7 (by have := HG6.out.size; simp; omega) (fun g e => (hltx g e).1)
            have hI7 := HIP.out.grown (HO6.out.alloc _) hg7
            have hO7 : w7.ownsRow wr.heap.size 3 1 (.slice a2 zs.length c2) zs.length (intsV zs) := own_farT (own_below1 HZ6.out (below_box W6 _)) hg7 (own_types HZ6.out HO6.out (by decide))
            have hRd := HR6.out.kept (B7.mono HN0.out)
            have hGd : W.grownBy w7 (some B) := ⟨B7.os.trans HG6.out.os, B7.tape.trans HG6.out.tape, B7.output.trans HG6.out.output, Nat.le_trans HG6.out.size B7.size, fun k hk hne => (B7.block k hk).trans (HG6.out.block k hk hne)⟩
            go_roundw
            case rel =>
              refine ⟨j + 1, vs ++ [.slice a2 zs.length c2], bs ++ [zs], (q2 + 1), by go_num, by have := HJ.out; omega, by rw [List.length_append]; exact ho7, hI7.push (own_mono1 hO7 HGR.out) HVD.out, by have h5 := HBL.out; show (bs ++ [zs]).length ≤ _; simp; omega, short_push HSH.out HZL.out, (by show _ ≤ _; have h5 := HQ.out; have h6 := HQ2.out; omega), hRd, hGd⟩
            case measure => have := HJ.out; simp [intOf]; omega
          · have e6' : (r6 == 0) = false := by simpa using e6
            clear e6 r60 r61
            go_wp2
            go_roundw
            case rel => exact ⟨j + 1, vs, bs, q2 + 1, by go_num, by have := HJ.out; omega, HO6.out, HI6.out, by have h5 := HBL.out; show _ ≤ _; omega, HSH, (by show _ ≤ _; have h5 := HQ.out; have h6 := HQ2.out; omega), HR6.out, HG6⟩
            case measure => have := HJ.out; simp [intOf]; omega
      · have hjn : j = NN := by omega
        have hge : ((NN : Nat) : Int) ≤ j := by omega
        have HJN := Lib.hid hjn
        clear hlt hj hjn
        go_wp2
        go_ret
        exact ⟨_, vs, bs, q, rfl, hrow, HIN.out, by have h1 := HBL.out; have h2 := HJN.out; have h3 := HNN.out; omega, HSH.out, by have h1 := HQ.out; have h2 := HJN.out; have h3 := HNN.out; omega, hRq, HG.out⟩

end Go.Proofs.Ytdlkofgapjdeaaa
