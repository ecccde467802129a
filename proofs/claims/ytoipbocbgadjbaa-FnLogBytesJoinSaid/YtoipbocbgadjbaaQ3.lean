/-
  Texts of this proof, one behind the other: Gd, Ge.
-/
import Derived.Lib.AppendZerosOnto
import Derived.Lib.Walk
import Derived.Test.YtoipbocbgadjbaaQ8
import Derived.Test.YtoipbocbgadjbaaGa
/-
  WALKS: slices.Grow and slices.Concat of numbers; the program's FrameOf.
-/
namespace Go.Proofs.Ytoipbocbgadjbaa
open Go.RowKit
set_option linter.unusedVariables false

set_option maxHeartbeats 1000000 in
set_option maxRecDepth 100000 in
/-- slices.Grow of nothing: room for n numbers. -/
theorem grow_c (n : Nat) (h1 : 1 ≤ n) (hn : n ≤ 2097152) (W : World) :
    Calls Try.prog 88 #[.slice none 0 0, .int .i64 n] W fun e W' => OwnsInts W.heap.size [] e W' ∧ Below W.heap.size W W' := by
  obtain ⟨i0, hi, hz0, hz1, hz2⟩ := info_parts infoInt
  have hold : (Builtin.firstCells i0.size 0 (.slice none 0 0)).run Try.prog W.drew = .ok (([] : List Value)).toArray W.drew := run_firstCells_none W.drew i0.size 0 0 0
  have hrz : ∀ ty, (Builtin.append_ #[28, 3] ty #[.slice none 0 0, .int .i64 n]).run Try.prog W =
      .ok (.slice (some ⟨W.heap.size, 0, none⟩) (0 + n) (grownCap W (0 + n) 0 3)) (W.drew.alloc (.cells (([] : List Value).toArray ++ Builtin.zeroCells (Value.int .i64 0).cells n ++ Builtin.zeroCells (Value.int .i64 0).cells (grownCap W (0 + n) 0 3 - (0 + n))) 3)) := fun ty =>
    Lib.run_append_grow_zeros W 28 3 ty 3 i0 (.int .i64 0) .i64 .i64 Try.underlying28 Try.underlying3 hi hz0 none 0 0 [] hold n (by omega) (by omega) (by omega) (by omega) (by rw [hz2]; omega) (growslice_fits (by omega) (by rw [hz2]; omega))
  have hGn : 0 + n ≤ grownCap W (0 + n) 0 3 := grownCap_ge W _ _ _
  have hGm : grownCap W (0 + n) 0 3 ≤ maxLen := grownCap_le_maxLen W (0 + n) 0 3 (by unfold maxLen; omega)
  rw [Nat.zero_add] at hrz hGn hGm
  obtain ⟨G, hG⟩ : ∃ G, G = grownCap W n 0 3 := ⟨_, rfl⟩
  rw [← hG] at hrz hGn hGm
  have HGN := Lib.hid hGn
  have HGM := Lib.hid hGm
  have n0 : 0 < (n : Int) := by omega
  have hn' : (n : Int) ≤ 2097152 := by omega
  have hG63 : G ≤ 9223372036854775807 := by unfold maxLen at hGm; omega
  clear hold hG hGn hGm
  go_enter Try.func88, Try.ntmps88
  go_wp2_with (at_builtin; refine Lib.wpList_append_run _ rfl _ _ _ _ rfl _ _ rfl rfl _ _ (hrz _) ?_)
  refine bodyPost_ret (v := .slice (some ⟨W.heap.size, 0, none⟩) 0 G) (by simp [results, Try.f88, go_sem]) rfl ⟨⟨_, rfl, ?_⟩, ((Below.refl _ W).alloc (Nat.le_refl _) _).drew⟩
  exact World.ownsRow_made (e := 3) (size := 1) W _ G (Nat.le_refl _) HGM.out (by
    rw [Array.size_append, size_zeroCells, size_zeroCells]
    have := HGN.out
    simp
    omega)

def SizeRel (bs : List (List Int)) (W : World) (s i : Value) (wr : World) : Prop :=
  ∃ n : Nat, i = .int .i64 n ∧ n ≤ bs.length ∧ s = .int .i64 ((bs.take n).flatten.length : Nat) ∧ W = wr

def JoinRel (bs : List (List Int)) (W : World) (o i : Value) (wr : World) : Prop :=
  ∃ n : Nat, i = .int .i64 n ∧ n ≤ bs.length ∧ wr.ownsRow W.heap.size 3 1 o (bs.take n).flatten.length (intsV (bs.take n).flatten) ∧ Hid (Below W.heap.size W wr)

theorem flat_next {bs : List (List Int)} {i : Nat} {z : List Int} (h : bs[i]? = some z) : (bs.take (i + 1)).flatten = (bs.take i).flatten ++ z := by
  rw [takeT_next h, List.flatten_append]; simp

theorem flat_le (bs : List (List Int)) (i : Nat) : (bs.take i).flatten.length ≤ bs.flatten.length := by
  conv => rhs; rw [← List.take_append_drop i bs, List.flatten_append, List.length_append]
  omega

set_option maxHeartbeats 2000000 in
set_option maxRecDepth 100000 in
/-- slices.Concat of lists of numbers, none of them empty. -/
theorem concat_c (a : Option Addr) (len cap : Nat) (bs : List (List Int)) (hl : len ≤ 2097152) (ht : bs.flatten.length ≤ 2097152) (h1 : 1 ≤ bs.flatten.length) (hne : ∀ b ∈ bs, 1 ≤ b.length) (W : World) (hN : TabAt W a len bs) :
    Calls Try.prog 80 #[.slice a len cap] W fun e W' => OwnsInts W.heap.size bs.flatten e W' ∧ Below W.heap.size W W' := by
  obtain ⟨i0, hi, hz0, hz1, hz2⟩ := info_parts infoInt
  have HE := Lib.hid hN.1
  have HN := Lib.hid hN
  have HT := Lib.hid ht
  have HNE := Lib.hid hne
  obtain ⟨tot, htot⟩ : ∃ tot, tot = bs.flatten.length := ⟨_, rfl⟩
  have HG := Lib.hid (fun W' => show Calls Try.prog 88 #[.slice none 0 0, .int .i64 tot] W' (fun e W'' => OwnsInts W'.heap.size [] e W'' ∧ Below W'.heap.size W' W'') from grow_c tot (by omega) (by omega) W')
  have HTO := Lib.hid htot
  have hl' : (len : Int) ≤ 2097152 := by omega
  clear hN ht h1 hne htot
  go_enter Try.func80, Try.ntmps80
  go_wp2_with fail
  go_loopw [3, 11] (fun s i wr => SizeRel bs W s i wr) (fun _ i _ => len - (intOf i).toNat)
  case atStart => exact ⟨0, rfl, by omega, rfl, rfl⟩
  case round =>
    obtain ⟨i, rfl, hi1, rfl, rfl⟩ := hrel
    by_cases hlt : i < len
    · obtain ⟨b, off, z, ai, ci, rfl, hz, c0, hzi⟩ := HN.out.at hlt
      have hlt' : (i : Int) < len := by omega
      have hil : (i : Int) ≤ 2097152 := by omega
      have HLT := Lib.hid hlt
      have HFN := Lib.hid (flat_next hz)
      have hf1 := flat_le bs (i + 1)
      rw [HFN.out, List.length_append] at hf1
      have hf2 := HT.out
      obtain ⟨s, hs⟩ : ∃ s, s = (bs.take i).flatten.length := ⟨_, rfl⟩
      rw [← hs] at hf1 ⊢
      have HS := Lib.hid hs
      have hsz : (s : Int) + z.length ≤ 2097152 := by omega
      have hsz0 : (0 : Int) ≤ (s : Int) + z.length := by omega
      clear hlt hi1 hz hzi hf1 hf2 hs
      go_wp2_with fail
      go_roundw
      case rel => exact ⟨i + 1, by push_cast; rfl, by have := HE.out; have := HLT.out; omega, by rw [HFN.out, List.length_append, ← HS.out]; push_cast; rfl, rfl⟩
      case measure => have := HLT.out; simp [intOf]; omega
    · have hge : (len : Int) ≤ i := by omega
      have htk : bs.take i = bs := List.take_of_length_le (by have := HE.out; omega)
      rw [htk, ← HTO.out]
      clear hi1 hlt htk
      go_wp2_with fail
      refine (HG.out _).mono ?_
      rintro e W2 ⟨⟨s2, rfl, ho2⟩, hb2⟩
      have HO2 := Lib.hid ho2
      have HB2 := Lib.hid hb2
      clear ho2 hb2 hge
      go_wp2_with fail
      go_loopw [6, 27] (fun o i w3 => JoinRel bs W o i w3) (fun _ i _ => len - (intOf i).toNat)
      case atStart => exact ⟨0, rfl, by omega, HO2.out, HB2.out⟩
      case round =>
        obtain ⟨j, rfl, hi1, hown, HB⟩ := hrel
        by_cases hlt : j < len
        · obtain ⟨b, off, z, ai, ci, rfl, hz, c0, hzi⟩ := (HN.out.keep HB.out).at hlt
          have hlt' : (j : Int) < len := by omega
          have hil : (j : Int) ≤ 2097152 := by omega
          have HLT := Lib.hid hlt
          have HFN := Lib.hid (flat_next hz)
          have hf1 := flat_le bs (j + 1)
          rw [HFN.out, List.length_append] at hf1
          have HF1 := Lib.hid hf1
          have hzl := HNE.out z (List.mem_of_getElem? hz)
          obtain ⟨bz, oz, rfl⟩ : ∃ bz oz, ai = some ⟨bz, oz, none⟩ := by
            obtain ⟨_, h0 | ⟨bz, oz, hb, _⟩⟩ := hzi
            · omega
            · exact ⟨bz, oz, hb⟩
          have HZI := Lib.hid hzi
          have HO := Lib.hid hown
          have hlt0 := HO.out.lt
          clear hlt hi1 hz hzi hf1 hown hzl
          go_wp2_with (at_builtin; refine wpList_append_own _ rfl _ _ 28 rfl W.heap.size 3 i0 (.int .i64 0) 1 8 Try.underlying28 hi hz0 hz1 hz2 rfl (by decide) _ _ _ rfl HO.out ⟨bz, oz, none⟩ z.length ci (intsV z) rfl (by rw [intsV_length]; omega) (fun j u h => ints_cells HZI.out j u h) (intsV_cells _) (by have := HF1.out; have := HT.out; unfold maxLen; omega) (by have := HF1.out; have := HT.out; omega) HB.out.size ?_; intro v5 w5 ho5 hg5 hn5)
          have B5 : Below W.heap.size W w5 := HB.out.grown hg5 HB.out.size (fun g e => (hlt0 g e).1)
          go_roundw
          case rel => exact ⟨j + 1, by push_cast; rfl, by have := HE.out; have := HLT.out; omega, by rw [HFN.out]; exact own_join1 ho5, B5⟩
          case measure => have := HLT.out; simp [intOf]; omega
        · have hge : (len : Int) ≤ j := by omega
          have htk : bs.take j = bs := List.take_of_length_le (by have := HE.out; omega)
          rw [htk] at hown
          have HO := Lib.hid hown
          clear hi1 hlt htk hown
          go_wp2
          refine bodyPost_ret (v := u6) (by simp [results, Try.f80, go_sem]) rfl ⟨⟨_, rfl, HO.out⟩, HB.out⟩

end Go.Proofs.Ytoipbocbgadjbaa

/-
  WALKS: the program's FrameOf, FramesOf.
-/
namespace Go.Proofs.Ytoipbocbgadjbaa
open Go.RowKit
set_option linter.unusedVariables false

/-- The three parts of a frame, in a new table. -/
theorem parts_tab {W : World} {a : Option Addr} {len cap : Nat} {zs : List Int} {s : Int} (hI : IntsAt W a len zs) :
    TabAt (((W.alloc (.cells #[.int .i64 len] 3)).alloc (.cells #[.int .i64 s] 3)).alloc (.cells #[.slice (some ⟨W.heap.size, 0, none⟩) 1 1, .slice a len cap, .slice (some ⟨W.heap.size + 1, 0, none⟩) 1 1] 28))
      (some ⟨W.heap.size + 2, 0, none⟩) 3 [[(len : Int)], zs, [s]] := by
  obtain rfl := hI.1
  refine ⟨rfl, .inr ⟨W.heap.size + 2, 0, rfl, fun i z hz => ?_⟩⟩
  have e3 : ((W.alloc (.cells #[.int .i64 zs.length] 3)).alloc (.cells #[.int .i64 s] 3)).heap.size = W.heap.size + 2 := by simp
  have hb1 : Below W.heap.size W (W.alloc (.cells #[.int .i64 zs.length] 3)) := below_box _ _
  have hb2 := below_next hb1 (below_box (W.alloc (.cells #[.int .i64 zs.length] 3)) (.cells #[.int .i64 s] 3))
  have hb3 := below_next hb2 (below_box ((W.alloc (.cells #[.int .i64 zs.length] 3)).alloc (.cells #[.int .i64 s] 3)) (.cells #[.slice (some ⟨W.heap.size, 0, none⟩) 1 1, .slice a zs.length cap, .slice (some ⟨W.heap.size + 1, 0, none⟩) 1 1] 28))
  have hc : ∀ j v, (#[.slice (some ⟨W.heap.size, 0, none⟩) 1 1, .slice a zs.length cap, .slice (some ⟨W.heap.size + 1, 0, none⟩) 1 1] : Array Value)[j]? = some v →
      (((W.alloc (.cells #[.int .i64 zs.length] 3)).alloc (.cells #[.int .i64 s] 3)).alloc (.cells #[.slice (some ⟨W.heap.size, 0, none⟩) 1 1, .slice a zs.length cap, .slice (some ⟨W.heap.size + 1, 0, none⟩) 1 1] 28)).cell? ⟨W.heap.size + 2, 0 + j, none⟩ = some v := by
    intro j v hv
    rw [Nat.zero_add, ← e3, World.cell?_alloc_new]
    exact hv
  match i, hz with
  | 0, hz =>
    simp at hz; subst hz
    refine ⟨_, _, hc 0 _ rfl, rfl, .inr ⟨W.heap.size, 0, rfl, fun k x hx => ?_⟩⟩
    obtain ⟨rfl, rfl⟩ : k = 0 ∧ x = zs.length := by
      cases k with
      | zero => simp at hx; exact ⟨rfl, hx.symm⟩
      | succ k => simp at hx
    refine cell_kept (below_box _ _) (cell_kept (below_box _ _) ?_)
    rw [World.cell?_alloc_new]; rfl
  | 1, hz =>
    simp at hz; subst hz
    exact ⟨_, _, hc 1 _ rfl, hI.keep hb3⟩
  | 2, hz =>
    simp at hz; subst hz
    refine ⟨_, _, hc 2 _ rfl, rfl, .inr ⟨W.heap.size + 1, 0, rfl, fun k x hx => ?_⟩⟩
    obtain ⟨rfl, rfl⟩ : k = 0 ∧ x = s := by
      cases k with
      | zero => simp at hx; exact ⟨rfl, hx.symm⟩
      | succ k => simp at hx
    refine cell_kept (below_box _ _) ?_
    have : W.heap.size + 1 = (W.alloc (.cells #[.int .i64 zs.length] 3)).heap.size := by simp
    rw [this, World.cell?_alloc_new]; rfl
  | i + 3, hz => simp at hz

set_option maxHeartbeats 1000000 in
theorem implFrameOf_c (a : Option Addr) (len cap : Nat) (zs : List Int) (hl : len ≤ 2097152) (W : World) (hN : IntsAt W a len zs) :
    Calls Try.prog 67 #[.slice a len cap] W fun e W' => OwnsInts W.heap.size (frameOf zs) e W' ∧ Below W.heap.size W W' := by
  obtain ⟨sm, hsm⟩ : ∃ sm, bodySum zs = sm := ⟨_, rfl⟩
  have HB := Lib.hid (show Calls Try.prog 79 #[.slice a len cap] W (fun e W' => e = .returned (.int .i64 sm) ∧ W' = W) by rw [← hsm]; exact implBodySum_c a len cap zs W hN)
  by_cases hneg : sm < 0
  · have hbad : bodyOk zs = false := by
      rw [Bool.eq_false_iff]; intro hc
      rw [bodySum_ok hc] at hsm
      have := sumB_range zs
      omega
    have hr := Lib.hid (show frameOf zs = [] by unfold frameOf; rw [hbad]; rfl)
    clear hbad
    clear hsm hN
    go_enter Try.func67, Try.ntmps67
    go_wp2_with fail
    refine HB.out.mono ?_
    rintro e w' ⟨rfl, rfl⟩
    go_wp2
    refine bodyPost_ret (v := .slice none 0 0) (by simp [results, Try.f67, go_sem]) rfl ⟨⟨_, rfl, ?_⟩, Below.refl _ _⟩
    rw [hr.out]
    exact World.ownsRow_nil _ _ _ _
  · have hpos : 0 ≤ sm := by omega
    have hok : bodyOk zs = true := by
      cases hc : bodyOk zs with
      | true => rfl
      | false => rw [bodySum_bad hc] at hsm; omega
    have hlz := bodyOk_len hok
    have HR := Lib.hid (show frameOf zs = ([[(len : Int)], zs, [sm]] : List (List Int)).flatten by
      unfold frameOf; rw [if_pos hok]; unfold frame; rw [← hsm, bodySum_ok hok, hN.1]; simp)
    have HCC := Lib.hid (fun W' T (h : TabAt W' (some ⟨T, 0, none⟩) 3 [[(len : Int)], zs, [sm]]) => concat_c (some ⟨T, 0, none⟩) 3 3 [[(len : Int)], zs, [sm]] (by omega) (by simp; omega) (by simp) (by
      intro b hb
      simp at hb
      rcases hb with rfl | rfl | rfl
      · exact Nat.le_refl 1
      · exact hlz.1
      · exact Nat.le_refl 1) W' h)
    have HP := Lib.hid (parts_tab (cap := cap) (s := sm) hN)
    clear hneg hsm hN hok hlz
    go_enter Try.func67, Try.ntmps67
    go_wp2_with fail
    refine HB.out.mono ?_
    rintro e w' ⟨rfl, rfl⟩
    go_wp2_with fail
    have HB3 := Lib.hid (below_next (below_next (below_box w' (.cells #[.int .i64 len] 3)) (below_box _ (.cells #[.int .i64 sm] 3))) (below_box _ (.cells #[.slice (some ⟨w'.heap.size, 0, none⟩) 1 1, .slice a len cap, .slice (some ⟨w'.heap.size + 1, 0, none⟩) 1 1] 28)))
    refine (HCC.out _ (w'.heap.size + 1 + 1) HP.out).mono ?_
    rintro e W5 ⟨⟨sl, rfl, hown⟩, hb5⟩
    have HO := Lib.hid hown
    have HB5 := Lib.hid (below_next HB3.out hb5)
    clear hown hb5
    go_wp2
    refine bodyPost_ret (v := sl) (by simp [results, Try.f67, go_sem]) rfl ⟨⟨sl, rfl, ?_⟩, HB5.out⟩
    rw [HR.out]
    exact own_mono1 HO.out HB3.out.size

def IFramesRel (bs : List (List Int)) (W1 : World) (o i : Value) (wr : World) : Prop :=
  ∃ n : Nat, i = .int .i64 n ∧ n ≤ bs.length ∧ Hid ((bs.take n).all bodyOk = true) ∧ wr.ownsRow W1.heap.size 3 1 o (framesL (bs.take n)).length (intsV (framesL (bs.take n))) ∧ Hid (Below W1.heap.size W1 wr)

theorem framesOf_many {bs : List (List Int)} (h : 40 < bs.length) : framesOf bs = none := by
  unfold framesOf
  rw [if_neg]
  intro hc
  simp only [Bool.and_eq_true, decide_eq_true_eq] at hc
  omega

theorem fpost_none {bs : List (List Int)} {W w' : World} (h : framesOf bs = none) (hb : Below W.heap.size W w') : FPost (framesOf bs) W (.returned (.tuple #[.slice none 0 0, .bool false])) w' :=
  ⟨_, [], false, rfl, .inr ⟨rfl, h, rfl⟩, World.ownsRow_nil _ _ _ _, hb⟩

set_option maxHeartbeats 2000000 in
set_option maxRecDepth 100000 in
theorem implFramesOf_c (a : Option Addr) (len cap : Nat) (bs : List (List Int)) (hl : len ≤ 2097152) (hs : ShortT 2097152 bs) (W : World) (hN : TabAt W a len bs) :
    Calls Try.prog 44 #[.slice a len cap] W (FPost (framesOf bs) W) := by
  obtain ⟨i0, hi, hz0, hz1, hz2⟩ := info_parts infoInt
  have HE := Lib.hid hN.1
  have HN := Lib.hid hN
  have HS := Lib.hid hs
  by_cases hmany : 40 < len
  · have HG := Lib.hid (framesOf_many (bs := bs) (by rw [hN.1]; exact hmany))
    have hmany' : (40 : Int) < len := by omega
    clear hN hs
    go_enter Try.func44, Try.ntmps44
    go_wp2
    refine bodyPost_ret (v := .tuple #[.slice none 0 0, .bool false]) (by simp [results, Try.f44, go_sem]) rfl (fpost_none HG.out (Below.refl _ _))
  · have hl40 : (len : Int) ≤ 40 := by omega
    have hl' : len ≤ 40 := by omega
    clear hN hs hmany hl
    go_enter Try.func44, Try.ntmps44
    go_wp2
    go_loopw [4, 13] (fun o i wr => IFramesRel bs W o i wr) (fun _ i _ => len - (intOf i).toNat)
    case atStart => exact ⟨0, rfl, by omega, by simp [Hid], World.ownsRow_nil _ _ _ _, Below.refl _ _⟩
    case round =>
      obtain ⟨i, rfl, hi1, HA, hown, HB⟩ := hrel
      by_cases hlt : i < len
      · obtain ⟨b, off, z, ai, ci, rfl, hz, c0, hzi⟩ := (HN.out.keep HB.out).at hlt
        have hlt' : (i : Int) < len := by omega
        have hil : (i : Int) ≤ 40 := by omega
        have HLT := Lib.hid hlt
        have hzl := HS.out z (List.mem_of_getElem? hz)
        have HFR := Lib.hid (implFrameOf_c ai z.length ci z hzl wr hzi)
        have HO := Lib.hid hown
        by_cases hp : bodyOk z = true
        · have hzlen := bodyOk_len hp
          have HTK := Lib.hid (takeT_next hz)
          have HAN := Lib.hid (show (bs.take (i + 1)).all bodyOk = true by rw [takeT_next hz, List.all_append, show (bs.take i).all bodyOk = true from HA.out]; simp [hp])
          have HFL := Lib.hid (show (framesL (bs.take i)).length ≤ 18 * 2097152 by have := framesL_len HA.out; rw [List.length_take] at this; omega)
          have hfl18 := frame_length z
          have HFZ := Lib.hid (show (frame z).length ≤ 18 by omega)
          have HFO := Lib.hid (show frameOf z = frame z by unfold frameOf; rw [hp]; rfl)
          obtain ⟨fl, hfl⟩ : ∃ fl, fl = (frame z).length := ⟨_, rfl⟩
          have hfe : ((fl : Int) == 0) = false := beq_eq_false_iff_ne.2 (by omega)
          have hf0 : (frame z).length ≠ 0 := by omega
          clear hlt hi1 hz hzi hown hfl18 hp
          go_wp2_with fail
          refine HFR.out.mono ?_
          rintro e w2 ⟨⟨s2, rfl, ho2⟩, hb2⟩
          rw [HFO.out] at ho2
          rcases own_casesT ho2 with ⟨_, h0⟩ | ⟨g2, cap2, rfl⟩
          · exact absurd h0 hf0
          have HO2 := Lib.hid (own_below1 HO.out hb2)
          have HOX := Lib.hid ho2
          have hlt0 := HO2.out.lt
          have HB2 := Lib.hid (below_next HB.out hb2)
          rw [← hfl] at HOX HFZ ⊢
          have HFI := Lib.hid hfl
          clear ho2 hb2 hf0 hfl
          go_wp2_with (at_builtin; refine wpList_append_own _ rfl _ _ 28 rfl W.heap.size 3 i0 (.int .i64 0) 1 8 Try.underlying28 hi hz0 hz1 hz2 rfl (by decide) _ _ _ rfl HO2.out ⟨g2, 0, none⟩ _ cap2 (intsV (frame z)) rfl (by rw [intsV_length, ← HFI.out]; omega) (own_cells1 (by rw [← HFI.out]; exact HOX.out)) (intsV_cells _) (by have := HFL.out; have := HFZ.out; unfold maxLen; omega) (by have := HFL.out; have := HFZ.out; omega) HB2.out.size ?_; intro v5 w5 ho5 hg5 hn5)
          have B5 : Below W.heap.size W w5 := HB2.out.grown hg5 HB2.out.size (fun g e => (hlt0 g e).1)
          rw [HFI.out] at ho5
          go_roundw
          case rel => exact ⟨i + 1, by push_cast; rfl, by have := HE.out; have := HLT.out; omega, HAN.out, by rw [HTK.out, framesL_append, framesL_one]; exact own_join1 ho5, B5⟩
          case measure => have := HLT.out; simp [intOf]; omega
        · have hpf : bodyOk z = false := by simpa using hp
          have HG := Lib.hid (framesOf_none hz hpf)
          have HFO := Lib.hid (show frameOf z = [] by unfold frameOf; rw [hpf]; rfl)
          clear hlt hi1 hz hzi hown hp hpf
          go_wp2_with fail
          refine HFR.out.mono ?_
          rintro e w2 ⟨⟨s2, rfl, ho2⟩, hb2⟩
          rw [HFO.out] at ho2
          have HB2 := Lib.hid (below_next HB.out hb2)
          obtain ⟨a2, c2, rfl, -⟩ := ints_of_own ho2
          clear ho2 hb2
          go_wp2
          refine bodyPost_ret (v := .tuple #[.slice none 0 0, .bool false]) (by simp [results, Try.f44, go_sem]) rfl (fpost_none HG.out HB2.out)
      · have hge : (len : Int) ≤ i := by omega
        have htk : bs.take i = bs := List.take_of_length_le (by have := HE.out; omega)
        rw [htk] at HA hown
        have HG := Lib.hid (show framesOf bs = some (framesL bs) by unfold framesOf; rw [show bs.all bodyOk = true from HA.out, decide_eq_true (by rw [HE.out]; omega)]; rfl)
        have HO := Lib.hid hown
        clear hi1 hlt htk hown
        go_wp2
        refine bodyPost_ret (v := .tuple #[u4, .bool true]) (by simp [results, Try.f44, go_sem]) rfl ⟨_, framesL bs, true, rfl, .inl ⟨rfl, HG.out⟩, HO.out, HB.out⟩

end Go.Proofs.Ytoipbocbgadjbaa
