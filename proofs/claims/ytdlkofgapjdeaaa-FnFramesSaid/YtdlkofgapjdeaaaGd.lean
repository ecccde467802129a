/-
  WALKS: slices.Grow and slices.Concat of numbers; the program's FrameOf.
-/
import Derived.Lib.AppendZerosOnto
import Derived.Lib.Walk
import Derived.Test.YtdlkofgapjdeaaaFc
import Derived.Test.YtdlkofgapjdeaaaGa
namespace Go.Proofs.Ytdlkofgapjdeaaa
open Go.RowKit
set_option linter.unusedVariables false

set_option maxHeartbeats 1000000 in
/-- slices.Grow of nothing: room for n numbers. -/
theorem grow_c (n : Nat) (h1 : 1 ≤ n) (hn : n ≤ 2097152) (W : World) :
    Calls Try.prog 50 #[.slice none 0 0, .int .i64 n] W fun e W' => OwnsInts W.heap.size [] e W' ∧ Below W.heap.size W W' := by
  obtain ⟨i0, hi, hz0, hz1, hz2⟩ := info_parts infoInt
  have hold : (Builtin.firstCells i0.size 0 (.slice none 0 0)).run Try.prog W.drew = .ok (([] : List Value)).toArray W.drew := run_firstCells_none W.drew i0.size 0 0 0
  have hrz : ∀ ty, (Builtin.append_ #[23, 3] ty #[.slice none 0 0, .int .i64 n]).run Try.prog W =
      .ok (.slice (some ⟨W.heap.size, 0, none⟩) (0 + n) (grownCap W (0 + n) 0 3)) (W.drew.alloc (.cells (([] : List Value).toArray ++ Builtin.zeroCells (Value.int .i64 0).cells n ++ Builtin.zeroCells (Value.int .i64 0).cells (grownCap W (0 + n) 0 3 - (0 + n))) 3)) := fun ty =>
    Lib.run_append_grow_zeros W 23 3 ty 3 i0 (.int .i64 0) .i64 .i64 Try.underlying23 Try.underlying3 hi hz0 none 0 0 [] hold n (by omega) (by omega) (by omega) (by omega) (by rw [hz2]; omega) (growslice_fits (by omega) (by rw [hz2]; omega))
  have hGn : 0 + n ≤ grownCap W (0 + n) 0 3 := grownCap_ge W _ _ _
  have hGm : grownCap W (0 + n) 0 3 ≤ maxLen := grownCap_le_maxLen W (0 + n) 0 3 (by unfold maxLen; omega)
  rw [Nat.zero_add] at hrz hGn hGm
  obtain ⟨G, hG⟩ : ∃ G, G = grownCap W n 0 3 := ⟨_, rfl⟩
  rw [← hG] at hrz hGn hGm
  have HGN := Lib.hid hGn
  have HGM := Lib.hid hGm
  have n0 : 0 < (n : Int) := by omega
  have hn' : (n : Int) ≤ 2097152 := by omega
  have hG63 : G ≤ 9223372036854775807 := by unfold maxLen at hGm; omega
  clear hold hG hGn hGm
  go_enter Try.func50, Try.ntmps50
  go_wp2_with (at_builtin; refine Lib.wpList_append_run _ rfl _ _ _ _ rfl _ _ rfl rfl _ _ (hrz _) ?_)
  refine bodyPost_ret (v := .slice (some ⟨W.heap.size, 0, none⟩) 0 G) (by simp [results, Try.f50, go_sem]) rfl ⟨⟨_, rfl, ?_⟩, ((Below.refl _ W).alloc (Nat.le_refl _) _).drew⟩
  exact World.ownsRow_made (e := 3) (size := 1) W _ G (Nat.le_refl _) HGM.out (by
    rw [Array.size_append, size_zeroCells, size_zeroCells]
    have := HGN.out
    simp
    omega)

def SizeRel (bs : List (List Int)) (W : World) (s i : Value) (wr : World) : Prop :=
  ∃ n : Nat, i = .int .i64 n ∧ n ≤ bs.length ∧ s = .int .i64 ((bs.take n).flatten.length : Nat) ∧ W = wr

def JoinRel (bs : List (List Int)) (W : World) (o i : Value) (wr : World) : Prop :=
  ∃ n : Nat, i = .int .i64 n ∧ n ≤ bs.length ∧ wr.ownsRow W.heap.size 3 1 o (bs.take n).flatten.length (intsV (bs.take n).flatten) ∧ Hid (Below W.heap.size W wr)

theorem flat_next {bs : List (List Int)} {i : Nat} {z : List Int} (h : bs[i]? = some z) : (bs.take (i + 1)).flatten = (bs.take i).flatten ++ z := by
  rw [takeT_next h, List.flatten_append]; simp

theorem flat_le (bs : List (List Int)) (i : Nat) : (bs.take i).flatten.length ≤ bs.flatten.length := by
  conv => rhs; rw [← List.take_append_drop i bs, List.flatten_append, List.length_append]
  omega

set_option maxHeartbeats 2000000 in
set_option maxRecDepth 100000 in
/-- slices.Concat of lists of numbers, none of them empty. -/
theorem concat_c (a : Option Addr) (len cap : Nat) (bs : List (List Int)) (hl : len ≤ 2097152) (ht : bs.flatten.length ≤ 2097152) (h1 : 1 ≤ bs.flatten.length) (hne : ∀ b ∈ bs, 1 ≤ b.length) (W : World) (hN : TabAt W a len bs) :
    Calls Try.prog 42 #[.slice a len cap] W fun e W' => OwnsInts W.heap.size bs.flatten e W' ∧ Below W.heap.size W W' := by
  obtain ⟨i0, hi, hz0, hz1, hz2⟩ := info_parts infoInt
  have HE := Lib.hid hN.1
  have HN := Lib.hid hN
  have HT := Lib.hid ht
  have HNE := Lib.hid hne
  obtain ⟨tot, htot⟩ : ∃ tot, tot = bs.flatten.length := ⟨_, rfl⟩
  have HG := Lib.hid (fun W' => show Calls Try.prog 50 #[.slice none 0 0, .int .i64 tot] W' (fun e W'' => OwnsInts W'.heap.size [] e W'' ∧ Below W'.heap.size W' W'') from grow_c tot (by omega) (by omega) W')
  have HTO := Lib.hid htot
  have hl' : (len : Int) ≤ 2097152 := by omega
  clear hN ht h1 hne htot
  go_enter Try.func42, Try.ntmps42
  go_wp2_with fail
  go_loopw [3, 11] (fun s i wr => SizeRel bs W s i wr) (fun _ i _ => len - (intOf i).toNat)
  case atStart => exact ⟨0, rfl, by omega, rfl, rfl⟩
  case round =>
    obtain ⟨i, rfl, hi1, rfl, rfl⟩ := hrel
    by_cases hlt : i < len
    · obtain ⟨b, off, z, ai, ci, rfl, hz, c0, hzi⟩ := HN.out.at hlt
      have hlt' : (i : Int) < len := by omega
      have hil : (i : Int) ≤ 2097152 := by omega
      have HLT := Lib.hid hlt
      have HFN := Lib.hid (flat_next hz)
      have hf1 := flat_le bs (i + 1)
      rw [HFN.out, List.length_append] at hf1
      have hf2 := HT.out
      obtain ⟨s, hs⟩ : ∃ s, s = (bs.take i).flatten.length := ⟨_, rfl⟩
      rw [← hs] at hf1 ⊢
      have HS := Lib.hid hs
      have hsz : (s : Int) + z.length ≤ 2097152 := by omega
      have hsz0 : (0 : Int) ≤ (s : Int) + z.length := by omega
      clear hlt hi1 hz hzi hf1 hf2 hs
      go_wp2_with fail
      go_roundw
      case rel => exact ⟨i + 1, by push_cast; rfl, by have := HE.out; have := HLT.out; omega, by rw [HFN.out, List.length_append, ← HS.out]; push_cast; rfl, rfl⟩
      case measure => have := HLT.out; simp [intOf]; omega
    · have hge : (len : Int) ≤ i := by omega
      have htk : bs.take i = bs := List.take_of_length_le (by have := HE.out; omega)
      rw [htk, ← HTO.out]
      clear hi1 hlt htk
      go_wp2_with fail
      refine (HG.out _).mono ?_
      rintro e W2 ⟨⟨s2, rfl, ho2⟩, hb2⟩
      have HO2 := Lib.hid ho2
      have HB2 := Lib.hid hb2
      clear ho2 hb2 hge
      go_wp2_with fail
      go_loopw [6, 27] (fun o i w3 => JoinRel bs W o i w3) (fun _ i _ => len - (intOf i).toNat)
      case atStart => exact ⟨0, rfl, by omega, HO2.out, HB2.out⟩
      case round =>
        obtain ⟨j, rfl, hi1, hown, HB⟩ := hrel
        by_cases hlt : j < len
        · obtain ⟨b, off, z, ai, ci, rfl, hz, c0, hzi⟩ := (HN.out.keep HB.out).at hlt
          have hlt' : (j : Int) < len := by omega
          have hil : (j : Int) ≤ 2097152 := by omega
          have HLT := Lib.hid hlt
          have HFN := Lib.hid (flat_next hz)
          have hf1 := flat_le bs (j + 1)
          rw [HFN.out, List.length_append] at hf1
          have HF1 := Lib.hid hf1
          have hzl := HNE.out z (List.mem_of_getElem? hz)
          obtain ⟨bz, oz, rfl⟩ : ∃ bz oz, ai = some ⟨bz, oz, none⟩ := by
            obtain ⟨_, h0 | ⟨bz, oz, hb, _⟩⟩ := hzi
            · omega
            · exact ⟨bz, oz, hb⟩
          have HZI := Lib.hid hzi
          have HO := Lib.hid hown
          have hlt0 := HO.out.lt
          clear hlt hi1 hz hzi hf1 hown hzl
          go_wp2_with (at_builtin; refine wpList_append_own _ rfl _ _ 23 rfl W.heap.size 3 i0 (.int .i64 0) 1 8 Try.underlying23 hi hz0 hz1 hz2 rfl (by decide) _ _ _ rfl HO.out ⟨bz, oz, none⟩ z.length ci (intsV z) rfl (by rw [intsV_length]; omega) (fun j u h => ints_cells HZI.out j u h) (intsV_cells _) (by have := HF1.out; have := HT.out; unfold maxLen; omega) (by have := HF1.out; have := HT.out; omega) HB.out.size ?_; intro v5 w5 ho5 hg5 hn5)
          have B5 : Below W.heap.size W w5 := HB.out.grown hg5 HB.out.size (fun g e => (hlt0 g e).1)
          go_roundw
          case rel => exact ⟨j + 1, by push_cast; rfl, by have := HE.out; have := HLT.out; omega, by rw [HFN.out]; exact own_join1 ho5, B5⟩
          case measure => have := HLT.out; simp [intOf]; omega
        · have hge : (len : Int) ≤ j := by omega
          have htk : bs.take j = bs := List.take_of_length_le (by have := HE.out; omega)
          rw [htk] at hown
          have HO := Lib.hid hown
          clear hi1 hlt htk hown
          go_wp2
          refine bodyPost_ret (v := u6) (by simp [results, Try.f42, go_sem]) rfl ⟨⟨_, rfl, HO.out⟩, HB.out⟩

end Go.Proofs.Ytdlkofgapjdeaaa
