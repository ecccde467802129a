/-
  WALKS: lists of numbers; spec.l6In, l4Bytes, l4Body, l4Sum, BodySum.
-/
import Derived.Laws.Cover1
import Derived.Deep.Cut
import Derived.Test.YtonbkmmddahlfaaFm
import Derived.Test.YtonbkmmddahlfaaBq
namespace Go.Proofs.Ytonbkmmddahlfaa
open Go.RowKit
set_option linter.unusedVariables false

/-- A list of numbers, wherever it lies. -/
def IntsAt (W : World) (a : Option Addr) (len : Nat) (zs : List Int) : Prop :=
  zs.length = len ∧ (len = 0 ∨ ∃ b off, a = some ⟨b, off, none⟩ ∧ ∀ i z, zs[i]? = some z → W.cell? ⟨b, off + i, none⟩ = some (.int .i64 z))

theorem IntsAt.keep {W W' : World} {a : Option Addr} {len : Nat} {zs : List Int} (h : IntsAt W a len zs) (hb : Below W.heap.size W W') : IntsAt W' a len zs := by
  obtain ⟨h1, h0 | ⟨b, off, ha, hc⟩⟩ := h
  · exact ⟨h1, .inl h0⟩
  · exact ⟨h1, .inr ⟨b, off, ha, fun i x hx => cell_kept hb (hc i x hx)⟩⟩

theorem IntsAt.at {W : World} {a : Option Addr} {len : Nat} {zs : List Int} (h : IntsAt W a len zs) {i : Nat} (hi : i < len) :
    ∃ b off z, a = some ⟨b, off, none⟩ ∧ zs[i]? = some z ∧ W.cell? ⟨b, off + i, none⟩ = some (.int .i64 z) := by
  obtain ⟨h1, h0 | ⟨b, off, ha, hc⟩⟩ := h
  · omega
  · obtain ⟨x, hx⟩ : ∃ x, zs[i]? = some x := ⟨_, List.getElem?_eq_getElem (by omega)⟩
    exact ⟨b, off, x, ha, hx, hc i x hx⟩

def intsV (zs : List Int) : List Value := zs.map (Value.int .i64)

theorem ints_of_own {W : World} {base : Nat} {e : TypeId} {v : Value} {zs : List Int} (h : W.ownsRow base e 1 v zs.length (intsV zs)) :
    ∃ a cap, v = .slice a zs.length cap ∧ IntsAt W a zs.length zs := by
  rcases h.2 with ⟨rfl, h0⟩ | ⟨g, cap, cur, rfl, h1, h2, h3, h4, h5, h6⟩
  · exact ⟨none, 0, by rw [h0], rfl, .inl h0⟩
  · refine ⟨some ⟨g, 0, none⟩, cap, rfl, rfl, .inr ⟨g, 0, rfl, fun i x hx => ?_⟩⟩
    have hi := (List.getElem?_eq_some_iff.1 hx).1
    rw [Nat.zero_add, h.cellAt i (by omega)]
    unfold intsV
    rw [List.getElem?_map, hx]; rfl

theorem retb {a b : Bool} (h : a = b) : Ending.returned (.bool a) = .returned (.bool b) := by rw [h]

set_option maxHeartbeats 400000 in
theorem l6In_c (n lo hi : Int) (w : World) : Calls Try.prog 31 #[.int .i64 n, .int .i64 lo, .int .i64 hi] w fun e w' => e = .returned (.bool (decide (lo ≤ n ∧ n ≤ hi))) ∧ w' = w := by
  by_cases h1 : lo ≤ n
  · by_cases h2 : n ≤ hi
    · have hr := Lib.hid (show true = decide (lo ≤ n ∧ n ≤ hi) from (decide_eq_true ⟨h1, h2⟩).symm)
      have d1 : decide (lo ≤ n) = true := decide_eq_true h1
      have d2 : decide (n ≤ hi) = true := decide_eq_true h2
      go_enter Try.func31, Try.ntmps31
      go_wp2
      go_ret
      exact ⟨retb hr.out, rfl⟩
    · have hr := Lib.hid (show false = decide (lo ≤ n ∧ n ≤ hi) from (decide_eq_false (fun h => h2 h.2)).symm)
      have d1 : decide (lo ≤ n) = true := decide_eq_true h1
      have d2 : decide (n ≤ hi) = false := decide_eq_false h2
      have h2' : hi < n := by omega
      clear h2
      go_enter Try.func31, Try.ntmps31
      go_wp2
      go_ret
      exact ⟨retb hr.out, rfl⟩
  · have hr := Lib.hid (show false = decide (lo ≤ n ∧ n ≤ hi) from (decide_eq_false (fun h => h1 h.1)).symm)
    have d1 : decide (lo ≤ n) = false := decide_eq_false h1
    have h1' : n < lo := by omega
    clear h1
    go_enter Try.func31, Try.ntmps31
    go_wp2
    go_ret
    exact ⟨retb hr.out, rfl⟩

def BytesRel (zs : List Int) (W : World) (i : Value) (wr : World) : Prop := ∃ n : Nat, i = .int .i64 n ∧ n ≤ zs.length ∧ Hid ((zs.take n).all byteOk = true) ∧ wr = W

theorem take_all {zs : List Int} {i : Nat} {z : Int} (h : zs[i]? = some z) : (zs.take (i + 1)).all byteOk = ((zs.take i).all byteOk && byteOk z) := by
  rw [List.take_add_one, h]
  simp [List.all_append]

theorem all_take_false {zs : List Int} {i : Nat} (h : (zs.take i).all byteOk = false) : zs.all byteOk = false := by
  rw [Bool.eq_false_iff] at h ⊢
  intro hc
  exact h (List.all_eq_true.2 fun x hx => List.all_eq_true.1 hc x (List.mem_of_mem_take hx))

set_option maxHeartbeats 1000000 in
theorem l4Bytes_c (a : Option Addr) (len cap : Nat) (zs : List Int) (hl : len ≤ 2097152) (W : World) (hN : IntsAt W a len zs) :
    Calls Try.prog 32 #[.slice a len cap] W fun e W' => e = .returned (.bool (zs.all byteOk)) ∧ W' = W := by
  have HE := Lib.hid hN.1
  have HN := Lib.hid hN
  have HI := Lib.hid (fun n w => l6In_c n 0 255 w)
  clear hN
  go_enter Try.func32, Try.ntmps32
  go_wp2
  go_loopw [3] (fun i wr => BytesRel zs W i wr) (fun i _ => len - (intOf i).toNat)
  case atStart => exact ⟨0, rfl, by omega, by simp [Hid], rfl⟩
  case round =>
    obtain ⟨i, rfl, hi, HA, rfl⟩ := hrel
    by_cases hlt : i < len
    · obtain ⟨b, off, z, rfl, hz, c0⟩ := HN.out.at hlt
      have hlt' : (i : Int) < len := by omega
      have HLT := Lib.hid hlt
      have HTA := Lib.hid (take_all hz)
      obtain ⟨q, hq⟩ : ∃ q, byteOk z = q := ⟨_, rfl⟩
      have HIZ := Lib.hid (show Calls Try.prog 31 #[.int .i64 z, .int .i64 0, .int .i64 255] wr (fun e w' => e = .returned (.bool q) ∧ w' = wr) by rw [← hq]; exact HI.out z wr)
      have HQ := Lib.hid hq
      clear hlt hi hz hq
      go_wp2_with fail
      refine HIZ.out.mono ?_
      rintro e w' ⟨rfl, rfl⟩
      cases q with
      | false =>
        have hf := Lib.hid (all_take_false (i := i + 1) (by rw [HTA.out, show byteOk z = false from HQ.out]; simp))
        go_wp2
        go_ret
        exact ⟨retb hf.out.symm, rfl⟩
      | true =>
        go_wp2
        go_roundw
        case rel => exact ⟨i + 1, by go_num, by have := HE.out; have := HLT.out; omega, by show _ = true; rw [HTA.out, show byteOk z = true from HQ.out, show (zs.take i).all byteOk = true from HA.out]; rfl, rfl⟩
        case measure => have := HLT.out; simp [intOf]; omega
    · have hge : (len : Int) ≤ i := by omega
      have htk : zs.take i = zs := List.take_of_length_le (by have := HE.out; omega)
      rw [htk] at HA
      clear hi hlt htk
      go_wp2
      go_ret
      exact ⟨retb (show zs.all byteOk = true from HA.out).symm, rfl⟩

def SumRel (zs : List Int) (W : World) (n i : Value) (wr : World) : Prop := ∃ k : Nat, i = .int .i64 k ∧ k ≤ zs.length ∧ n = .int .i64 (sumB (zs.take k)) ∧ wr = W

theorem sumB_next {zs : List Int} {i : Nat} {z : Int} (h : zs[i]? = some z) : sumB (zs.take (i + 1)) = (31 * sumB (zs.take i) + z) % 251 := by
  unfold sumB
  rw [List.take_add_one, h, List.foldl_append]
  rfl

end Go.Proofs.Ytonbkmmddahlfaa
