/-
  WALKS: names (impl.isName, spec.l1Name), strings.CutPrefix and strings.Cut at a slash, strings.HasPrefix, strings.LastIndexByte.
-/
import Derived.Test.YtoipbocbgadjbaaPm
import Derived.Test.YtoipbocbgadjbaaChecked
import Derived.WalkKit
import Derived.BigQuiet
import Derived.Deep.QuietTactic
import Derived.Lib.Walk
import Derived.Lib.Hide
import Derived.Laws.Externs
import Derived.Lib.CutLaws
import Derived.Outline
namespace Go.Proofs.Ytoipbocbgadjbaa
open Go.RowKit

theorem ret_bool {a b : Bool} (h : a = b) : Ending.returned (.bool a) = .returned (.bool b) := by rw [h]
theorem ret_int {k : IntKind} {a b : Int} (h : a = b) : Ending.returned (.int k a) = .returned (.int k b) := by rw [h]

set_option maxHeartbeats 400000 in
set_option maxRecDepth 100000 in
theorem isName_c (s : ByteArray) (w : World) :
    Calls Try.prog 63 #[.string s] w fun e w' => e = .returned (.bool (Pm.nameB s.data.toList)) ∧ w' = w := by
  obtain ⟨⟨l⟩⟩ := s
  match l with
  | [] =>
    go_enter Try.func63, Try.ntmps63
    go_wp2
    go_ret
    exact ⟨rfl, rfl⟩
  | [c] =>
    go_enter Try.func63, Try.ntmps63
    go_wp2
    · rename_i h
      go_ret
      refine ⟨ret_bool ?_, rfl⟩
      have h : 97 ≤ (c.toNat : Int) := h
      show decide ((c.toNat : Int) ≤ 100) = decide (97 ≤ (c.toNat : Int) ∧ (c.toNat : Int) ≤ 100)
      simp [h]
    · rename_i h
      go_ret
      refine ⟨ret_bool ?_, rfl⟩
      have h : (c.toNat : Int) < 97 := h
      show false = decide (97 ≤ (c.toNat : Int) ∧ (c.toNat : Int) ≤ 100)
      exact (decide_eq_false (by omega)).symm
  | c :: d :: l =>
    go_enter Try.func63, Try.ntmps63
    go_wp2
    go_ret
    refine ⟨ret_bool ?_, rfl⟩
    simp only [Pm.nameB]
    first | done | exact decide_eq_false (by omega)

set_option maxHeartbeats 400000 in
set_option maxRecDepth 100000 in
theorem l1Name_c (s : ByteArray) (w : World) :
    Calls Try.prog 82 #[.string s] w fun e w' => e = .returned (.bool (Pm.nameB s.data.toList)) ∧ w' = w := by
  obtain ⟨⟨l⟩⟩ := s
  match l with
  | [] =>
    go_enter Try.func82, Try.ntmps82
    go_wp2
    go_ret
    exact ⟨rfl, rfl⟩
  | [c] =>
    go_enter Try.func82, Try.ntmps82
    go_wp2
    · rename_i h
      go_ret
      refine ⟨ret_bool ?_, rfl⟩
      have h : 97 ≤ (c.toNat : Int) := h
      show decide ((c.toNat : Int) ≤ 100) = decide (97 ≤ (c.toNat : Int) ∧ (c.toNat : Int) ≤ 100)
      simp [h]
    · rename_i h
      go_ret
      refine ⟨ret_bool ?_, rfl⟩
      have h : (c.toNat : Int) < 97 := h
      show false = decide (97 ≤ (c.toNat : Int) ∧ (c.toNat : Int) ≤ 100)
      exact (decide_eq_false (by omega)).symm
  | c :: d :: l =>
    go_enter Try.func82, Try.ntmps82
    go_wp2
    go_ret
    refine ⟨ret_bool ?_, rfl⟩
    simp only [Pm.nameB]
    first | done | exact decide_eq_false (by omega)

set_option maxHeartbeats 400000 in
set_option maxRecDepth 100000 in
theorem indexByte_c (s : ByteArray) (c : Int) (w : World) :
    Calls Try.prog 91 #[.string s, .int .u8 c] w fun e w' => e = .returned (.int .i64 (Lib.indexByte s.data.toList c.toNat.toUInt8)) ∧ w' = w := by
  go_enter Try.func91, Try.ntmps91
  go_wp2
  rw [run_callFunc_extern Try.func95 (by kernel_rfl) (by kernel_rfl) (by kernel_rfl) (e := Extern.BytealgIndexByte.indexByte) (by kernel_rfl), Lib.run_indexByteString]
  simp only [Result.andThen]
  rw [Oper.upon_value]
  go_wp2
  go_ret
  exact ⟨rfl, rfl⟩

theorem toList_47 {s : ByteArray} (h : ([47] == s.toList) = true) : s.data.toList = [47] := by
  have h := eq_of_beq h
  rw [Lib.toList_data] at h
  exact h.symm

set_option maxHeartbeats 400000 in
set_option maxRecDepth 100000 in
theorem index_c (s : ByteArray) (w : World) :
    Calls Try.prog 90 #[.string s, .string ⟨#[47]⟩] w fun e w' => e = .returned (.int .i64 (Lib.indexByte s.data.toList 47)) ∧ w' = w := by
  cases h : ([47] == s.toList)
  · go_enter Try.func90, Try.ntmps90
    go_wp2_with fail
    refine (indexByte_c s 47 _).mono ?_
    rintro e w' ⟨rfl, rfl⟩
    go_wp2
    go_ret
    exact ⟨rfl, rfl⟩
  · have h47 := toList_47 h
    have h0 : Lib.indexByte s.data.toList 47 = 0 := by rw [h47]; rfl
    have H0 := Lib.hid h0
    clear h0 h47
    go_enter Try.func90, Try.ntmps90
    go_wp2
    go_ret
    exact ⟨ret_int H0.out.symm, rfl⟩

set_option maxHeartbeats 400000 in
set_option maxRecDepth 100000 in
theorem slCut_miss (s : ByteArray) (w : World) (h : Lib.indexByte s.data.toList 47 = -1) :
    Calls Try.prog 85 #[.string s, .string ⟨#[47]⟩] w fun e w' => e = .returned (.tuple #[.string s, .string ⟨#[]⟩, .bool false]) ∧ w' = w := by
  have hx : ∀ w, Calls Try.prog 90 #[.string s, .string ⟨#[47]⟩] w fun e w' => e = .returned (.int .i64 (-1)) ∧ w' = w := fun w => by
    rw [← h]; exact index_c s w
  clear h
  go_enter Try.func85, Try.ntmps85
  go_wp2_with (go_at_call 90; refine (hx _).mono ?_; rintro e w' ⟨rfl, rfl⟩)
  go_ret3
  exact ⟨rfl, rfl⟩

set_option maxHeartbeats 400000 in
set_option maxRecDepth 100000 in
theorem cut_miss (s : ByteArray) (w : World) (h : Lib.indexByte s.data.toList 47 = -1) :
    Calls Try.prog 76 #[.string s, .string ⟨#[47]⟩] w fun e w' => e = .returned (.tuple #[.string s, .string ⟨#[]⟩, .bool false]) ∧ w' = w := by
  have hx := fun w => slCut_miss s w h
  clear h
  go_enter Try.func76, Try.ntmps76
  go_wp2_with (go_at_call 85; refine (hx _).mono ?_; rintro e w' ⟨rfl, rfl⟩)
  go_ret3
  exact ⟨rfl, rfl⟩

set_option maxHeartbeats 400000 in
set_option maxRecDepth 100000 in
theorem slCut_hit (s : ByteArray) (i : Nat) (w : World) (h : Lib.indexByte s.data.toList 47 = i) (hi : i + 1 ≤ s.size) (hs : s.size ≤ 140737488355328) :
    Calls Try.prog 85 #[.string s, .string ⟨#[47]⟩] w fun e w' => e = .returned (.tuple #[.string (s.extract 0 i), .string (s.extract (i + 1) s.size), .bool true]) ∧ w' = w.drew := by
  have hx : ∀ w, Calls Try.prog 90 #[.string s, .string ⟨#[47]⟩] w fun e w' => e = .returned (.int .i64 i) ∧ w' = w := fun w => by
    rw [← h]; exact index_c s w
  clear h
  have c1 : (0 : Int) ≤ ↑i := by omega
  have c2 : (↑i : Int) ≤ ↑s.size := by omega
  have c3 : (0 : Int) ≤ ↑i + 1 := by omega
  have c4 : (↑i + 1 : Int) ≤ ↑s.size := by omega
  go_enter Try.func85, Try.ntmps85
  go_wp2_with (go_at_call 90; refine (hx _).mono ?_; rintro e w' ⟨rfl, rfl⟩)
  go_region
  all_goals go_wp2
  all_goals go_ret3
  all_goals exact ⟨rfl, rfl⟩

set_option maxHeartbeats 400000 in
set_option maxRecDepth 100000 in
theorem cut_hit (s : ByteArray) (i : Nat) (w : World) (h : Lib.indexByte s.data.toList 47 = i) (hi : i + 1 ≤ s.size) (hs : s.size ≤ 140737488355328) :
    Calls Try.prog 76 #[.string s, .string ⟨#[47]⟩] w fun e w' => e = .returned (.tuple #[.string (s.extract 0 i), .string (s.extract (i + 1) s.size), .bool true]) ∧ w' = w.drew := by
  have hx := fun w => slCut_hit s i w h hi hs
  clear h
  go_enter Try.func76, Try.ntmps76
  go_wp2_with (go_at_call 85; refine (hx _).mono ?_; rintro e w' ⟨rfl, rfl⟩)
  go_ret3
  exact ⟨rfl, rfl⟩

set_option maxHeartbeats 400000 in
set_option maxRecDepth 100000 in
theorem cutPrefix_yes (s : ByteArray) (w : World) (h : (s.extract 0 1).toList = [47]) (hs : 1 ≤ s.size) (hl : s.size ≤ 140737488355328) :
    Calls Try.prog 75 #[.string s, .string ⟨#[47]⟩] w fun e w' => e = .returned (.tuple #[.string (s.extract 1 s.size), .bool true]) ∧ w' = w := by
  have h1 : ((s.extract 0 1).toList == [47]) = true := by rw [h]; rfl
  have h2 : (1 : Int) ≤ s.size := by omega
  clear h
  go_enter Try.func75, Try.ntmps75
  go_wp2
  go_ret2
  exact ⟨rfl, rfl⟩

set_option maxHeartbeats 400000 in
set_option maxRecDepth 100000 in
theorem cutPrefix_no (s : ByteArray) (w : World) (h : 1 ≤ s.size → ((s.extract 0 1).toList == [47]) = false) (hl : s.size ≤ 140737488355328) :
    Calls Try.prog 75 #[.string s, .string ⟨#[47]⟩] w fun e w' => e = .returned (.tuple #[.string s, .bool false]) ∧ w' = w := by
  by_cases hs : 1 ≤ s.size
  · have h1 := h hs
    have h2 : (1 : Int) ≤ s.size := by omega
    clear h
    go_enter Try.func75, Try.ntmps75
    go_wp2
    go_ret2
    exact ⟨rfl, rfl⟩
  · have h2 : (s.size : Int) < 1 := by omega
    clear h
    go_enter Try.func75, Try.ntmps75
    go_wp2
    go_ret2
    exact ⟨rfl, rfl⟩

end Go.Proofs.Ytoipbocbgadjbaa
