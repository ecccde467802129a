/-
  WALKS: commands of the model: spec.l11Words, spec.CommandParse.
-/
import Derived.Test.YtnmpbocnbcokeabDoorCw
import Derived.Test.YtnmpbocnbcokeabDoorCp
namespace Go.Proofs.YtnmpbocnbcokeabDoor
open Go.RowKit
set_option linter.unusedVariables false

/-- No blank stands from place a up to b. -/
def NoBl (s : ByteArray) (a b : Nat) : Prop := ∀ j, a ≤ j → j < b → s.data.toList[j]? ≠ some 32

theorem byte_32 {c : UInt8} (h : ((c.toNat : Int) == 32) = true) : c = 32 := by
  have h : (c.toNat : Int) = 32 := eq_of_beq h
  have h2 : c.toNat = 32 := by omega
  exact UInt8.toNat_inj.1 h2
theorem byte_not_32 {c : UInt8} (h : ((c.toNat : Int) == 32) = false) : c ≠ 32 := by
  intro e
  subst e
  exact absurd h (by decide)

theorem NoBl.step {s : ByteArray} {a b : Nat} (h : NoBl s a b) (hb : b < s.size) (hc : ((s[b].toNat : Int) == 32) = false) : NoBl s a (b + 1) := by
  intro j hj1 hj2
  by_cases e : j = b
  · subst e
    rw [Pm.byte_getElem? s j hb]
    intro e
    exact byte_not_32 hc (by simpa using e)
  · exact h j hj1 (by omega)

theorem NoBl.mem {s : ByteArray} {a b : Nat} (h : NoBl s a b) : ∀ x ∈ (s.data.toList.drop a).take (b - a), x ≠ 32 := by
  intro x hx e
  obtain ⟨k, hk⟩ := List.mem_iff_getElem?.1 hx
  rw [List.getElem?_take] at hk
  split at hk
  · rw [List.getElem?_drop] at hk
    exact h (a + k) (by omega) (by omega) (by rw [hk, e])
  · cases hk

theorem words_at (s : ByteArray) (a i : Nat) (h1 : a ≤ i) (hi : i < s.size) (hno : NoBl s a i) (hc : ((s[i].toNat : Int) == 32) = true) :
    wordsB (s.extract a s.size) = s.extract a i :: wordsB (s.extract (i + 1) s.size) := by
  have hcc : s.data.toList[i]? = some 32 := by rw [Pm.byte_getElem? s i hi, byte_32 hc]
  have hl : i < s.data.toList.length := by rw [← Lib.size_eq]; exact hi
  have hd : s.data.toList.drop a = (s.data.toList.drop a).take (i - a) ++ 32 :: s.data.toList.drop (i + 1) := by
    have e := List.take_append_drop (i - a) (s.data.toList.drop a)
    rw [List.drop_drop, show a + (i - a) = i from by omega] at e
    have e2 : s.data.toList.drop i = 32 :: s.data.toList.drop (i + 1) := by
      rw [List.drop_eq_getElem_cons hl]
      congr 1
      rw [List.getElem?_eq_getElem hl] at hcc
      simpa using hcc
    rw [e2] at e
    exact e.symm
  unfold wordsB
  rw [Pm.extract_end_data, Pm.extract_end_data]
  have := wordsL_app ((s.data.toList.drop a).take (i - a)) (s.data.toList.drop (i + 1)) hno.mem
  rw [← hd] at this
  rw [this, List.map_cons]
  congr 1
  rw [Lib.extract_eq]

theorem words_end (s : ByteArray) (a : Nat) (hno : NoBl s a s.size) : wordsB (s.extract a s.size) = [s.extract a s.size] := by
  unfold wordsB
  have e : (s.data.toList.drop a).take (s.size - a) = s.data.toList.drop a := List.take_of_length_le (by rw [List.length_drop, ← Lib.size_eq]; omega)
  rw [Pm.extract_end_data]
  have hm := hno.mem
  rw [e] at hm
  rw [wordsL_one _ hm, List.map_cons, List.map_nil, ← Pm.extract_end_data]

def WordsRel (s : ByteArray) (w : World) (v fr i : Value) (wr : World) : Prop :=
  ∃ (done : List ByteArray) (f k : Nat), fr = .int .i64 f ∧ i = .int .i64 k ∧ f ≤ k ∧ k ≤ s.size ∧ done.length ≤ f ∧ wr.ownsRow w.heap.size 9 1 v done.length (done.map Value.string) ∧
    Below w.heap.size w wr ∧ Hid (wordsB s = done ++ wordsB (s.extract f s.size)) ∧ Hid (NoBl s f k)

set_option maxRecDepth 100000 in
set_option maxHeartbeats 1000000 in
theorem l11Words_c (s : ByteArray) (hs : s.size ≤ 2097152) (w : World) :
    Calls Tryd.prog 7 #[.string s] w fun e w' => OwnsTexts w.heap.size (wordsB s) e w' ∧ Below w.heap.size w w' := by
  obtain ⟨i0, hi, hz0, hz1, hz2⟩ := info_parts infoStr
  have h00 : wordsB s = wordsB (s.extract 0 s.size) := by rw [ByteArray.extract_zero_size]
  have H00 := Lib.hid h00
  clear h00
  go_enter Tryd.func7, Tryd.ntmps7
  go_wp2
  go_loopw [3, 4, 5] (fun v fr i wr => WordsRel s w v fr i wr) (fun _ _ i _ => s.size - (intOf i).toNat)
  case atStart =>
    exact ⟨[], 0, 0, rfl, rfl, by omega, by omega, by simp, World.ownsRow_lit (e := 9) (size := 1) w #[] 0 (Nat.le_refl _) (by simp [maxLen]) rfl, (Below.refl _ _).alloc (Nat.le_refl _) _, H00, fun j a b => by omega⟩
  case round =>
    obtain ⟨done, f, k, rfl, rfl, hfk, hk, hd, hrow, hB, HN, HS⟩ := hrel
    have hlt0 := hrow.lt
    by_cases hlt : k < s.size
    · cases hb : ((s[k].toNat : Int) == 32) with
      | false =>
        have HS2 : Hid (NoBl s f (k + 1)) := HS.out.step hlt hb
        go_wp2
        go_roundw
        case rel => exact ⟨done, f, k + 1, rfl, by go_num, by omega, by omega, hd, hrow, hB, HN, HS2⟩
        case measure => simp [intOf]; omega
      | true =>
        have hsp := words_at s f k hfk hlt HS.out hb
        have HN2 : Hid (wordsB s = (done ++ [s.extract f k]) ++ wordsB (s.extract (k + 1) s.size)) := by
          show _ = _; rw [HN.out, hsp, List.append_assoc]; rfl
        clear hsp
        have c1 : (0 : Int) ≤ ↑f := by omega
        have c2 : (↑f : Int) ≤ ↑k := by omega
        have c3 : (↑k : Int) ≤ ↑s.size := by omega
        go_wp2_with (at_builtin; refine wpList_append_own _ rfl _ _ 30 rfl w.heap.size 9 i0 (.string ⟨#[]⟩) 1 16 Tryd.underlying30 hi hz0 hz1 hz2 rfl (by decide) _ _ _ rfl (hrow.alloc _) ⟨wr.heap.size, 0, none⟩ 1 1 [.string (s.extract f k)] rfl rfl (cell_one_new _ _ _) (fun x hx => by simp at hx; subst hx; rfl) (by unfold maxLen; omega) (by omega) (by have := hB.size; simp; omega) ?_; intro v' w3 hown' hgrow3 hnil3)
        have hB3 : Below w.heap.size w w3 := (hB.alloc hB.size _).grown hgrow3 (by have := hB.size; simp; omega) (fun k e => (hlt0 k e).1)
        go_roundw
        case rel => exact ⟨done ++ [s.extract f k], k + 1, k + 1, by go_num, by go_num, by omega, by omega, by simp; omega, by simpa using hown', hB3, HN2, fun j a b => by omega⟩
        case measure => simp [intOf]; omega
    · obtain rfl : k = s.size := by omega
      have hsp := words_end s f HS.out
      have HN2 : Hid (wordsB s = done ++ [s.extract f s.size]) := by show _ = _; rw [HN.out, hsp]
      clear hsp hlt
      have c1 : (0 : Int) ≤ ↑f := by omega
      have c2 : (↑f : Int) ≤ ↑s.size := by omega
      go_wp2_with (at_builtin; refine wpList_append_own _ rfl _ _ 30 rfl w.heap.size 9 i0 (.string ⟨#[]⟩) 1 16 Tryd.underlying30 hi hz0 hz1 hz2 rfl (by decide) _ _ _ rfl (hrow.alloc _) ⟨wr.heap.size, 0, none⟩ 1 1 [.string (s.extract f s.size)] rfl rfl (cell_one_new _ _ _) (fun x hx => by simp at hx; subst hx; rfl) (by unfold maxLen; omega) (by omega) (by have := hB.size; simp; omega) ?_; intro v' w3 hown' hgrow3 hnil3)
      have hB3 : Below w.heap.size w w3 := (hB.alloc hB.size _).grown hgrow3 (by have := hB.size; simp; omega) (fun k e => (hlt0 k e).1)
      go_ret
      refine ⟨?_, hB3⟩
      obtain ⟨g, cap, hv⟩ := ownsRow_succ hown'
      subst hv
      refine ⟨g, cap, ?_, ?_⟩
      · rw [HN2.out]; simp
      · rw [HN2.out]; simpa using hown'

end Go.Proofs.YtnmpbocnbcokeabDoor
