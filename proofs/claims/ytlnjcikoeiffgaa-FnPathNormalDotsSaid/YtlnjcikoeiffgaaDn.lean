/-
  WALKS: spec.DrawPathNormal.
-/
import Derived.Test.YtlnjcikoeiffgaaDp
namespace Go.Proofs.Ytlnjcikoeiffgaa
open Go.RowKit
set_option linter.unusedVariables false

def bitTexts : List ByteArray := [⟨#[97]⟩, ⟨#[98]⟩, ⟨#[99]⟩, ⟨#[46, 46]⟩, ⟨#[46]⟩, ⟨#[]⟩, ⟨#[97]⟩, ⟨#[98]⟩, ⟨#[101]⟩]
def endTexts : List ByteArray := [⟨#[97]⟩, ⟨#[100]⟩, ⟨#[46, 46]⟩]

def NormDraw (B : Nat) (n : Int) (W : World) (out i : Value) (wr : World) : Prop :=
  ∃ (k : Nat) (s : ByteArray), i = .int .i64 k ∧ k ≤ 6 ∧ (k : Int) ≤ n ∧ out = .string s ∧ 1 ≤ s.size ∧ s.size ≤ 1 + 3 * k ∧ RdAt wr B (1 + k) ∧ Below W.heap.size W wr ∧ B = W.heap.size

set_option maxHeartbeats 2000000 in
set_option maxRecDepth 100000 in
theorem drawNormal_c (a : Option Addr) (len cap : Nat) (zs : List Int) (W : World) (h : IsRow .u8 W a len cap zs) :
    Calls Try.prog 27 #[.slice a len cap] W (DrawPost 64 W) := by
  have HO := Lib.hid (l6Open_c a len cap zs W h)
  have HP := Lib.hid (fun B p n h1 h2 W hp hR => pick_c B p n h1 h2 W hp hR)
  clear h
  go_enter Try.func27, Try.ntmps27
  go_wp2_with fail
  refine HO.out.mono ?_
  rintro e W1 ⟨rfl, hR, hB⟩
  go_wp2_with fail
  refine (HP.out _ _ 7 (by omega) (by omega) _ (by omega) hR).mono ?_
  rintro e W2 ⟨n, rfl, n0, n1, hR2, hg⟩
  have hB2 := below_of_reader hB hg
  clear hR hB hg
  go_wp2
  go_loopw [4, 6] (fun out i wr => NormDraw W.heap.size n W out i wr) (fun _ i _ => (n - intOf i).toNat)
  case atStart => exact ⟨0, ⟨#[47]⟩, rfl, by omega, n0, rfl, by decide, by decide, hR2, hB2, rfl⟩
  case round =>
    obtain ⟨k, s, rfl, hk6, hkn, rfl, hs1, hs2, hRk, hBk, _⟩ := hrel
    clear hR2 hB2
    have hs30 : s.size ≤ 30 := by omega
    by_cases hlt : (k : Int) < n
    · have hk5 : k ≤ 5 := by omega
      have HOf := Lib.hid (of_lit W.heap.size (1 + k) bitTexts 9 rfl (by omega) (by omega) wr (by omega) hRk _ rfl)
      simp only [bitTexts, List.map_cons, List.map_nil] at HOf
      have HS1 := Lib.hid hs1
      have HS2 := Lib.hid hs2
      clear hs1 hs2
      go_wp2_with fail
      refine HOf.out.mono ?_
      rintro e W5 ⟨x, hx, rfl, hR5, hg5⟩
      have hx1 : x.size ≤ 2 := by
        simp at hx
        rcases hx with rfl | rfl | rfl | rfl | rfl | rfl | rfl | rfl | rfl <;> decide
      have hB5 := below_of_reader hBk hg5
      clear hx hg5
      go_wp2
      refine ⟨⟨k + 1, s ++ x ++ ⟨#[47]⟩, by go_num, by omega, by omega, rfl, ?_, ?_, hR5, hB5, rfl⟩, ?_⟩
      · rw [ByteArray.size_append, ByteArray.size_append]
        have : (⟨#[47]⟩ : ByteArray).size = 1 := rfl
        omega
      · rw [ByteArray.size_append, ByteArray.size_append]
        have : (⟨#[47]⟩ : ByteArray).size = 1 := rfl
        have := HS2.out
        omega
      · simp [intOf]; omega
    · have hk : n ≤ k := by omega
      have HS1 := Lib.hid hs1
      have HP2 := Lib.hid (HP.out W.heap.size (1 + k) 2 (by omega) (by omega) wr (by omega) hRk)
      clear hs1 hs2 hlt
      go_wp2_with fail
      refine HP2.out.mono ?_
      rintro e W5 ⟨r, rfl, r0, r1, hR5, hg5⟩
      have hB5 := below_of_reader hBk hg5
      clear hg5 hRk hBk
      have last : ∀ (t : ByteArray) (q : Nat) (W6 : World), 1 ≤ t.size → t.size ≤ 40 → q ≤ 20 → RdAt W6 W.heap.size q → Below W.heap.size W W6 →
          Calls Try.prog 38 #[.pointer (some ⟨W.heap.size, 0, none⟩), .int .i64 20] W6 fun e W' => ∃ z : Int, e = .returned (.int .i64 z) ∧ Below W.heap.size W W' := by
        intro t q W6 _ _ hq hR6 hB6
        refine (HP.out W.heap.size q 20 (by omega) (by omega) W6 (by omega) hR6).mono ?_
        rintro e W7 ⟨z, rfl, _, _, _, hg7⟩
        exact ⟨z, rfl, below_of_reader hB6 hg7⟩
      have HL := Lib.hid last
      clear last
      by_cases hr : r = 0
      · subst hr
        have HOf := Lib.hid (of_lit W.heap.size (1 + k + 1) endTexts 3 rfl (by omega) (by omega) W5 (by omega) hR5 _ rfl)
        simp only [endTexts, List.map_cons, List.map_nil] at HOf
        clear r0 r1
        go_wp2_with fail
        refine HOf.out.mono ?_
        rintro e W6 ⟨x, hx, rfl, hR6, hg6⟩
        have hx1 : x.size ≤ 2 := by
          simp at hx
          rcases hx with rfl | rfl | rfl <;> decide
        have hB6 := below_of_reader hB5 hg6
        clear hx hg6
        obtain ⟨t, ht⟩ : ∃ t : ByteArray, s ++ x = t := ⟨_, rfl⟩
        have hts : t.size = s.size + x.size := by rw [← ht, ByteArray.size_append]
        have HT : Hid (s ++ x = t) := ht
        have t1 : 1 ≤ t.size := by have := HS1.out; omega
        have t2 : t.size ≤ 40 := by omega
        have HL2 := Lib.hid (HL.out t (1 + k + 1 + 1) W6 t1 t2 (by omega) hR6 hB6)
        clear ht hts
        go_wp2_with fail
        rw [HT.out]
        refine HL2.out.mono ?_
        rintro e W7 ⟨z, rfl, hB7⟩
        have t1' : (1 : Int) ≤ t.size := by omega
        go_wp2
        all_goals go_ret
        · exact ⟨t.extract 1 t.size, rfl, Pm.extract_le _ _ _ (by omega), hB7⟩
        · exact ⟨t, rfl, by omega, hB7⟩
      · have hr' : (r == 0) = false := by simpa using hr
        have HL2 := Lib.hid (HL.out s (1 + k + 1) W5 HS1.out (by omega) (by omega) hR5 hB5)
        have s1' : (1 : Int) ≤ s.size := by have := HS1.out; omega
        clear r0 r1 hr
        go_wp2_with fail
        refine HL2.out.mono ?_
        rintro e W7 ⟨z, rfl, hB7⟩
        go_wp2
        all_goals go_ret
        · exact ⟨s.extract 1 s.size, rfl, Pm.extract_le _ _ _ (by omega), hB7⟩
        · exact ⟨s, rfl, by omega, hB7⟩

end Go.Proofs.Ytlnjcikoeiffgaa
