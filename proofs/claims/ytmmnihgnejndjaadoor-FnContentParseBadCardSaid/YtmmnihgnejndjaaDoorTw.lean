/-
  WALKS: spec.l91Twist: a text that is changed in a third of all cases.
-/
import Derived.Laws.Concat
import Derived.Deep.RegionWith
import Derived.Test.YtmmnihgnejndjaaDoorRo
namespace Go.Proofs.YtmmnihgnejndjaaDoor
open Go.RowKit
set_option linter.unusedVariables false

/-- A text of modest length; the reader some places on. -/
def TwistPost (N0 B p m : Nat) (W : World) (e : Ending) (W' : World) : Prop :=
  ∃ (t : ByteArray) (q : Nat), e = .returned (.string t) ∧ t.size ≤ m ∧ q ≤ p + 4 ∧ RdAt N0 W' B q ∧ W.grownBy W' (some B)

theorem twist_facts (s : ByteArray) (k t : Nat) (hs : s.size ≤ 20000) (hk : (k : Int) < s.size) (ht : (t : Int) < 2) :
    IntKind.i64.wrap ((k : Int) + t) = ((k + t : Nat) : Int) ∧ ((k + t : Nat) : Int) ≤ s.size ∧ (s.extract (k + t) s.size).size ≤ 20000 := by
  refine ⟨?_, by omega, ?_⟩
  · rw [IntWalk.i64_in _ (by omega)]; omega
  · rw [ByteArray.size_extract]; omega

theorem twist_size (s x : ByteArray) (k t : Nat) (hx : x.size ≤ 1) (hk : (k : Int) < s.size) : (s.extract 0 k ++ x ++ s.extract (k + t) s.size).size ≤ s.size + 1 := by
  rw [ByteArray.size_append, ByteArray.size_append, ByteArray.size_extract, ByteArray.size_extract]; omega

theorem grownBy_drew (W : World) (row : Option Nat) : W.grownBy W.drew row := ⟨rfl, rfl, rfl, Nat.le_refl _, fun _ _ _ => rfl⟩

set_option maxHeartbeats 1000000 in
set_option maxRecDepth 100000 in
theorem l91Twist_c (N0 B p L c : Nat) (s : ByteArray) (hs : s.size ≤ 20000) (xs : List ByteArray) (hx : 1 ≤ xs.length) (hx2 : xs.length ≤ 1000) (hx1 : ∀ x ∈ xs, x.size ≤ 1) (hLB : L ≠ B) (W : World) (hp : p < 29000) (hR : RdAt N0 W B p)
    (hc : ∀ j x, xs[j]? = some x → W.cell? ⟨L, j, none⟩ = some (.string x)) :
    Calls Tryd.prog 22 #[.pointer (some ⟨B, 0, none⟩), .string s, .slice (some ⟨L, 0, none⟩) xs.length c] W (TwistPost N0 B p (s.size + 1) W) := by
  have HR := Lib.hid hR
  have HC := Lib.hid hc
  have HX1 := Lib.hid hx1
  clear hR hc hx1
  by_cases h0 : s.size = 0
  · have h0' : (s.size : Int) = 0 := by omega
    have HZ := Lib.hid h0
    clear h0 hs hx hx2 hLB hp
    go_enter Tryd.func22, Tryd.ntmps22
    go_wp2
    go_ret
    exact ⟨s, p, rfl, by omega, by omega, HR.out, ⟨rfl, rfl, rfl, Nat.le_refl _, fun _ _ _ => rfl⟩⟩
  · have h0' : (0 : Int) < s.size := by omega
    have HP1 := Lib.hid (fun W hR => pick_c N0 B p 3 (by omega) (by omega) W (by omega) hR)
    have HP2 := Lib.hid (fun W hR => pick_c N0 B (p + 1) s.size (by omega) (by omega) W (by omega) hR)
    have HP4 := Lib.hid (fun W hR => pick_c N0 B (p + 1 + 1 + 1) 2 (by omega) (by omega) W (by omega) hR)
    have HO := Lib.hid (fun W hR hc => of_c N0 B (p + 1 + 1) L c xs hx hx2 hLB W (by omega) hR hc)
    have HLB := Lib.hid hLB
    have HS := Lib.hid hs
    clear h0 hs hx hx2 hLB hp
    go_enter Tryd.func22, Tryd.ntmps22
    go_wp2_with fail
    refine (HP1.out _ HR.out).mono ?_
    rintro e W1 ⟨r, rfl, r0, r1, hR1, hg1⟩
    by_cases hr : r = 0
    · subst hr
      clear r0 r1
      go_wp2_with fail
      refine (HP2.out _ hR1).mono ?_
      rintro e W2 ⟨k', rfl, k0, k1, hR2, hg2⟩
      obtain ⟨k, rfl⟩ := Int.eq_ofNat_of_zero_le k0
      have hC2 : ∀ j x, xs[j]? = some x → W2.drew.cell? ⟨L, j, none⟩ = some (.string x) := fun j x h => hg2.cell (hg1.cell (HC.out j x h) (by simpa using HLB.out)) (by simpa using HLB.out)
      have HO2 := Lib.hid (HO.out W2.drew hR2.drew hC2)
      have HG2 := Lib.hid (grownBy_trans hg1 hg2)
      have HK := Lib.hid k1
      have hk : (k : Int) ≤ s.size := by omega
      have hs1 : s.size ≤ 20000 := HS.out
      have ha : (s.extract 0 k).size ≤ 20000 := by rw [ByteArray.size_extract]; omega
      clear hC2 hg1 hg2 hR1 hR2 k0 k1
      go_wp2_with fail
      go_region_with (first
        | (go_at_call 27; refine HO2.out.mono ?_; rintro e W3 ⟨x, hx, rfl, hR3, hg3⟩; have hx1 := HX1.out x hx)
        | (go_at_call 23; refine (HP4.out _ hR3).mono ?_; rintro e W4 ⟨t', rfl, t0, t1, hR4, hg4⟩; obtain ⟨t, rfl⟩ := Int.eq_ofNat_of_zero_le t0; obtain ⟨hw, hkt, hb⟩ := twist_facts s k t HS.out HK.out t1; have HT1 := Lib.hid t1; clear t0 t1))
      all_goals (go_wp2; go_ret; exact ⟨_, p + 1 + 1 + 1 + 1, rfl, twist_size s x k t (HX1.out x hx) HK.out, by omega, hR4, grownBy_trans (grownBy_trans HG2.out (grownBy_drew _ _)) (grownBy_trans hg3 hg4)⟩)
    · have hr' : (r == 0) = false := beq_eq_false_iff_ne.2 hr
      clear r0 r1 hr
      go_wp2
      go_ret
      exact ⟨s, p + 1, rfl, by omega, by omega, hR1, hg1⟩

end Go.Proofs.YtmmnihgnejndjaaDoor
