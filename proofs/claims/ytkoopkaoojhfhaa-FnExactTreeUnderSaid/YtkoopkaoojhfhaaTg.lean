/-
  WALKS: spec.TreeGet.
-/
import Derived.Test.YtkoopkaoojhfhaaTv
namespace Go.Proofs.Ytkoopkaoojhfhaa
open Go.RowKit
set_option linter.unusedVariables false

set_option maxHeartbeats 1000000 in
theorem specTreeGet_c (a : Option Addr) (len cap : Nat) (ns : List Nd) (p : ByteArray) (hl : len ≤ 2097152) (hs : Short 2097152 ns) (hp : p.size ≤ 2097152) (W : World) (hN : NodesAt W a len ns) :
    Calls Try.prog 18 #[.slice a len cap, .string p] W (ConRet (treeGet ns p).1 (treeGet ns p).2 W) := by
  have HN := Lib.hid hN
  have HV := Lib.hid (fun W h => specTreeValid_c a len cap ns hl hs W h)
  have HP := Lib.hid (fun w => specValid_c p hp w)
  have HG := Lib.hid (fun W h => l3Get_c a len cap ns p hl W h)
  clear hN hs hp
  cases hv : validT ns with
  | false =>
    have HT := Lib.hid (show treeGet ns p = (0, 0) by unfold treeGet; rw [hv]; rfl)
    rw [hv] at HV
    clear hv
    go_enter Try.func18, Try.ntmps18
    go_wp2_with fail
    refine (HV.out _ (HN.out.keep (below_box _ _))).mono ?_; rintro e W1 ⟨rfl, hb1⟩
    have T1 := Lib.hid ((two_new W _ _ _).below hb1)
    have B1 := Lib.hid (below_next (below_box W _) hb1)
    obtain ⟨g0, g1, f0, f1, -⟩ := T1.out
    clear hb1
    go_wp2
    exact conS_set 4 _ rfl HT.out T1.out B1.out rfl
  | true =>
    rw [hv] at HV
    have hvp : ∀ w, Calls Try.prog 20 #[.string p] w fun e w' => e = .returned (.bool (vpB p)) ∧ Below w.heap.size w w' := fun w => HP.out w
    cases hq : vpB p with
    | false =>
      have HT := Lib.hid (show treeGet ns p = (0, 0) by unfold treeGet; rw [hv, hq]; rfl)
      rw [hq] at hvp
      have HQ := Lib.hid hvp
      clear hv hq hvp
      go_enter Try.func18, Try.ntmps18
      go_wp2_with fail
      refine (HV.out _ (HN.out.keep (below_box _ _))).mono ?_; rintro e W1 ⟨rfl, hb1⟩
      go_wp2_with fail
      refine (HQ.out _).mono ?_; rintro e W2 ⟨rfl, hb2⟩
      have T2 := Lib.hid (((two_new W _ _ _).below hb1).below hb2)
      have B2 := Lib.hid (below_next (below_box W _) (below_next hb1 hb2))
      obtain ⟨g0, g1, f0, f1, -⟩ := T2.out
      clear hb1 hb2
      go_wp2
      exact conS_set 4 _ rfl HT.out T2.out B2.out rfl
    | true =>
      have HT := Lib.hid (show treeGet ns p = getT ns p by unfold treeGet; rw [hv, hq]; rfl)
      rw [hq] at hvp
      have HQ := Lib.hid hvp
      clear hv hq hvp
      go_enter Try.func18, Try.ntmps18
      go_wp2_with fail
      refine (HV.out _ (HN.out.keep (below_box _ _))).mono ?_; rintro e W1 ⟨rfl, hb1⟩
      go_wp2_with fail
      refine (HQ.out _).mono ?_; rintro e W2 ⟨rfl, hb2⟩
      have T2 := Lib.hid (((two_new W _ _ _).below hb1).below hb2)
      have B2 := Lib.hid (below_next (below_box W _) (below_next hb1 hb2))
      clear hb1 hb2
      go_wp2_with fail
      refine (HG.out _ (HN.out.keep B2.out)).mono ?_; rintro e W3 ⟨rfl, hb3⟩
      have T3 := Lib.hid (T2.out.below hb3)
      have B3 := Lib.hid (below_next B2.out hb3)
      obtain ⟨g0, g1, f0, f1, -⟩ := T3.out
      clear hb3
      unfold con
      go_wp2
      exact conS_set 4 _ rfl HT.out T3.out B3.out rfl

end Go.Proofs.Ytkoopkaoojhfhaa
