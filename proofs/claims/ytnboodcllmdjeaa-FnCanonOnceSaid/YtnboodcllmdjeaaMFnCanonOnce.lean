/-
  laws.FnCanonOnce returns true for every input, and leaves its arguments as they were.
  Conditions: none.
-/
import Derived.Test.YtnboodcllmdjeaaRows
import Derived.WalkKit
import Derived.ProofKit
import Derived.OpenShut
import Derived.ShutString
import Derived.ChangeOld
import Derived.Below
import Derived.Test.YtnboodcllmdjeaaQ7
import Derived.Test.YtnboodcllmdjeaaQ6
namespace Go.Proofs.Ytnboodcllmdjeaa.fnCanonOnce
open Go.ChangeShapes Go.WideShapes Go.ChangeAt Go.RowKit
open Go.ChangeMaps (open_string shut_string)
set_option linter.unusedVariables false

theorem own : ownKnob Try.prog.godebug = none := by kernel_rfl
theorem laidOut : laidOutB Try.prog = true := by kernel_rfl

/-- What a pair tells, its two parts named. -/
def MPost (out : List Cmd) (b : Bool) (W : World) (e : Ending) (w' : World) : Prop :=
  ∃ sl, e = .returned (.tuple #[sl, .bool b]) ∧ w'.ownsRow W.heap.size 36 5 sl out.length (flatC out) ∧ Below W.heap.size W w'

theorem move_named {r : List Cmd × Bool} {out : List Cmd} {b : Bool} {W : World} {f : Nat} {args : Array Value} (hr : r = (out, b)) (h : Calls Try.prog f args W (MovePost r W)) : Calls Try.prog f args W (MPost out b W) := by
  rw [hr] at h
  exact h

set_option maxHeartbeats 4000000 in
set_option maxRecDepth 100000 in
theorem walk (a0 : Option Addr) (len0 cap0 : Nat) (z0 : List Int) (w : World) (w0 : IsRow .u8 w a0 len0 cap0 z0) :
    Calls Try.prog 3 #[.slice a0 len0 cap0] w fun e w' => e = .returned (.bool true) ∧ Below w.heap.size w w' := by
  by_cases h : len0 ≤ 1048576
  · have hl : (len0 : Int) ≤ 1048576 := by omega
    have HD := Lib.hid (drawLogCanon_c a0 len0 cap0 z0 w w0)
    clear h w0
    go_enter Try.func3, Try.ntmps3
    go_wp2_with fail
    refine HD.out.mono ?_
    rintro e W1 ⟨sl, cs, rfl, ho, hl21, hs66, hB⟩
    obtain ⟨a, cap, rfl, hn⟩ := cmds_of_own ho
    have HBL := Lib.hid hB
    have HCL := Lib.hid hl21
    obtain ⟨out, b, hr⟩ : ∃ out b, logCanon cs = (out, b) := ⟨_, _, rfl⟩
    have HR := Lib.hid hr
    obtain ⟨hso, hlo⟩ := canon_short hs66
    rw [hr] at hso hlo
    have HOL := Lib.hid (show out.length ≤ cs.length ∧ out.length ≤ 21 from ⟨hlo, Nat.le_trans hlo hl21⟩)
    have HSO := Lib.hid (show ShortC 66 out from hso)
    have HI := Lib.hid (fun W' (hb : Below W1.heap.size W1 W') => move_named hr (logCanon_c a cs.length cap cs (by omega) (hs66.mono (by omega)) W' (hn.keep hb)))
    have HS := Lib.hid (fun W' (hb : Below W1.heap.size W1 W') => move_named hr (specLogCanon_c a cs.length cap cs (by omega) (hs66.mono (by omega)) W' (hn.keep hb)))
    clear ho hn hB hl21 hs66 hr hso hlo
    go_wp2_with fail
    refine (HI.out _ (Below.refl _ _)).mono ?_
    rintro e W2 ⟨o1, rfl, ho1, hb2⟩
    have B2 := Lib.hid hb2
    clear hb2
    go_wp2_with fail
    refine (HS.out _ B2.out).mono ?_
    rintro e W3 ⟨o2, rfl, ho2, hb3⟩
    have B3 := Lib.hid (below_next B2.out hb3)
    have ho1' := own_below ho1 hb3
    obtain ⟨x1, p1, rfl, hc1⟩ := cmds_of_own ho1'
    obtain ⟨x2, p2, rfl, hc2⟩ := cmds_of_own ho2
    have HSM := Lib.hid (fun W' (hb : Below W3.heap.size W3 W') => sameLog_c x1 x2 out.length p1 p2 out (by have := HOL.out; omega) W' (hc1.keep hb) (hc2.keep hb))
    have HC1 := Lib.hid hc1
    clear ho1 ho2 hb3 ho1' hc1 hc2
    cases b with
    | false =>
      go_wp2_with fail
      refine (HSM.out _ (Below.refl _ _)).mono ?_
      rintro e W4 ⟨rfl, hb4⟩
      have X4 := Lib.hid hb4
      clear hb4
      go_wp2_with fail
      refine (HSM.out _ X4.out).mono ?_
      rintro e W5 ⟨rfl, hb5⟩
      go_wp2
      go_ret
      exact ⟨rfl, below_next HBL.out (below_next B3.out (below_next X4.out hb5))⟩
    | true =>
      go_wp2_with fail
      refine (HSM.out _ (Below.refl _ _)).mono ?_
      rintro e W4 ⟨rfl, hb4⟩
      have X4 := Lib.hid hb4
      clear hb4
      obtain ⟨hcv, hcc, hcl⟩ := canon_once HR.out
      have HLC := Lib.hid (move_named hcc (logCanon_c x1 out.length p1 out (by have := HOL.out; omega) (HSO.out.mono (by omega)) W4 (HC1.out.keep X4.out)))
      have HCV := Lib.hid (fun W' (hb : Below W3.heap.size W3 W') => show Calls Try.prog 14 #[.slice x1 out.length p1] W' (BoolPost true W') by rw [← hcv]; exact implCanonValid_c x1 out.length p1 out (by have := HOL.out; omega) (HSO.out.mono (by omega)) W' (HC1.out.keep hb))
      have hle : (out.length : Int) ≤ cs.length := by omega
      clear hcv hcc hcl
      go_wp2_with fail
      refine HLC.out.mono ?_
      rintro e W5 ⟨o5, rfl, ho5, hb5⟩
      obtain ⟨x5, p5, rfl, hc5⟩ := cmds_of_own ho5
      have X5 := Lib.hid (below_next X4.out hb5)
      have HSX := Lib.hid (sameLog_c x5 x1 out.length p5 p1 out (by have := HOL.out; omega) W5 hc5 (HC1.out.keep X5.out))
      clear ho5 hb5 hc5
      go_wp2_with fail
      refine HSX.out.mono ?_
      rintro e W6 ⟨rfl, hb6⟩
      have X6 := Lib.hid (below_next X5.out hb6)
      clear hb6
      go_wp2_with fail
      refine (HCV.out _ X6.out).mono ?_
      rintro e W7 ⟨rfl, hb7⟩
      go_wp2
      go_ret
      exact ⟨rfl, below_next HBL.out (below_next B3.out (below_next X6.out hb7))⟩
  · have hl : (1048576 : Int) < len0 := by omega
    clear h w0
    go_enter Try.func3, Try.ntmps3
    go_wp2
    go_ret
    exact ⟨rfl, Below.refl _ _⟩


set_option maxRecDepth 100000 in
theorem lifted (os : Os) (started : os.Started) (H : Type) (enc : TypeId × Value → H) :
    ReturnsInHanded {} Try.checked os 3 .any (Rows.fnCanonOnceSpec.pre6 enc Try.prog Try.f3 Rows.fnCanonOnceRow.domain false) (Rows.fnCanonOnceSpec.post enc Try.prog Try.f3 false true false false) := by
  refine returnsInHanded_of_change (C := Try.checked) own started (by kernel_rfl) Try.func3
    (ChangeSpec.witness6 (enc := enc) (C := Try.checked) false ⟨#[], #[.slice none 0 0], []⟩ 8 (by kernel_rfl) (by kernel_rfl) (by kernel_rfl) (by kernel_rfl)) ?_
  intro W base args ds gs before hval0 hW hcnd _
  have hval : ∀ (j : Nat) t v, Try.f3.params[j]? = some t → args[j]? = some v → Value.okWide Try.prog W .any base t v := hval0
  have hW' := hW
  obtain ⟨p, q, hA0, hV, rfl, hfz, hnd⟩ := hW
  have hA : DataW.TrodAll enc Try.prog W 0 (fun _ => true) true Try.f3.params.toList args.toList ds p := hA0
  rw [Try.params3] at hA hval
  obtain ⟨v0, vs0, d0, ds0, p0, q0, hargs, rfl, rfl, h0, r0⟩ := trodAll_cons hA
  obtain ⟨rfl, rfl, rfl⟩ := trodAll_nil r0
  obtain rfl : args = #[v0] := by cases args; simp_all
  obtain ⟨rfl, rfl⟩ := trodVars_none hV
  obtain ⟨a0, len0, cap0, rfl⟩ := okWide_slice Try.underlying22 (hval 0 22 v0 rfl rfl)
  have k0 := h0
  have lt0 : ∀ x ∈ p0, x.block < W.heap.size := by obtain ⟨m, hm⟩ := k0; exact DataW.trod_lt m _ _ _ hm
  obtain ⟨z0, w0⟩ : ∃ zs, IsRow .u8 W a0 len0 cap0 zs := by
    obtain ⟨fuel, hf⟩ := h0
    rcases open_ints Try.underlying22 Try.underlying5 (by kernel_rfl) hf with ⟨hcs, _⟩ | ⟨x, l, c, zs, hcs, _, hl, hm, hz, _, hcell, hwz⟩
    · simp [Value.cells] at hcs
      obtain ⟨rfl, rfl, rfl⟩ := hcs
      exact ⟨[], .inl ⟨rfl, rfl, rfl, rfl⟩⟩
    · simp [Value.cells] at hcs
      obtain ⟨rfl, rfl, rfl⟩ := hcs
      exact ⟨zs, .inr ⟨_, rfl, hl, hm, by simpa using hz, hcell, hwz⟩⟩
  clear hA0 hval0
  refine (walk a0 len0 cap0 z0 W w0).mono fun e W' ⟨he, bel⟩ => ?_
  subst he
  exact ⟨_, rfl, _, _, _, [], _, [], hW', trodAll_mk1 (shut_bool Try.underlying4 _), (trodAll_cons_mk (Below.trod laidOut (by kernel_rfl) (of_decide_eq_true (by kernel_rfl)) k0 bel lt0) trodAll_mk0), rfl, bel.frame _, fun h => by cases h⟩

theorem over : Rows.fnCanonOnceRow.holds Try.pinned (OpenSpec.ofChange Rows.fnCanonOnceSpec) :=
  OpenClaim.holds_of_wide 3 Try.f3 rfl rfl rfl rfl rfl rfl rfl ⟨rfl, rfl, rfl, rfl, rfl⟩ rfl rfl rfl rfl rfl (by kernel_rfl) Try.func3 (by kernel_rfl)
    (of_decide_eq_true (by kernel_rfl)) (by unfold Func.isWrapper; first | (rw [if_pos (by decide +kernel)]; kernel_rfl) | (rw [if_neg (by decide +kernel)]; exact ⟨rfl, rfl⟩))
    (fun os started H enc _ => lifted os started H enc)

theorem proved : Rows.FnCanonOnceSaid := over
end Go.Proofs.Ytnboodcllmdjeaa.fnCanonOnce
