/-
  laws.FnClash returns true for every input, and leaves its arguments as they were.
  Conditions: none.
-/
import Derived.Test.YtdkpabnpobpdhaaRows
import Derived.WalkKit
import Derived.ProofKit
import Derived.OpenShut
import Derived.ShutString
import Derived.ChangeOld
import Derived.Below
import Derived.Test.YtdkpabnpobpdhaaQ10
import Derived.Test.YtdkpabnpobpdhaaQ4
import Derived.Test.YtdkpabnpobpdhaaQ9
namespace Go.Proofs.Ytdkpabnpobpdhaa.fnClash
open Go.ChangeShapes Go.WideShapes Go.ChangeAt Go.RowKit
open Go.ChangeMaps (open_string shut_string)
set_option linter.unusedVariables false

theorem own : ownKnob Try.prog.godebug = none := by kernel_rfl
theorem laidOut : laidOutB Try.prog = true := by kernel_rfl

set_option maxHeartbeats 4000000 in
set_option maxRecDepth 100000 in
theorem walk (a0 : Option Addr) (len0 cap0 : Nat) (z0 : List Int) (w : World) (w0 : IsRow .u8 w a0 len0 cap0 z0) :
    Calls Try.prog 3 #[.slice a0 len0 cap0] w fun e w' => e = .returned (.bool true) ∧ Below w.heap.size w w' := by
  by_cases h : len0 ≤ 1048576
  · have hl : (len0 : Int) ≤ 1048576 := by omega
    have HD := Lib.hid (drawCommandsClash_c a0 len0 cap0 z0 w w0)
    clear h w0
    go_enter Try.func3, Try.ntmps3
    go_wp2_with fail
    refine HD.out.mono ?_
    rintro e W1 ⟨c, d, rfl, hp, hq, hB⟩
    have HBL := Lib.hid hB
    have HPQ := Lib.hid (And.intro hp hq)
    obtain ⟨mm, hmm⟩ : ∃ mm, clashP c d = mm := ⟨_, rfl⟩
    have HI := Lib.hid (fun w => show Calls Try.prog 14 #[cmdV c, cmdV d] w (BoolPost mm w) by rw [← hmm]; exact implCommandsClash_c c d (by omega) (by omega) w)
    have HS := Lib.hid (fun w => show Calls Try.prog 15 #[cmdV c, cmdV d] w (BoolPost mm w) by rw [← hmm]; exact specCommandsClash_c c d (by omega) (by omega) w)
    have HMM := Lib.hid hmm
    have T0 := Lib.hid (twoC_new W1 c d)
    have B0 := Lib.hid (below_next (below_box W1 (.cells #[.string c.p, .int .i64 c.fk, .int .i64 c.fv, .int .i64 c.tk, .int .i64 c.tv] 26)) (below_box _ (.cells #[.string d.p, .int .i64 d.fk, .int .i64 d.fv, .int .i64 d.tk, .int .i64 d.tv] 26)))
    have HJ := Lib.hid (fun w => show Calls Try.prog 14 #[cmdV d, cmdV c] w (BoolPost mm w) by rw [← hmm, ← clash_sym]; exact implCommandsClash_c d c (by omega) (by omega) w)
    have HK := Lib.hid (fun w => show Calls Try.prog 14 #[cmdV c, cmdV c] w (BoolPost false w) by rw [← clash_self c]; exact implCommandsClash_c c c (by omega) (by omega) w)
    clear hB hp hq hmm
    obtain ⟨p, fk, fv, tk, tv⟩ := c
    obtain ⟨p', fk', fv', tk', tv'⟩ := d
    unfold cmdV at HI HS HJ HK ⊢
    simp only at HI HS HJ HK T0 B0
    obtain ⟨a0, a1, a2, a3, a4, b0, b1, b2, b3, b4⟩ := T0.out
    simp only at a0 a1 a2 a3 a4 b0 b1 b2 b3 b4
    go_wp2_with fail
    refine (HI.out _).mono ?_
    rintro e W2 ⟨rfl, hb2⟩
    have T2 := Lib.hid (T0.out.keep hb2)
    have B2 := Lib.hid (below_next B0.out hb2)
    clear a0 a1 a2 a3 a4 b0 b1 b2 b3 b4 hb2
    obtain ⟨a0, a1, a2, a3, a4, b0, b1, b2, b3, b4⟩ := T2.out
    go_wp2_with fail
    refine (HS.out _).mono ?_
    rintro e W3 ⟨rfl, hb3⟩
    have T3 := Lib.hid (T2.out.keep hb3)
    have B3 := Lib.hid (below_next B2.out hb3)
    clear a0 a1 a2 a3 a4 b0 b1 b2 b3 b4 hb3
    obtain ⟨a0, a1, a2, a3, a4, b0, b1, b2, b3, b4⟩ := T3.out
    have hbb : (mm != mm) = false := by simp
    have hmmt : (mm == mm) = true := by simp
    go_wp2_with fail
    refine (HJ.out _).mono ?_
    rintro e W4 ⟨rfl, hb4⟩
    have T4 := Lib.hid (T3.out.keep hb4)
    have B4 := Lib.hid (below_next B3.out hb4)
    clear a0 a1 a2 a3 a4 b0 b1 b2 b3 b4 hb4
    obtain ⟨a0, a1, a2, a3, a4, b0, b1, b2, b3, b4⟩ := T4.out
    go_wp2_with fail
    refine (HK.out _).mono ?_
    rintro e W5 ⟨rfl, hb5⟩
    have B5 := Lib.hid (below_next B4.out hb5)
    clear a0 a1 a2 a3 a4 b0 b1 b2 b3 b4 hb5
    go_wp2
    go_ret
    exact ⟨rfl, below_next HBL.out B5.out⟩
  · have hl : (1048576 : Int) < len0 := by omega
    clear h w0
    go_enter Try.func3, Try.ntmps3
    go_wp2
    go_ret
    exact ⟨rfl, Below.refl _ _⟩


set_option maxRecDepth 100000 in
theorem lifted (os : Os) (started : os.Started) (H : Type) (enc : TypeId × Value → H) :
    ReturnsInHanded {} Try.checked os 3 .any (Rows.fnClashSpec.pre6 enc Try.prog Try.f3 Rows.fnClashRow.domain false) (Rows.fnClashSpec.post enc Try.prog Try.f3 false true false false) := by
  refine returnsInHanded_of_change (C := Try.checked) own started (by kernel_rfl) Try.func3
    (ChangeSpec.witness6 (enc := enc) (C := Try.checked) false ⟨#[], #[.slice none 0 0], []⟩ 8 (by kernel_rfl) (by kernel_rfl) (by kernel_rfl) (by kernel_rfl)) ?_
  intro W base args ds gs before hval0 hW hcnd _
  have hval : ∀ (j : Nat) t v, Try.f3.params[j]? = some t → args[j]? = some v → Value.okWide Try.prog W .any base t v := hval0
  have hW' := hW
  obtain ⟨p, q, hA0, hV, rfl, hfz, hnd⟩ := hW
  have hA : DataW.TrodAll enc Try.prog W 0 (fun _ => true) true Try.f3.params.toList args.toList ds p := hA0
  rw [Try.params3] at hA hval
  obtain ⟨v0, vs0, d0, ds0, p0, q0, hargs, rfl, rfl, h0, r0⟩ := trodAll_cons hA
  obtain ⟨rfl, rfl, rfl⟩ := trodAll_nil r0
  obtain rfl : args = #[v0] := by cases args; simp_all
  obtain ⟨rfl, rfl⟩ := trodVars_none hV
  obtain ⟨a0, len0, cap0, rfl⟩ := okWide_slice Try.underlying22 (hval 0 22 v0 rfl rfl)
  have k0 := h0
  have lt0 : ∀ x ∈ p0, x.block < W.heap.size := by obtain ⟨m, hm⟩ := k0; exact DataW.trod_lt m _ _ _ hm
  obtain ⟨z0, w0⟩ : ∃ zs, IsRow .u8 W a0 len0 cap0 zs := by
    obtain ⟨fuel, hf⟩ := h0
    rcases open_ints Try.underlying22 Try.underlying5 (by kernel_rfl) hf with ⟨hcs, _⟩ | ⟨x, l, c, zs, hcs, _, hl, hm, hz, _, hcell, hwz⟩
    · simp [Value.cells] at hcs
      obtain ⟨rfl, rfl, rfl⟩ := hcs
      exact ⟨[], .inl ⟨rfl, rfl, rfl, rfl⟩⟩
    · simp [Value.cells] at hcs
      obtain ⟨rfl, rfl, rfl⟩ := hcs
      exact ⟨zs, .inr ⟨_, rfl, hl, hm, by simpa using hz, hcell, hwz⟩⟩
  clear hA0 hval0
  refine (walk a0 len0 cap0 z0 W w0).mono fun e W' ⟨he, bel⟩ => ?_
  subst he
  exact ⟨_, rfl, _, _, _, [], _, [], hW', trodAll_mk1 (shut_bool Try.underlying4 _), (trodAll_cons_mk (Below.trod laidOut (by kernel_rfl) (of_decide_eq_true (by kernel_rfl)) k0 bel lt0) trodAll_mk0), rfl, bel.frame _, fun h => by cases h⟩

theorem over : Rows.fnClashRow.holds Try.pinned (OpenSpec.ofChange Rows.fnClashSpec) :=
  OpenClaim.holds_of_wide 3 Try.f3 rfl rfl rfl rfl rfl rfl rfl ⟨rfl, rfl, rfl, rfl, rfl⟩ rfl rfl rfl rfl rfl (by kernel_rfl) Try.func3 (by kernel_rfl)
    (of_decide_eq_true (by kernel_rfl)) (by unfold Func.isWrapper; first | (rw [if_pos (by decide +kernel)]; kernel_rfl) | (rw [if_neg (by decide +kernel)]; exact ⟨rfl, rfl⟩))
    (fun os started H enc _ => lifted os started H enc)

theorem proved : Rows.FnClashSaid := over
end Go.Proofs.Ytdkpabnpobpdhaa.fnClash
