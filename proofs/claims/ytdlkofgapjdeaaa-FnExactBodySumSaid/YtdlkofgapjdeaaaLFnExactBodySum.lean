/-
  laws.FnExactBodySum returns true for every input, and leaves its arguments as they were.
  Conditions: none.
-/
import Derived.Test.YtdlkofgapjdeaaaRows
import Derived.Test.YtdlkofgapjdeaaaFo
import Derived.Test.YtdlkofgapjdeaaaFi
import Derived.Test.YtdlkofgapjdeaaaGk
import Derived.WalkKit
import Derived.ProofKit
import Derived.OpenShut
import Derived.ShutString
import Derived.ChangeOld
import Derived.Below
namespace Go.Proofs.Ytdlkofgapjdeaaa.fnExactBodySum
open Go.ChangeShapes Go.WideShapes Go.ChangeAt Go.RowKit
open Go.ChangeMaps (open_string shut_string)
set_option linter.unusedVariables false

theorem own : ownKnob Try.prog.godebug = none := by kernel_rfl
theorem laidOut : laidOutB Try.prog = true := by kernel_rfl

set_option maxHeartbeats 2000000 in
set_option maxRecDepth 100000 in
theorem walk (a0 : Option Addr) (len0 cap0 : Nat) (zs : List Int) (l0 : len0 ≤ maxLen) (c0 : len0 ≤ cap0) (m0 : cap0 ≤ maxLen) (w : World) (w0 : IntsAt w a0 len0 zs) :
    Calls Try.prog 11 #[.slice a0 len0 cap0] w fun e w' => e = .returned (.bool true) ∧ Below w.heap.size w w' := by
  by_cases h : len0 ≤ 1048576
  · have hl : (len0 : Int) ≤ 1048576 := by omega
    have HLE := Lib.hid w0.1
    have HTO := Lib.hid (fun W' (hb : Below w.heap.size w W') => toIntS_c a0 len0 cap0 zs (by omega) W' (w0.keep hb))
    obtain ⟨sm, hsm⟩ : ∃ sm, bodySum zs = sm := ⟨_, rfl⟩
    have HI := Lib.hid (fun a c W' (hi : IntsAt W' a len0 zs) => show Calls Try.prog 16 #[.slice a len0 c] W' (fun e w' => e = .returned (.int .i64 sm) ∧ w' = W') by rw [← hsm]; exact implBodySum_c a len0 c zs W' hi)
    have HS := Lib.hid (fun a c W' (hi : IntsAt W' a len0 zs) => show Calls Try.prog 17 #[.slice a len0 c] W' (fun e W'' => e = .returned (.int .i64 sm) ∧ Below W'.heap.size W' W'') by rw [← hsm]; exact specBodySum_c a len0 c zs (by omega) W' hi)
    have HEQ := Lib.hid (fun a1 a2 c1 c2 W' (h1 : IntsAt W' a1 len0 zs) (h2 : IntsAt W' a2 len0 zs) => eqIntS_c a1 a2 len0 c1 c2 zs (by omega) W' h1 h2)
    clear h w0 l0 c0 m0 hsm
    go_enter Try.func11, Try.ntmps11
    go_wp2_with fail
    refine (HTO.out _ (Below.refl _ _)).mono ?_
    rintro e W1 ⟨h1, hb1⟩
    obtain ⟨a1, c1, rfl, hi1, -, -⟩ := h1.at
    rw [HLE.out] at hi1 ⊢
    have HS1 := Lib.hid (HS.out a1 c1 W1 hi1)
    have HB1 := Lib.hid hb1
    clear h1 hi1 hb1
    go_wp2_with fail
    refine HS1.out.mono ?_
    rintro e W2 ⟨rfl, hb2⟩
    have HB2 := Lib.hid (below_next HB1.out hb2)
    clear hb2
    go_wp2_with fail
    refine (HTO.out _ HB2.out).mono ?_
    rintro e W3 ⟨h3, hb3⟩
    obtain ⟨a3, c3, rfl, hi3, -, -⟩ := h3.at
    rw [HLE.out] at hi3 ⊢
    have HI3 := Lib.hid (HI.out a3 c3 W3 hi3)
    have HN3 := Lib.hid hi3
    have HB3 := Lib.hid (below_next HB2.out hb3)
    clear h3 hi3 hb3
    go_wp2_with fail
    refine HI3.out.mono ?_
    rintro e W4 ⟨rfl, rfl⟩
    have hss : (sm != sm) = false := by simp
    go_wp2_with fail
    refine (HTO.out _ HB3.out).mono ?_
    rintro e W5 ⟨h5, hb5⟩
    obtain ⟨a5, c5, rfl, hi5, -, -⟩ := h5.at
    rw [HLE.out] at hi5 ⊢
    have HE5 := Lib.hid (HEQ.out a3 a5 c3 c5 W5 (HN3.out.keep hb5) hi5)
    have HB5 := Lib.hid (below_next HB3.out hb5)
    clear h5 hi5 hb5
    go_wp2_with fail
    refine HE5.out.mono ?_
    rintro e W6 ⟨rfl, hb6⟩
    have HB6 := Lib.hid (below_next HB5.out hb6)
    clear hb6
    go_wp2
    go_ret
    exact ⟨rfl, HB6.out⟩
  · have hl : (1048576 : Int) < len0 := by omega
    have l0' : len0 ≤ 9223372036854775807 := Nat.le_trans l0 (by unfold maxLen; omega)
    clear h w0 l0 c0 m0
    go_enter Try.func11, Try.ntmps11
    go_wp2
    go_ret
    exact ⟨rfl, Below.refl _ _⟩


set_option maxRecDepth 100000 in
theorem lifted (os : Os) (started : os.Started) (H : Type) (enc : TypeId × Value → H) :
    ReturnsInHanded {} Try.checked os 11 .any (Rows.fnExactBodySumSpec.pre6 enc Try.prog Try.f11 Rows.fnExactBodySumRow.domain false) (Rows.fnExactBodySumSpec.post enc Try.prog Try.f11 false true false false) := by
  refine returnsInHanded_of_change (C := Try.checked) own started (by kernel_rfl) Try.func11
    (ChangeSpec.witness6 (enc := enc) (C := Try.checked) false ⟨#[], #[.slice none 0 0], []⟩ 8 (by kernel_rfl) (by kernel_rfl) (by kernel_rfl) (by kernel_rfl)) ?_
  intro W base args ds gs before hval0 hW hcnd _
  have hval : ∀ (j : Nat) t v, Try.f11.params[j]? = some t → args[j]? = some v → Value.okWide Try.prog W .any base t v := hval0
  have hW' := hW
  obtain ⟨p, q, hA0, hV, rfl, hfz, hnd⟩ := hW
  have hA : DataW.TrodAll enc Try.prog W 0 (fun _ => true) true Try.f11.params.toList args.toList ds p := hA0
  rw [Try.params11] at hA hval
  obtain ⟨v0, vs0, d0, ds0, p0, q0, hargs, rfl, rfl, h0, r0⟩ := trodAll_cons hA
  obtain ⟨rfl, rfl, rfl⟩ := trodAll_nil r0
  obtain rfl : args = #[v0] := by cases args; simp_all
  obtain ⟨rfl, rfl⟩ := trodVars_none hV
  obtain ⟨a0, len0, cap0, rfl⟩ := okWide_slice Try.underlying23 (hval 0 23 v0 rfl rfl)
  have k0 := h0
  have lt0 : ∀ x ∈ p0, x.block < W.heap.size := by obtain ⟨m, hm⟩ := k0; exact DataW.trod_lt m _ _ _ hm
  obtain ⟨z0, w0, l0, c0, m0⟩ : ∃ zs, IntsAt W a0 len0 zs ∧ len0 ≤ maxLen ∧ len0 ≤ cap0 ∧ cap0 ≤ maxLen := by
    obtain ⟨fuel, hf⟩ := h0
    exact open_ints hf
  clear hA0 hval0
  refine (walk a0 len0 cap0 z0 l0 c0 m0 W w0).mono fun e W' ⟨he, bel⟩ => ?_
  subst he
  exact ⟨_, rfl, _, _, _, [], _, [], hW', trodAll_mk1 (shut_bool Try.underlying4 _), (trodAll_cons_mk (Below.trod laidOut (by kernel_rfl) (of_decide_eq_true (by kernel_rfl)) k0 bel lt0) trodAll_mk0), rfl, bel.frame _, fun h => by cases h⟩

theorem over : Rows.fnExactBodySumRow.holds Try.pinned (OpenSpec.ofChange Rows.fnExactBodySumSpec) :=
  OpenClaim.holds_of_wide 11 Try.f11 rfl rfl rfl rfl rfl rfl rfl ⟨rfl, rfl, rfl, rfl, rfl⟩ rfl rfl rfl rfl rfl (by kernel_rfl) Try.func11 (by kernel_rfl)
    (of_decide_eq_true (by kernel_rfl)) (by unfold Func.isWrapper; first | (rw [if_pos (by decide +kernel)]; kernel_rfl) | (rw [if_neg (by decide +kernel)]; exact ⟨rfl, rfl⟩))
    (fun os started H enc _ => lifted os started H enc)

theorem proved : Rows.FnExactBodySumSaid := over
end Go.Proofs.Ytdlkofgapjdeaaa.fnExactBodySum
