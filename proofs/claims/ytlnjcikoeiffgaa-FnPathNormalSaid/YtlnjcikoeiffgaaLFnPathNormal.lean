/-
  laws.FnPathNormal returns true for every input, and leaves its arguments as they were.
  Conditions: none.
-/
import Derived.Test.YtlnjcikoeiffgaaRows
import Derived.Test.YtlnjcikoeiffgaaNl
import Derived.WalkKit
import Derived.ProofKit
import Derived.OpenShut
import Derived.ShutString
import Derived.ChangeOld
import Derived.Below
namespace Go.Proofs.Ytlnjcikoeiffgaa.fnPathNormal
open Go.ChangeShapes Go.WideShapes Go.ChangeAt Go.RowKit
open Go.ChangeMaps (open_string shut_string)
set_option linter.unusedVariables false

theorem own : ownKnob Try.prog.godebug = none := by kernel_rfl
theorem laidOut : laidOutB Try.prog = true := by kernel_rfl

set_option maxHeartbeats 1000000 in
theorem walk (a0 : Option Addr) (len0 cap0 : Nat) (z0 : List Int) (w : World) (w0 : IsRow .u8 w a0 len0 cap0 z0) :
    Calls Try.prog 8 #[.slice a0 len0 cap0] w fun e w' => e = .returned (.bool true) ∧ Below w.heap.size w w' := by
  by_cases h : len0 ≤ 1048576
  · have hl : (len0 : Int) ≤ 1048576 := by omega
    have HD := Lib.hid (drawNormal_c a0 len0 cap0 z0 w w0)
    clear h w0
    go_enter Try.func8, Try.ntmps8
    go_wp2_with fail
    refine HD.out.mono ?_
    rintro e W1 ⟨s, rfl, hs, hb1⟩
    have HS := Lib.hid hs
    clear hs
    rcases normal_cases s with hn | ⟨q, hn⟩
    · have H1 := Lib.hid (fun w => normI_no hn w)
      have H2 := Lib.hid (fun w => normS_no hn w)
      clear hn
      go_wp2_with fail
      refine (H1.out _).mono ?_; rintro e W2 ⟨rfl, hb2⟩
      go_wp2_with fail
      refine (H2.out _).mono ?_; rintro e W3 ⟨rfl, hb3⟩
      go_wp2
      go_ret
      exact ⟨rfl, below_next hb1 (below_next hb2 hb3)⟩
    · obtain ⟨f1, f2⟩ := Pm.normal_facts hn
      have H1 := Lib.hid (fun w => normI_yes hn w)
      have H2 := Lib.hid (fun w => normS_yes hn w)
      have H3 := Lib.hid (fun w => normI_yes f1 w)
      have hqs : q.size ≤ 100 := by
        obtain ⟨ns, _, h4, _, hq, _⟩ := Pm.normal_some hn
        have := congrArg (fun l : List UInt8 => l.length / 2) hq
        simp only [Pm.pathOf_length] at this
        rw [Lib.size_eq]; omega
      have h5 := fun w => pathValid_c q (by omega) w
      rw [f2] at h5
      have H4 := Lib.hid h5
      clear hn f1 f2 h5
      go_wp2_with fail
      refine (H1.out _).mono ?_; rintro e W2 ⟨rfl, hb2⟩
      go_wp2_with fail
      refine (H2.out _).mono ?_; rintro e W3 ⟨rfl, hb3⟩
      go_wp2_with fail
      refine (H3.out _).mono ?_; rintro e W4 ⟨rfl, hb4⟩
      go_wp2_with fail
      refine (H4.out _).mono ?_; rintro e W5 ⟨rfl, hb5⟩
      go_wp2
      go_ret
      exact ⟨rfl, below_next hb1 (below_next hb2 (below_next hb3 (below_next hb4 hb5)))⟩
  · have hl : (1048576 : Int) < len0 := by omega
    clear h w0
    go_enter Try.func8, Try.ntmps8
    go_wp2
    go_ret
    exact ⟨rfl, Below.refl _ _⟩


set_option maxRecDepth 100000 in
theorem lifted (os : Os) (started : os.Started) (H : Type) (enc : TypeId × Value → H) :
    ReturnsInHanded {} Try.checked os 8 .any (Rows.fnPathNormalSpec.pre6 enc Try.prog Try.f8 Rows.fnPathNormalRow.domain false) (Rows.fnPathNormalSpec.post enc Try.prog Try.f8 false true false false) := by
  refine returnsInHanded_of_change (C := Try.checked) own started (by kernel_rfl) Try.func8
    (ChangeSpec.witness6 (enc := enc) (C := Try.checked) false ⟨#[], #[.slice none 0 0], []⟩ 8 (by kernel_rfl) (by kernel_rfl) (by kernel_rfl) (by kernel_rfl)) ?_
  intro W base args ds gs before hval0 hW hcnd _
  have hval : ∀ (j : Nat) t v, Try.f8.params[j]? = some t → args[j]? = some v → Value.okWide Try.prog W .any base t v := hval0
  have hW' := hW
  obtain ⟨p, q, hA0, hV, rfl, hfz, hnd⟩ := hW
  have hA : DataW.TrodAll enc Try.prog W 0 (fun _ => true) true Try.f8.params.toList args.toList ds p := hA0
  rw [Try.params8] at hA hval
  obtain ⟨v0, vs0, d0, ds0, p0, q0, hargs, rfl, rfl, h0, r0⟩ := trodAll_cons hA
  obtain ⟨rfl, rfl, rfl⟩ := trodAll_nil r0
  obtain rfl : args = #[v0] := by cases args; simp_all
  obtain ⟨rfl, rfl⟩ := trodVars_none hV
  obtain ⟨a0, len0, cap0, rfl⟩ := okWide_slice Try.underlying22 (hval 0 22 v0 rfl rfl)
  have k0 := h0
  have lt0 : ∀ x ∈ p0, x.block < W.heap.size := by obtain ⟨m, hm⟩ := k0; exact DataW.trod_lt m _ _ _ hm
  obtain ⟨z0, w0⟩ : ∃ zs, IsRow .u8 W a0 len0 cap0 zs := by
    obtain ⟨fuel, hf⟩ := h0
    rcases open_ints Try.underlying22 Try.underlying5 (by kernel_rfl) hf with ⟨hcs, _⟩ | ⟨x, l, c, zs, hcs, _, hl, hm, hz, _, hcell, hwz⟩
    · simp [Value.cells] at hcs
      obtain ⟨rfl, rfl, rfl⟩ := hcs
      exact ⟨[], .inl ⟨rfl, rfl, rfl, rfl⟩⟩
    · simp [Value.cells] at hcs
      obtain ⟨rfl, rfl, rfl⟩ := hcs
      exact ⟨zs, .inr ⟨_, rfl, hl, hm, by simpa using hz, hcell, hwz⟩⟩
  clear hA0 hval0
  refine (walk a0 len0 cap0 z0 W w0).mono fun e W' ⟨he, bel⟩ => ?_
  subst he
  exact ⟨_, rfl, _, _, _, [], _, [], hW', trodAll_mk1 (shut_bool Try.underlying4 _), (trodAll_cons_mk (Below.trod laidOut (by kernel_rfl) (of_decide_eq_true (by kernel_rfl)) k0 bel lt0) trodAll_mk0), rfl, bel.frame _, fun h => by cases h⟩

theorem over : Rows.fnPathNormalRow.holds Try.pinned (OpenSpec.ofChange Rows.fnPathNormalSpec) :=
  OpenClaim.holds_of_wide 8 Try.f8 rfl rfl rfl rfl rfl rfl rfl ⟨rfl, rfl, rfl, rfl, rfl⟩ rfl rfl rfl rfl rfl (by kernel_rfl) Try.func8 (by kernel_rfl)
    (of_decide_eq_true (by kernel_rfl)) (by unfold Func.isWrapper; first | (rw [if_pos (by decide +kernel)]; kernel_rfl) | (rw [if_neg (by decide +kernel)]; exact ⟨rfl, rfl⟩))
    (fun os started H enc _ => lifted os started H enc)

theorem proved : Rows.FnPathNormalSaid := over
end Go.Proofs.Ytlnjcikoeiffgaa.fnPathNormal
