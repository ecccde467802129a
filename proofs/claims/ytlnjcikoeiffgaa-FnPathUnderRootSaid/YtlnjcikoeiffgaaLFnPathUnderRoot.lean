/-
  laws.FnPathUnderRoot returns true for every input, and leaves its arguments as they were.
  Conditions: none.
-/
import Derived.Test.YtlnjcikoeiffgaaRows
import Derived.Test.YtlnjcikoeiffgaaDp
import Derived.WalkKit
import Derived.ProofKit
import Derived.OpenShut
import Derived.ShutString
import Derived.ChangeOld
import Derived.Below
namespace Go.Proofs.Ytlnjcikoeiffgaa.fnPathUnderRoot
open Go.ChangeShapes Go.WideShapes Go.ChangeAt Go.RowKit
open Go.ChangeMaps (open_string shut_string)
set_option linter.unusedVariables false

theorem own : ownKnob Try.prog.godebug = none := by kernel_rfl
theorem laidOut : laidOutB Try.prog = true := by kernel_rfl

set_option maxHeartbeats 1000000 in
theorem walk (a0 : Option Addr) (len0 cap0 : Nat) (z0 : List Int) (w : World) (w0 : IsRow .u8 w a0 len0 cap0 z0) :
    Calls Try.prog 7 #[.slice a0 len0 cap0] w fun e w' => e = .returned (.bool true) ∧ Below w.heap.size w w' := by
  by_cases h : len0 ≤ 1048576
  · have hl : (len0 : Int) ≤ 1048576 := by omega
    have HD := Lib.hid (drawUnder_c a0 len0 cap0 z0 w w0)
    clear h w0
    go_enter Try.func7, Try.ntmps7
    go_wp2_with fail
    refine HD.out.mono ?_
    rintro e W1 ⟨a, b, rfl, ha, hb, hb1⟩
    have HA := Lib.hid ha
    have HBB := Lib.hid hb
    clear ha hb
    have ha64 : a.size ≤ 64 := HA.out
    have hb64 : b.size ≤ 64 := HBB.out
    obtain ⟨u, hu⟩ : ∃ u, underB a b = u := ⟨_, rfl⟩
    have h1 := fun w => pathUnder_c a b (by omega) (by omega) w
    have h2 := fun w => specUnder_c a b (by omega) (by omega) w
    have h3 := fun w => specValid_c b (by omega) w
    have h4 := fun w => pathUnder_c ⟨#[47]⟩ b (by decide) (by omega) w
    have h5 := fun w => pathUnder_c b b (by omega) (by omega) w
    rw [hu] at h1 h2
    have H1 := Lib.hid h1
    have H2 := Lib.hid h2
    clear h1 h2 hu
    cases hv : Pm.valid b.data.toList with
    | false =>
      rw [hv] at h3
      have H3 := Lib.hid h3
      clear h3 h4 h5 hv ha64 hb64
      go_wp2_with fail
      refine (H1.out _).mono ?_; rintro e W2 ⟨rfl, hb2⟩
      go_wp2_with fail
      refine (H2.out _).mono ?_; rintro e W3 ⟨rfl, hb3⟩
      go_wp2_with fail
      refine (H3.out _).mono ?_; rintro e W4 ⟨rfl, hb4⟩
      go_wp2
      go_ret
      exact ⟨rfl, below_next hb1 (below_next hb2 (below_next hb3 hb4))⟩
    | true =>
      obtain ⟨f1, f2⟩ := Pm.under_root b.data.toList hv
      obtain ⟨r, hr⟩ : ∃ r, (b.toList == [47]) = r := ⟨_, rfl⟩
      have f1' : underB ⟨#[47]⟩ b = !r := by rw [← hr, Lib.toList_data]; exact f1
      rw [hv] at h3
      rw [f1'] at h4
      rw [show underB b b = false from f2] at h5
      have H3 := Lib.hid h3
      have H4 := Lib.hid h4
      have H5 := Lib.hid h5
      clear h3 h4 h5 hv ha64 hb64 f1 f2 f1'
      cases r
      all_goals
        go_wp2_with fail
        refine (H1.out _).mono ?_; rintro e W2 ⟨rfl, hb2⟩
        go_wp2_with fail
        refine (H2.out _).mono ?_; rintro e W3 ⟨rfl, hb3⟩
        go_wp2_with fail
        refine (H3.out _).mono ?_; rintro e W4 ⟨rfl, hb4⟩
        go_wp2_with fail
        refine (H4.out _).mono ?_; rintro e W5 ⟨rfl, hb5⟩
        go_wp2_with fail
        refine (H5.out _).mono ?_; rintro e W6 ⟨rfl, hb6⟩
        go_wp2
        go_ret
        exact ⟨rfl, below_next hb1 (below_next hb2 (below_next hb3 (below_next hb4 (below_next hb5 hb6))))⟩
  · have hl : (1048576 : Int) < len0 := by omega
    clear h w0
    go_enter Try.func7, Try.ntmps7
    go_wp2
    go_ret
    exact ⟨rfl, Below.refl _ _⟩


set_option maxRecDepth 100000 in
theorem lifted (os : Os) (started : os.Started) (H : Type) (enc : TypeId × Value → H) :
    ReturnsInHanded {} Try.checked os 7 .any (Rows.fnPathUnderRootSpec.pre6 enc Try.prog Try.f7 Rows.fnPathUnderRootRow.domain false) (Rows.fnPathUnderRootSpec.post enc Try.prog Try.f7 false true false false) := by
  refine returnsInHanded_of_change (C := Try.checked) own started (by kernel_rfl) Try.func7
    (ChangeSpec.witness6 (enc := enc) (C := Try.checked) false ⟨#[], #[.slice none 0 0], []⟩ 8 (by kernel_rfl) (by kernel_rfl) (by kernel_rfl) (by kernel_rfl)) ?_
  intro W base args ds gs before hval0 hW hcnd _
  have hval : ∀ (j : Nat) t v, Try.f7.params[j]? = some t → args[j]? = some v → Value.okWide Try.prog W .any base t v := hval0
  have hW' := hW
  obtain ⟨p, q, hA0, hV, rfl, hfz, hnd⟩ := hW
  have hA : DataW.TrodAll enc Try.prog W 0 (fun _ => true) true Try.f7.params.toList args.toList ds p := hA0
  rw [Try.params7] at hA hval
  obtain ⟨v0, vs0, d0, ds0, p0, q0, hargs, rfl, rfl, h0, r0⟩ := trodAll_cons hA
  obtain ⟨rfl, rfl, rfl⟩ := trodAll_nil r0
  obtain rfl : args = #[v0] := by cases args; simp_all
  obtain ⟨rfl, rfl⟩ := trodVars_none hV
  obtain ⟨a0, len0, cap0, rfl⟩ := okWide_slice Try.underlying22 (hval 0 22 v0 rfl rfl)
  have k0 := h0
  have lt0 : ∀ x ∈ p0, x.block < W.heap.size := by obtain ⟨m, hm⟩ := k0; exact DataW.trod_lt m _ _ _ hm
  obtain ⟨z0, w0⟩ : ∃ zs, IsRow .u8 W a0 len0 cap0 zs := by
    obtain ⟨fuel, hf⟩ := h0
    rcases open_ints Try.underlying22 Try.underlying5 (by kernel_rfl) hf with ⟨hcs, _⟩ | ⟨x, l, c, zs, hcs, _, hl, hm, hz, _, hcell, hwz⟩
    · simp [Value.cells] at hcs
      obtain ⟨rfl, rfl, rfl⟩ := hcs
      exact ⟨[], .inl ⟨rfl, rfl, rfl, rfl⟩⟩
    · simp [Value.cells] at hcs
      obtain ⟨rfl, rfl, rfl⟩ := hcs
      exact ⟨zs, .inr ⟨_, rfl, hl, hm, by simpa using hz, hcell, hwz⟩⟩
  clear hA0 hval0
  refine (walk a0 len0 cap0 z0 W w0).mono fun e W' ⟨he, bel⟩ => ?_
  subst he
  exact ⟨_, rfl, _, _, _, [], _, [], hW', trodAll_mk1 (shut_bool Try.underlying4 _), (trodAll_cons_mk (Below.trod laidOut (by kernel_rfl) (of_decide_eq_true (by kernel_rfl)) k0 bel lt0) trodAll_mk0), rfl, bel.frame _, fun h => by cases h⟩

theorem over : Rows.fnPathUnderRootRow.holds Try.pinned (OpenSpec.ofChange Rows.fnPathUnderRootSpec) :=
  OpenClaim.holds_of_wide 7 Try.f7 rfl rfl rfl rfl rfl rfl rfl ⟨rfl, rfl, rfl, rfl, rfl⟩ rfl rfl rfl rfl rfl (by kernel_rfl) Try.func7 (by kernel_rfl)
    (of_decide_eq_true (by kernel_rfl)) (by unfold Func.isWrapper; first | (rw [if_pos (by decide +kernel)]; kernel_rfl) | (rw [if_neg (by decide +kernel)]; exact ⟨rfl, rfl⟩))
    (fun os started H enc _ => lifted os started H enc)

theorem proved : Rows.FnPathUnderRootSaid := over
end Go.Proofs.Ytlnjcikoeiffgaa.fnPathUnderRoot
