/-
  laws.FnPathParent returns true for every input, and leaves its arguments as they were.
  Conditions: none.
-/
import Derived.Test.YtlnjcikoeiffgaaRows
import Derived.Test.YtlnjcikoeiffgaaDp
import Derived.WalkKit
import Derived.ProofKit
import Derived.OpenShut
import Derived.ShutString
import Derived.ChangeOld
import Derived.Below
namespace Go.Proofs.Ytlnjcikoeiffgaa.fnPathParent
open Go.ChangeShapes Go.WideShapes Go.ChangeAt Go.RowKit
open Go.ChangeMaps (open_string shut_string)
set_option linter.unusedVariables false

theorem own : ownKnob Try.prog.godebug = none := by kernel_rfl
theorem laidOut : laidOutB Try.prog = true := by kernel_rfl

set_option maxHeartbeats 1000000 in
theorem walk (a0 : Option Addr) (len0 cap0 : Nat) (z0 : List Int) (w : World) (w0 : IsRow .u8 w a0 len0 cap0 z0) :
    Calls Try.prog 5 #[.slice a0 len0 cap0] w fun e w' => e = .returned (.bool true) ∧ Below w.heap.size w w' := by
  by_cases h : len0 ≤ 1048576
  · have hl : (len0 : Int) ≤ 1048576 := by omega
    have HD := Lib.hid (drawParent_c a0 len0 cap0 z0 w w0)
    clear h w0
    go_enter Try.func5, Try.ntmps5
    go_wp2_with fail
    refine HD.out.mono ?_
    rintro e W1 ⟨s, rfl, hs, hb1⟩
    have HS := Lib.hid hs
    clear hs
    have hs64 : s.size ≤ 64 := HS.out
    have hp64 : (parentB s).size ≤ 64 := parentB_size s 64 hs64 (by omega)
    obtain ⟨q, hq⟩ : ∃ q, parentB s = q := ⟨_, rfl⟩
    have h1 := fun w => pathParent_c s (by omega) w
    have h2 := fun w => specParent_c s (by omega) w
    rw [hq] at h1 h2 hp64
    have H1 := Lib.hid h1
    have H2 := Lib.hid h2
    clear h1 h2
    by_cases hn : q = ⟨#[]⟩
    · subst hn
      clear hq hs64 hp64
      go_wp2_with fail
      refine (H1.out _).mono ?_; rintro e W2 ⟨rfl, hb2⟩
      go_wp2_with fail
      refine (H2.out _).mono ?_; rintro e W3 ⟨rfl, hb3⟩
      go_wp2
      go_ret
      exact ⟨rfl, below_next hb1 (below_next hb2 hb3)⟩
    · have hne : q.toList.isEmpty = false := by
        rw [Lib.toList_data, List.isEmpty_eq_false_iff]
        exact fun e => hn (by rw [← Lib.mk_data q, e])
      have hne2 : ¬ q.toList = [] := fun e => by rw [e] at hne; cases hne
      have hf := Pm.parent_facts s.data.toList (fun e => hn (by rw [← hq]; unfold parentB; rw [e]))
      have hqd : Pm.parent s.data.toList = q.data.toList := by rw [← hq]; rfl
      rw [hqd] at hf
      obtain ⟨ds, hds⟩ : ∃ d, Pm.depth s.data.toList = d := ⟨_, rfl⟩
      obtain ⟨_, f1, f2, f3⟩ := hf
      have h3 := fun w => pathDepth_c q (by omega) w
      have h4 := fun w => pathDepth_c s (by omega) w
      have h5 := fun w => pathUnder_c q s (by omega) (by omega) w
      have h6 := fun w => pathUnder_c s q (by omega) (by omega) w
      rw [show underB q s = true from f2] at h5
      rw [show underB s q = false from f3] at h6
      rw [f1, hds] at h3
      rw [hds] at h4
      have hd0 : 0 ≤ ds - 1 ∧ ds ≤ 4 := by
        rw [← hds, ← f1]
        have e1 : Pm.valid q.data.toList = true := by assumption
        have e2 := Pm.depth_facts q.data.toList e1
        constructor
        · unfold Pm.depth; rw [if_pos e1]; omega
        · cases hv : Pm.valid s.data.toList with
          | true =>
            have e3 := Pm.depth_facts s.data.toList hv
            by_cases hr : s.data.toList = [47]
            · rw [e3.1 hr]; omega
            · exact (e3.2 hr).2.2
          | false => unfold Pm.depth; rw [hv]; simp
      obtain ⟨d0, d1⟩ := hd0
      have H3 := Lib.hid h3
      have H4 := Lib.hid h4
      have H5 := Lib.hid h5
      have H6 := Lib.hid h6
      clear h3 h4 h5 h6 hq hs64 hp64 hn hqd f1 f2 f3 hds
      go_wp2_with fail
      refine (H1.out _).mono ?_; rintro e W2 ⟨rfl, hb2⟩
      go_wp2_with fail
      refine (H2.out _).mono ?_; rintro e W3 ⟨rfl, hb3⟩
      go_wp2_with fail
      refine (H3.out _).mono ?_; rintro e W4 ⟨rfl, hb4⟩
      go_wp2_with fail
      refine (H4.out _).mono ?_; rintro e W5 ⟨rfl, hb5⟩
      go_wp2_with fail
      refine (H5.out _).mono ?_; rintro e W6 ⟨rfl, hb6⟩
      go_wp2_with fail
      refine (H6.out _).mono ?_; rintro e W7 ⟨rfl, hb7⟩
      go_wp2
      go_ret
      exact ⟨rfl, below_next hb1 (below_next hb2 (below_next hb3 (below_next hb4 (below_next hb5 (below_next hb6 hb7)))))⟩
  · have hl : (1048576 : Int) < len0 := by omega
    clear h w0
    go_enter Try.func5, Try.ntmps5
    go_wp2
    go_ret
    exact ⟨rfl, Below.refl _ _⟩


set_option maxRecDepth 100000 in
theorem lifted (os : Os) (started : os.Started) (H : Type) (enc : TypeId × Value → H) :
    ReturnsInHanded {} Try.checked os 5 .any (Rows.fnPathParentSpec.pre6 enc Try.prog Try.f5 Rows.fnPathParentRow.domain false) (Rows.fnPathParentSpec.post enc Try.prog Try.f5 false true false false) := by
  refine returnsInHanded_of_change (C := Try.checked) own started (by kernel_rfl) Try.func5
    (ChangeSpec.witness6 (enc := enc) (C := Try.checked) false ⟨#[], #[.slice none 0 0], []⟩ 8 (by kernel_rfl) (by kernel_rfl) (by kernel_rfl) (by kernel_rfl)) ?_
  intro W base args ds gs before hval0 hW hcnd _
  have hval : ∀ (j : Nat) t v, Try.f5.params[j]? = some t → args[j]? = some v → Value.okWide Try.prog W .any base t v := hval0
  have hW' := hW
  obtain ⟨p, q, hA0, hV, rfl, hfz, hnd⟩ := hW
  have hA : DataW.TrodAll enc Try.prog W 0 (fun _ => true) true Try.f5.params.toList args.toList ds p := hA0
  rw [Try.params5] at hA hval
  obtain ⟨v0, vs0, d0, ds0, p0, q0, hargs, rfl, rfl, h0, r0⟩ := trodAll_cons hA
  obtain ⟨rfl, rfl, rfl⟩ := trodAll_nil r0
  obtain rfl : args = #[v0] := by cases args; simp_all
  obtain ⟨rfl, rfl⟩ := trodVars_none hV
  obtain ⟨a0, len0, cap0, rfl⟩ := okWide_slice Try.underlying22 (hval 0 22 v0 rfl rfl)
  have k0 := h0
  have lt0 : ∀ x ∈ p0, x.block < W.heap.size := by obtain ⟨m, hm⟩ := k0; exact DataW.trod_lt m _ _ _ hm
  obtain ⟨z0, w0⟩ : ∃ zs, IsRow .u8 W a0 len0 cap0 zs := by
    obtain ⟨fuel, hf⟩ := h0
    rcases open_ints Try.underlying22 Try.underlying5 (by kernel_rfl) hf with ⟨hcs, _⟩ | ⟨x, l, c, zs, hcs, _, hl, hm, hz, _, hcell, hwz⟩
    · simp [Value.cells] at hcs
      obtain ⟨rfl, rfl, rfl⟩ := hcs
      exact ⟨[], .inl ⟨rfl, rfl, rfl, rfl⟩⟩
    · simp [Value.cells] at hcs
      obtain ⟨rfl, rfl, rfl⟩ := hcs
      exact ⟨zs, .inr ⟨_, rfl, hl, hm, by simpa using hz, hcell, hwz⟩⟩
  clear hA0 hval0
  refine (walk a0 len0 cap0 z0 W w0).mono fun e W' ⟨he, bel⟩ => ?_
  subst he
  exact ⟨_, rfl, _, _, _, [], _, [], hW', trodAll_mk1 (shut_bool Try.underlying4 _), (trodAll_cons_mk (Below.trod laidOut (by kernel_rfl) (of_decide_eq_true (by kernel_rfl)) k0 bel lt0) trodAll_mk0), rfl, bel.frame _, fun h => by cases h⟩

theorem over : Rows.fnPathParentRow.holds Try.pinned (OpenSpec.ofChange Rows.fnPathParentSpec) :=
  OpenClaim.holds_of_wide 5 Try.f5 rfl rfl rfl rfl rfl rfl rfl ⟨rfl, rfl, rfl, rfl, rfl⟩ rfl rfl rfl rfl rfl (by kernel_rfl) Try.func5 (by kernel_rfl)
    (of_decide_eq_true (by kernel_rfl)) (by unfold Func.isWrapper; first | (rw [if_pos (by decide +kernel)]; kernel_rfl) | (rw [if_neg (by decide +kernel)]; exact ⟨rfl, rfl⟩))
    (fun os started H enc _ => lifted os started H enc)

theorem proved : Rows.FnPathParentSaid := over
end Go.Proofs.Ytlnjcikoeiffgaa.fnPathParent
