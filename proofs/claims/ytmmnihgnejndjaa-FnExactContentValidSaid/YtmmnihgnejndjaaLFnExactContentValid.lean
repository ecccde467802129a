/-
  laws.FnExactContentValid returns true for every input, and leaves its arguments as they were.
  Conditions: none.
-/
import Derived.Test.YtmmnihgnejndjaaRows
import Derived.Test.YtmmnihgnejndjaaTc
import Derived.Lib.SmallJoins
import Derived.WalkKit
import Derived.ProofKit
import Derived.OpenShut
import Derived.ShutString
import Derived.ChangeOld
import Derived.Below
namespace Go.Proofs.Ytmmnihgnejndjaa.fnExactContentValid
open Go.ChangeShapes Go.WideShapes Go.ChangeAt Go.RowKit
open Go.ChangeMaps (open_string shut_string)
open Go.Joins (open_agg2)
set_option linter.unusedVariables false

theorem own : ownKnob Try.prog.godebug = none := by kernel_rfl
theorem laidOut : laidOutB Try.prog = true := by kernel_rfl

set_option maxHeartbeats 400000 in
theorem walk (k v : Int) (w : World) :
    Calls Try.prog 5 #[.agg #[.int .i64 k, .int .i64 v]] w fun e w' => e = .returned (.bool true) ∧ Below w.heap.size w w' := by
  have HT := Lib.hid (fun w => toContent_c k v w)
  have HS := Lib.hid (fun w => specValid_c k v w)
  have HI := Lib.hid (fun w => implValid_c k v w)
  generalize validB k v = d at HS HI
  unfold con at HT HS HI
  go_enter Try.func5, Try.ntmps5
  go_wp2_with fail
  refine (HT.out _).mono ?_; rintro e W1 ⟨rfl, hb1⟩
  go_wp2_with fail
  refine (HS.out _).mono ?_; rintro e W2 ⟨rfl, hb2⟩
  have hb := below_next hb1 hb2
  have c0 := box_cell hb 0
  have c1 := box_cell hb 1
  go_wp2_with fail
  refine (HT.out _).mono ?_; rintro e W3 ⟨rfl, hb3⟩
  clear c0 c1
  go_wp2_with fail
  refine (HI.out _).mono ?_; rintro e W4 ⟨rfl, hb4⟩
  go_wp2
  go_ret
  exact ⟨rfl, below_next (below_box _ _) (below_next hb1 (below_next hb2 (below_next hb3 hb4)))⟩

set_option maxRecDepth 100000 in
theorem lifted (os : Os) (started : os.Started) (H : Type) (enc : TypeId × Value → H) :
    ReturnsInHanded {} Try.checked os 5 .any (Rows.fnExactContentValidSpec.pre6 enc Try.prog Try.f5 Rows.fnExactContentValidRow.domain false) (Rows.fnExactContentValidSpec.post enc Try.prog Try.f5 false true false false) := by
  refine returnsInHanded_of_change (C := Try.checked) own started (by kernel_rfl) Try.func5
    (ChangeSpec.witness6 (enc := enc) (C := Try.checked) false ⟨#[], #[.agg #[.int .i64 0, .int .i64 0]], []⟩ 8 (by kernel_rfl) (by kernel_rfl) (by kernel_rfl) (by kernel_rfl)) ?_
  intro W base args ds gs before hval0 hW hcnd _
  have hval : ∀ (j : Nat) t v, Try.f5.params[j]? = some t → args[j]? = some v → Value.okWide Try.prog W .any base t v := hval0
  have hW' := hW
  obtain ⟨p, q, hA0, hV, rfl, hfz, hnd⟩ := hW
  have hA : DataW.TrodAll enc Try.prog W 0 (fun _ => true) true Try.f5.params.toList args.toList ds p := hA0
  rw [Try.params5] at hA hval
  obtain ⟨v0, vs0, d0, ds0, p0, q0, hargs, rfl, rfl, h0, r0⟩ := trodAll_cons hA
  obtain ⟨rfl, rfl, rfl⟩ := trodAll_nil r0
  obtain rfl : args = #[v0] := by cases args; simp_all
  obtain ⟨rfl, rfl⟩ := trodVars_none hV
  have k0 := h0
  have lt0 : ∀ x ∈ p0, x.block < W.heap.size := by obtain ⟨m, hm⟩ := k0; exact DataW.trod_lt m _ _ _ hm
  obtain ⟨u0, u0', y0, y0', n0, rfl, rfl, rfl, s0, s0'⟩ := open_agg2 Try.underlying30 (by kernel_rfl) (by kernel_rfl) (hval 0 30 v0 rfl rfl) h0
  obtain ⟨a0, e0, z0, b0⟩ := DataW.trod_int Try.underlying3 (show DataW.trod _ Try.prog W 0 _ true n0 3 [u0] = some y0 from s0)
  obtain ⟨a0', e0', z0', b0'⟩ := DataW.trod_int Try.underlying3 (show DataW.trod _ Try.prog W 0 _ true n0 3 [u0'] = some y0' from s0')
  obtain rfl : u0 = .int .i64 a0 := by simpa using e0
  obtain rfl : u0' = .int .i64 a0' := by simpa using e0'
  clear hA0 hval0
  refine (walk a0 a0' W).mono fun e W' ⟨he, bel⟩ => ?_
  subst he
  exact ⟨_, rfl, _, _, _, [], _, [], hW', trodAll_mk1 (shut_bool Try.underlying4 _), (trodAll_cons_mk (Below.trod laidOut (by kernel_rfl) (of_decide_eq_true (by kernel_rfl)) k0 bel lt0) trodAll_mk0), rfl, bel.frame _, fun h => by cases h⟩

theorem over : Rows.fnExactContentValidRow.holds Try.pinned (OpenSpec.ofChange Rows.fnExactContentValidSpec) :=
  OpenClaim.holds_of_wide 5 Try.f5 rfl rfl rfl rfl rfl rfl rfl ⟨rfl, rfl, rfl, rfl, rfl⟩ rfl rfl rfl rfl rfl (by kernel_rfl) Try.func5 (by kernel_rfl)
    (of_decide_eq_true (by kernel_rfl)) (by unfold Func.isWrapper; first | (rw [if_pos (by decide +kernel)]; kernel_rfl) | (rw [if_neg (by decide +kernel)]; exact ⟨rfl, rfl⟩))
    (fun os started H enc _ => lifted os started H enc)

theorem proved : Rows.FnExactContentValidSaid := over
end Go.Proofs.Ytmmnihgnejndjaa.fnExactContentValid
