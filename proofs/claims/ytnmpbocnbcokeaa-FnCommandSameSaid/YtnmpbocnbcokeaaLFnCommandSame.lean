/-
  laws.FnCommandSame returns true for every input, and leaves its arguments as they were.
  Conditions: none.
-/
import Derived.Test.YtnmpbocnbcokeaaRows
import Derived.Test.YtnmpbocnbcokeaaIw
import Derived.Test.YtnmpbocnbcokeaaCh
import Derived.WalkKit
import Derived.ProofKit
import Derived.OpenShut
import Derived.ShutString
import Derived.ChangeOld
import Derived.Below
namespace Go.Proofs.Ytnmpbocnbcokeaa.fnCommandSame
open Go.ChangeShapes Go.WideShapes Go.ChangeAt Go.RowKit
open Go.ChangeMaps (open_string shut_string)
set_option linter.unusedVariables false

theorem own : ownKnob Try.prog.godebug = none := by kernel_rfl
theorem laidOut : laidOutB Try.prog = true := by kernel_rfl

set_option maxHeartbeats 4000000 in
set_option maxRecDepth 100000 in
theorem walk (a0 : Option Addr) (len0 cap0 : Nat) (z0 : List Int) (w : World) (w0 : IsRow .u8 w a0 len0 cap0 z0) :
    Calls Try.prog 4 #[.slice a0 len0 cap0] w fun e w' => e = .returned (.bool true) ∧ Below w.heap.size w w' := by
  by_cases h : len0 ≤ 1048576
  · have hl : (len0 : Int) ≤ 1048576 := by omega
    have HD := Lib.hid (drawCmdValid_c a0 len0 cap0 z0 w w0)
    clear h w0
    go_enter Try.func4, Try.ntmps4
    go_wp2_with fail
    refine HD.out.mono ?_
    rintro e W1 ⟨c, rfl, hp, hb1⟩
    obtain ⟨vc, hvc⟩ : ∃ vc, validC c = vc := ⟨_, rfl⟩
    have HV := Lib.hid (fun w => specCmdValid_c c (by omega) w)
    have HI := Lib.hid (fun w => implCmdValid_c c (by omega) w)
    rw [hvc] at HV HI
    have HX := Lib.hid (fun w => show Calls Try.prog 12 #[.agg #[.string c.p, .int .i64 c.fk, .int .i64 c.fv, .int .i64 c.fk, .int .i64 c.fv]] w (BoolPost false w) by
      have := implCmdValid_c ⟨c.p, c.fk, c.fv, c.fk, c.fv⟩ (by show c.p.size ≤ _; omega) w
      rw [(not_same c).1] at this
      exact this)
    have HY := Lib.hid (fun w => show Calls Try.prog 12 #[.agg #[.string ⟨#[47]⟩, .int .i64 c.fk, .int .i64 c.fv, .int .i64 c.tk, .int .i64 c.tv]] w (BoolPost false w) by
      have := implCmdValid_c ⟨⟨#[47]⟩, c.fk, c.fv, c.tk, c.tv⟩ (by show (⟨#[47]⟩ : ByteArray).size ≤ _; decide) w
      rw [show validC ⟨⟨#[47]⟩, c.fk, c.fv, c.tk, c.tv⟩ = false from (not_same c).2] at this
      exact this)
    have B1 := Lib.hid hb1
    clear hvc hp hb1
    obtain ⟨p, fk, fv, tk, tv⟩ := c
    unfold cmdV at HV HI ⊢
    simp only at HV HI HX HY
    go_wp2_with fail
    refine (HI.out _).mono ?_; rintro e W2 ⟨rfl, hb2⟩
    have C2 := Lib.hid ((five_new W1 (.string p) (.int .i64 fk) (.int .i64 fv) (.int .i64 tk) (.int .i64 tv) 26).below hb2)
    have B2 := Lib.hid (below_next B1.out (below_next (below_box W1 _) hb2))
    clear hb2
    obtain ⟨c0, c1, c2, c3, c4, -⟩ := C2.out
    go_wp2_with fail
    refine (HV.out _).mono ?_; rintro e W3 ⟨rfl, hb3⟩
    have C3 := Lib.hid (C2.out.below hb3)
    have B3 := Lib.hid (below_next B2.out hb3)
    clear hb3 c0 c1 c2 c3 c4 C2
    cases vc with
    | false =>
      go_wp2
      go_ret
      exact ⟨rfl, B3.out⟩
    | true =>
      obtain ⟨c0, c1, c2, c3, c4, -⟩ := C3.out
      have HXB := Lib.hid (five_new W3 (.string p) (.int .i64 fk) (.int .i64 fv) (.int .i64 fk) (.int .i64 fv) 26)
      have HCB := Lib.hid (C3.out.alloc (.cells #[.string p, .int .i64 fk, .int .i64 fv, .int .i64 fk, .int .i64 fv] 26))
      have HBB := Lib.hid (below_next B3.out (below_box W3 (.cells #[.string p, .int .i64 fk, .int .i64 fv, .int .i64 fk, .int .i64 fv] 26)))
      have e1 := fun o => cell_kept (below_box W3 o) c1
      have e2 := fun o => cell_kept (below_box W3 o) c2
      go_upto_region 10 with (fail)
      clear c0 c1 c2 c3 c4 e1 e2
      generalize W3.alloc (.cells #[.string p, .int .i64 fk, .int .i64 fv, .int .i64 fk, .int .i64 fv] 26) = W4 at HXB HCB HBB ⊢
      obtain ⟨c0, c1, c2, c3, c4, -⟩ := HCB.out
      obtain ⟨ox0, ox1, ox2, ox3, ox4, -⟩ := HXB.out
      have x0 := fun o => cell_kept (below_box W4 o) ox0
      have x1 := fun o => cell_kept (below_box W4 o) ox1
      have x2 := fun o => cell_kept (below_box W4 o) ox2
      have x3 := fun o => cell_kept (below_box W4 o) ox3
      have x4 := fun o => cell_kept (below_box W4 o) ox4
      clear ox0 ox1 ox2 ox3 ox4
      go_upto_region 12 with (fail)
      clear c0 c1 c2 c3 c4
      go_wp2_with fail
      refine (HX.out _).mono ?_; rintro e W5 ⟨rfl, hb5⟩
      have y0 := box_cell hb5 0
      have y1 := box_cell hb5 1
      have y2 := box_cell hb5 2
      have y3 := box_cell hb5 3
      have y4 := box_cell hb5 4
      simp at y0 y1 y2 y3 y4
      have B5 := Lib.hid (below_next HBB.out (below_next (below_box W4 _) hb5))
      clear hb5 x0 x1 x2 x3 x4
      go_wp2_with fail
      refine (HY.out _).mono ?_; rintro e W6 ⟨rfl, hb6⟩
      have B6 := Lib.hid (below_next B5.out hb6)
      clear hb6
      go_wp2
      go_ret
      exact ⟨rfl, B6.out⟩
  · have hl : (1048576 : Int) < len0 := by omega
    clear h w0
    go_enter Try.func4, Try.ntmps4
    go_wp2
    go_ret
    exact ⟨rfl, Below.refl _ _⟩


set_option maxRecDepth 100000 in
theorem lifted (os : Os) (started : os.Started) (H : Type) (enc : TypeId × Value → H) :
    ReturnsInHanded {} Try.checked os 4 .any (Rows.fnCommandSameSpec.pre6 enc Try.prog Try.f4 Rows.fnCommandSameRow.domain false) (Rows.fnCommandSameSpec.post enc Try.prog Try.f4 false true false false) := by
  refine returnsInHanded_of_change (C := Try.checked) own started (by kernel_rfl) Try.func4
    (ChangeSpec.witness6 (enc := enc) (C := Try.checked) false ⟨#[], #[.slice none 0 0], []⟩ 8 (by kernel_rfl) (by kernel_rfl) (by kernel_rfl) (by kernel_rfl)) ?_
  intro W base args ds gs before hval0 hW hcnd _
  have hval : ∀ (j : Nat) t v, Try.f4.params[j]? = some t → args[j]? = some v → Value.okWide Try.prog W .any base t v := hval0
  have hW' := hW
  obtain ⟨p, q, hA0, hV, rfl, hfz, hnd⟩ := hW
  have hA : DataW.TrodAll enc Try.prog W 0 (fun _ => true) true Try.f4.params.toList args.toList ds p := hA0
  rw [Try.params4] at hA hval
  obtain ⟨v0, vs0, d0, ds0, p0, q0, hargs, rfl, rfl, h0, r0⟩ := trodAll_cons hA
  obtain ⟨rfl, rfl, rfl⟩ := trodAll_nil r0
  obtain rfl : args = #[v0] := by cases args; simp_all
  obtain ⟨rfl, rfl⟩ := trodVars_none hV
  obtain ⟨a0, len0, cap0, rfl⟩ := okWide_slice Try.underlying22 (hval 0 22 v0 rfl rfl)
  have k0 := h0
  have lt0 : ∀ x ∈ p0, x.block < W.heap.size := by obtain ⟨m, hm⟩ := k0; exact DataW.trod_lt m _ _ _ hm
  obtain ⟨z0, w0⟩ : ∃ zs, IsRow .u8 W a0 len0 cap0 zs := by
    obtain ⟨fuel, hf⟩ := h0
    rcases open_ints Try.underlying22 Try.underlying5 (by kernel_rfl) hf with ⟨hcs, _⟩ | ⟨x, l, c, zs, hcs, _, hl, hm, hz, _, hcell, hwz⟩
    · simp [Value.cells] at hcs
      obtain ⟨rfl, rfl, rfl⟩ := hcs
      exact ⟨[], .inl ⟨rfl, rfl, rfl, rfl⟩⟩
    · simp [Value.cells] at hcs
      obtain ⟨rfl, rfl, rfl⟩ := hcs
      exact ⟨zs, .inr ⟨_, rfl, hl, hm, by simpa using hz, hcell, hwz⟩⟩
  clear hA0 hval0
  refine (walk a0 len0 cap0 z0 W w0).mono fun e W' ⟨he, bel⟩ => ?_
  subst he
  exact ⟨_, rfl, _, _, _, [], _, [], hW', trodAll_mk1 (shut_bool Try.underlying4 _), (trodAll_cons_mk (Below.trod laidOut (by kernel_rfl) (of_decide_eq_true (by kernel_rfl)) k0 bel lt0) trodAll_mk0), rfl, bel.frame _, fun h => by cases h⟩

theorem over : Rows.fnCommandSameRow.holds Try.pinned (OpenSpec.ofChange Rows.fnCommandSameSpec) :=
  OpenClaim.holds_of_wide 4 Try.f4 rfl rfl rfl rfl rfl rfl rfl ⟨rfl, rfl, rfl, rfl, rfl⟩ rfl rfl rfl rfl rfl (by kernel_rfl) Try.func4 (by kernel_rfl)
    (of_decide_eq_true (by kernel_rfl)) (by unfold Func.isWrapper; first | (rw [if_pos (by decide +kernel)]; kernel_rfl) | (rw [if_neg (by decide +kernel)]; exact ⟨rfl, rfl⟩))
    (fun os started H enc _ => lifted os started H enc)

theorem proved : Rows.FnCommandSameSaid := over
end Go.Proofs.Ytnmpbocnbcokeaa.fnCommandSame
