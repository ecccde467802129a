/-
  laws.FnUndoTwice returns true for every input, and leaves its arguments as they were.
  Conditions: none.
-/
import Derived.Test.YtnmpbocnbcokeaaRows
import Derived.Test.YtnmpbocnbcokeaaIw
import Derived.Test.YtnmpbocnbcokeaaCh
import Derived.Test.YtnmpbocnbcokeaaCb
import Derived.Test.YtnmpbocnbcokeaaQc
import Derived.WalkKit
import Derived.ProofKit
import Derived.OpenShut
import Derived.ShutString
import Derived.ChangeOld
import Derived.Below
namespace Go.Proofs.Ytnmpbocnbcokeaa.fnUndoTwice
open Go.ChangeShapes Go.WideShapes Go.ChangeAt Go.RowKit
open Go.ChangeMaps (open_string shut_string)
set_option linter.unusedVariables false

theorem own : ownKnob Try.prog.godebug = none := by kernel_rfl
theorem laidOut : laidOutB Try.prog = true := by kernel_rfl

theorem undo_self {c u : Cmd} (h : undoC c = u) (hv : validC c = true) : undoC u = c ∧ validC u = true ∧ u.p = c.p := by
  subst h
  refine ⟨undo_twice hv, ?_, ?_⟩
  · rw [undoC_ok hv]; exact undo_valid hv
  · rw [undoC_ok hv]

set_option maxHeartbeats 4000000 in
set_option maxRecDepth 100000 in
theorem walk (a0 : Option Addr) (len0 cap0 : Nat) (z0 : List Int) (w : World) (w0 : IsRow .u8 w a0 len0 cap0 z0) :
    Calls Try.prog 3 #[.slice a0 len0 cap0] w fun e w' => e = .returned (.bool true) ∧ Below w.heap.size w w' := by
  by_cases h : len0 ≤ 1048576
  · have hl : (len0 : Int) ≤ 1048576 := by omega
    have HD := Lib.hid (drawCmdUndo_c a0 len0 cap0 z0 w w0)
    have HEQ := Lib.hid cmdEqS
    have HNE := Lib.hid cmdNeS
    clear h w0
    go_enter Try.func3, Try.ntmps3
    go_wp2_with fail
    refine HD.out.mono ?_
    rintro e W1 ⟨c, rfl, hp, hb1⟩
    obtain ⟨u, hu⟩ : ∃ u, undoC c = u := ⟨_, rfl⟩
    have HU1 := Lib.hid (fun w => implCmdUndo_c c (by omega) w)
    have HU2 := Lib.hid (fun w => specCmdUndo_c c (by omega) w)
    obtain ⟨vc, hvc⟩ : ∃ vc, validC c = vc := ⟨_, rfl⟩
    have HV := Lib.hid (fun w => specCmdValid_c c (by omega) w)
    rw [hvc] at HV
    rw [hu] at HU1 HU2
    have HK := Lib.hid (fun (h : vc = true) => undo_self hu (hvc.trans h))
    have HP := Lib.hid hp
    have B1 := Lib.hid hb1
    clear hu hvc hp hb1
    obtain ⟨p, fk, fv, tk, tv⟩ := c
    obtain ⟨up, ufk, ufv, utk, utv⟩ := u
    have HEC := Lib.hid (fun w => cmdEqS p fk fv tk tv w)
    have hne := fun w => cmdNeS up ufk ufv utk utv w
    have heq := fun w => cmdEqS up ufk ufv utk utv w
    unfold CmdPost cmdV at HU1 HU2
    unfold cmdV at HV
    unfold cmdV
    simp only at HV HP
    go_wp2_with fail
    refine (HU1.out _).mono ?_; rintro e W2 ⟨rfl, hb2⟩
    have C2 := Lib.hid ((five_new W1 (.string p) (.int .i64 fk) (.int .i64 fv) (.int .i64 tk) (.int .i64 tv) 26).below hb2)
    have B2 := Lib.hid (below_next B1.out (below_next (below_box W1 _) hb2))
    clear hb2
    obtain ⟨oc0, oc1, oc2, oc3, oc4, -⟩ := C2.out
    have c0 := fun o => cell_kept (below_box W2 o) oc0
    have c1 := fun o => cell_kept (below_box W2 o) oc1
    have c2 := fun o => cell_kept (below_box W2 o) oc2
    have c3 := fun o => cell_kept (below_box W2 o) oc3
    have c4 := fun o => cell_kept (below_box W2 o) oc4
    clear oc0 oc1 oc2 oc3 oc4
    go_wp2_with fail
    refine (HU2.out _).mono ?_; rintro e W3 ⟨rfl, hb3⟩
    have C3 := Lib.hid ((C2.out.alloc _).below hb3)
    have U3 := Lib.hid ((five_new W2 (.string up) (.int .i64 ufk) (.int .i64 ufv) (.int .i64 utk) (.int .i64 utv) 26).below hb3)
    have B3 := Lib.hid (below_next B2.out (below_next (below_box W2 _) hb3))
    clear hb3 c0 c1 c2 c3 c4 C2
    obtain ⟨oc0, oc1, oc2, oc3, oc4, -⟩ := C3.out
    obtain ⟨ou0, ou1, ou2, ou3, ou4, -⟩ := U3.out
    have c0 := fun o => cell_kept (below_box W3 o) oc0
    have c1 := fun o => cell_kept (below_box W3 o) oc1
    have c2 := fun o => cell_kept (below_box W3 o) oc2
    have c3 := fun o => cell_kept (below_box W3 o) oc3
    have c4 := fun o => cell_kept (below_box W3 o) oc4
    have u0 := fun o => cell_kept (below_box W3 o) ou0
    have u1 := fun o => cell_kept (below_box W3 o) ou1
    have u2 := fun o => cell_kept (below_box W3 o) ou2
    have u3 := fun o => cell_kept (below_box W3 o) ou3
    have u4 := fun o => cell_kept (below_box W3 o) ou4
    clear oc0 oc1 oc2 oc3 oc4 ou0 ou1 ou2 ou3 ou4
    go_wp2_with fail
    refine (HV.out _).mono ?_; rintro e W4 ⟨rfl, hb4⟩
    have C4 := Lib.hid ((C3.out.alloc _).below hb4)
    have U4 := Lib.hid ((U3.out.alloc _).below hb4)
    have X4 := Lib.hid ((five_new W3 (.string up) (.int .i64 ufk) (.int .i64 ufv) (.int .i64 utk) (.int .i64 utv) 26).below hb4)
    have B4 := Lib.hid (below_next B3.out (below_next (below_box W3 _) hb4))
    clear hb4 c0 c1 c2 c3 c4 u0 u1 u2 u3 u4 C3 U3
    obtain ⟨u0, u1, u2, u3, u4, -⟩ := U4.out
    obtain ⟨x0, x1, x2, x3, x4, -⟩ := X4.out
    cases vc with
    | false =>
      clear hne
      go_wp2
      go_ret
      exact ⟨rfl, B4.out⟩
    | true =>
      obtain ⟨k1, k2, k3⟩ := HK.out rfl
      try simp only at k3
      subst k3
      have HU5 := Lib.hid (fun w => implCmdUndo_c ⟨up, ufk, ufv, utk, utv⟩ (by show up.size ≤ _; have := HP.out; omega) w)
      have HV5 := Lib.hid (fun w => implCmdValid_c ⟨up, ufk, ufv, utk, utv⟩ (by show up.size ≤ _; have := HP.out; omega) w)
      rw [k1] at HU5
      rw [k2] at HV5
      unfold CmdPost cmdV at HU5
      unfold cmdV at HV5
      try simp only at HU5
      try simp only at HV5
      obtain ⟨c0, c1, c2, c3, c4, -⟩ := C4.out
      clear k1 k2 x0 x1 x2 x3 x4 HU1 HU2 HV X4
      have hec := HEC.out
      have hk : ∀ w1 w2 : World, (w1.cell? ⟨W1.heap.size, 0, none⟩ = some (.string up) ∧ w1.cell? ⟨W1.heap.size, 1, none⟩ = some (.int .i64 fk) ∧ w1.cell? ⟨W1.heap.size, 2, none⟩ = some (.int .i64 fv) ∧ w1.cell? ⟨W1.heap.size, 3, none⟩ = some (.int .i64 tk) ∧ w1.cell? ⟨W1.heap.size, 4, none⟩ = some (.int .i64 tv) ∧ w1.cell? ⟨W2.heap.size, 0, none⟩ = some (.string up) ∧ w1.cell? ⟨W2.heap.size, 1, none⟩ = some (.int .i64 ufk) ∧ w1.cell? ⟨W2.heap.size, 2, none⟩ = some (.int .i64 ufv) ∧ w1.cell? ⟨W2.heap.size, 3, none⟩ = some (.int .i64 utk) ∧ w1.cell? ⟨W2.heap.size, 4, none⟩ = some (.int .i64 utv) ∧ Below w.heap.size w w1) → Below w1.heap.size w1 w2 → (w2.cell? ⟨W1.heap.size, 0, none⟩ = some (.string up) ∧ w2.cell? ⟨W1.heap.size, 1, none⟩ = some (.int .i64 fk) ∧ w2.cell? ⟨W1.heap.size, 2, none⟩ = some (.int .i64 fv) ∧ w2.cell? ⟨W1.heap.size, 3, none⟩ = some (.int .i64 tk) ∧ w2.cell? ⟨W1.heap.size, 4, none⟩ = some (.int .i64 tv) ∧ w2.cell? ⟨W2.heap.size, 0, none⟩ = some (.string up) ∧ w2.cell? ⟨W2.heap.size, 1, none⟩ = some (.int .i64 ufk) ∧ w2.cell? ⟨W2.heap.size, 2, none⟩ = some (.int .i64 ufv) ∧ w2.cell? ⟨W2.heap.size, 3, none⟩ = some (.int .i64 utk) ∧ w2.cell? ⟨W2.heap.size, 4, none⟩ = some (.int .i64 utv) ∧ Below w.heap.size w w2) := fun w1 w2 h hb => ⟨cell_kept hb h.1, cell_kept hb h.2.1, cell_kept hb h.2.2.1, cell_kept hb h.2.2.2.1, cell_kept hb h.2.2.2.2.1, cell_kept hb h.2.2.2.2.2.1, cell_kept hb h.2.2.2.2.2.2.1, cell_kept hb h.2.2.2.2.2.2.2.1, cell_kept hb h.2.2.2.2.2.2.2.2.1, cell_kept hb h.2.2.2.2.2.2.2.2.2.1, below_next h.2.2.2.2.2.2.2.2.2.2 hb⟩
      have HKP := Lib.hid hk
      have HS0 : Hid (W4.drew.cell? ⟨W1.heap.size, 0, none⟩ = some (.string up) ∧ W4.drew.cell? ⟨W1.heap.size, 1, none⟩ = some (.int .i64 fk) ∧ W4.drew.cell? ⟨W1.heap.size, 2, none⟩ = some (.int .i64 fv) ∧ W4.drew.cell? ⟨W1.heap.size, 3, none⟩ = some (.int .i64 tk) ∧ W4.drew.cell? ⟨W1.heap.size, 4, none⟩ = some (.int .i64 tv) ∧ W4.drew.cell? ⟨W2.heap.size, 0, none⟩ = some (.string up) ∧ W4.drew.cell? ⟨W2.heap.size, 1, none⟩ = some (.int .i64 ufk) ∧ W4.drew.cell? ⟨W2.heap.size, 2, none⟩ = some (.int .i64 ufv) ∧ W4.drew.cell? ⟨W2.heap.size, 3, none⟩ = some (.int .i64 utk) ∧ W4.drew.cell? ⟨W2.heap.size, 4, none⟩ = some (.int .i64 utv) ∧ Below w.heap.size w W4.drew) := ⟨c0, c1, c2, c3, c4, u0, u1, u2, u3, u4, B4.out.drew⟩
      clear hk u0 u1 u2 u3 u4 c0 c1 c2 c3 c4 C4 U4
      go_upto_region 8 with (fail)
      go_region_held3 (fun w' => w'.cell? ⟨W1.heap.size, 0, none⟩ = some (.string up) ∧ w'.cell? ⟨W1.heap.size, 1, none⟩ = some (.int .i64 fk) ∧ w'.cell? ⟨W1.heap.size, 2, none⟩ = some (.int .i64 fv) ∧ w'.cell? ⟨W1.heap.size, 3, none⟩ = some (.int .i64 tk) ∧ w'.cell? ⟨W1.heap.size, 4, none⟩ = some (.int .i64 tv) ∧ w'.cell? ⟨W2.heap.size, 0, none⟩ = some (.string up) ∧ w'.cell? ⟨W2.heap.size, 1, none⟩ = some (.int .i64 ufk) ∧ w'.cell? ⟨W2.heap.size, 2, none⟩ = some (.int .i64 ufv) ∧ w'.cell? ⟨W2.heap.size, 3, none⟩ = some (.int .i64 utk) ∧ w'.cell? ⟨W2.heap.size, 4, none⟩ = some (.int .i64 utv) ∧ Below w.heap.size w w')
        (first | exact HS0.out | exact HKP.out _ _ HS0.out hb5 | exact HKP.out _ _ (HKP.out _ _ HS0.out hb5) hb6)
        (first | (go_at_call 9; (with_reducible refine (HU5.out _).mono ?_); rintro e W5 ⟨rfl, hb5⟩) | (go_at_call 12; (with_reducible refine (HV5.out _).mono ?_); rintro e W6 ⟨rfl, hb6⟩))
      rename_i hS
      have HB := Lib.hid hS.2.2.2.2.2.2.2.2.2.2
      clear hS
      go_wp2
      go_ret
      exact ⟨rfl, HB.out⟩
  · have hl : (1048576 : Int) < len0 := by omega
    clear h w0
    go_enter Try.func3, Try.ntmps3
    go_wp2
    go_ret
    exact ⟨rfl, Below.refl _ _⟩


set_option maxRecDepth 100000 in
theorem lifted (os : Os) (started : os.Started) (H : Type) (enc : TypeId × Value → H) :
    ReturnsInHanded {} Try.checked os 3 .any (Rows.fnUndoTwiceSpec.pre6 enc Try.prog Try.f3 Rows.fnUndoTwiceRow.domain false) (Rows.fnUndoTwiceSpec.post enc Try.prog Try.f3 false true false false) := by
  refine returnsInHanded_of_change (C := Try.checked) own started (by kernel_rfl) Try.func3
    (ChangeSpec.witness6 (enc := enc) (C := Try.checked) false ⟨#[], #[.slice none 0 0], []⟩ 8 (by kernel_rfl) (by kernel_rfl) (by kernel_rfl) (by kernel_rfl)) ?_
  intro W base args ds gs before hval0 hW hcnd _
  have hval : ∀ (j : Nat) t v, Try.f3.params[j]? = some t → args[j]? = some v → Value.okWide Try.prog W .any base t v := hval0
  have hW' := hW
  obtain ⟨p, q, hA0, hV, rfl, hfz, hnd⟩ := hW
  have hA : DataW.TrodAll enc Try.prog W 0 (fun _ => true) true Try.f3.params.toList args.toList ds p := hA0
  rw [Try.params3] at hA hval
  obtain ⟨v0, vs0, d0, ds0, p0, q0, hargs, rfl, rfl, h0, r0⟩ := trodAll_cons hA
  obtain ⟨rfl, rfl, rfl⟩ := trodAll_nil r0
  obtain rfl : args = #[v0] := by cases args; simp_all
  obtain ⟨rfl, rfl⟩ := trodVars_none hV
  obtain ⟨a0, len0, cap0, rfl⟩ := okWide_slice Try.underlying22 (hval 0 22 v0 rfl rfl)
  have k0 := h0
  have lt0 : ∀ x ∈ p0, x.block < W.heap.size := by obtain ⟨m, hm⟩ := k0; exact DataW.trod_lt m _ _ _ hm
  obtain ⟨z0, w0⟩ : ∃ zs, IsRow .u8 W a0 len0 cap0 zs := by
    obtain ⟨fuel, hf⟩ := h0
    rcases open_ints Try.underlying22 Try.underlying5 (by kernel_rfl) hf with ⟨hcs, _⟩ | ⟨x, l, c, zs, hcs, _, hl, hm, hz, _, hcell, hwz⟩
    · simp [Value.cells] at hcs
      obtain ⟨rfl, rfl, rfl⟩ := hcs
      exact ⟨[], .inl ⟨rfl, rfl, rfl, rfl⟩⟩
    · simp [Value.cells] at hcs
      obtain ⟨rfl, rfl, rfl⟩ := hcs
      exact ⟨zs, .inr ⟨_, rfl, hl, hm, by simpa using hz, hcell, hwz⟩⟩
  clear hA0 hval0
  refine (walk a0 len0 cap0 z0 W w0).mono fun e W' ⟨he, bel⟩ => ?_
  subst he
  exact ⟨_, rfl, _, _, _, [], _, [], hW', trodAll_mk1 (shut_bool Try.underlying4 _), (trodAll_cons_mk (Below.trod laidOut (by kernel_rfl) (of_decide_eq_true (by kernel_rfl)) k0 bel lt0) trodAll_mk0), rfl, bel.frame _, fun h => by cases h⟩

theorem over : Rows.fnUndoTwiceRow.holds Try.pinned (OpenSpec.ofChange Rows.fnUndoTwiceSpec) :=
  OpenClaim.holds_of_wide 3 Try.f3 rfl rfl rfl rfl rfl rfl rfl ⟨rfl, rfl, rfl, rfl, rfl⟩ rfl rfl rfl rfl rfl (by kernel_rfl) Try.func3 (by kernel_rfl)
    (of_decide_eq_true (by kernel_rfl)) (by unfold Func.isWrapper; first | (rw [if_pos (by decide +kernel)]; kernel_rfl) | (rw [if_neg (by decide +kernel)]; exact ⟨rfl, rfl⟩))
    (fun os started H enc _ => lifted os started H enc)

theorem proved : Rows.FnUndoTwiceSaid := over
end Go.Proofs.Ytnmpbocnbcokeaa.fnUndoTwice
