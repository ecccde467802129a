/-
  laws.FnBytes returns true for every input, and leaves its arguments as they were.
  Conditions: none.
-/
import Derived.Test.YtoipbocbgadjbaaRows
import Derived.WalkKit
import Derived.ProofKit
import Derived.OpenShut
import Derived.ShutString
import Derived.ChangeOld
import Derived.Below
import Derived.Test.YtoipbocbgadjbaaQ7
import Derived.Test.YtoipbocbgadjbaaQ9
namespace Go.Proofs.Ytoipbocbgadjbaa.fnBytes
open Go.ChangeShapes Go.WideShapes Go.ChangeAt Go.RowKit
open Go.ChangeMaps (open_string shut_string)
set_option linter.unusedVariables false

theorem own : ownKnob Try.prog.godebug = none := by kernel_rfl
theorem laidOut : laidOutB Try.prog = true := by kernel_rfl

set_option maxHeartbeats 4000000 in
set_option maxRecDepth 100000 in
theorem walk (a0 : Option Addr) (len0 cap0 : Nat) (z0 : List Int) (w : World) (w0 : IsRow .u8 w a0 len0 cap0 z0) :
    Calls Try.prog 3 #[.slice a0 len0 cap0] w fun e w' => e = .returned (.bool true) ∧ Below w.heap.size w w' := by
  by_cases h : len0 ≤ 1048576
  · have hl : (len0 : Int) ≤ 1048576 := by omega
    have HD := Lib.hid (drawCommandBytes_c a0 len0 cap0 z0 w w0)
    clear h w0
    go_enter Try.func3, Try.ntmps3
    go_wp2_with fail
    refine HD.out.mono ?_
    rintro e W1 ⟨c, rfl, hp, hb1⟩
    obtain ⟨zb, hzb⟩ : ∃ zb, cmdBytes c = zb := ⟨_, rfl⟩
    have HU1 := Lib.hid (fun w => implCmdBytes_c c (by omega) w)
    have HU2 := Lib.hid (fun w => specCmdBytes_c c (by omega) w)
    obtain ⟨ln, hln⟩ : ∃ ln, zb.length = ln := ⟨_, rfl⟩
    obtain ⟨vc, hvc⟩ : ∃ vc, validC c = vc := ⟨_, rfl⟩
    have HK := Lib.hid (show vc = true → cmdFrom zb = (c, true) ∧ ln = 4 + c.p.size by
      intro e
      rw [e] at hvc
      refine ⟨by rw [← hzb]; exact cmdFrom_bytes hvc, ?_⟩
      rw [← hln, ← hzb]
      exact (cmdBytes_length hvc).1)
    have HZ0 := Lib.hid (show vc = false → ln = 0 by
      intro e
      rw [e] at hvc
      rw [← hln, ← hzb, cmdBytes_bad hvc]
      rfl)
    have hl12 : ln ≤ 12 := by rw [← hln, ← hzb]; exact cmdBytes_le c
    rw [hzb] at HU1 HU2
    have HP := Lib.hid hp
    have B1 := Lib.hid hb1
    have HLN := Lib.hid hln
    clear hzb hln hvc hp hb1
    obtain ⟨p, fk, fv, tk, tv⟩ := c
    have heq := fun w => cmdEqS p fk fv tk tv w
    unfold cmdV at HU1 HU2
    unfold cmdV
    simp only at HK HP
    go_wp2_with fail
    refine (HU1.out _).mono ?_; rintro e W2 ⟨h2, hb2⟩
    obtain ⟨x2, p2, rfl, hn2, hc2, hm2⟩ := h2.at
    have C2 := Lib.hid ((five_new W1 (.string p) (.int .i64 fk) (.int .i64 fv) (.int .i64 tk) (.int .i64 tv) 26).below hb2)
    have B2 := Lib.hid (below_next B1.out (below_next (below_box W1 _) hb2))
    have N2 := Lib.hid hn2
    have HC2 := Lib.hid (And.intro hc2 hm2)
    rw [HLN.out] at N2 HC2 ⊢
    clear h2 hb2 hn2 hc2 hm2
    obtain ⟨c0, c1, c2, c3, c4, -⟩ := C2.out
    go_wp2_with fail
    refine (HU2.out _).mono ?_; rintro e W3 ⟨h3, hb3⟩
    obtain ⟨x3, p3, rfl, hn3, -, -⟩ := h3.at
    have C3 := Lib.hid (C2.out.below hb3)
    have B3 := Lib.hid (below_next B2.out hb3)
    have N3 := Lib.hid hn3
    have N23 := Lib.hid (N2.out.keep hb3)
    rw [HLN.out] at N3 ⊢
    have HSI := Lib.hid (fun W' (hb : Below W3.heap.size W3 W') => sameInts_c x2 x3 ln p2 p3 zb (by omega) W' (N23.out.keep hb) (N3.out.keep hb))
    clear h3 hb3 hn3 c0 c1 c2 c3 c4
    go_wp2_with fail
    refine (HSI.out _ (Below.refl _ _)).mono ?_
    rintro e W4 ⟨rfl, hb4⟩
    have HB4 := Lib.hid hb4
    have C4 := Lib.hid (C3.out.below hb4)
    clear hb4
    cases vc with
    | false =>
      have hz := HZ0.out rfl
      subst hz
      go_wp2_with fail
      refine (HSI.out _ HB4.out).mono ?_
      rintro e W5 ⟨rfl, hb5⟩
      go_wp2
      go_ret
      exact ⟨rfl, below_next B3.out (below_next HB4.out hb5)⟩
    | true =>
      obtain ⟨k1, k2⟩ := HK.out rfl
      have hlp : 0 < ln := by omega
      have hne0 : ¬ (ln : Int) = 0 := by omega
      have hw := (IntWalk.i64_in (4 + (p.size : Int)) (by omega)).trans (show 4 + (p.size : Int) = ln by omega)
      have HF := Lib.hid (implCmdFrom_c x2 ln p2 zb (by omega) HC2.out.1 HC2.out.2 W4 (N23.out.keep HB4.out))
      rw [k1] at HF
      unfold CmdPairPost cmdV at HF
      simp only at HF
      clear k1 k2
      obtain ⟨c0, c1, c2, c3, c4, -⟩ := C4.out
      go_wp2_with fail
      refine HF.out.mono ?_
      rintro e W5 ⟨rfl, hb5⟩
      have C5 := Lib.hid (C4.out.below hb5)
      have B5 := Lib.hid (below_next B3.out (below_next HB4.out hb5))
      clear hb5 c0 c1 c2 c3 c4
      obtain ⟨od0, od1, od2, od3, od4, -⟩ := C5.out
      have d0 := fun o => cell_kept (below_box W5 o) od0
      have d1 := fun o => cell_kept (below_box W5 o) od1
      have d2 := fun o => cell_kept (below_box W5 o) od2
      have d3 := fun o => cell_kept (below_box W5 o) od3
      have d4 := fun o => cell_kept (below_box W5 o) od4
      go_wp2
      go_ret
      exact ⟨rfl, B5.out.alloc B5.out.size _⟩
  · have hl : (1048576 : Int) < len0 := by omega
    clear h w0
    go_enter Try.func3, Try.ntmps3
    go_wp2
    go_ret
    exact ⟨rfl, Below.refl _ _⟩


set_option maxRecDepth 100000 in
theorem lifted (os : Os) (started : os.Started) (H : Type) (enc : TypeId × Value → H) :
    ReturnsInHanded {} Try.checked os 3 .any (Rows.fnBytesSpec.pre6 enc Try.prog Try.f3 Rows.fnBytesRow.domain false) (Rows.fnBytesSpec.post enc Try.prog Try.f3 false true false false) := by
  refine returnsInHanded_of_change (C := Try.checked) own started (by kernel_rfl) Try.func3
    (ChangeSpec.witness6 (enc := enc) (C := Try.checked) false ⟨#[], #[.slice none 0 0], []⟩ 8 (by kernel_rfl) (by kernel_rfl) (by kernel_rfl) (by kernel_rfl)) ?_
  intro W base args ds gs before hval0 hW hcnd _
  have hval : ∀ (j : Nat) t v, Try.f3.params[j]? = some t → args[j]? = some v → Value.okWide Try.prog W .any base t v := hval0
  have hW' := hW
  obtain ⟨p, q, hA0, hV, rfl, hfz, hnd⟩ := hW
  have hA : DataW.TrodAll enc Try.prog W 0 (fun _ => true) true Try.f3.params.toList args.toList ds p := hA0
  rw [Try.params3] at hA hval
  obtain ⟨v0, vs0, d0, ds0, p0, q0, hargs, rfl, rfl, h0, r0⟩ := trodAll_cons hA
  obtain ⟨rfl, rfl, rfl⟩ := trodAll_nil r0
  obtain rfl : args = #[v0] := by cases args; simp_all
  obtain ⟨rfl, rfl⟩ := trodVars_none hV
  obtain ⟨a0, len0, cap0, rfl⟩ := okWide_slice Try.underlying22 (hval 0 22 v0 rfl rfl)
  have k0 := h0
  have lt0 : ∀ x ∈ p0, x.block < W.heap.size := by obtain ⟨m, hm⟩ := k0; exact DataW.trod_lt m _ _ _ hm
  obtain ⟨z0, w0⟩ : ∃ zs, IsRow .u8 W a0 len0 cap0 zs := by
    obtain ⟨fuel, hf⟩ := h0
    rcases _root_.Go.ChangeShapes.open_ints Try.underlying22 Try.underlying5 (by kernel_rfl) hf with ⟨hcs, _⟩ | ⟨x, l, c, zs, hcs, _, hl, hm, hz, _, hcell, hwz⟩
    · simp [Value.cells] at hcs
      obtain ⟨rfl, rfl, rfl⟩ := hcs
      exact ⟨[], .inl ⟨rfl, rfl, rfl, rfl⟩⟩
    · simp [Value.cells] at hcs
      obtain ⟨rfl, rfl, rfl⟩ := hcs
      exact ⟨zs, .inr ⟨_, rfl, hl, hm, by simpa using hz, hcell, hwz⟩⟩
  clear hA0 hval0
  refine (walk a0 len0 cap0 z0 W w0).mono fun e W' ⟨he, bel⟩ => ?_
  subst he
  exact ⟨_, rfl, _, _, _, [], _, [], hW', trodAll_mk1 (shut_bool Try.underlying4 _), (trodAll_cons_mk (Below.trod laidOut (by kernel_rfl) (of_decide_eq_true (by kernel_rfl)) k0 bel lt0) trodAll_mk0), rfl, bel.frame _, fun h => by cases h⟩

theorem over : Rows.fnBytesRow.holds Try.pinned (OpenSpec.ofChange Rows.fnBytesSpec) :=
  OpenClaim.holds_of_wide 3 Try.f3 rfl rfl rfl rfl rfl rfl rfl ⟨rfl, rfl, rfl, rfl, rfl⟩ rfl rfl rfl rfl rfl (by kernel_rfl) Try.func3 (by kernel_rfl)
    (of_decide_eq_true (by kernel_rfl)) (by unfold Func.isWrapper; first | (rw [if_pos (by decide +kernel)]; kernel_rfl) | (rw [if_neg (by decide +kernel)]; exact ⟨rfl, rfl⟩))
    (fun os started H enc _ => lifted os started H enc)

theorem proved : Rows.FnBytesSaid := over
end Go.Proofs.Ytoipbocbgadjbaa.fnBytes
