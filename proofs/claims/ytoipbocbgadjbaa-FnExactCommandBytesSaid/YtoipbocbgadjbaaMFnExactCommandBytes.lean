/-
  laws.FnExactCommandBytes returns true for every input, and leaves its arguments as they were.
  Conditions: none.
-/
import Derived.Test.YtoipbocbgadjbaaRows
import Derived.WalkKit
import Derived.ProofKit
import Derived.OpenShut
import Derived.ShutString
import Derived.ChangeOld
import Derived.Below
import Derived.Test.YtoipbocbgadjbaaQ7
import Derived.Test.YtoipbocbgadjbaaQ4
import Derived.Test.YtoipbocbgadjbaaQ10
namespace Go.Proofs.Ytoipbocbgadjbaa.fnExactCommandBytes
open Go.ChangeShapes Go.WideShapes Go.ChangeAt Go.RowKit
open Go.ChangeMaps (open_string shut_string)
set_option linter.unusedVariables false

theorem own : ownKnob Try.prog.godebug = none := by kernel_rfl
theorem laidOut : laidOutB Try.prog = true := by kernel_rfl

theorem five_apart {W W' : World} {n : Nat} {a b c d e : Value} (h : Five W n a b c d e) {row : Option Nat} (hg : W.grownBy W' row) (hr : row = some n → False) : Five W' n a b c d e := by
  cases row with
  | some B => exact h.keep hg (fun e => hr (by rw [e]))
  | none => exact h.below ⟨hg.os, hg.tape, hg.output, hg.size, fun k hk => hg.block k hk (by simp)⟩

/-- An owned list of numbers, as it lies. -/
theorem ints_own {W : World} {base len c : Nat} {e : TypeId} {a : Option Addr} {zs : List Int} (hz : zs.length = len) (h : W.ownsRow base e 1 (.slice a len c) len (intsV zs)) : IntsAt W a len zs := by
  subst hz
  obtain ⟨a', c', he, hi⟩ := ints_of_own h
  cases he
  exact hi

set_option maxHeartbeats 4000000 in
set_option maxRecDepth 100000 in
theorem walk (c : Cmd) (hm : c.p.size ≤ maxLen) (w : World) :
    Calls Try.prog 6 #[cmdV c] w fun e w' => e = .returned (.bool true) ∧ Below w.heap.size w w' := by
  have HZ := Lib.hid (fun w => szCommand_c c 1048576 (by omega) (by omega) hm w)
  have HT := Lib.hid (fun w => toCommand_c c w)
  have HS0 := Lib.hid (fun (h : c.p.size ≤ 1048576) w => specCmdBytes_c c (by omega) w)
  have HI0 := Lib.hid (fun (h : c.p.size ≤ 1048576) w => implCmdBytes_c c (by omega) w)
  obtain ⟨fr, hfr⟩ : ∃ fr, cmdBytes c = fr := ⟨_, rfl⟩
  obtain ⟨fl, hfl⟩ : ∃ fl, fr.length = fl := ⟨_, rfl⟩
  have HFE := Lib.hid hfl
  have hf12 : fl ≤ 12 := by rw [← hfl, ← hfr]; exact cmdBytes_le c
  have HFB := Lib.hid hf12
  have hf12' : (fl : Int) ≤ 12 := by omega
  have HEF := Lib.hid (fun a1 a2 c1 c2 W' (h1 : IntsAt W' a1 fl fr) (h2 : IntsAt W' a2 fl fr) => eqIntS_c a1 a2 fl c1 c2 fr (by omega) W' h1 h2)
  rw [hfr] at HS0 HI0
  clear hm hfr hfl
  obtain ⟨p, fk, fv, tk, tv⟩ := c
  have HF := Lib.hid (five_new w (.string p) (.int .i64 fk) (.int .i64 fv) (.int .i64 tk) (.int .i64 tv) 43)
  unfold CmdPost cmdV at HT
  unfold cmdV at HZ HS0 HI0 ⊢
  simp only at HZ HT HS0 HI0 ⊢
  go_enter Try.func6, Try.ntmps6
  go_wp2_with fail
  refine (HZ.out _).mono ?_; rintro e W1 ⟨z, rfl, z0, z1, hz, hb1⟩
  have F1 := Lib.hid (HF.out.below hb1)
  have B1 := Lib.hid (below_next (below_box w _) hb1)
  have HZ1 := Lib.hid hz
  have F1lt := Lib.hid (show w.heap.size + 1 ≤ W1.heap.size by obtain ⟨-, -, -, -, -, -, -, -, -, -, h⟩ := F1.out; exact h)
  clear hb1 hz HF
  by_cases hneg : z < 0
  · clear z0 z1
    go_wp2
    go_ret
    exact ⟨rfl, B1.out⟩
  · have HS := Lib.hid (HS0.out (HZ1.out (by omega)))
    have HI := Lib.hid (HI0.out (HZ1.out (by omega)))
    have hpos : 0 ≤ z := by omega
    clear z0 z1 hneg HS0 HI0
    obtain ⟨c0, c1, c2, c3, c4, -⟩ := F1.out
    go_wp2_with fail
    refine (HT.out _).mono ?_; rintro e W2 ⟨rfl, hb2⟩
    have F2 := Lib.hid (F1.out.below hb2)
    have S12 := Lib.hid hb2.size
    have B2 := Lib.hid (below_next B1.out hb2)
    clear hb2 c0 c1 c2 c3 c4 F1
    go_wp2_with fail
    refine (HS.out _).mono ?_; rintro e W3 ⟨⟨s3, rfl, ho3⟩, hb3⟩
    obtain ⟨x3, p3, rfl, -⟩ := ints_of_own ho3
    rw [HFE.out] at ho3 ⊢
    have K3 := Lib.hid (fun k (e : (Value.slice x3 fl p3).ownBlock = some k) => (ho3.lt k e).2)
    have O3 := Lib.hid ho3
    have F3 := Lib.hid (F2.out.below hb3)
    have S23 := Lib.hid hb3.size
    have B3 := Lib.hid (below_next B2.out hb3)
    clear hb3 ho3 F2
    obtain ⟨c0, c1, c2, c3, c4, -⟩ := F3.out
    go_wp2_with fail
    refine (HT.out _).mono ?_; rintro e W4 ⟨rfl, hb4⟩
    have F4 := Lib.hid (F3.out.below hb4)
    have B4 := Lib.hid (below_next B3.out hb4)
    have O34 := Lib.hid (own_below1 O3.out hb4)
    have hb1le := Lib.hid (show W1.heap.size ≤ W4.heap.size from Nat.le_trans S12.out (Nat.le_trans S23.out hb4.size))
    have Z34 := Lib.hid hb4.size
    clear hb4 c0 c1 c2 c3 c4 F3
    go_wp2_with fail
    refine (HI.out _).mono ?_; rintro e W5 ⟨⟨s5, rfl, ho5⟩, hb5⟩
    obtain ⟨x5, p5, rfl, hi5⟩ := ints_of_own ho5
    rw [HFE.out] at ho5 hi5 ⊢
    have K5 := Lib.hid (fun k (e : (Value.slice x5 fl p5).ownBlock = some k) => ho5.lt k e)
    have O5 := Lib.hid ho5
    have O35 := Lib.hid (own_below1 O34.out hb5)
    have F5 := Lib.hid (F4.out.below hb5)
    have B5 := Lib.hid (below_next B4.out hb5)
    have HE5 := Lib.hid (HEF.out x5 x3 p5 p3 W5 hi5 (ints_own HFE.out O35.out))
    clear hb5 ho5 hi5 F4
    go_wp2_with fail
    refine HE5.out.mono ?_; rintro e W6 ⟨rfl, hb6⟩
    have O36 := Lib.hid (own_below1 O35.out hb6)
    have O56 := Lib.hid (own_below1 O5.out hb6)
    have F6 := Lib.hid (F5.out.below hb6)
    have B6 := Lib.hid (below_next B5.out hb6)
    have HMG := Lib.hid (markIntS_c (.slice x5 fl p5) W4.heap.size fl 1 _ (by have := HFB.out; omega) (by omega) W6 O56.out)
    have L4 := Lib.hid (show w.heap.size + 1 ≤ W4.heap.size by have h1 := F1lt.out; have h2 := hb1le.out; omega)
    clear hb6 F5
    go_wp2_with fail
    refine HMG.out.mono ?_; rintro e W7 ⟨rfl, hg7, ho7⟩
    have O37 := Lib.hid (own_farT O36.out hg7 (fun k e1 e2 => by have := K3.out k e1; have := (K5.out k e2).1; have := Z34.out; omega))
    have B7 := Lib.hid (B6.out.grown hg7 B6.out.size (fun k e => by have := (K5.out k e).1; have := B4.out.size; omega))
    have F7 := Lib.hid (five_apart F6.out hg7 (fun e => by have h5 := (K5.out _ e).1; have := L4.out; omega))
    have O7 := Lib.hid ho7
    have HHE := Lib.hid (fun W' (hb : Below W7.heap.size W7 W') => heldIntS_c x5 fl p5 1 (by have := HFB.out; omega) (by omega) W' (ints_own (markI_len 1 fl) (own_below1 O7.out hb)))
    clear hg7 ho7 F6
    obtain ⟨q, hq⟩ : ∃ q, q = ((1 + fl : Nat) : Int) := ⟨_, rfl⟩
    rw [← hq] at HHE ⊢
    have hq0 : 0 ≤ q := by omega
    have hqd : decide (q < 0) = false := decide_eq_false (by omega)
    have hqq : (q != q) = false := by simp
    clear hq
    go_wp2_with fail
    refine (HHE.out _ (Below.refl _ _)).mono ?_
    rintro e W8 ⟨rfl, rfl⟩
    obtain ⟨c0, c1, c2, c3, c4, -⟩ := F7.out
    go_wp2_with fail
    refine (HT.out _).mono ?_; rintro e W9 ⟨rfl, hb9⟩
    have H9 := Lib.hid hb9
    have B9 := Lib.hid (below_next B7.out hb9)
    clear hb9 c0 c1 c2 c3 c4
    go_wp2_with fail
    refine (HI.out _).mono ?_; rintro e W10 ⟨⟨s10, rfl, ho10⟩, hb10⟩
    obtain ⟨x10, p10, rfl, hi10⟩ := ints_of_own ho10
    rw [HFE.out] at hi10 ⊢
    have H10 := Lib.hid (below_next H9.out hb10)
    have B10 := Lib.hid (below_next B9.out hb10)
    have HE10 := Lib.hid (HEF.out x10 x3 p10 p3 W10 hi10 (ints_own HFE.out (own_below1 O37.out H10.out)))
    clear hb10 ho10 hi10
    go_wp2_with fail
    refine HE10.out.mono ?_; rintro e W11 ⟨rfl, hb11⟩
    have H11 := Lib.hid (below_next H10.out hb11)
    have B11 := Lib.hid (below_next B10.out hb11)
    clear hb11
    go_wp2_with fail
    refine (HHE.out _ H11.out).mono ?_
    rintro e W12 ⟨rfl, rfl⟩
    go_wp2
    go_ret
    exact ⟨rfl, B11.out⟩


set_option maxRecDepth 100000 in
theorem lifted (os : Os) (started : os.Started) (H : Type) (enc : TypeId × Value → H) :
    ReturnsInHanded {} Try.checked os 6 .any (Rows.fnExactCommandBytesSpec.pre6 enc Try.prog Try.f6 Rows.fnExactCommandBytesRow.domain false) (Rows.fnExactCommandBytesSpec.post enc Try.prog Try.f6 false true false false) := by
  refine returnsInHanded_of_change (C := Try.checked) own started (by kernel_rfl) Try.func6
    (ChangeSpec.witness6 (enc := enc) (C := Try.checked) false ⟨#[], #[.agg #[.string ⟨#[]⟩, .int .i64 0, .int .i64 0, .int .i64 0, .int .i64 0]], []⟩ 8 (by kernel_rfl) (by kernel_rfl) (by kernel_rfl) (by kernel_rfl)) ?_
  intro W base args ds gs before hval0 hW hcnd _
  have hval : ∀ (j : Nat) t v, Try.f6.params[j]? = some t → args[j]? = some v → Value.okWide Try.prog W .any base t v := hval0
  have hW' := hW
  obtain ⟨p, q, hA0, hV, rfl, hfz, hnd⟩ := hW
  have hA : DataW.TrodAll enc Try.prog W 0 (fun _ => true) true Try.f6.params.toList args.toList ds p := hA0
  rw [Try.params6] at hA hval
  obtain ⟨v0, vs0, d0, ds0, p0, q0, hargs, rfl, rfl, h0, r0⟩ := trodAll_cons hA
  obtain ⟨rfl, rfl, rfl⟩ := trodAll_nil r0
  obtain rfl : args = #[v0] := by cases args; simp_all
  obtain ⟨rfl, rfl⟩ := trodVars_none hV
  have k0 := h0
  have lt0 : ∀ x ∈ p0, x.block < W.heap.size := by obtain ⟨m, hm⟩ := k0; exact DataW.trod_lt m _ _ _ hm
  obtain ⟨a0, rfl, m0⟩ := open_command (hval 0 43 v0 rfl rfl) h0
  clear hA0 hval0
  refine (walk a0 m0 W).mono fun e W' ⟨he, bel⟩ => ?_
  subst he
  exact ⟨_, rfl, _, _, _, [], _, [], hW', trodAll_mk1 (shut_bool Try.underlying4 _), (trodAll_cons_mk (Below.trod laidOut (by kernel_rfl) (of_decide_eq_true (by kernel_rfl)) k0 bel lt0) trodAll_mk0), rfl, bel.frame _, fun h => by cases h⟩

theorem over : Rows.fnExactCommandBytesRow.holds Try.pinned (OpenSpec.ofChange Rows.fnExactCommandBytesSpec) :=
  OpenClaim.holds_of_wide 6 Try.f6 rfl rfl rfl rfl rfl rfl rfl ⟨rfl, rfl, rfl, rfl, rfl⟩ rfl rfl rfl rfl rfl (by kernel_rfl) Try.func6 (by kernel_rfl)
    (of_decide_eq_true (by kernel_rfl)) (by unfold Func.isWrapper; first | (rw [if_pos (by decide +kernel)]; kernel_rfl) | (rw [if_neg (by decide +kernel)]; exact ⟨rfl, rfl⟩))
    (fun os started H enc _ => lifted os started H enc)

theorem proved : Rows.FnExactCommandBytesSaid := over
end Go.Proofs.Ytoipbocbgadjbaa.fnExactCommandBytes
