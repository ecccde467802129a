/-
  laws.FnApplyTwice returns true for every input, and leaves its arguments as they were.
  Conditions: none of ours; the package-level variables that its row lists hold what the program's text lays (the given tie).
-/
import Derived.Test.YtnmpbocnbcokeaaDoorRows
import Derived.Test.YtnmpbocnbcokeaaDoorCards
import Derived.Test.YtnmpbocnbcokeaaDoorTie
import Derived.WalkKit
import Derived.ProofKit
import Derived.OpenShut
import Derived.ShutString
import Derived.ChangeOld
import Derived.Below
import Derived.Deep.DeepHandedRow
import Derived.Deep.DeepWitnessRowRef
import Derived.Lib.LaidTab
import Derived.LaidMore
import Derived.OpenVars
import Derived.Lay
import Derived.Test.YtnmpbocnbcokeaaDoorK4
namespace Go.Proofs.YtnmpbocnbcokeaaDoor.fnApplyTwice
open Go.ChangeShapes Go.WideShapes Go.ChangeAt Go.RowKit
open Go.ChangeMaps (open_string shut_string)
set_option linter.unusedVariables false

theorem own : ownKnob Tryd.prog.godebug = none := by kernel_rfl
theorem laidOut : laidOutB Tryd.prog = true := by kernel_rfl

/-- What CommandApply tells, its two parts named. -/
def APost (out : List Nd) (b : Bool) (W : World) (e : Ending) (w' : World) : Prop :=
  ∃ sl, e = .returned (.tuple #[sl, .bool b]) ∧ w'.ownsRow W.heap.size 65 3 sl out.length (flatN out) ∧ Below W.heap.size W w'

theorem apply_named {ns out : List Nd} {c : Cmd} {b : Bool} {W : World} {f : Nat} {args : Array Value} (hr : applyC ns c = (out, b)) (h : Calls Tryd.prog f args W (ApplyPost (applyC ns c) W.heap.size W)) : Calls Tryd.prog f args W (APost out b W) := by
  rw [hr] at h
  exact h

theorem applyC_le {ns : List Nd} {c : Cmd} {m : Nat} (h : ns.length ≤ m) (hm : 10 ≤ m) : (applyC ns c).1.length ≤ m := by
  cases hb : applyC ns c with
  | mk out b =>
    cases b with
    | true => exact Nat.le_trans ((validT_iff out).1 (applyC_valid hb)).2.2 hm
    | false =>
      unfold applyC at hb
      split at hb
      · rename_i hc
        rw [Bool.and_eq_true] at hc
        have := (apply_break (by rw [applyC_ok hc.1 hc.2]; exact hb) hc.1 hc.2).1
        rw [this]; exact h
      · simp at hb
        rw [hb]; simp

theorem apply_short {ns out : List Nd} {c : Cmd} {b : Bool} (h : applyC ns c = (out, b)) (hs : Short 66 ns) (hp : c.p.size ≤ 66) : Short 66 out := by
  cases b with
  | true =>
    obtain ⟨_, _, _, h4⟩ := applyC_some h
    obtain ⟨_, _, _, h5, _⟩ := treePut_some h4
    rw [h5]
    exact short_put hs hp
  | false =>
    unfold applyC at h
    split at h
    · rename_i hc
      rw [Bool.and_eq_true] at hc
      have := (apply_break (by rw [applyC_ok hc.1 hc.2]; exact h) hc.1 hc.2).1
      rw [this]; exact hs
    · simp at h
      rw [h]
      intro n hn
      cases hn

set_option maxHeartbeats 4000000 in
set_option maxRecDepth 100000 in
theorem walk (a0 : Option Addr) (len0 cap0 : Nat) (z0 : List Int) (w : World) (w0 : IsRow .u8 w a0 len0 cap0 z0) (hE : CmdVars w) :
    Calls Tryd.prog 5 #[.slice a0 len0 cap0] w fun e w' => e = .returned (.bool true) ∧ Below w.heap.size w w' := by
  have HE := Lib.hid hE
  clear hE
  by_cases h : len0 ≤ 1048576
  · have hl : (len0 : Int) ≤ 1048576 := by omega
    have HD := Lib.hid (drawCmdApply_c a0 len0 cap0 z0 w w0)
    clear h w0
    go_enter Tryd.func5, Tryd.ntmps5
    go_wp2_with fail
    refine HD.out.mono ?_
    rintro e W1 ⟨sl, ns, c, rfl, hp, hd⟩
    obtain ⟨a, cap, rfl, hn⟩ := nodes_of_own hd.1
    have HN := Lib.hid hn
    have hlen := hd.2.1
    have HL := Lib.hid hlen
    have hsh := hd.2.2.1.mono (show 64 ≤ 66 by omega)
    have HSH := Lib.hid hsh
    have HBL := Lib.hid hd.2.2.2
    have HE1 := Lib.hid (HE.out.keep hd.2.2.2)
    obtain ⟨⟨out, b⟩, hr⟩ : ∃ r, applyC ns c = r := ⟨_, rfl⟩
    have HR := Lib.hid hr
    have HOL := Lib.hid (show out.length ≤ 11 by have := applyC_le (c := c) hlen (by omega); rw [hr] at this; exact this)
    have HOS := Lib.hid (apply_short hr hsh hp)
    have HP := Lib.hid hp
    have HI := Lib.hid (fun W' (hb : Below W1.heap.size W1 W') => apply_named hr (implCmdApply_c a ns.length cap ns c (by omega) (hsh.mono (by omega)) (by omega) W' (hn.keep hb) (HE1.out.keep hb)))
    have HS := Lib.hid (fun W' (hb : Below W1.heap.size W1 W') => apply_named hr (specCmdApply_c a ns.length cap ns c (by omega) (hsh.mono (by omega)) (by omega) W' (hn.keep hb)))
    have HI2 := Lib.hid (fun (h : b = true) x (cp : Nat) W' (hN : NodesAt W' x out.length out) (hE : CmdVars W') => apply_named (apply_once (out := out) (by rw [hr, h])) (implCmdApply_c x out.length cp out c (by have := HOL.out; omega) (HOS.out.mono (by omega)) (by omega) W' hN hE))
    clear hn hd hr hp hsh
    obtain ⟨p, fk, fv, tk, tv⟩ := c
    unfold cmdV at HI HS HI2 ⊢
    simp only at HI HS HI2 HR HP ⊢
    go_wp2_with fail
    refine (HI.out _ (below_box _ _)).mono ?_
    rintro e W2 ⟨o1, rfl, ho1, hb2⟩
    have C2 := Lib.hid ((five_new W1 (.string p) (.int .i64 fk) (.int .i64 fv) (.int .i64 tk) (.int .i64 tv) 27).below hb2)
    have HB2 := Lib.hid (below_next (below_box W1 _) hb2)
    clear hb2
    obtain ⟨c0, c1, c2, c3, c4, -⟩ := C2.out
    go_wp2_with fail
    refine (HS.out _ HB2.out).mono ?_
    rintro e W3 ⟨o2, rfl, ho2, hb3⟩
    have C3 := Lib.hid (C2.out.below hb3)
    have HB3 := Lib.hid (below_next HB2.out hb3)
    have ho1' := own_below ho1 hb3
    obtain ⟨x1, p1, rfl, hn1⟩ := nodes_of_own ho1'
    obtain ⟨x2, p2, rfl, hn2⟩ := nodes_of_own ho2
    have HSM := Lib.hid (fun W' (hb : Below W3.heap.size W3 W') => sameNodes_c x1 x2 out.length p1 p2 out (by have := HOL.out; omega) W' (hn1.keep hb) (hn2.keep hb))
    have HN1 := Lib.hid hn1
    clear ho1 ho2 hb3 ho1' hn1 hn2 c0 c1 c2 c3 c4 C2
    cases b with
    | false =>
      go_wp2_with fail
      refine (HSM.out _ (Below.refl _ _)).mono ?_
      rintro e W4 ⟨rfl, hb4⟩
      have H4 := Lib.hid hb4
      clear hb4
      go_wp2_with fail
      refine (HSM.out _ H4.out).mono ?_
      rintro e W5 ⟨rfl, hb5⟩
      go_wp2
      go_ret
      exact ⟨rfl, below_next HBL.out (below_next HB3.out (below_next H4.out hb5))⟩
    | true =>
      go_wp2_with fail
      refine (HSM.out _ (Below.refl _ _)).mono ?_
      rintro e W4 ⟨rfl, hb4⟩
      have H4 := Lib.hid (below_next HB3.out hb4)
      have C4 := Lib.hid (C3.out.below hb4)
      have HN4 := Lib.hid (HN1.out.keep hb4)
      clear hb4
      obtain ⟨c0, c1, c2, c3, c4, -⟩ := C4.out
      go_wp2_with fail
      refine (HI2.out trivial x1 p1 _ HN4.out (HE1.out.keep H4.out)).mono ?_
      rintro e W5 ⟨o5, rfl, ho5, hb5⟩
      obtain ⟨x5, p5, rfl, hn5⟩ := nodes_of_own ho5
      have H5 := Lib.hid (below_next H4.out hb5)
      have HSM2 := Lib.hid (sameNodes_c x5 x1 out.length p5 p1 out (by have := HOL.out; omega) W5 hn5 (HN4.out.keep hb5))
      clear ho5 hn5 hb5 c0 c1 c2 c3 c4
      go_wp2_with fail
      refine HSM2.out.mono ?_
      rintro e W6 ⟨rfl, hb6⟩
      go_wp2
      go_ret
      exact ⟨rfl, below_next HBL.out (below_next H5.out hb6)⟩
  · have hl : (1048576 : Int) < len0 := by omega
    clear h w0
    go_enter Tryd.func5, Tryd.ntmps5
    go_wp2
    go_ret
    exact ⟨rfl, Below.refl _ _⟩


set_option maxRecDepth 100000 in
/-- What the walk gives, for every argument and every world that holds the listed variables. -/
theorem contract (H : Type) (enc : TypeId × Value → H) (W : World) (base : Nat) (args : Array Value) (ds gs : List (DataW H)) (before : List MemPlace)
    (hval0 : ∀ (j : Nat) t v, Tryd.f5.params[j]? = some t → args[j]? = some v → Value.okWide Tryd.prog W .any base t v)
    (hW : DataW.Whole enc Tryd.prog Tryd.f5.params.toList Rows.fnApplyTwiceSpec.vars false W args.toList ds gs before) (hL : laidMetH Tryd.prog Rows.fnApplyTwiceRow.laid W) (hsh : W.ShapedOpen Tryd.prog) :
    Calls Tryd.prog 5 args W fun e W' => ∃ v, e = .returned v ∧ Rows.fnApplyTwiceSpec.post enc Tryd.prog Tryd.f5 false true false false W args v W' := by
  have hval : ∀ (j : Nat) t v, Tryd.f5.params[j]? = some t → args[j]? = some v → Value.okWide Tryd.prog W .any base t v := hval0
  have hW' := hW
  obtain ⟨p, q, hA0, hV, rfl, hfz, hnd⟩ := hW
  have hA : DataW.TrodAll enc Tryd.prog W 0 (fun _ => true) true Tryd.f5.params.toList args.toList ds p := hA0
  rw [Tryd.params5] at hA hval
  obtain ⟨v0, vs0, d0, ds0, p0, q0, hargs, rfl, rfl, h0, r0⟩ := trodAll_cons hA
  obtain ⟨rfl, rfl, rfl⟩ := trodAll_nil r0
  obtain rfl : args = #[v0] := by cases args; simp_all
  obtain ⟨_, _, _, _, e0, _, _, _, _, _, e1, _, rfl, -⟩ := trodVars_two hV
  obtain ⟨a0, len0, cap0, rfl⟩ := okWide_slice Tryd.underlying22 (hval 0 22 v0 rfl rfl)
  have k0 := h0
  have lt0 : ∀ x ∈ p0, x.block < W.heap.size := by obtain ⟨m, hm⟩ := k0; exact DataW.trod_lt m _ _ _ hm
  obtain ⟨z0, w0⟩ : ∃ zs, IsRow .u8 W a0 len0 cap0 zs := by
    obtain ⟨fuel, hf⟩ := h0
    rcases open_ints Tryd.underlying22 Tryd.underlying5 (by kernel_rfl) hf with ⟨hcs, _⟩ | ⟨x, l, c, zs, hcs, _, hl, hm, hz, _, hcell, hwz⟩
    · simp [Value.cells] at hcs
      obtain ⟨rfl, rfl, rfl⟩ := hcs
      exact ⟨[], .inl ⟨rfl, rfl, rfl, rfl⟩⟩
    · simp [Value.cells] at hcs
      obtain ⟨rfl, rfl, rfl⟩ := hcs
      exact ⟨zs, .inr ⟨_, rfl, hl, hm, by simpa using hz, hcell, hwz⟩⟩
  clear hA0 hval0
  refine (walk a0 len0 cap0 z0 W w0 (cmdVars_of hL (by kernel_rfl) (by kernel_rfl) (by kernel_rfl))).mono fun e W' ⟨he, bel⟩ => ?_
  subst he
  exact ⟨_, rfl, _, _, _, [], _, _, hW', trodAll_mk1 (shut_bool Tryd.underlying4 _), (trodAll_cons_mk (Below.trod laidOut (by kernel_rfl) (of_decide_eq_true (by kernel_rfl)) k0 bel lt0) trodAll_mk0), Below.trodVars laidOut bel (by kernel_rfl) hV, bel.frame _, fun h => by cases h⟩

theorem laid_met (os : Os) : laidMet Tryd.prog Rows.fnApplyTwiceRow.laid ((World.laidAll Tryd.prog os Rows.fnApplyTwiceRow.laid).forCall (fun _ _ => 0) ⟨#[], #[.slice none 0 0], []⟩).memory :=
  laidMet_laidAll _ (by kernel_rfl) (by kernel_rfl)
theorem reads (os : Os) {H : Type} (enc : TypeId × Value → H) : ∃ x, DataW.whole enc Tryd.prog ((World.laidAll Tryd.prog os Rows.fnApplyTwiceRow.laid).forCall (fun _ _ => 0) ⟨#[], #[.slice none 0 0], []⟩).memory Tryd.f5.params.toList Rows.fnApplyTwiceSpec.vars false #[Value.slice none 0 0].toList 8 = some x :=
  Option.isSome_iff_exists.1 (by kernel_rfl)

set_option maxRecDepth 100000 in
theorem lifted (os : Os) (started : os.Started) (H : Type) (enc : TypeId × Value → H) (F : Stop.Interp) :
    ReturnsInHanded {} Tryd.checked os 5 .any ((OpenSpec.ofChange Rows.fnApplyTwiceSpec).preRow enc Tryd.prog Tryd.f5 Rows.fnApplyTwiceRow.domain false Rows.fnApplyTwiceRow.laid) (((OpenSpec.ofChange Rows.fnApplyTwiceSpec).at F).post enc Tryd.prog Tryd.f5 false true false false) := by
  obtain ⟨x, hx⟩ := reads os enc
  refine returnsInHanded_of_row (C := Tryd.checked) (s := OpenSpec.ofChange Rows.fnApplyTwiceSpec) own started (by kernel_rfl) Tryd.func5
    (witness_row_atRef (enc := enc) (C := Tryd.checked) false (World.laidAll Tryd.prog os Rows.fnApplyTwiceRow.laid) #[.slice none 0 0] rfl (by kernel_rfl) (by kernel_rfl) (by kernel_rfl)
      (OpenSpec.preRow_of_cond 8 hx (by kernel_rfl) (fun k hk => by cases hk) (by kernel_rfl) (laid_met os))) ?_
  intro W base args ds gs before hval hW _ _ _ hL hsh _
  exact contract H enc W base args ds gs before hval hW hL hsh

theorem said : Rows.FnApplyTwiceSaid :=
  OpenClaim.holds_of_cond 5 Tryd.f5 rfl rfl rfl rfl rfl rfl rfl ⟨rfl, rfl, rfl, rfl, rfl⟩ rfl rfl rfl rfl rfl (by kernel_rfl) Tryd.func5 (by kernel_rfl)
    (of_decide_eq_true (by kernel_rfl)) (by unfold Func.isWrapper; first | (rw [if_pos (by decide +kernel)]; kernel_rfl) | (rw [if_neg (by decide +kernel)]; exact ⟨rfl, rfl⟩))
    (fun os started H enc _ F => by rw [OpenClaim.pre_eq_preRow]; exact lifted os started H enc F)

/-- No parameter wants a stand-in; the program's own looks: what the card asks. -/
theorem plain (f : FuncId) (fn : Func) (hf : Tryd.pinned.checked.prog.funcNamed Rows.fnApplyTwiceRow.func = some f) (hfn : Tryd.pinned.checked.prog.funcs[f]? = some fn) :
    true = Tryd.pinned.checked.prog.looks [] ∧ ∀ (j : Nat) t, fn.params[j]? = some t → Tryd.pinned.checked.prog.wantsStandIn t = false := by
  obtain rfl : f = 5 := Option.some.inj ((show Tryd.prog.funcNamed Rows.fnApplyTwiceRow.func = some 5 by kernel_rfl).symm.trans hf) |>.symm
  obtain rfl : fn = Tryd.f5 := (Option.some.inj (Tryd.func5.symm.trans hfn)).symm
  refine ⟨by kernel_rfl, fun j t ht => ?_⟩
  rw [Tryd.params5] at ht
  have hm := Array.mem_of_getElem? ht
  simp at hm
  rcases hm with rfl
  · exact (show Tryd.prog.wantsStandIn 22 = false by kernel_rfl)

/-- THE CARD. -/
theorem card : Rows.FnApplyTwiceCardSaid :=
  Claim7.holds_tied_plain_at .later [] _ _ _ _ said (fun _ h => by cases h) (by kernel_rfl) (fun _ h => by cases h) fnApplyTwice_row_tie rfl ⟨rfl, rfl⟩ (by kernel_rfl) rfl plain (by kernel_rfl)
end Go.Proofs.YtnmpbocnbcokeaaDoor.fnApplyTwice
