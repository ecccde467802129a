/-
  laws.FnCommandParse returns true for every input, and leaves its arguments as they were.
  Conditions: none of ours; the package-level variables that its row lists hold what the program's text lays (the given tie).
-/
import Derived.Test.YtnmpbocnbcokeaaDoorRows
import Derived.Test.YtnmpbocnbcokeaaDoorCards
import Derived.Test.YtnmpbocnbcokeaaDoorTie
import Derived.WalkKit
import Derived.ProofKit
import Derived.OpenShut
import Derived.ShutString
import Derived.ChangeOld
import Derived.Below
import Derived.Deep.DeepHandedRow
import Derived.Deep.DeepWitnessRowRef
import Derived.Lib.LaidTab
import Derived.LaidMore
import Derived.OpenVars
import Derived.Lay
import Derived.Test.YtnmpbocnbcokeaaDoorK4
namespace Go.Proofs.YtnmpbocnbcokeaaDoor.fnCommandParse
open Go.ChangeShapes Go.WideShapes Go.ChangeAt Go.RowKit
open Go.ChangeMaps (open_string shut_string)
set_option linter.unusedVariables false

theorem own : ownKnob Tryd.prog.godebug = none := by kernel_rfl
theorem laidOut : laidOutB Tryd.prog = true := by kernel_rfl

set_option maxHeartbeats 4000000 in
set_option maxRecDepth 100000 in
theorem walk (a0 : Option Addr) (len0 cap0 : Nat) (z0 : List Int) (w : World) (w0 : IsRow .u8 w a0 len0 cap0 z0) (hE : ParseVars w) :
    Calls Tryd.prog 7 #[.slice a0 len0 cap0] w fun e w' => e = .returned (.bool true) ∧ Below w.heap.size w w' := by
  have HE := Lib.hid hE
  clear hE
  by_cases h : len0 ≤ 1048576
  · have hl : (len0 : Int) ≤ 1048576 := by omega
    have HD := Lib.hid (drawCmdParse_c a0 len0 cap0 z0 w w0)
    clear h w0
    go_enter Tryd.func7, Tryd.ntmps7
    go_wp2_with fail
    refine HD.out.mono ?_
    rintro e W1 ⟨s, rfl, hs, hb1⟩
    obtain ⟨⟨c, b⟩, hc⟩ : ∃ r, parseC s = r := ⟨_, rfl⟩
    have HI0 := Lib.hid (fun w hE => implCmdParse_c s (by omega) w hE)
    have HS0 := Lib.hid (fun w => specCmdParse_c s (by omega) w)
    rw [hc] at HI0 HS0
    have HK := Lib.hid (fun (h : b = true) => read_text (s := s) (c := c) (by rw [hc, h]))
    have B1 := Lib.hid hb1
    clear hs hc hb1
    obtain ⟨p, fk, fv, tk, tv⟩ := c
    have heq := fun w => cmdEqS p fk fv tk tv w
    have hne := fun w => cmdNeS p fk fv tk tv w
    unfold CmdPairPost cmdV at HI0 HS0
    try simp only at HI0
    try simp only at HS0
    go_wp2_with fail
    refine (HI0.out _ (HE.out.keep B1.out)).mono ?_; rintro e W2 ⟨rfl, hb2⟩
    have B2 := Lib.hid (below_next B1.out hb2)
    clear hb2
    go_wp2_with fail
    refine (HS0.out _).mono ?_; rintro e W3 ⟨rfl, hb3⟩
    have C3 := Lib.hid ((five_new W2 (.string p) (.int .i64 fk) (.int .i64 fv) (.int .i64 tk) (.int .i64 tv) 27).below hb3)
    have B3 := Lib.hid (below_next B2.out (below_next (below_box W2 _) hb3))
    clear hb3
    obtain ⟨oc0, oc1, oc2, oc3, oc4, -⟩ := C3.out
    have c0 := fun o => cell_kept (below_box W3 o) oc0
    have c1 := fun o => cell_kept (below_box W3 o) oc1
    have c2 := fun o => cell_kept (below_box W3 o) oc2
    have c3 := fun o => cell_kept (below_box W3 o) oc3
    have c4 := fun o => cell_kept (below_box W3 o) oc4
    clear oc0 oc1 oc2 oc3 oc4
    cases b with
    | false =>
      go_wp2
      go_ret
      exact ⟨rfl, below_next B3.out (below_box _ _)⟩
    | true =>
      obtain ⟨k1, k2⟩ := HK.out rfl
      have hz := pathB_size ((validC_iff _).1 k2).1
      have HT := Lib.hid (fun w => implCmdText_c ⟨p, fk, fv, tk, tv⟩ (by omega) w)
      have HV := Lib.hid (fun w => implCmdValid_c ⟨p, fk, fv, tk, tv⟩ (by omega) w)
      rw [k1] at HT
      rw [k2] at HV
      unfold cmdV at HT HV
      try simp only at HT
      try simp only at HV
      clear k1 k2 hz hne heq
      go_wp2_with fail
      refine (HT.out _).mono ?_; rintro e W5 ⟨rfl, hb5⟩
      have C5 := Lib.hid ((C3.out.alloc _).below hb5)
      have B5 := Lib.hid (below_next B3.out (below_next (below_box W3 _) hb5))
      clear hb5 c0 c1 c2 c3 c4
      obtain ⟨c0, c1, c2, c3, c4, -⟩ := C5.out
      go_wp2_with fail
      refine (HV.out _).mono ?_; rintro e W6 ⟨rfl, hb6⟩
      have B6 := Lib.hid (below_next B5.out hb6)
      clear hb6
      go_wp2
      go_ret
      exact ⟨rfl, B6.out⟩
  · have hl : (1048576 : Int) < len0 := by omega
    clear h w0
    go_enter Tryd.func7, Tryd.ntmps7
    go_wp2
    go_ret
    exact ⟨rfl, Below.refl _ _⟩


set_option maxRecDepth 100000 in
/-- What the walk gives, for every argument and every world that holds the listed variables. -/
theorem contract (H : Type) (enc : TypeId × Value → H) (W : World) (base : Nat) (args : Array Value) (ds gs : List (DataW H)) (before : List MemPlace)
    (hval0 : ∀ (j : Nat) t v, Tryd.f7.params[j]? = some t → args[j]? = some v → Value.okWide Tryd.prog W .any base t v)
    (hW : DataW.Whole enc Tryd.prog Tryd.f7.params.toList Rows.fnCommandParseSpec.vars false W args.toList ds gs before) (hL : laidMetH Tryd.prog Rows.fnCommandParseRow.laid W) (hsh : W.ShapedOpen Tryd.prog) :
    Calls Tryd.prog 7 args W fun e W' => ∃ v, e = .returned v ∧ Rows.fnCommandParseSpec.post enc Tryd.prog Tryd.f7 false true false false W args v W' := by
  have hval : ∀ (j : Nat) t v, Tryd.f7.params[j]? = some t → args[j]? = some v → Value.okWide Tryd.prog W .any base t v := hval0
  have hW' := hW
  obtain ⟨p, q, hA0, hV, rfl, hfz, hnd⟩ := hW
  have hA : DataW.TrodAll enc Tryd.prog W 0 (fun _ => true) true Tryd.f7.params.toList args.toList ds p := hA0
  rw [Tryd.params7] at hA hval
  obtain ⟨v0, vs0, d0, ds0, p0, q0, hargs, rfl, rfl, h0, r0⟩ := trodAll_cons hA
  obtain ⟨rfl, rfl, rfl⟩ := trodAll_nil r0
  obtain rfl : args = #[v0] := by cases args; simp_all
  obtain ⟨rfl, rfl⟩ := trodVars_none hV
  obtain ⟨a0, len0, cap0, rfl⟩ := okWide_slice Tryd.underlying22 (hval 0 22 v0 rfl rfl)
  have k0 := h0
  have lt0 : ∀ x ∈ p0, x.block < W.heap.size := by obtain ⟨m, hm⟩ := k0; exact DataW.trod_lt m _ _ _ hm
  obtain ⟨z0, w0⟩ : ∃ zs, IsRow .u8 W a0 len0 cap0 zs := by
    obtain ⟨fuel, hf⟩ := h0
    rcases open_ints Tryd.underlying22 Tryd.underlying5 (by kernel_rfl) hf with ⟨hcs, _⟩ | ⟨x, l, c, zs, hcs, _, hl, hm, hz, _, hcell, hwz⟩
    · simp [Value.cells] at hcs
      obtain ⟨rfl, rfl, rfl⟩ := hcs
      exact ⟨[], .inl ⟨rfl, rfl, rfl, rfl⟩⟩
    · simp [Value.cells] at hcs
      obtain ⟨rfl, rfl, rfl⟩ := hcs
      exact ⟨zs, .inr ⟨_, rfl, hl, hm, by simpa using hz, hcell, hwz⟩⟩
  clear hA0 hval0
  refine (walk a0 len0 cap0 z0 W w0 ⟨errVars_of hL (by kernel_rfl) (by kernel_rfl) (by kernel_rfl), maxInt_of hsh⟩).mono fun e W' ⟨he, bel⟩ => ?_
  subst he
  exact ⟨_, rfl, _, _, _, [], _, [], hW', trodAll_mk1 (shut_bool Tryd.underlying4 _), (trodAll_cons_mk (Below.trod laidOut (by kernel_rfl) (of_decide_eq_true (by kernel_rfl)) k0 bel lt0) trodAll_mk0), rfl, bel.frame _, fun h => by cases h⟩

theorem laid_met (os : Os) : laidMet Tryd.prog Rows.fnCommandParseRow.laid ((World.laidAll Tryd.prog os Rows.fnCommandParseRow.laid).forCall (fun _ _ => 0) ⟨#[], #[.slice none 0 0], []⟩).memory :=
  laidMet_laidAll _ (by kernel_rfl) (by kernel_rfl)
theorem reads (os : Os) {H : Type} (enc : TypeId × Value → H) : ∃ x, DataW.whole enc Tryd.prog ((World.laidAll Tryd.prog os Rows.fnCommandParseRow.laid).forCall (fun _ _ => 0) ⟨#[], #[.slice none 0 0], []⟩).memory Tryd.f7.params.toList Rows.fnCommandParseSpec.vars false #[Value.slice none 0 0].toList 8 = some x :=
  Option.isSome_iff_exists.1 (by kernel_rfl)

set_option maxRecDepth 100000 in
theorem lifted (os : Os) (started : os.Started) (H : Type) (enc : TypeId × Value → H) (F : Stop.Interp) :
    ReturnsInHanded {} Tryd.checked os 7 .any ((OpenSpec.ofChange Rows.fnCommandParseSpec).preRow enc Tryd.prog Tryd.f7 Rows.fnCommandParseRow.domain false Rows.fnCommandParseRow.laid) (((OpenSpec.ofChange Rows.fnCommandParseSpec).at F).post enc Tryd.prog Tryd.f7 false true false false) := by
  obtain ⟨x, hx⟩ := reads os enc
  refine returnsInHanded_of_row (C := Tryd.checked) (s := OpenSpec.ofChange Rows.fnCommandParseSpec) own started (by kernel_rfl) Tryd.func7
    (witness_row_atRef (enc := enc) (C := Tryd.checked) false (World.laidAll Tryd.prog os Rows.fnCommandParseRow.laid) #[.slice none 0 0] rfl (by kernel_rfl) (by kernel_rfl) (by kernel_rfl)
      (OpenSpec.preRow_of_cond 8 hx (by kernel_rfl) (fun k hk => by cases hk) (by kernel_rfl) (laid_met os))) ?_
  intro W base args ds gs before hval hW _ _ _ hL hsh _
  exact contract H enc W base args ds gs before hval hW hL hsh

theorem said : Rows.FnCommandParseSaid :=
  OpenClaim.holds_of_cond 7 Tryd.f7 rfl rfl rfl rfl rfl rfl rfl ⟨rfl, rfl, rfl, rfl, rfl⟩ rfl rfl rfl rfl rfl (by kernel_rfl) Tryd.func7 (by kernel_rfl)
    (of_decide_eq_true (by kernel_rfl)) (by unfold Func.isWrapper; first | (rw [if_pos (by decide +kernel)]; kernel_rfl) | (rw [if_neg (by decide +kernel)]; exact ⟨rfl, rfl⟩))
    (fun os started H enc _ F => by rw [OpenClaim.pre_eq_preRow]; exact lifted os started H enc F)

/-- No parameter wants a stand-in; the program's own looks: what the card asks. -/
theorem plain (f : FuncId) (fn : Func) (hf : Tryd.pinned.checked.prog.funcNamed Rows.fnCommandParseRow.func = some f) (hfn : Tryd.pinned.checked.prog.funcs[f]? = some fn) :
    true = Tryd.pinned.checked.prog.looks [] ∧ ∀ (j : Nat) t, fn.params[j]? = some t → Tryd.pinned.checked.prog.wantsStandIn t = false := by
  obtain rfl : f = 7 := Option.some.inj ((show Tryd.prog.funcNamed Rows.fnCommandParseRow.func = some 7 by kernel_rfl).symm.trans hf) |>.symm
  obtain rfl : fn = Tryd.f7 := (Option.some.inj (Tryd.func7.symm.trans hfn)).symm
  refine ⟨by kernel_rfl, fun j t ht => ?_⟩
  rw [Tryd.params7] at ht
  have hm := Array.mem_of_getElem? ht
  simp at hm
  rcases hm with rfl
  · exact (show Tryd.prog.wantsStandIn 22 = false by kernel_rfl)

/-- THE CARD. -/
theorem card : Rows.FnCommandParseCardSaid :=
  Claim7.holds_tied_plain_at .later [] _ _ _ _ said (fun _ h => by cases h) (by kernel_rfl) (fun _ h => by cases h) fnCommandParse_row_tie rfl ⟨rfl, rfl⟩ (by kernel_rfl) rfl plain (by kernel_rfl)
end Go.Proofs.YtnmpbocnbcokeaaDoor.fnCommandParse
