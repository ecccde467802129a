/-
  laws.FnContentText returns true for every input, and leaves its arguments as they were.
  Conditions: none of ours; the package-level variables that its row lists hold what the program's text lays (the given tie).
-/
import Derived.Test.YtmmnihgnejndjaaDoorRows
import Derived.Test.YtmmnihgnejndjaaDoorCards
import Derived.Test.YtmmnihgnejndjaaDoorTie
import Derived.Test.YtmmnihgnejndjaaDoorDt
import Derived.Test.YtmmnihgnejndjaaDoorDq
import Derived.Test.YtmmnihgnejndjaaDoorPl
import Derived.Test.YtmmnihgnejndjaaDoorEv
import Derived.WalkKit
import Derived.ProofKit
import Derived.OpenShut
import Derived.ShutString
import Derived.ChangeOld
import Derived.Below
import Derived.Deep.DeepHandedRow
import Derived.Deep.DeepWitnessRowRef
import Derived.Lib.LaidTab
import Derived.LaidMore
namespace Go.Proofs.YtmmnihgnejndjaaDoor.fnContentText
open Go.ChangeShapes Go.WideShapes Go.ChangeAt Go.RowKit
open Go.ChangeMaps (open_string shut_string)
set_option linter.unusedVariables false

theorem own : ownKnob Tryd.prog.godebug = none := by kernel_rfl
theorem laidOut : laidOutB Tryd.prog = true := by kernel_rfl

set_option maxHeartbeats 1000000 in
theorem walk (a0 : Option Addr) (len0 cap0 : Nat) (z0 : List Int) (w : World) (w0 : IsRow .u8 w a0 len0 cap0 z0) (hE : ErrVars w) :
    Calls Tryd.prog 3 #[.slice a0 len0 cap0] w fun e w' => e = .returned (.bool true) ∧ Below w.heap.size w w' := by
  have HE := Lib.hid hE
  clear hE
  by_cases h : len0 ≤ 1048576
  · have hl : (len0 : Int) ≤ 1048576 := by omega
    have HD := Lib.hid (drawText_c a0 len0 cap0 z0 w w0)
    clear h w0
    go_enter Tryd.func3, Tryd.ntmps3
    go_wp2_with fail
    refine HD.out.mono ?_
    rintro e W1 ⟨k, v, rfl, -, -, -, -, hb1⟩
    have HT := Lib.hid (fun w => implText_c k v w)
    have HS := Lib.hid (fun w => specText_c k v w)
    have HV := Lib.hid (fun w => implValid_c k v w)
    by_cases hv : validB k v = true
    · have hx := conText_empty k v
      have hsz := conText_size k v
      have hp := parseR_conText hv
      rw [hv] at HV hx
      obtain ⟨d, hd⟩ : ∃ d, conText k v = d := ⟨_, rfl⟩
      rw [hd] at HT HS hx hp hsz
      have HP : Hid (∀ w, ErrVars w → Calls Tryd.prog 10 #[.string d] w (PairPost k v true w)) := by
        intro w hE
        have := implParse_c d (by omega) w hE
        unfold ParsePost at this
        rw [hp] at this
        exact this
      have hne : ¬ d.toList = [] := fun e => by rw [e] at hx; cases hx
      unfold con at HT HS HV
      clear hv hp hd hsz
      go_wp2_with fail
      refine (HT.out _).mono ?_; rintro e W2 ⟨rfl, hb2⟩
      have c0 := box_cell hb2 0
      have c1 := box_cell hb2 1
      go_wp2_with fail
      refine (HS.out _).mono ?_; rintro e W3 ⟨rfl, hb3⟩
      have hb := below_next hb2 hb3
      have hlt : W1.heap.size < W3.heap.size := by have := hb.size; simp at this; omega
      have c0 := box_cell hb 0
      have c1 := box_cell hb 1
      have HB := Lib.hid (below_next hb1 (below_next (below_box _ _) hb))
      clear hb hb1 hb2 hb3
      go_wp2_with fail
      refine (HP.out _ (HE.out.keep HB.out)).mono ?_; rintro e W4 ⟨rfl, hb4⟩
      have d0 := cell_kept hb4 c0
      have d1 := cell_kept hb4 c1
      have hlt4 : W1.heap.size < W4.heap.size := Nat.lt_of_lt_of_le hlt hb4.size
      have HB4 := Lib.hid (below_next HB.out hb4)
      clear c0 c1 hlt hb4 hx hne
      unfold con
      go_wp2_with fail
      refine (HV.out _).mono ?_; rintro e W5 ⟨rfl, hb5⟩
      have HB5 := Lib.hid (below_next HB4.out (below_next (below_box _ _) hb5))
      clear d0 d1 hlt4 hb5
      go_wp2
      go_ret
      exact ⟨rfl, HB5.out⟩
    · have hv' : validB k v = false := by simpa using hv
      have hx := conText_empty k v
      rw [hv'] at hx
      generalize conText k v = d at HT HS hx
      unfold con at HT HS
      clear hv hv' HV
      go_wp2_with fail
      refine (HT.out _).mono ?_; rintro e W2 ⟨rfl, hb2⟩
      have c0 := box_cell hb2 0
      have c1 := box_cell hb2 1
      go_wp2_with fail
      refine (HS.out _).mono ?_; rintro e W3 ⟨rfl, hb3⟩
      have HB := Lib.hid (below_next hb1 (below_next (below_box _ _) (below_next hb2 hb3)))
      clear hb1 hb2 hb3 c0 c1
      go_wp2
      go_ret
      exact ⟨rfl, HB.out⟩
  · have hl : (1048576 : Int) < len0 := by omega
    clear h w0
    go_enter Tryd.func3, Tryd.ntmps3
    go_wp2
    go_ret
    exact ⟨rfl, Below.refl _ _⟩

set_option maxRecDepth 100000 in
/-- What the walk gives, for every argument and every world that holds the listed variables. -/
theorem contract (H : Type) (enc : TypeId × Value → H) (W : World) (base : Nat) (args : Array Value) (ds gs : List (DataW H)) (before : List MemPlace)
    (hval0 : ∀ (j : Nat) t v, Tryd.f3.params[j]? = some t → args[j]? = some v → Value.okWide Tryd.prog W .any base t v)
    (hW : DataW.Whole enc Tryd.prog Tryd.f3.params.toList Rows.fnContentTextSpec.vars false W args.toList ds gs before) (hL : laidMetH Tryd.prog Rows.fnContentTextRow.laid W) :
    Calls Tryd.prog 3 args W fun e W' => ∃ v, e = .returned v ∧ Rows.fnContentTextSpec.post enc Tryd.prog Tryd.f3 false true false false W args v W' := by
  have hval : ∀ (j : Nat) t v, Tryd.f3.params[j]? = some t → args[j]? = some v → Value.okWide Tryd.prog W .any base t v := hval0
  have hW' := hW
  obtain ⟨p, q, hA0, hV, rfl, hfz, hnd⟩ := hW
  have hA : DataW.TrodAll enc Tryd.prog W 0 (fun _ => true) true Tryd.f3.params.toList args.toList ds p := hA0
  rw [Tryd.params3] at hA hval
  obtain ⟨v0, vs0, d0, ds0, p0, q0, hargs, rfl, rfl, h0, r0⟩ := trodAll_cons hA
  obtain ⟨rfl, rfl, rfl⟩ := trodAll_nil r0
  obtain rfl : args = #[v0] := by cases args; simp_all
  obtain ⟨rfl, rfl⟩ := trodVars_none hV
  obtain ⟨a0, len0, cap0, rfl⟩ := okWide_slice Tryd.underlying22 (hval 0 22 v0 rfl rfl)
  have k0 := h0
  have lt0 : ∀ x ∈ p0, x.block < W.heap.size := by obtain ⟨m, hm⟩ := k0; exact DataW.trod_lt m _ _ _ hm
  obtain ⟨z0, w0⟩ : ∃ zs, IsRow .u8 W a0 len0 cap0 zs := by
    obtain ⟨fuel, hf⟩ := h0
    rcases open_ints Tryd.underlying22 Tryd.underlying5 (by kernel_rfl) hf with ⟨hcs, _⟩ | ⟨x, l, c, zs, hcs, _, hl, hm, hz, _, hcell, hwz⟩
    · simp [Value.cells] at hcs
      obtain ⟨rfl, rfl, rfl⟩ := hcs
      exact ⟨[], .inl ⟨rfl, rfl, rfl, rfl⟩⟩
    · simp [Value.cells] at hcs
      obtain ⟨rfl, rfl, rfl⟩ := hcs
      exact ⟨zs, .inr ⟨_, rfl, hl, hm, by simpa using hz, hcell, hwz⟩⟩
  clear hA0 hval0
  refine (walk a0 len0 cap0 z0 W w0 (errVars_of hL (by kernel_rfl) (by kernel_rfl) (by kernel_rfl))).mono fun e W' ⟨he, bel⟩ => ?_
  subst he
  exact ⟨_, rfl, _, _, _, [], _, [], hW', trodAll_mk1 (shut_bool Tryd.underlying4 _), (trodAll_cons_mk (Below.trod laidOut (by kernel_rfl) (of_decide_eq_true (by kernel_rfl)) k0 bel lt0) trodAll_mk0), rfl, bel.frame _, fun h => by cases h⟩

theorem laid_met (os : Os) : laidMet Tryd.prog Rows.fnContentTextRow.laid ((World.doorLaid Tryd.prog 400 os).forCall (fun _ _ => 0) ⟨#[], #[.slice none 0 0], []⟩).memory :=
  laidMet_of_run' 8 (by kernel_rfl) (by kernel_rfl)
theorem reads (os : Os) {H : Type} (enc : TypeId × Value → H) : ∃ places, DataW.whole enc Tryd.prog ((World.doorLaid Tryd.prog 400 os).forCall (fun _ _ => 0) ⟨#[], #[.slice none 0 0], []⟩).memory Tryd.f3.params.toList Rows.fnContentTextSpec.vars false #[Value.slice none 0 0].toList 8 = some ([.nil], [], places) :=
  ⟨[], by kernel_rfl⟩

set_option maxRecDepth 100000 in
theorem lifted (os : Os) (started : os.Started) (H : Type) (enc : TypeId × Value → H) (F : Stop.Interp) :
    ReturnsInHanded {} Tryd.checked os 3 .any ((OpenSpec.ofChange Rows.fnContentTextSpec).preRow enc Tryd.prog Tryd.f3 Rows.fnContentTextRow.domain false Rows.fnContentTextRow.laid) (((OpenSpec.ofChange Rows.fnContentTextSpec).at F).post enc Tryd.prog Tryd.f3 false true false false) := by
  obtain ⟨places, hx⟩ := reads os enc
  refine returnsInHanded_of_row (C := Tryd.checked) (s := OpenSpec.ofChange Rows.fnContentTextSpec) own started (by kernel_rfl) Tryd.func3
    (witness_row_atRef (enc := enc) (C := Tryd.checked) false (World.doorLaid Tryd.prog 400 os) #[.slice none 0 0] rfl (by kernel_rfl) (by kernel_rfl) (by kernel_rfl)
      (OpenSpec.preRow_of_cond 8 hx (by kernel_rfl) (fun k hk => by cases hk) (by kernel_rfl) (laid_met os))) ?_
  intro W base args ds gs before hval hW _ _ _ hL _ _
  exact contract H enc W base args ds gs before hval hW hL

theorem said : Rows.FnContentTextSaid :=
  OpenClaim.holds_of_cond 3 Tryd.f3 rfl rfl rfl rfl rfl rfl rfl ⟨rfl, rfl, rfl, rfl, rfl⟩ rfl rfl rfl rfl rfl (by kernel_rfl) Tryd.func3 (by kernel_rfl)
    (of_decide_eq_true (by kernel_rfl)) (by unfold Func.isWrapper; first | (rw [if_pos (by decide +kernel)]; kernel_rfl) | (rw [if_neg (by decide +kernel)]; exact ⟨rfl, rfl⟩))
    (fun os started H enc _ F => by rw [OpenClaim.pre_eq_preRow]; exact lifted os started H enc F)

/-- No parameter wants a stand-in; the program's own looks: what the card asks. -/
theorem plain (f : FuncId) (fn : Func) (hf : Tryd.pinned.checked.prog.funcNamed Rows.fnContentTextRow.func = some f) (hfn : Tryd.pinned.checked.prog.funcs[f]? = some fn) :
    true = Tryd.pinned.checked.prog.looks [] ∧ ∀ (j : Nat) t, fn.params[j]? = some t → Tryd.pinned.checked.prog.wantsStandIn t = false := by
  obtain rfl : f = 3 := Option.some.inj ((show Tryd.prog.funcNamed Rows.fnContentTextRow.func = some 3 by kernel_rfl).symm.trans hf) |>.symm
  obtain rfl : fn = Tryd.f3 := (Option.some.inj (Tryd.func3.symm.trans hfn)).symm
  refine ⟨by kernel_rfl, fun j t ht => ?_⟩
  rw [Tryd.params3] at ht
  have hm := Array.mem_of_getElem? ht
  simp at hm
  rcases hm with rfl
  · exact (show Tryd.prog.wantsStandIn 22 = false by kernel_rfl)

/-- THE CARD. -/
theorem card : Rows.FnContentTextCardSaid :=
  Claim7.holds_tied_plain_at .later [] _ _ _ _ said (fun _ h => by cases h) (by kernel_rfl) (fun _ h => by cases h) fnContentText_row_tie rfl ⟨rfl, rfl⟩ (by kernel_rfl) rfl plain (by kernel_rfl)
end Go.Proofs.YtmmnihgnejndjaaDoor.fnContentText
