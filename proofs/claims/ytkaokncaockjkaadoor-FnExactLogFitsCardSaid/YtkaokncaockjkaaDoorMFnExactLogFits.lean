/-
  laws.FnExactLogFits returns true for every input, and leaves its arguments as they were.
  Conditions: none of ours; the package-level variables that its row lists hold what the program's text lays (the given tie).
-/
import Derived.Test.YtkaokncaockjkaaDoorRows
import Derived.Test.YtkaokncaockjkaaDoorCards
import Derived.Test.YtkaokncaockjkaaDoorTie
import Derived.WalkKit
import Derived.ProofKit
import Derived.OpenShut
import Derived.ShutString
import Derived.ChangeOld
import Derived.Below
import Derived.Deep.DeepHandedRow
import Derived.Deep.DeepWitnessRowRef
import Derived.Lib.LaidTab
import Derived.LaidMore
import Derived.OpenVars
import Derived.Lay
import Derived.Test.YtkaokncaockjkaaDoorK5
namespace Go.Proofs.YtkaokncaockjkaaDoor.fnExactLogFits
open Go.ChangeShapes Go.WideShapes Go.ChangeAt Go.RowKit
open Go.ChangeMaps (open_string shut_string)
set_option linter.unusedVariables false

theorem own : ownKnob Tryd.prog.godebug = none := by kernel_rfl
theorem laidOut : laidOutB Tryd.prog = true := by kernel_rfl

set_option maxHeartbeats 2000000 in
set_option maxRecDepth 100000 in
theorem walk (a0 : Option Addr) (len0 cap0 : Nat) (ns : List Nd) (l0 : len0 ≤ maxLen) (m0 : Short maxLen ns) (a1 : Option Addr) (len1 cap1 : Nat) (cs : List Cmd) (l1 : len1 ≤ maxLen) (m1 : ShortC maxLen cs) (w : World) (w0 : NodesAt w a0 len0 ns) (w1 : CmdsAt w a1 len1 cs) (hE : CmdVars w) :
    Calls Tryd.prog 8 #[.slice a0 len0 cap0, .slice a1 len1 cap1] w fun e w' => e = .returned (.bool true) ∧ Below w.heap.size w w' := by
  have HV := Lib.hid (fun W' (hb : Below w.heap.size w W') => hE.keep hb)
  have HSZ := Lib.hid (szNodeSG_c 1048576 (by omega) (by omega) a0 len0 cap0 ns l0 m0 w w0)
  have HSC := Lib.hid (fun l h0 h1 W' (hb : Below w.heap.size w W') => szCommandS_c l h0 h1 a1 len1 cap1 cs l1 m1 W' (w1.keep hb))
  have HN := Lib.hid w0
  have HC := Lib.hid w1
  obtain ⟨vf, hvf⟩ : ∃ vf, fitsL ns cs = vf := ⟨_, rfl⟩
  have HVF := Lib.hid hvf
  clear w0 w1 l0 m0 l1 m1 hE hvf
  go_enter Tryd.func8, Tryd.ntmps8
  go_wp2_with fail
  refine HSZ.out.mono ?_
  rintro e W1 ⟨z, rfl, hz1, hz, hb1⟩
  have B1 := Lib.hid hb1
  clear hb1
  by_cases h0 : z < 0
  · clear hz hz1
    go_wp2
    go_ret
    exact ⟨rfl, B1.out⟩
  · obtain ⟨hl, hs⟩ := hz (by omega)
    have hz0 : 0 ≤ z := by omega
    have hzd : decide (z < 0) = false := decide_eq_false h0
    have HZ1 := Lib.hid (HSC.out z hz0 hz1 W1 B1.out)
    have HTN := Lib.hid (fun W' (hb : Below w.heap.size w W') => toNodeS_c a0 len0 cap0 ns (by omega) W' (HN.out.keep hb))
    have HLEN := Lib.hid HN.out.1
    have HLN := Lib.hid (show ns.length ≤ 1048576 by have := HLEN.out; omega)
    have HS2 := Lib.hid (hs.mono (show 1048576 ≤ 2097152 by omega))
    clear h0 hz hz1 hl hs
    go_wp2_with fail
    refine HZ1.out.mono ?_
    rintro e W2 ⟨z2, rfl, -, hz2, hb2⟩
    have B2 := Lib.hid (below_next B1.out hb2)
    clear hb2
    by_cases h2 : z2 < 0
    · clear hz2
      go_wp2
      go_ret
      exact ⟨rfl, B2.out⟩
    · obtain ⟨hl2, hs2⟩ := hz2 (by omega)
      have hz20 : 0 ≤ z2 := by omega
      have hzd2 : decide (z2 < 0) = false := decide_eq_false h2
      have HTC := Lib.hid (fun W' (hb : Below w.heap.size w W') => toCommandS_c a1 len1 cap1 cs (by omega) W' (HC.out.keep hb))
      have HLEC := Lib.hid HC.out.1
      have HLC := Lib.hid (show cs.length ≤ 1048576 by have := HLEC.out; omega)
      have HSS2 := Lib.hid (hs2.mono (show 1048576 ≤ 2097152 by omega))
      have HSP := Lib.hid (fun x (p : Nat) y (q : Nat) W' (h : NodesAt W' x ns.length ns) (h' : CmdsAt W' y cs.length cs) => show Calls Tryd.prog 16 #[.slice x ns.length p, .slice y cs.length q] W' (BoolPost vf W') by rw [← HVF.out]; exact specLogFits_c x ns.length p ns y cs.length q cs (by have := HLN.out; omega) (by have := HLC.out; omega) HS2.out HSS2.out W' h h')
      have HIM := Lib.hid (fun x (p : Nat) y (q : Nat) W' (h : NodesAt W' x ns.length ns) (h' : CmdsAt W' y cs.length cs) (hE : CmdVars W') => show Calls Tryd.prog 15 #[.slice x ns.length p, .slice y cs.length q] W' (BoolPost vf W') by rw [← HVF.out]; exact implLogFits_c x ns.length p ns y cs.length q cs (by have := HLN.out; omega) (by have := HLC.out; omega) HS2.out HSS2.out W' h h' hE)
      clear h2 hz2 hl2 hs2
      go_wp2_with fail
      refine (HTN.out _ B2.out).mono ?_
      rintro e W3 ⟨⟨s3, rfl, ho3⟩, hb3⟩
      obtain ⟨x3, p3, rfl, hn3⟩ := nodes_of_own ho3
      have B3 := Lib.hid (below_next B2.out hb3)
      have HN3 := Lib.hid hn3
      clear ho3 hn3 hb3
      go_wp2_with fail
      refine (HTC.out _ B3.out).mono ?_
      rintro e W3b ⟨⟨s3b, rfl, ho3b⟩, hb3b⟩
      obtain ⟨x3b, p3b, rfl, hn3b⟩ := cmds_of_own ho3b
      have B3b := Lib.hid (below_next B3.out hb3b)
      have HSPX := Lib.hid (HSP.out x3 p3 x3b p3b W3b (HN3.out.keep hb3b) hn3b)
      clear ho3b hn3b hb3b
      go_wp2_with fail
      refine HSPX.out.mono ?_
      rintro e W4 ⟨rfl, hb4⟩
      have B4 := Lib.hid (below_next B3b.out hb4)
      clear hb4
      go_wp2_with fail
      refine (HTN.out _ B4.out).mono ?_
      rintro e W5 ⟨⟨s5, rfl, ho5⟩, hb5⟩
      obtain ⟨x5, p5, rfl, hn5⟩ := nodes_of_own ho5
      have B5 := Lib.hid (below_next B4.out hb5)
      have HN5 := Lib.hid hn5
      clear ho5 hn5 hb5
      go_wp2_with fail
      refine (HTC.out _ B5.out).mono ?_
      rintro e W6 ⟨⟨s6, rfl, ho6⟩, hb6⟩
      obtain ⟨x6, p6, rfl, hn6⟩ := cmds_of_own ho6
      have B6 := Lib.hid (below_next B5.out hb6)
      have HN6 := Lib.hid hn6
      have H6 := Lib.hid hb6
      have HIMX := Lib.hid (HIM.out x5 p5 x6 p6 W6 (HN5.out.keep hb6) hn6 (HV.out _ B6.out))
      clear ho6 hn6 hb6
      go_wp2_with fail
      refine HIMX.out.mono ?_
      rintro e W7 ⟨rfl, hb7⟩
      have B7 := Lib.hid (below_next B6.out hb7)
      have H7 := Lib.hid (below_next H6.out hb7)
      have HN6 := Lib.hid (HN6.out.keep hb7)
      have HI7 := Lib.hid hb7
      clear hb7
      cases vf with
      | false =>
        go_wp2_with fail
        refine (HTN.out _ B7.out).mono ?_
        rintro e W8 ⟨⟨s8, rfl, ho8⟩, hb8⟩
        obtain ⟨x8, p8, rfl, hn8⟩ := nodes_of_own ho8
        have B8 := Lib.hid (below_next B7.out hb8)
        have HE := Lib.hid (eqNodeS_c x5 x8 ns.length p5 p8 ns (by have := HLN.out; omega) W8 (HN5.out.keep (below_next H7.out hb8)) hn8)
        have H8 := Lib.hid (below_next H7.out hb8)
        have K8 := Lib.hid hb8
        clear ho8 hn8 hb8
        go_wp2_with fail
        refine HE.out.mono ?_
        rintro e W9 ⟨rfl, hb9⟩
        have B9 := Lib.hid (below_next B8.out hb9)
        have H9 := Lib.hid (below_next H8.out hb9)
        have K9 := Lib.hid (below_next K8.out hb9)
        clear hb9
        go_wp2_with fail
        refine (HTC.out _ B9.out).mono ?_
        rintro e Wa ⟨⟨sa, rfl, hoa⟩, hba⟩
        obtain ⟨xa, pa, rfl, hna⟩ := cmds_of_own hoa
        have Ba := Lib.hid (below_next B9.out hba)
        have HE2 := Lib.hid (eqCommandS_c x6 xa cs.length p6 pa cs (by have := HLC.out; omega) Wa (HN6.out.keep (below_next K9.out hba)) hna)
        clear hoa hna hba
        go_wp2_with fail
        refine HE2.out.mono ?_
        rintro e Wb ⟨rfl, hbb⟩
        go_wp2
        go_ret
        exact ⟨rfl, below_next Ba.out hbb⟩
      | true =>
        go_wp2_with fail
        refine (HTN.out _ B7.out).mono ?_
        rintro e W8 ⟨⟨s8, rfl, ho8⟩, hb8⟩
        obtain ⟨x8, p8, rfl, hn8⟩ := nodes_of_own ho8
        have B8 := Lib.hid (below_next B7.out hb8)
        have HE := Lib.hid (eqNodeS_c x5 x8 ns.length p5 p8 ns (by have := HLN.out; omega) W8 (HN5.out.keep (below_next H7.out hb8)) hn8)
        have H8 := Lib.hid (below_next H7.out hb8)
        have K8 := Lib.hid hb8
        clear ho8 hn8 hb8
        go_wp2_with fail
        refine HE.out.mono ?_
        rintro e W9 ⟨rfl, hb9⟩
        have B9 := Lib.hid (below_next B8.out hb9)
        have H9 := Lib.hid (below_next H8.out hb9)
        have K9 := Lib.hid (below_next K8.out hb9)
        clear hb9
        go_wp2_with fail
        refine (HTC.out _ B9.out).mono ?_
        rintro e Wa ⟨⟨sa, rfl, hoa⟩, hba⟩
        obtain ⟨xa, pa, rfl, hna⟩ := cmds_of_own hoa
        have Ba := Lib.hid (below_next B9.out hba)
        have HE2 := Lib.hid (eqCommandS_c x6 xa cs.length p6 pa cs (by have := HLC.out; omega) Wa (HN6.out.keep (below_next K9.out hba)) hna)
        clear hoa hna hba
        go_wp2_with fail
        refine HE2.out.mono ?_
        rintro e Wb ⟨rfl, hbb⟩
        go_wp2
        go_ret
        exact ⟨rfl, below_next Ba.out hbb⟩


set_option maxRecDepth 100000 in
/-- What the walk gives, for every argument and every world that holds the listed variables. -/
theorem contract (H : Type) (enc : TypeId × Value → H) (W : World) (base : Nat) (args : Array Value) (ds gs : List (DataW H)) (before : List MemPlace)
    (hval0 : ∀ (j : Nat) t v, Tryd.f8.params[j]? = some t → args[j]? = some v → Value.okWide Tryd.prog W .any base t v)
    (hW : DataW.Whole enc Tryd.prog Tryd.f8.params.toList Rows.fnExactLogFitsSpec.vars false W args.toList ds gs before) (hL : laidMetH Tryd.prog Rows.fnExactLogFitsRow.laid W) (hsh : W.ShapedOpen Tryd.prog) :
    Calls Tryd.prog 8 args W fun e W' => ∃ v, e = .returned v ∧ Rows.fnExactLogFitsSpec.post enc Tryd.prog Tryd.f8 false true false false W args v W' := by
  have hval : ∀ (j : Nat) t v, Tryd.f8.params[j]? = some t → args[j]? = some v → Value.okWide Tryd.prog W .any base t v := hval0
  have hW' := hW
  obtain ⟨p, q, hA0, hV, rfl, hfz, hnd⟩ := hW
  have hA : DataW.TrodAll enc Tryd.prog W 0 (fun _ => true) true Tryd.f8.params.toList args.toList ds p := hA0
  rw [Tryd.params8] at hA hval
  obtain ⟨v0, vs0, d0, ds0, p0, q0, hargs, rfl, rfl, h0, r0⟩ := trodAll_cons hA
  obtain ⟨v1, vs1, d1, ds1, p1, q1, rfl, rfl, rfl, h1, r1⟩ := trodAll_cons r0
  obtain ⟨rfl, rfl, rfl⟩ := trodAll_nil r1
  obtain rfl : args = #[v0, v1] := by cases args; simp_all
  obtain ⟨_, _, _, _, e0, _, _, _, _, _, e1, _, rfl, -⟩ := trodVars_two hV
  obtain ⟨a0, len0, cap0, rfl⟩ := okWide_slice Tryd.underlying40 (hval 0 40 v0 rfl rfl)
  have k0 := h0
  have lt0 : ∀ x ∈ p0, x.block < W.heap.size := by obtain ⟨m, hm⟩ := k0; exact DataW.trod_lt m _ _ _ hm
  obtain ⟨z0, w0, l0, m0⟩ : ∃ ns, NodesAt W a0 len0 ns ∧ len0 ≤ maxLen ∧ Short maxLen ns := by
    obtain ⟨fuel, hf⟩ := h0
    exact open_nodes hf
  obtain ⟨a1, len1, cap1, rfl⟩ := okWide_slice Tryd.underlying41 (hval 1 41 v1 rfl rfl)
  have k1 := h1
  have lt1 : ∀ x ∈ p1, x.block < W.heap.size := by obtain ⟨m, hm⟩ := k1; exact DataW.trod_lt m _ _ _ hm
  obtain ⟨z1, w1, l1, m1⟩ : ∃ cs, CmdsAt W a1 len1 cs ∧ len1 ≤ maxLen ∧ ShortC maxLen cs := by
    obtain ⟨fuel, hf⟩ := h1
    exact open_commands hf
  clear hA0 hval0
  refine (walk a0 len0 cap0 z0 l0 m0 a1 len1 cap1 z1 l1 m1 W w0 w1 (cmdVars_of hL (by kernel_rfl) (by kernel_rfl) (by kernel_rfl))).mono fun e W' ⟨he, bel⟩ => ?_
  subst he
  exact ⟨_, rfl, _, _, _, [], _, _, hW', trodAll_mk1 (shut_bool Tryd.underlying4 _), (trodAll_cons_mk (Below.trod laidOut (by kernel_rfl) (of_decide_eq_true (by kernel_rfl)) k0 bel lt0) (trodAll_cons_mk (Below.trod laidOut (by kernel_rfl) (of_decide_eq_true (by kernel_rfl)) k1 bel lt1) trodAll_mk0)), Below.trodVars laidOut bel (by kernel_rfl) hV, bel.frame _, fun h => by cases h⟩

theorem laid_met (os : Os) : laidMet Tryd.prog Rows.fnExactLogFitsRow.laid ((World.laidAll Tryd.prog os Rows.fnExactLogFitsRow.laid).forCall (fun _ _ => 0) ⟨#[], #[.slice none 0 0, .slice none 0 0], []⟩).memory :=
  laidMet_laidAll _ (by kernel_rfl) (by kernel_rfl)
theorem reads (os : Os) {H : Type} (enc : TypeId × Value → H) : ∃ x, DataW.whole enc Tryd.prog ((World.laidAll Tryd.prog os Rows.fnExactLogFitsRow.laid).forCall (fun _ _ => 0) ⟨#[], #[.slice none 0 0, .slice none 0 0], []⟩).memory Tryd.f8.params.toList Rows.fnExactLogFitsSpec.vars false #[Value.slice none 0 0, Value.slice none 0 0].toList 8 = some x :=
  Option.isSome_iff_exists.1 (by kernel_rfl)

set_option maxRecDepth 100000 in
theorem lifted (os : Os) (started : os.Started) (H : Type) (enc : TypeId × Value → H) (F : Stop.Interp) :
    ReturnsInHanded {} Tryd.checked os 8 .any ((OpenSpec.ofChange Rows.fnExactLogFitsSpec).preRow enc Tryd.prog Tryd.f8 Rows.fnExactLogFitsRow.domain false Rows.fnExactLogFitsRow.laid) (((OpenSpec.ofChange Rows.fnExactLogFitsSpec).at F).post enc Tryd.prog Tryd.f8 false true false false) := by
  obtain ⟨x, hx⟩ := reads os enc
  refine returnsInHanded_of_row (C := Tryd.checked) (s := OpenSpec.ofChange Rows.fnExactLogFitsSpec) own started (by kernel_rfl) Tryd.func8
    (witness_row_atRef (enc := enc) (C := Tryd.checked) false (World.laidAll Tryd.prog os Rows.fnExactLogFitsRow.laid) #[.slice none 0 0, .slice none 0 0] rfl (by kernel_rfl) (by kernel_rfl) (by kernel_rfl)
      (OpenSpec.preRow_of_cond 8 hx (by kernel_rfl) (fun k hk => by cases hk) (by kernel_rfl) (laid_met os))) ?_
  intro W base args ds gs before hval hW _ _ _ hL hsh _
  exact contract H enc W base args ds gs before hval hW hL hsh

theorem said : Rows.FnExactLogFitsSaid :=
  OpenClaim.holds_of_cond 8 Tryd.f8 rfl rfl rfl rfl rfl rfl rfl ⟨rfl, rfl, rfl, rfl, rfl⟩ rfl rfl rfl rfl rfl (by kernel_rfl) Tryd.func8 (by kernel_rfl)
    (of_decide_eq_true (by kernel_rfl)) (by unfold Func.isWrapper; first | (rw [if_pos (by decide +kernel)]; kernel_rfl) | (rw [if_neg (by decide +kernel)]; exact ⟨rfl, rfl⟩))
    (fun os started H enc _ F => by rw [OpenClaim.pre_eq_preRow]; exact lifted os started H enc F)

/-- No parameter wants a stand-in; the program's own looks: what the card asks. -/
theorem plain (f : FuncId) (fn : Func) (hf : Tryd.pinned.checked.prog.funcNamed Rows.fnExactLogFitsRow.func = some f) (hfn : Tryd.pinned.checked.prog.funcs[f]? = some fn) :
    true = Tryd.pinned.checked.prog.looks [] ∧ ∀ (j : Nat) t, fn.params[j]? = some t → Tryd.pinned.checked.prog.wantsStandIn t = false := by
  obtain rfl : f = 8 := Option.some.inj ((show Tryd.prog.funcNamed Rows.fnExactLogFitsRow.func = some 8 by kernel_rfl).symm.trans hf) |>.symm
  obtain rfl : fn = Tryd.f8 := (Option.some.inj (Tryd.func8.symm.trans hfn)).symm
  refine ⟨by kernel_rfl, fun j t ht => ?_⟩
  rw [Tryd.params8] at ht
  have hm := Array.mem_of_getElem? ht
  simp at hm
  rcases hm with rfl | rfl
  · exact (show Tryd.prog.wantsStandIn 40 = false by kernel_rfl)
  · exact (show Tryd.prog.wantsStandIn 41 = false by kernel_rfl)

/-- THE CARD. -/
theorem card : Rows.FnExactLogFitsCardSaid :=
  Claim7.holds_tied_plain_at .later [] _ _ _ _ said (fun _ h => by cases h) (by kernel_rfl) (fun _ h => by cases h) fnExactLogFits_row_tie rfl ⟨rfl, rfl⟩ (by kernel_rfl) rfl plain (by kernel_rfl)
end Go.Proofs.YtkaokncaockjkaaDoor.fnExactLogFits
