/-
  laws.FnCanonDiff returns true for every input, and leaves its arguments as they were.
  Conditions: none of ours; the package-level variables that its row lists hold what the program's text lays (the given tie).
-/
import Derived.Test.YtnboodcllmdjeaaGreatDoorRows
import Derived.Test.YtnboodcllmdjeaaGreatDoorCards
import Derived.Test.YtnboodcllmdjeaaGreatDoorTie
import Derived.WalkKit
import Derived.ProofKit
import Derived.OpenShut
import Derived.ShutString
import Derived.ChangeOld
import Derived.Below
import Derived.Deep.DeepHandedRow
import Derived.Deep.DeepWitnessRowRef
import Derived.Lib.LaidTab
import Derived.LaidMore
import Derived.OpenVars
import Derived.Lay
import Derived.Test.YtnboodcllmdjeaaGreatDoorQ8
import Derived.Test.YtnboodcllmdjeaaGreatDoorQ10
import Derived.Test.YtnboodcllmdjeaaGreatDoorQ9
namespace Go.Proofs.YtnboodcllmdjeaaGreatDoor.fnCanonDiff
open Go.ChangeShapes Go.WideShapes Go.ChangeAt Go.RowKit
open Go.ChangeMaps (open_string shut_string)
set_option linter.unusedVariables false

theorem own : ownKnob Tryz.prog.godebug = none := by kernel_rfl
theorem laidOut : laidOutB Tryz.prog = true := by kernel_rfl

/-- What LogApply tells, its two parts named. -/
def LPost (out : List Nd) (n : Int) (W : World) (e : Ending) (w' : World) : Prop :=
  ∃ sl, e = .returned (.tuple #[sl, .int .i64 n]) ∧ w'.ownsRow W.heap.size 53 3 sl out.length (flatN out) ∧ Below W.heap.size W w'

theorem log_named {ns out : List Nd} {cs : List Cmd} {n : Int} {W : World} {f : Nat} {args : Array Value} (hr : logApply ns cs = (out, n)) (h : Calls Tryz.prog f args W (LogPost (logApply ns cs) W)) : Calls Tryz.prog f args W (LPost out n W) := by
  rw [hr] at h
  exact h

theorem run_shortL {m : Nat} : ∀ (cs : List Cmd) (ns : List Nd), Short m ns → ShortC m cs → Short m (runL ns cs).1
  | [], ns, h, _ => h
  | c :: cs, ns, h, hc => by
    cases ha : applyC ns c with
    | mk out b =>
      cases b with
      | false => rw [runL_cons_no (by rw [ha])]; exact h
      | true =>
        rw [runL_cons_yes ha]
        exact run_shortL cs out (apply_short2 ha h (hc c (by simp))).1 (fun x hx => hc x (List.mem_cons_of_mem _ hx))

theorem log_facts {ns out : List Nd} {cs : List Cmd} {n : Int} {m : Nat} (hr : logApply ns cs = (out, n)) (hs : Short m ns) (hc : ShortC m cs) : out.length ≤ 10 ∧ Short m out ∧ -1 ≤ n ∧ n ≤ cs.length := by
  have hl := logApply_len (ns := ns) (cs := cs)
  rw [hr] at hl
  refine ⟨hl, ?_⟩
  unfold logApply at hr
  split at hr
  · have e1 := congrArg Prod.fst hr
    have e2 := congrArg Prod.snd hr
    simp only at e1 e2
    have := runL_le cs ns
    exact ⟨by rw [← e1]; exact run_shortL cs ns hs hc, by omega, by omega⟩
  · have e1 := congrArg Prod.fst hr
    have e2 := congrArg Prod.snd hr
    simp only at e1 e2
    exact ⟨(by rw [← e1]; intro x hx; cases hx), by omega, by omega⟩

/-- What a pair tells, its two parts named. -/
def MPost (out : List Cmd) (b : Bool) (W : World) (e : Ending) (w' : World) : Prop :=
  ∃ sl, e = .returned (.tuple #[sl, .bool b]) ∧ w'.ownsRow W.heap.size 45 5 sl out.length (flatC out) ∧ Below W.heap.size W w'

theorem move_named {r : List Cmd × Bool} {out : List Cmd} {b : Bool} {W : World} {f : Nat} {args : Array Value} (hr : r = (out, b)) (h : Calls Tryz.prog f args W (MovePost r W)) : Calls Tryz.prog f args W (MPost out b W) := by
  rw [hr] at h
  exact h

theorem undo_short {m : Nat} {cs : List Cmd} (h : ShortC m cs) : ShortC m (undoL cs) ∧ (undoL cs).length ≤ cs.length := by
  unfold undoL
  split
  · refine ⟨fun x hx => ?_, by simp⟩
    obtain ⟨c, hc, rfl⟩ := List.mem_map.1 hx
    have := h c (List.mem_reverse.1 hc)
    unfold undoC
    split
    · exact this
    · exact Nat.zero_le _
  · exact ⟨fun x hx => (by cases hx), by simp⟩

theorem canon_short2 {m : Nat} {cs out : List Cmd} (hs : ShortC m cs) (hr : logCanon cs = (out, true)) : ShortC m out := fun c hc => by
  obtain ⟨_, _, _, _, h5, _⟩ := canon_some hr
  have hk := ((h5 c).1 hc).1
  refine Classical.byContradiction (fun hn => ?_)
  rw [unseen (fun ⟨d, hd, hp⟩ => hn (by rw [← hp]; exact hs d hd))] at hk
  cases hk

theorem canonDiff_short {ns ms : List Nd} {out : List Cmd} {b : Bool} (h : canonDiff ns ms = (out, b)) : ShortC 66 out ∧ out.length ≤ 20 := by
  unfold canonDiff at h
  split at h
  · rename_i hv
    rw [Bool.and_eq_true] at hv
    injection h with e _
    rw [← e]
    refine ⟨fun c hc => ?_, ?_⟩
    · have hc2 := (mem_sort (diff_nodup ns ms) c).1 hc
      have hv2 := vp_of_depth (diff_dep hv.1 hv.2 ((diff_mem hv.1 hv.2 c).1 hc2).1)
      obtain ⟨w, hw, e2⟩ := vpB_word hv2
      rw [e2]
      exact Nat.le_trans (pB_size hw) (by omega)
    · rw [sort_length (diff_nodup ns ms)]
      have := chg_bound hv.1 hv.2
      unfold diffL
      rw [List.length_map]
      exact this
  · injection h with e _
    rw [← e]
    exact ⟨fun c hc => (by cases hc), by simp⟩

set_option maxHeartbeats 4000000 in
set_option maxRecDepth 100000 in
theorem walk (a0 : Option Addr) (len0 cap0 : Nat) (z0 : List Int) (w : World) (w0 : IsRow .u8 w a0 len0 cap0 z0) (hE : CmdVars w) :
    Calls Tryz.prog 4 #[.slice a0 len0 cap0] w fun e w' => e = .returned (.bool true) ∧ Below w.heap.size w w' := by
  have HE := Lib.hid hE
  clear hE
  by_cases h : len0 ≤ 1048576
  · have hl : (len0 : Int) ≤ 1048576 := by omega
    have HD := Lib.hid (drawCanonDiff_c a0 len0 cap0 z0 w w0)
    clear h w0
    go_enter Tryz.func4, Tryz.ntmps4
    go_wp2_with fail
    refine HD.out.mono ?_
    rintro e W1 ⟨s1, ns, s2, ms, rfl, hd1, hd2⟩
    obtain ⟨a, cap, rfl, hn⟩ := nodes_of_own hd1.1
    obtain ⟨am, capm, rfl, hmm⟩ := nodes_of_own hd2.1
    have HBL := Lib.hid hd1.2.2.2
    have HNN := Lib.hid (And.intro hn hmm)
    have HL := Lib.hid (And.intro hd1.2.1 hd2.2.1)
    have HSH := Lib.hid (And.intro (hd1.2.2.1.mono (show 64 ≤ 66 by omega)) (hd2.2.2.1.mono (show 64 ≤ 66 by omega)))
    have HE1 := Lib.hid (HE.out.keep hd1.2.2.2)
    obtain ⟨out, b, hr⟩ : ∃ out b, canonDiff ns ms = (out, b) := ⟨_, _, rfl⟩
    have HR := Lib.hid hr
    have HOS := Lib.hid (canonDiff_short hr)
    have HOL := Lib.hid (canonDiff_short hr).2
    have hol' : (out.length : Int) ≤ 20 := by have := HOL.out; omega
    have HI := Lib.hid (fun W' (hb : Below W1.heap.size W1 W') => move_named hr (implCanonDiff_c a ns.length cap ns am ms.length capm ms (by have := HL.out.1; omega) (by have := HL.out.2; omega) (HSH.out.1.mono (by omega)) (HSH.out.2.mono (by omega)) W' (HNN.out.1.keep hb) (HNN.out.2.keep hb)))
    have HS := Lib.hid (fun W' (hb : Below W1.heap.size W1 W') => move_named hr (specCanonDiff_c a ns.length cap ns am ms.length capm ms (by have := HL.out.1; omega) (by have := HL.out.2; omega) (HSH.out.1.mono (by omega)) (HSH.out.2.mono (by omega)) W' (HNN.out.1.keep hb) (HNN.out.2.keep hb)))
    clear hd1 hd2 hn hmm hr
    go_wp2_with fail
    refine (HI.out _ (Below.refl _ _)).mono ?_
    rintro e W2 ⟨o1, rfl, ho1, hb2⟩
    have B2 := Lib.hid hb2
    clear hb2
    go_wp2_with fail
    refine (HS.out _ B2.out).mono ?_
    rintro e W3 ⟨o2, rfl, ho2, hb3⟩
    have B3 := Lib.hid (below_next B2.out hb3)
    have ho1' := own_below ho1 hb3
    obtain ⟨x1, p1, rfl, hc1⟩ := cmds_of_own ho1'
    obtain ⟨x2, p2, rfl, hc2⟩ := cmds_of_own ho2
    have HSM := Lib.hid (fun W' (hb : Below W3.heap.size W3 W') => sameLog_c x1 x2 out.length p1 p2 out (by have := HOL.out; omega) W' (hc1.keep hb) (hc2.keep hb))
    have HC1 := Lib.hid hc1
    clear ho1 ho2 hb3 ho1' hc1 hc2
    cases b with
    | false =>
      go_wp2_with fail
      refine (HSM.out _ (Below.refl _ _)).mono ?_
      rintro e W4 ⟨rfl, hb4⟩
      have X4 := Lib.hid hb4
      clear hb4
      go_wp2_with fail
      refine (HSM.out _ X4.out).mono ?_
      rintro e W5 ⟨rfl, hb5⟩
      go_wp2
      go_ret
      exact ⟨rfl, below_next HBL.out (below_next B3.out (below_next X4.out hb5))⟩
    | true =>
      go_wp2_with fail
      refine (HSM.out _ (Below.refl _ _)).mono ?_
      rintro e W4 ⟨rfl, hb4⟩
      have X4 := Lib.hid hb4
      clear hb4
      obtain ⟨hv1, hv2, hcv, hap, -⟩ := diff_told HR.out
      have HA := Lib.hid (fun W' (hb : Below W1.heap.size W1 W') (h : CmdsAt W' x1 out.length out) => log_named hap (implLogApply_c a ns.length cap ns x1 out.length p1 out (by have := HL.out.1; omega) (by have := HOL.out; omega) (HSH.out.1.mono (by omega)) (HOS.out.1.mono (by omega)) W' (HNN.out.1.keep hb) h (HE1.out.keep hb)))
      have HCV := Lib.hid (fun W' (hb : Below W3.heap.size W3 W') => show Calls Tryz.prog 18 #[.slice x1 out.length p1] W' (BoolPost true W') by rw [← hcv]; exact implCanonValid_c x1 out.length p1 out (by have := HOL.out; omega) (HOS.out.1.mono (by omega)) W' (HC1.out.keep hb))
      clear hv1 hv2 hcv hap
      go_wp2_with fail
      refine (HA.out _ (below_next B3.out X4.out) (HC1.out.keep X4.out)).mono ?_
      rintro e W5 ⟨s5, rfl, ho5, hb5⟩
      obtain ⟨x5, p5, rfl, hn5⟩ := nodes_of_own ho5
      have X5 := Lib.hid (below_next X4.out hb5)
      have HSX := Lib.hid (sameNodes_c x5 am ms.length p5 capm ms (by have := HL.out.2; omega) W5 hn5 (HNN.out.2.keep (below_next B3.out X5.out)))
      clear ho5 hb5 hn5
      go_wp2_with fail
      refine HSX.out.mono ?_
      rintro e W6 ⟨rfl, hb6⟩
      have X6 := Lib.hid (below_next X5.out hb6)
      clear hb6
      go_wp2_with fail
      refine (HCV.out _ X6.out).mono ?_
      rintro e W7 ⟨rfl, hb7⟩
      go_wp2
      go_ret
      exact ⟨rfl, below_next HBL.out (below_next B3.out (below_next X6.out hb7))⟩
  · have hl : (1048576 : Int) < len0 := by omega
    clear h w0
    go_enter Tryz.func4, Tryz.ntmps4
    go_wp2
    go_ret
    exact ⟨rfl, Below.refl _ _⟩


set_option maxRecDepth 100000 in
/-- What the walk gives, for every argument and every world that holds the listed variables. -/
theorem contract (H : Type) (enc : TypeId × Value → H) (W : World) (base : Nat) (args : Array Value) (ds gs : List (DataW H)) (before : List MemPlace)
    (hval0 : ∀ (j : Nat) t v, Tryz.f4.params[j]? = some t → args[j]? = some v → Value.okWide Tryz.prog W .any base t v)
    (hW : DataW.Whole enc Tryz.prog Tryz.f4.params.toList Rows.fnCanonDiffSpec.vars false W args.toList ds gs before) (hL : laidMetH Tryz.prog Rows.fnCanonDiffRow.laid W) (hsh : W.ShapedOpen Tryz.prog) :
    Calls Tryz.prog 4 args W fun e W' => ∃ v, e = .returned v ∧ Rows.fnCanonDiffSpec.post enc Tryz.prog Tryz.f4 false true false false W args v W' := by
  have hval : ∀ (j : Nat) t v, Tryz.f4.params[j]? = some t → args[j]? = some v → Value.okWide Tryz.prog W .any base t v := hval0
  have hW' := hW
  obtain ⟨p, q, hA0, hV, rfl, hfz, hnd⟩ := hW
  have hA : DataW.TrodAll enc Tryz.prog W 0 (fun _ => true) true Tryz.f4.params.toList args.toList ds p := hA0
  rw [Tryz.params4] at hA hval
  obtain ⟨v0, vs0, d0, ds0, p0, q0, hargs, rfl, rfl, h0, r0⟩ := trodAll_cons hA
  obtain ⟨rfl, rfl, rfl⟩ := trodAll_nil r0
  obtain rfl : args = #[v0] := by cases args; simp_all
  obtain ⟨_, _, _, _, e0, _, _, _, _, _, e1, _, rfl, -⟩ := trodVars_two hV
  obtain ⟨a0, len0, cap0, rfl⟩ := okWide_slice Tryz.underlying22 (hval 0 22 v0 rfl rfl)
  have k0 := h0
  have lt0 : ∀ x ∈ p0, x.block < W.heap.size := by obtain ⟨m, hm⟩ := k0; exact DataW.trod_lt m _ _ _ hm
  obtain ⟨z0, w0⟩ : ∃ zs, IsRow .u8 W a0 len0 cap0 zs := by
    obtain ⟨fuel, hf⟩ := h0
    rcases open_ints Tryz.underlying22 Tryz.underlying5 (by kernel_rfl) hf with ⟨hcs, _⟩ | ⟨x, l, c, zs, hcs, _, hl, hm, hz, _, hcell, hwz⟩
    · simp [Value.cells] at hcs
      obtain ⟨rfl, rfl, rfl⟩ := hcs
      exact ⟨[], .inl ⟨rfl, rfl, rfl, rfl⟩⟩
    · simp [Value.cells] at hcs
      obtain ⟨rfl, rfl, rfl⟩ := hcs
      exact ⟨zs, .inr ⟨_, rfl, hl, hm, by simpa using hz, hcell, hwz⟩⟩
  clear hA0 hval0
  refine (walk a0 len0 cap0 z0 W w0 (cmdVars_of hL (by kernel_rfl) (by kernel_rfl) (by kernel_rfl))).mono fun e W' ⟨he, bel⟩ => ?_
  subst he
  exact ⟨_, rfl, _, _, _, [], _, _, hW', trodAll_mk1 (shut_bool Tryz.underlying4 _), (trodAll_cons_mk (Below.trod laidOut (by kernel_rfl) (of_decide_eq_true (by kernel_rfl)) k0 bel lt0) trodAll_mk0), Below.trodVars laidOut bel (by kernel_rfl) hV, bel.frame _, fun h => by cases h⟩

theorem laid_met (os : Os) : laidMet Tryz.prog Rows.fnCanonDiffRow.laid ((World.laidAll Tryz.prog os Rows.fnCanonDiffRow.laid).forCall (fun _ _ => 0) ⟨#[], #[.slice none 0 0], []⟩).memory :=
  laidMet_laidAll _ (by kernel_rfl) (by kernel_rfl)
theorem reads (os : Os) {H : Type} (enc : TypeId × Value → H) : ∃ x, DataW.whole enc Tryz.prog ((World.laidAll Tryz.prog os Rows.fnCanonDiffRow.laid).forCall (fun _ _ => 0) ⟨#[], #[.slice none 0 0], []⟩).memory Tryz.f4.params.toList Rows.fnCanonDiffSpec.vars false #[Value.slice none 0 0].toList 8 = some x :=
  Option.isSome_iff_exists.1 (by kernel_rfl)

set_option maxRecDepth 100000 in
theorem lifted (os : Os) (started : os.Started) (H : Type) (enc : TypeId × Value → H) (F : Stop.Interp) :
    ReturnsInHanded {} Tryz.checked os 4 .any ((OpenSpec.ofChange Rows.fnCanonDiffSpec).preRow enc Tryz.prog Tryz.f4 Rows.fnCanonDiffRow.domain false Rows.fnCanonDiffRow.laid) (((OpenSpec.ofChange Rows.fnCanonDiffSpec).at F).post enc Tryz.prog Tryz.f4 false true false false) := by
  obtain ⟨x, hx⟩ := reads os enc
  refine returnsInHanded_of_row (C := Tryz.checked) (s := OpenSpec.ofChange Rows.fnCanonDiffSpec) own started (by kernel_rfl) Tryz.func4
    (witness_row_atRef (enc := enc) (C := Tryz.checked) false (World.laidAll Tryz.prog os Rows.fnCanonDiffRow.laid) #[.slice none 0 0] rfl (by kernel_rfl) (by kernel_rfl) (by kernel_rfl)
      (OpenSpec.preRow_of_cond 8 hx (by kernel_rfl) (fun k hk => by cases hk) (by kernel_rfl) (laid_met os))) ?_
  intro W base args ds gs before hval hW _ _ _ hL hsh _
  exact contract H enc W base args ds gs before hval hW hL hsh

theorem said : Rows.FnCanonDiffSaid :=
  OpenClaim.holds_of_cond 4 Tryz.f4 rfl rfl rfl rfl rfl rfl rfl ⟨rfl, rfl, rfl, rfl, rfl⟩ rfl rfl rfl rfl rfl (by kernel_rfl) Tryz.func4 (by kernel_rfl)
    (of_decide_eq_true (by kernel_rfl)) (by unfold Func.isWrapper; first | (rw [if_pos (by decide +kernel)]; kernel_rfl) | (rw [if_neg (by decide +kernel)]; exact ⟨rfl, rfl⟩))
    (fun os started H enc _ F => by rw [OpenClaim.pre_eq_preRow]; exact lifted os started H enc F)

/-- No parameter wants a stand-in; the program's own looks: what the card asks. -/
theorem plain (f : FuncId) (fn : Func) (hf : Tryz.pinned.checked.prog.funcNamed Rows.fnCanonDiffRow.func = some f) (hfn : Tryz.pinned.checked.prog.funcs[f]? = some fn) :
    true = Tryz.pinned.checked.prog.looks [] ∧ ∀ (j : Nat) t, fn.params[j]? = some t → Tryz.pinned.checked.prog.wantsStandIn t = false := by
  obtain rfl : f = 4 := Option.some.inj ((show Tryz.prog.funcNamed Rows.fnCanonDiffRow.func = some 4 by kernel_rfl).symm.trans hf) |>.symm
  obtain rfl : fn = Tryz.f4 := (Option.some.inj (Tryz.func4.symm.trans hfn)).symm
  refine ⟨by kernel_rfl, fun j t ht => ?_⟩
  rw [Tryz.params4] at ht
  have hm := Array.mem_of_getElem? ht
  simp at hm
  rcases hm with rfl
  · exact (show Tryz.prog.wantsStandIn 22 = false by kernel_rfl)

/-- THE CARD. -/
theorem card : Rows.FnCanonDiffCardSaid :=
  Claim7.holds_tied_plain_at .later [] _ _ _ _ said (fun _ h => by cases h) (by kernel_rfl) (fun _ h => by cases h) fnCanonDiff_row_tie rfl ⟨rfl, rfl⟩ (by kernel_rfl) rfl plain (by kernel_rfl)
end Go.Proofs.YtnboodcllmdjeaaGreatDoor.fnCanonDiff
