/-
  laws.FnCanonIsDiff returns true for every input, and leaves its arguments as they were.
  Conditions: none of ours; the package-level variables that its row lists hold what the program's text lays (the given tie).
-/
import Derived.Test.YtnboodcllmdjeaaGreatDoorRows
import Derived.Test.YtnboodcllmdjeaaGreatDoorCards
import Derived.Test.YtnboodcllmdjeaaGreatDoorTie
import Derived.WalkKit
import Derived.ProofKit
import Derived.OpenShut
import Derived.ShutString
import Derived.ChangeOld
import Derived.Below
import Derived.Deep.DeepHandedRow
import Derived.Deep.DeepWitnessRowRef
import Derived.Lib.LaidTab
import Derived.LaidMore
import Derived.OpenVars
import Derived.Lay
import Derived.Test.YtnboodcllmdjeaaGreatDoorQ8
import Derived.Test.YtnboodcllmdjeaaGreatDoorQ10
import Derived.Test.YtnboodcllmdjeaaGreatDoorQ9
namespace Go.Proofs.YtnboodcllmdjeaaGreatDoor.fnCanonIsDiff
open Go.ChangeShapes Go.WideShapes Go.ChangeAt Go.RowKit
open Go.ChangeMaps (open_string shut_string)
set_option linter.unusedVariables false

theorem own : ownKnob Tryz.prog.godebug = none := by kernel_rfl
theorem laidOut : laidOutB Tryz.prog = true := by kernel_rfl

/-- What LogApply tells, its two parts named. -/
def LPost (out : List Nd) (n : Int) (W : World) (e : Ending) (w' : World) : Prop :=
  ∃ sl, e = .returned (.tuple #[sl, .int .i64 n]) ∧ w'.ownsRow W.heap.size 53 3 sl out.length (flatN out) ∧ Below W.heap.size W w'

theorem log_named {ns out : List Nd} {cs : List Cmd} {n : Int} {W : World} {f : Nat} {args : Array Value} (hr : logApply ns cs = (out, n)) (h : Calls Tryz.prog f args W (LogPost (logApply ns cs) W)) : Calls Tryz.prog f args W (LPost out n W) := by
  rw [hr] at h
  exact h

theorem run_shortL {m : Nat} : ∀ (cs : List Cmd) (ns : List Nd), Short m ns → ShortC m cs → Short m (runL ns cs).1
  | [], ns, h, _ => h
  | c :: cs, ns, h, hc => by
    cases ha : applyC ns c with
    | mk out b =>
      cases b with
      | false => rw [runL_cons_no (by rw [ha])]; exact h
      | true =>
        rw [runL_cons_yes ha]
        exact run_shortL cs out (apply_short2 ha h (hc c (by simp))).1 (fun x hx => hc x (List.mem_cons_of_mem _ hx))

theorem log_facts {ns out : List Nd} {cs : List Cmd} {n : Int} {m : Nat} (hr : logApply ns cs = (out, n)) (hs : Short m ns) (hc : ShortC m cs) : out.length ≤ 10 ∧ Short m out ∧ -1 ≤ n ∧ n ≤ cs.length := by
  have hl := logApply_len (ns := ns) (cs := cs)
  rw [hr] at hl
  refine ⟨hl, ?_⟩
  unfold logApply at hr
  split at hr
  · have e1 := congrArg Prod.fst hr
    have e2 := congrArg Prod.snd hr
    simp only at e1 e2
    have := runL_le cs ns
    exact ⟨by rw [← e1]; exact run_shortL cs ns hs hc, by omega, by omega⟩
  · have e1 := congrArg Prod.fst hr
    have e2 := congrArg Prod.snd hr
    simp only at e1 e2
    exact ⟨(by rw [← e1]; intro x hx; cases hx), by omega, by omega⟩

/-- What a pair tells, its two parts named. -/
def MPost (out : List Cmd) (b : Bool) (W : World) (e : Ending) (w' : World) : Prop :=
  ∃ sl, e = .returned (.tuple #[sl, .bool b]) ∧ w'.ownsRow W.heap.size 45 5 sl out.length (flatC out) ∧ Below W.heap.size W w'

theorem move_named {r : List Cmd × Bool} {out : List Cmd} {b : Bool} {W : World} {f : Nat} {args : Array Value} (hr : r = (out, b)) (h : Calls Tryz.prog f args W (MovePost r W)) : Calls Tryz.prog f args W (MPost out b W) := by
  rw [hr] at h
  exact h

theorem undo_short {m : Nat} {cs : List Cmd} (h : ShortC m cs) : ShortC m (undoL cs) ∧ (undoL cs).length ≤ cs.length := by
  unfold undoL
  split
  · refine ⟨fun x hx => ?_, by simp⟩
    obtain ⟨c, hc, rfl⟩ := List.mem_map.1 hx
    have := h c (List.mem_reverse.1 hc)
    unfold undoC
    split
    · exact this
    · exact Nat.zero_le _
  · exact ⟨fun x hx => (by cases hx), by simp⟩

theorem canon_short2 {m : Nat} {cs out : List Cmd} (hs : ShortC m cs) (hr : logCanon cs = (out, true)) : ShortC m out := fun c hc => by
  obtain ⟨_, _, _, _, h5, _⟩ := canon_some hr
  have hk := ((h5 c).1 hc).1
  refine Classical.byContradiction (fun hn => ?_)
  rw [unseen (fun ⟨d, hd, hp⟩ => hn (by rw [← hp]; exact hs d hd))] at hk
  cases hk

theorem canonDiff_short {ns ms : List Nd} {out : List Cmd} {b : Bool} (h : canonDiff ns ms = (out, b)) : ShortC 66 out ∧ out.length ≤ 20 := by
  unfold canonDiff at h
  split at h
  · rename_i hv
    rw [Bool.and_eq_true] at hv
    injection h with e _
    rw [← e]
    refine ⟨fun c hc => ?_, ?_⟩
    · have hc2 := (mem_sort (diff_nodup ns ms) c).1 hc
      have hv2 := vp_of_depth (diff_dep hv.1 hv.2 ((diff_mem hv.1 hv.2 c).1 hc2).1)
      obtain ⟨w, hw, e2⟩ := vpB_word hv2
      rw [e2]
      exact Nat.le_trans (pB_size hw) (by omega)
    · rw [sort_length (diff_nodup ns ms)]
      have := chg_bound hv.1 hv.2
      unfold diffL
      rw [List.length_map]
      exact this
  · injection h with e _
    rw [← e]
    exact ⟨fun c hc => (by cases hc), by simp⟩

set_option maxHeartbeats 4000000 in
set_option maxRecDepth 100000 in
theorem walk (a0 : Option Addr) (len0 cap0 : Nat) (z0 : List Int) (w : World) (w0 : IsRow .u8 w a0 len0 cap0 z0) (hE : CmdVars w) :
    Calls Tryz.prog 5 #[.slice a0 len0 cap0] w fun e w' => e = .returned (.bool true) ∧ Below w.heap.size w w' := by
  have HE := Lib.hid hE
  clear hE
  by_cases h : len0 ≤ 1048576
  · have hl : (len0 : Int) ≤ 1048576 := by omega
    have HD := Lib.hid (drawLogFits_c a0 len0 cap0 z0 w w0)
    clear h w0
    go_enter Tryz.func5, Tryz.ntmps5
    go_wp2_with fail
    refine HD.out.mono ?_
    rintro e W1 ⟨sl, ns, sv, cs, rfl, hd, hoc, hcl, hcs⟩
    obtain ⟨a, cap, rfl, hn⟩ := nodes_of_own hd.1
    obtain ⟨ac, cc, rfl, hc⟩ := cmds_of_own hoc
    have HN := Lib.hid hn
    have HC := Lib.hid hc
    have hlen := hd.2.1
    have HL := Lib.hid hlen
    have hsh := hd.2.2.1.mono (show 64 ≤ 66 by omega)
    have HSH := Lib.hid hsh
    have HBL := Lib.hid hd.2.2.2
    have HE1 := Lib.hid (HE.out.keep hd.2.2.2)
    have HCL := Lib.hid hcl
    have HCS := Lib.hid hcs
    obtain ⟨vf, hvf⟩ : ∃ vf, fitsL ns cs = vf := ⟨_, rfl⟩
    have HI := Lib.hid (show Calls Tryz.prog 9 #[.slice a ns.length cap, .slice ac cs.length cc] W1 (BoolPost vf W1) by rw [← hvf]; exact implLogFits_c a ns.length cap ns ac cs.length cc cs (by omega) (by omega) (hsh.mono (by omega)) (hcs.mono (by omega)) W1 hn hc HE1.out)
    have HS := Lib.hid (fun W' (hb : Below W1.heap.size W1 W') => show Calls Tryz.prog 10 #[.slice a ns.length cap, .slice ac cs.length cc] W' (BoolPost vf W') by rw [← hvf]; exact specLogFits_c a ns.length cap ns ac cs.length cc cs (by omega) (by omega) (hsh.mono (by omega)) (hcs.mono (by omega)) W' (hn.keep hb) (hc.keep hb))
    have HVF := Lib.hid hvf
    have hcl21 : (cs.length : Int) ≤ 21 := by omega
    clear hn hc hd hoc hsh hcs hcl hlen hvf
    go_wp2_with fail
    refine HI.out.mono ?_
    rintro e W2 ⟨rfl, hb2⟩
    have B2 := Lib.hid hb2
    clear hb2
    go_wp2_with fail
    refine (HS.out _ B2.out).mono ?_
    rintro e W3 ⟨rfl, hb3⟩
    have B3 := Lib.hid (below_next B2.out hb3)
    clear hb3
    cases vf with
    | false =>
      go_wp2
      go_ret
      exact ⟨rfl, below_next HBL.out B3.out⟩
    | true =>
      obtain ⟨x, hap, hvo⟩ := fits_apply HVF.out
      have HF := Lib.hid (log_facts hap HSH.out HCS.out)
      have HA1 := Lib.hid (fun W' (hb : Below W1.heap.size W1 W') => log_named hap (implLogApply_c a ns.length cap ns ac cs.length cc cs (by have := HL.out; omega) (by have := HCL.out; omega) (HSH.out.mono (by omega)) (HCS.out.mono (by omega)) W' (HN.out.keep hb) (HC.out.keep hb) (HE1.out.keep hb)))
      obtain ⟨hcn, hdf⟩ := canon_diff HVF.out hap
      obtain ⟨out, ho⟩ : ∃ o, sortK (diffL ns x) = o := ⟨_, rfl⟩
      rw [ho] at hcn hdf
      have HOL := Lib.hid (canonDiff_short hdf).2
      have HLC := Lib.hid (fun W' (hb : Below W1.heap.size W1 W') => move_named hcn (logCanon_c ac cs.length cc cs (by have := HCL.out; omega) (HCS.out.mono (by omega)) W' (HC.out.keep hb)))
      have HDF := Lib.hid (fun y (q : Nat) W' (hb : Below W1.heap.size W1 W') (h : NodesAt W' y x.length x) => move_named hdf (implCanonDiff_c a ns.length cap ns y x.length q x (by have := HL.out; omega) (by have := HF.out.1; omega) (HSH.out.mono (by omega)) (HF.out.2.1.mono (by omega)) W' (HN.out.keep hb) h))
      clear hap hvo hcn hdf ho
      go_wp2_with fail
      refine (HA1.out _ B3.out).mono ?_
      rintro e W4 ⟨s4, rfl, ho4, hb4⟩
      obtain ⟨x4, p4, rfl, hn4⟩ := nodes_of_own ho4
      have B4 := Lib.hid (below_next B3.out hb4)
      have HN4 := Lib.hid hn4
      clear ho4 hn4 hb4
      go_wp2_with fail
      refine (HLC.out _ B4.out).mono ?_
      rintro e W5 ⟨s5, rfl, ho5, hb5⟩
      obtain ⟨x5, p5, rfl, hc5⟩ := cmds_of_own ho5
      have B5 := Lib.hid (below_next B4.out hb5)
      have HC5 := Lib.hid hc5
      replace HN4 := Lib.hid (HN4.out.keep hb5)
      clear ho5 hb5 hc5
      go_wp2_with fail
      refine (HDF.out _ _ _ B5.out HN4.out).mono ?_
      rintro e W6 ⟨s6, rfl, ho6, hb6⟩
      obtain ⟨x6, p6, rfl, hc6⟩ := cmds_of_own ho6
      have B6 := Lib.hid (below_next B5.out hb6)
      have HSM := Lib.hid (sameLog_c x5 x6 out.length p5 p6 out (by have := HOL.out; omega) W6 (HC5.out.keep hb6) hc6)
      clear ho6 hb6 hc6
      go_wp2_with fail
      refine HSM.out.mono ?_
      rintro e W7 ⟨rfl, hb7⟩
      go_wp2
      go_ret
      exact ⟨rfl, below_next HBL.out (below_next B6.out hb7)⟩
  · have hl : (1048576 : Int) < len0 := by omega
    clear h w0
    go_enter Tryz.func5, Tryz.ntmps5
    go_wp2
    go_ret
    exact ⟨rfl, Below.refl _ _⟩


set_option maxRecDepth 100000 in
/-- What the walk gives, for every argument and every world that holds the listed variables. -/
theorem contract (H : Type) (enc : TypeId × Value → H) (W : World) (base : Nat) (args : Array Value) (ds gs : List (DataW H)) (before : List MemPlace)
    (hval0 : ∀ (j : Nat) t v, Tryz.f5.params[j]? = some t → args[j]? = some v → Value.okWide Tryz.prog W .any base t v)
    (hW : DataW.Whole enc Tryz.prog Tryz.f5.params.toList Rows.fnCanonIsDiffSpec.vars false W args.toList ds gs before) (hL : laidMetH Tryz.prog Rows.fnCanonIsDiffRow.laid W) (hsh : W.ShapedOpen Tryz.prog) :
    Calls Tryz.prog 5 args W fun e W' => ∃ v, e = .returned v ∧ Rows.fnCanonIsDiffSpec.post enc Tryz.prog Tryz.f5 false true false false W args v W' := by
  have hval : ∀ (j : Nat) t v, Tryz.f5.params[j]? = some t → args[j]? = some v → Value.okWide Tryz.prog W .any base t v := hval0
  have hW' := hW
  obtain ⟨p, q, hA0, hV, rfl, hfz, hnd⟩ := hW
  have hA : DataW.TrodAll enc Tryz.prog W 0 (fun _ => true) true Tryz.f5.params.toList args.toList ds p := hA0
  rw [Tryz.params5] at hA hval
  obtain ⟨v0, vs0, d0, ds0, p0, q0, hargs, rfl, rfl, h0, r0⟩ := trodAll_cons hA
  obtain ⟨rfl, rfl, rfl⟩ := trodAll_nil r0
  obtain rfl : args = #[v0] := by cases args; simp_all
  obtain ⟨_, _, _, _, e0, _, _, _, _, _, e1, _, rfl, -⟩ := trodVars_two hV
  obtain ⟨a0, len0, cap0, rfl⟩ := okWide_slice Tryz.underlying22 (hval 0 22 v0 rfl rfl)
  have k0 := h0
  have lt0 : ∀ x ∈ p0, x.block < W.heap.size := by obtain ⟨m, hm⟩ := k0; exact DataW.trod_lt m _ _ _ hm
  obtain ⟨z0, w0⟩ : ∃ zs, IsRow .u8 W a0 len0 cap0 zs := by
    obtain ⟨fuel, hf⟩ := h0
    rcases open_ints Tryz.underlying22 Tryz.underlying5 (by kernel_rfl) hf with ⟨hcs, _⟩ | ⟨x, l, c, zs, hcs, _, hl, hm, hz, _, hcell, hwz⟩
    · simp [Value.cells] at hcs
      obtain ⟨rfl, rfl, rfl⟩ := hcs
      exact ⟨[], .inl ⟨rfl, rfl, rfl, rfl⟩⟩
    · simp [Value.cells] at hcs
      obtain ⟨rfl, rfl, rfl⟩ := hcs
      exact ⟨zs, .inr ⟨_, rfl, hl, hm, by simpa using hz, hcell, hwz⟩⟩
  clear hA0 hval0
  refine (walk a0 len0 cap0 z0 W w0 (cmdVars_of hL (by kernel_rfl) (by kernel_rfl) (by kernel_rfl))).mono fun e W' ⟨he, bel⟩ => ?_
  subst he
  exact ⟨_, rfl, _, _, _, [], _, _, hW', trodAll_mk1 (shut_bool Tryz.underlying4 _), (trodAll_cons_mk (Below.trod laidOut (by kernel_rfl) (of_decide_eq_true (by kernel_rfl)) k0 bel lt0) trodAll_mk0), Below.trodVars laidOut bel (by kernel_rfl) hV, bel.frame _, fun h => by cases h⟩

theorem laid_met (os : Os) : laidMet Tryz.prog Rows.fnCanonIsDiffRow.laid ((World.laidAll Tryz.prog os Rows.fnCanonIsDiffRow.laid).forCall (fun _ _ => 0) ⟨#[], #[.slice none 0 0], []⟩).memory :=
  laidMet_laidAll _ (by kernel_rfl) (by kernel_rfl)
theorem reads (os : Os) {H : Type} (enc : TypeId × Value → H) : ∃ x, DataW.whole enc Tryz.prog ((World.laidAll Tryz.prog os Rows.fnCanonIsDiffRow.laid).forCall (fun _ _ => 0) ⟨#[], #[.slice none 0 0], []⟩).memory Tryz.f5.params.toList Rows.fnCanonIsDiffSpec.vars false #[Value.slice none 0 0].toList 8 = some x :=
  Option.isSome_iff_exists.1 (by kernel_rfl)

set_option maxRecDepth 100000 in
theorem lifted (os : Os) (started : os.Started) (H : Type) (enc : TypeId × Value → H) (F : Stop.Interp) :
    ReturnsInHanded {} Tryz.checked os 5 .any ((OpenSpec.ofChange Rows.fnCanonIsDiffSpec).preRow enc Tryz.prog Tryz.f5 Rows.fnCanonIsDiffRow.domain false Rows.fnCanonIsDiffRow.laid) (((OpenSpec.ofChange Rows.fnCanonIsDiffSpec).at F).post enc Tryz.prog Tryz.f5 false true false false) := by
  obtain ⟨x, hx⟩ := reads os enc
  refine returnsInHanded_of_row (C := Tryz.checked) (s := OpenSpec.ofChange Rows.fnCanonIsDiffSpec) own started (by kernel_rfl) Tryz.func5
    (witness_row_atRef (enc := enc) (C := Tryz.checked) false (World.laidAll Tryz.prog os Rows.fnCanonIsDiffRow.laid) #[.slice none 0 0] rfl (by kernel_rfl) (by kernel_rfl) (by kernel_rfl)
      (OpenSpec.preRow_of_cond 8 hx (by kernel_rfl) (fun k hk => by cases hk) (by kernel_rfl) (laid_met os))) ?_
  intro W base args ds gs before hval hW _ _ _ hL hsh _
  exact contract H enc W base args ds gs before hval hW hL hsh

theorem said : Rows.FnCanonIsDiffSaid :=
  OpenClaim.holds_of_cond 5 Tryz.f5 rfl rfl rfl rfl rfl rfl rfl ⟨rfl, rfl, rfl, rfl, rfl⟩ rfl rfl rfl rfl rfl (by kernel_rfl) Tryz.func5 (by kernel_rfl)
    (of_decide_eq_true (by kernel_rfl)) (by unfold Func.isWrapper; first | (rw [if_pos (by decide +kernel)]; kernel_rfl) | (rw [if_neg (by decide +kernel)]; exact ⟨rfl, rfl⟩))
    (fun os started H enc _ F => by rw [OpenClaim.pre_eq_preRow]; exact lifted os started H enc F)

/-- No parameter wants a stand-in; the program's own looks: what the card asks. -/
theorem plain (f : FuncId) (fn : Func) (hf : Tryz.pinned.checked.prog.funcNamed Rows.fnCanonIsDiffRow.func = some f) (hfn : Tryz.pinned.checked.prog.funcs[f]? = some fn) :
    true = Tryz.pinned.checked.prog.looks [] ∧ ∀ (j : Nat) t, fn.params[j]? = some t → Tryz.pinned.checked.prog.wantsStandIn t = false := by
  obtain rfl : f = 5 := Option.some.inj ((show Tryz.prog.funcNamed Rows.fnCanonIsDiffRow.func = some 5 by kernel_rfl).symm.trans hf) |>.symm
  obtain rfl : fn = Tryz.f5 := (Option.some.inj (Tryz.func5.symm.trans hfn)).symm
  refine ⟨by kernel_rfl, fun j t ht => ?_⟩
  rw [Tryz.params5] at ht
  have hm := Array.mem_of_getElem? ht
  simp at hm
  rcases hm with rfl
  · exact (show Tryz.prog.wantsStandIn 22 = false by kernel_rfl)

/-- THE CARD. -/
theorem card : Rows.FnCanonIsDiffCardSaid :=
  Claim7.holds_tied_plain_at .later [] _ _ _ _ said (fun _ h => by cases h) (by kernel_rfl) (fun _ h => by cases h) fnCanonIsDiff_row_tie rfl ⟨rfl, rfl⟩ (by kernel_rfl) rfl plain (by kernel_rfl)
end Go.Proofs.YtnboodcllmdjeaaGreatDoor.fnCanonIsDiff
