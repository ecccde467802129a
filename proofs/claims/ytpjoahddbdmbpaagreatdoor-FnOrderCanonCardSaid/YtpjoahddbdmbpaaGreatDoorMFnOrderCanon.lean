/-
  laws.FnOrderCanon returns true for every input, and leaves its arguments as they were.
  Conditions: none of ours; the package-level variables that its row lists hold what the program's text lays (the given tie).
-/
import Derived.Test.YtpjoahddbdmbpaaGreatDoorRows
import Derived.Test.YtpjoahddbdmbpaaGreatDoorCards
import Derived.Test.YtpjoahddbdmbpaaGreatDoorTie
import Derived.WalkKit
import Derived.ProofKit
import Derived.OpenShut
import Derived.ShutString
import Derived.ChangeOld
import Derived.Below
import Derived.Deep.DeepHandedRow
import Derived.Deep.DeepWitnessRowRef
import Derived.Lib.LaidTab
import Derived.LaidMore
import Derived.OpenVars
import Derived.Lay
import Derived.Test.YtpjoahddbdmbpaaGreatDoorQ9
import Derived.Test.YtpjoahddbdmbpaaGreatDoorQ10
import Derived.Test.YtpjoahddbdmbpaaGreatDoorQ11
namespace Go.Proofs.YtpjoahddbdmbpaaGreatDoor.fnOrderCanon
open Go.ChangeShapes Go.WideShapes Go.ChangeAt Go.RowKit
open Go.ChangeMaps (open_string shut_string)
set_option linter.unusedVariables false

theorem own : ownKnob Tryz.prog.godebug = none := by kernel_rfl
theorem laidOut : laidOutB Tryz.prog = true := by kernel_rfl

/-- What a pair tells, its two parts named. -/
def MPost (out : List Cmd) (b : Bool) (W : World) (e : Ending) (w' : World) : Prop :=
  ∃ sl, e = .returned (.tuple #[sl, .bool b]) ∧ w'.ownsRow W.heap.size 36 5 sl out.length (flatC out) ∧ Below W.heap.size W w'

theorem move_named {r : List Cmd × Bool} {out : List Cmd} {b : Bool} {W : World} {f : Nat} {args : Array Value} (hr : r = (out, b)) (h : Calls Tryz.prog f args W (MovePost r W)) : Calls Tryz.prog f args W (MPost out b W) := by
  rw [hr] at h
  exact h

theorem canon_short2 {m : Nat} {cs out : List Cmd} (hs : ShortC m cs) (hr : logCanon cs = (out, true)) : ShortC m out := fun c hc => by
  obtain ⟨_, _, _, _, h5, _⟩ := canon_some hr
  have hk := ((h5 c).1 hc).1
  refine Classical.byContradiction (fun hn => ?_)
  rw [unseen (fun ⟨d, hd, hp⟩ => hn (by rw [← hp]; exact hs d hd))] at hk
  cases hk

set_option maxHeartbeats 4000000 in
set_option maxRecDepth 100000 in
theorem walk (a0 : Option Addr) (len0 cap0 : Nat) (z0 : List Int) (w : World) (w0 : IsRow .u8 w a0 len0 cap0 z0) (hE : CmdVars w) :
    Calls Tryz.prog 3 #[.slice a0 len0 cap0] w fun e w' => e = .returned (.bool true) ∧ Below w.heap.size w w' := by
  have HE := Lib.hid hE
  clear hE
  by_cases h : len0 ≤ 1048576
  · have hl : (len0 : Int) ≤ 1048576 := by omega
    have HD := Lib.hid (drawLogFits_c a0 len0 cap0 z0 w w0)
    clear h w0
    go_enter Tryz.func3, Tryz.ntmps3
    go_wp2_with fail
    refine HD.out.mono ?_
    rintro e W1 ⟨sl, ns, sv, cs, rfl, hd, hoc, hcl, hcs⟩
    obtain ⟨a, cap, rfl, hn⟩ := nodes_of_own hd.1
    obtain ⟨ac, cc, rfl, hc⟩ := cmds_of_own hoc
    have HN := Lib.hid hn
    have HC := Lib.hid hc
    have hlen := hd.2.1
    have HL := Lib.hid hlen
    have hsh := hd.2.2.1.mono (show 64 ≤ 66 by omega)
    have HSH := Lib.hid hsh
    have HBL := Lib.hid hd.2.2.2
    have HE1 := Lib.hid (HE.out.keep hd.2.2.2)
    have HCL := Lib.hid hcl
    have HCS := Lib.hid hcs
    obtain ⟨vf, hvf⟩ : ∃ vf, fitsL ns cs = vf := ⟨_, rfl⟩
    have HI := Lib.hid (show Calls Tryz.prog 6 #[.slice a ns.length cap, .slice ac cs.length cc] W1 (BoolPost vf W1) by rw [← hvf]; exact implLogFits_c a ns.length cap ns ac cs.length cc cs (by omega) (by omega) (hsh.mono (by omega)) (hcs.mono (by omega)) W1 hn hc HE1.out)
    have HS := Lib.hid (fun W' (hb : Below W1.heap.size W1 W') => show Calls Tryz.prog 7 #[.slice a ns.length cap, .slice ac cs.length cc] W' (BoolPost vf W') by rw [← hvf]; exact specLogFits_c a ns.length cap ns ac cs.length cc cs (by omega) (by omega) (hsh.mono (by omega)) (hcs.mono (by omega)) W' (hn.keep hb) (hc.keep hb))
    have HVF := Lib.hid hvf
    have hcl21 : (cs.length : Int) ≤ 21 := by omega
    clear hn hc hd hoc hsh hcs hcl hlen hvf
    go_wp2_with fail
    refine HI.out.mono ?_
    rintro e W2 ⟨rfl, hb2⟩
    have B2 := Lib.hid hb2
    clear hb2
    go_wp2_with fail
    refine (HS.out _ B2.out).mono ?_
    rintro e W3 ⟨rfl, hb3⟩
    have B3 := Lib.hid (below_next B2.out hb3)
    clear hb3
    cases vf with
    | false =>
      go_wp2
      go_ret
      exact ⟨rfl, below_next HBL.out B3.out⟩
    | true =>
      obtain ⟨x, hap, hvo⟩ := fits_apply HVF.out
      obtain ⟨out, hcn, hax, hol⟩ := canon_same HVF.out hap
      have hov := order_canon HVF.out hcn
      have HOS := Lib.hid (canon_short2 HCS.out hcn)
      have HOL := Lib.hid hol
      have hol' : (out.length : Int) ≤ 20 := by omega
      have HLC := Lib.hid (fun W' (hb : Below W1.heap.size W1 W') => move_named hcn (logCanon_c ac cs.length cc cs (by have := HCL.out; omega) (HCS.out.mono (by omega)) W' (HC.out.keep hb)))
      have HOF := Lib.hid (fun y (q : Nat) W' (h : CmdsAt W' y out.length out) => show Calls Tryz.prog 9 #[.slice y out.length q] W' (BoolPost true W') by rw [← hov]; exact implOrderFits_c y out.length q out (by have := HOL.out; omega) (HOS.out.mono (by omega)) W' h)
      clear hap hvo hcn hax hol hov
      go_wp2_with fail
      refine (HLC.out _ B3.out).mono ?_
      rintro e W5 ⟨s5, rfl, ho5, hb5⟩
      obtain ⟨x5, p5, rfl, hc5⟩ := cmds_of_own ho5
      have B5 := Lib.hid (below_next B3.out hb5)
      have HC5 := Lib.hid hc5
      clear ho5 hb5 hc5
      go_wp2_with fail
      refine (HOF.out _ _ _ HC5.out).mono ?_
      rintro e W6 ⟨rfl, hb6⟩
      go_wp2
      go_ret
      exact ⟨rfl, below_next HBL.out (below_next B5.out hb6)⟩
  · have hl : (1048576 : Int) < len0 := by omega
    clear h w0
    go_enter Tryz.func3, Tryz.ntmps3
    go_wp2
    go_ret
    exact ⟨rfl, Below.refl _ _⟩


set_option maxRecDepth 100000 in
/-- What the walk gives, for every argument and every world that holds the listed variables. -/
theorem contract (H : Type) (enc : TypeId × Value → H) (W : World) (base : Nat) (args : Array Value) (ds gs : List (DataW H)) (before : List MemPlace)
    (hval0 : ∀ (j : Nat) t v, Tryz.f3.params[j]? = some t → args[j]? = some v → Value.okWide Tryz.prog W .any base t v)
    (hW : DataW.Whole enc Tryz.prog Tryz.f3.params.toList Rows.fnOrderCanonSpec.vars false W args.toList ds gs before) (hL : laidMetH Tryz.prog Rows.fnOrderCanonRow.laid W) (hsh : W.ShapedOpen Tryz.prog) :
    Calls Tryz.prog 3 args W fun e W' => ∃ v, e = .returned v ∧ Rows.fnOrderCanonSpec.post enc Tryz.prog Tryz.f3 false true false false W args v W' := by
  have hval : ∀ (j : Nat) t v, Tryz.f3.params[j]? = some t → args[j]? = some v → Value.okWide Tryz.prog W .any base t v := hval0
  have hW' := hW
  obtain ⟨p, q, hA0, hV, rfl, hfz, hnd⟩ := hW
  have hA : DataW.TrodAll enc Tryz.prog W 0 (fun _ => true) true Tryz.f3.params.toList args.toList ds p := hA0
  rw [Tryz.params3] at hA hval
  obtain ⟨v0, vs0, d0, ds0, p0, q0, hargs, rfl, rfl, h0, r0⟩ := trodAll_cons hA
  obtain ⟨rfl, rfl, rfl⟩ := trodAll_nil r0
  obtain rfl : args = #[v0] := by cases args; simp_all
  obtain ⟨_, _, _, _, e0, _, _, _, _, _, e1, _, rfl, -⟩ := trodVars_two hV
  obtain ⟨a0, len0, cap0, rfl⟩ := okWide_slice Tryz.underlying22 (hval 0 22 v0 rfl rfl)
  have k0 := h0
  have lt0 : ∀ x ∈ p0, x.block < W.heap.size := by obtain ⟨m, hm⟩ := k0; exact DataW.trod_lt m _ _ _ hm
  obtain ⟨z0, w0⟩ : ∃ zs, IsRow .u8 W a0 len0 cap0 zs := by
    obtain ⟨fuel, hf⟩ := h0
    rcases open_ints Tryz.underlying22 Tryz.underlying5 (by kernel_rfl) hf with ⟨hcs, _⟩ | ⟨x, l, c, zs, hcs, _, hl, hm, hz, _, hcell, hwz⟩
    · simp [Value.cells] at hcs
      obtain ⟨rfl, rfl, rfl⟩ := hcs
      exact ⟨[], .inl ⟨rfl, rfl, rfl, rfl⟩⟩
    · simp [Value.cells] at hcs
      obtain ⟨rfl, rfl, rfl⟩ := hcs
      exact ⟨zs, .inr ⟨_, rfl, hl, hm, by simpa using hz, hcell, hwz⟩⟩
  clear hA0 hval0
  refine (walk a0 len0 cap0 z0 W w0 (cmdVars_of hL (by kernel_rfl) (by kernel_rfl) (by kernel_rfl))).mono fun e W' ⟨he, bel⟩ => ?_
  subst he
  exact ⟨_, rfl, _, _, _, [], _, _, hW', trodAll_mk1 (shut_bool Tryz.underlying4 _), (trodAll_cons_mk (Below.trod laidOut (by kernel_rfl) (of_decide_eq_true (by kernel_rfl)) k0 bel lt0) trodAll_mk0), Below.trodVars laidOut bel (by kernel_rfl) hV, bel.frame _, fun h => by cases h⟩

theorem laid_met (os : Os) : laidMet Tryz.prog Rows.fnOrderCanonRow.laid ((World.laidAll Tryz.prog os Rows.fnOrderCanonRow.laid).forCall (fun _ _ => 0) ⟨#[], #[.slice none 0 0], []⟩).memory :=
  laidMet_laidAll _ (by kernel_rfl) (by kernel_rfl)
theorem reads (os : Os) {H : Type} (enc : TypeId × Value → H) : ∃ x, DataW.whole enc Tryz.prog ((World.laidAll Tryz.prog os Rows.fnOrderCanonRow.laid).forCall (fun _ _ => 0) ⟨#[], #[.slice none 0 0], []⟩).memory Tryz.f3.params.toList Rows.fnOrderCanonSpec.vars false #[Value.slice none 0 0].toList 8 = some x :=
  Option.isSome_iff_exists.1 (by kernel_rfl)

set_option maxRecDepth 100000 in
theorem lifted (os : Os) (started : os.Started) (H : Type) (enc : TypeId × Value → H) (F : Stop.Interp) :
    ReturnsInHanded {} Tryz.checked os 3 .any ((OpenSpec.ofChange Rows.fnOrderCanonSpec).preRow enc Tryz.prog Tryz.f3 Rows.fnOrderCanonRow.domain false Rows.fnOrderCanonRow.laid) (((OpenSpec.ofChange Rows.fnOrderCanonSpec).at F).post enc Tryz.prog Tryz.f3 false true false false) := by
  obtain ⟨x, hx⟩ := reads os enc
  refine returnsInHanded_of_row (C := Tryz.checked) (s := OpenSpec.ofChange Rows.fnOrderCanonSpec) own started (by kernel_rfl) Tryz.func3
    (witness_row_atRef (enc := enc) (C := Tryz.checked) false (World.laidAll Tryz.prog os Rows.fnOrderCanonRow.laid) #[.slice none 0 0] rfl (by kernel_rfl) (by kernel_rfl) (by kernel_rfl)
      (OpenSpec.preRow_of_cond 8 hx (by kernel_rfl) (fun k hk => by cases hk) (by kernel_rfl) (laid_met os))) ?_
  intro W base args ds gs before hval hW _ _ _ hL hsh _
  exact contract H enc W base args ds gs before hval hW hL hsh

theorem said : Rows.FnOrderCanonSaid :=
  OpenClaim.holds_of_cond 3 Tryz.f3 rfl rfl rfl rfl rfl rfl rfl ⟨rfl, rfl, rfl, rfl, rfl⟩ rfl rfl rfl rfl rfl (by kernel_rfl) Tryz.func3 (by kernel_rfl)
    (of_decide_eq_true (by kernel_rfl)) (by unfold Func.isWrapper; first | (rw [if_pos (by decide +kernel)]; kernel_rfl) | (rw [if_neg (by decide +kernel)]; exact ⟨rfl, rfl⟩))
    (fun os started H enc _ F => by rw [OpenClaim.pre_eq_preRow]; exact lifted os started H enc F)

/-- No parameter wants a stand-in; the program's own looks: what the card asks. -/
theorem plain (f : FuncId) (fn : Func) (hf : Tryz.pinned.checked.prog.funcNamed Rows.fnOrderCanonRow.func = some f) (hfn : Tryz.pinned.checked.prog.funcs[f]? = some fn) :
    true = Tryz.pinned.checked.prog.looks [] ∧ ∀ (j : Nat) t, fn.params[j]? = some t → Tryz.pinned.checked.prog.wantsStandIn t = false := by
  obtain rfl : f = 3 := Option.some.inj ((show Tryz.prog.funcNamed Rows.fnOrderCanonRow.func = some 3 by kernel_rfl).symm.trans hf) |>.symm
  obtain rfl : fn = Tryz.f3 := (Option.some.inj (Tryz.func3.symm.trans hfn)).symm
  refine ⟨by kernel_rfl, fun j t ht => ?_⟩
  rw [Tryz.params3] at ht
  have hm := Array.mem_of_getElem? ht
  simp at hm
  rcases hm with rfl
  · exact (show Tryz.prog.wantsStandIn 22 = false by kernel_rfl)

/-- THE CARD. -/
theorem card : Rows.FnOrderCanonCardSaid :=
  Claim7.holds_tied_plain_at .later [] _ _ _ _ said (fun _ h => by cases h) (by kernel_rfl) (fun _ h => by cases h) fnOrderCanon_row_tie rfl ⟨rfl, rfl⟩ (by kernel_rfl) rfl plain (by kernel_rfl)
end Go.Proofs.YtpjoahddbdmbpaaGreatDoor.fnOrderCanon
