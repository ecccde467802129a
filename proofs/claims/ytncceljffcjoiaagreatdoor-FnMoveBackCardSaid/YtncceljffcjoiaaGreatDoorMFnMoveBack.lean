/-
  laws.FnMoveBack returns true for every input, and leaves its arguments as they were.
  Conditions: none of ours; the package-level variables that its row lists hold what the program's text lays (the given tie).
-/
import Derived.Test.YtncceljffcjoiaaGreatDoorRows
import Derived.Test.YtncceljffcjoiaaGreatDoorCards
import Derived.Test.YtncceljffcjoiaaGreatDoorTie
import Derived.WalkKit
import Derived.ProofKit
import Derived.OpenShut
import Derived.ShutString
import Derived.ChangeOld
import Derived.Below
import Derived.Deep.DeepHandedRow
import Derived.Deep.DeepWitnessRowRef
import Derived.Lib.LaidTab
import Derived.LaidMore
import Derived.OpenVars
import Derived.Lay
import Derived.Test.YtncceljffcjoiaaGreatDoorQ6
import Derived.Test.YtncceljffcjoiaaGreatDoorQ5
import Derived.Test.YtncceljffcjoiaaGreatDoorQ9
import Derived.Test.YtncceljffcjoiaaGreatDoorQ7
import Derived.Test.YtncceljffcjoiaaGreatDoorQ3
namespace Go.Proofs.YtncceljffcjoiaaGreatDoor.fnMoveBack
open Go.ChangeShapes Go.WideShapes Go.ChangeAt Go.RowKit
open Go.ChangeMaps (open_string shut_string)
set_option linter.unusedVariables false

theorem own : ownKnob Tryz.prog.godebug = none := by kernel_rfl
theorem laidOut : laidOutB Tryz.prog = true := by kernel_rfl

/-- What LogApply tells, its two parts named. -/
def LPost (out : List Nd) (n : Int) (W : World) (e : Ending) (w' : World) : Prop :=
  ∃ sl, e = .returned (.tuple #[sl, .int .i64 n]) ∧ w'.ownsRow W.heap.size 52 3 sl out.length (flatN out) ∧ Below W.heap.size W w'

theorem log_named {ns out : List Nd} {cs : List Cmd} {n : Int} {W : World} {f : Nat} {args : Array Value} (hr : logApply ns cs = (out, n)) (h : Calls Tryz.prog f args W (LogPost (logApply ns cs) W)) : Calls Tryz.prog f args W (LPost out n W) := by
  rw [hr] at h
  exact h

theorem run_shortL {m : Nat} : ∀ (cs : List Cmd) (ns : List Nd), Short m ns → ShortC m cs → Short m (runL ns cs).1
  | [], ns, h, _ => h
  | c :: cs, ns, h, hc => by
    cases ha : applyC ns c with
    | mk out b =>
      cases b with
      | false => rw [runL_cons_no (by rw [ha])]; exact h
      | true =>
        rw [runL_cons_yes ha]
        exact run_shortL cs out (apply_short2 ha h (hc c (by simp))).1 (fun x hx => hc x (List.mem_cons_of_mem _ hx))

theorem log_facts {ns out : List Nd} {cs : List Cmd} {n : Int} {m : Nat} (hr : logApply ns cs = (out, n)) (hs : Short m ns) (hc : ShortC m cs) : out.length ≤ 10 ∧ Short m out ∧ -1 ≤ n ∧ n ≤ cs.length := by
  have hl := logApply_len (ns := ns) (cs := cs)
  rw [hr] at hl
  refine ⟨hl, ?_⟩
  unfold logApply at hr
  split at hr
  · have e1 := congrArg Prod.fst hr
    have e2 := congrArg Prod.snd hr
    simp only at e1 e2
    have := runL_le cs ns
    exact ⟨by rw [← e1]; exact run_shortL cs ns hs hc, by omega, by omega⟩
  · have e1 := congrArg Prod.fst hr
    have e2 := congrArg Prod.snd hr
    simp only at e1 e2
    exact ⟨(by rw [← e1]; intro x hx; cases hx), by omega, by omega⟩

/-- What a move tells, its two parts named. -/
def MPost (out : List Cmd) (b : Bool) (W : World) (e : Ending) (w' : World) : Prop :=
  ∃ sl, e = .returned (.tuple #[sl, .bool b]) ∧ w'.ownsRow W.heap.size 59 5 sl out.length (flatC out) ∧ Below W.heap.size W w'

theorem move_named {r : List Cmd × Bool} {out : List Cmd} {b : Bool} {W : World} {f : Nat} {args : Array Value} (hr : r = (out, b)) (h : Calls Tryz.prog f args W (MovePost r W)) : Calls Tryz.prog f args W (MPost out b W) := by
  rw [hr] at h
  exact h

theorem own_shape {W : World} {base : Nat} {e : TypeId} {size n : Nat} {v : Value} {xs : List Value} (h : W.ownsRow base e size v n xs) : ∃ a cap, v = .slice a n cap := by
  rcases h.2 with ⟨h0, h1⟩ | ⟨g, cap, cur, h0, _⟩
  · exact ⟨none, 0, by rw [h0, h1]⟩
  · exact ⟨_, cap, h0⟩

theorem move_len {ns : List Nd} {p q : ByteArray} {out : List Cmd} {b : Bool} (h : moveAll ns p q = (out, b)) : out.length ≤ 20 := by
  cases b with
  | true => obtain ⟨_, _, _, _, _, _, hl⟩ := move_told h; omega
  | false =>
    unfold moveAll at h
    split at h
    · cases h
    · have e := congrArg Prod.fst h
      simp only at e
      rw [← e]; simp

set_option maxHeartbeats 4000000 in
set_option maxRecDepth 100000 in
theorem walk (a0 : Option Addr) (len0 cap0 : Nat) (z0 : List Int) (w : World) (w0 : IsRow .u8 w a0 len0 cap0 z0) (hE : CmdVars w) :
    Calls Tryz.prog 5 #[.slice a0 len0 cap0] w fun e w' => e = .returned (.bool true) ∧ Below w.heap.size w w' := by
  have HE := Lib.hid hE
  clear hE
  by_cases h : len0 ≤ 1048576
  · have hl : (len0 : Int) ≤ 1048576 := by omega
    have HD := Lib.hid (drawMoveAll_c a0 len0 cap0 z0 w w0)
    clear h w0
    go_enter Tryz.func5, Tryz.ntmps5
    go_wp2_with fail
    refine HD.out.mono ?_
    rintro e W1 ⟨sl, ns, s, t, rfl, hss, htt, hd⟩
    obtain ⟨a, cap, rfl, hn⟩ := nodes_of_own hd.1
    have HN := Lib.hid hn
    have hlen := hd.2.1
    have HL := Lib.hid hlen
    have hsh := hd.2.2.1.mono (show 64 ≤ 66 by omega)
    have HSH := Lib.hid hsh
    have HBL := Lib.hid hd.2.2.2
    have HSS := Lib.hid hss
    have HTT := Lib.hid htt
    have HE1 := Lib.hid (HE.out.keep hd.2.2.2)
    obtain ⟨⟨out, b⟩, hr⟩ : ∃ r, moveAll ns s t = r := ⟨_, rfl⟩
    have HR := Lib.hid hr
    have HOL := Lib.hid (move_len hr)
    have HI := Lib.hid (fun W' (hb : Below W1.heap.size W1 W') => move_named hr (implMoveAll_c a ns.length cap ns s t (by omega) (hsh.mono (by omega)) (by omega) (by omega) W' (hn.keep hb) (HE1.out.keep hb)))
    have HS := Lib.hid (fun W' (hb : Below W1.heap.size W1 W') => move_named hr (specMoveAll_c a ns.length cap ns s t (by omega) (hsh.mono (by omega)) (by omega) (by omega) W' (hn.keep hb)))
    clear hn hd hr hsh hlen hss htt
    go_wp2_with fail
    refine (HI.out _ (Below.refl _ _)).mono ?_
    rintro e W2 ⟨o1, rfl, ho1, hb2⟩
    have B2 := Lib.hid hb2
    clear hb2
    go_wp2_with fail
    refine (HS.out _ B2.out).mono ?_
    rintro e W3 ⟨o2, rfl, ho2, hb3⟩
    have B3 := Lib.hid (below_next B2.out hb3)
    have ho1' := own_below ho1 hb3
    obtain ⟨x1, p1, rfl, hc1⟩ := cmds_of_own ho1'
    obtain ⟨x2, p2, rfl, hc2⟩ := cmds_of_own ho2
    have HSM := Lib.hid (fun W' (hb : Below W3.heap.size W3 W') => sameLog_c x1 x2 out.length p1 p2 out (by have := HOL.out; omega) W' (hc1.keep hb) (hc2.keep hb))
    have HC1 := Lib.hid hc1
    clear ho1 ho2 hb3 ho1' hc1 hc2
    cases b with
    | false =>
      go_wp2_with fail
      refine (HSM.out _ (Below.refl _ _)).mono ?_
      rintro e W4 ⟨rfl, hb4⟩
      have X4 := Lib.hid hb4
      clear hb4
      go_wp2_with fail
      refine (HSM.out _ X4.out).mono ?_
      rintro e W5 ⟨rfl, hb5⟩
      go_wp2
      go_ret
      exact ⟨rfl, below_next HBL.out (below_next B3.out (below_next X4.out hb5))⟩
    | true =>
      obtain ⟨xx, hap, hxv, -, -, hxl, -⟩ := move_told HR.out
      obtain ⟨lst, hmb, hlb, hll⟩ := move_back_told HR.out hap
      obtain ⟨hok, hout⟩ := moveAll_inv HR.out
      have hkk := copyOk_iff.1 hok
      have HSZ := Lib.hid (show ShortC 66 out by rw [hout]; exact moveL_short (by omega) hkk.1 (vp_of_depth hkk.2.2.1) HSH.out)
      have HPV := Lib.hid (And.intro (vp_of_depth hkk.2.1) (vp_of_depth hkk.2.2.1))
      have HLF := Lib.hid (log_facts hap HSH.out HSZ.out)
      have HA := Lib.hid (fun W' (h : CmdsAt W' x1 out.length out) (hb : Below W1.heap.size W1 W') => log_named hap (implLogApply_c a ns.length cap ns x1 out.length p1 out (by have := HL.out; omega) (by have := HOL.out; omega) (HSH.out.mono (by omega)) (HSZ.out.mono (by omega)) W' (HN.out.keep hb) h (HE1.out.keep hb)))
      obtain ⟨hok2, hout2⟩ := moveAll_inv hmb
      have hk2 := copyOk_iff.1 hok2
      have HSZ2 := Lib.hid (show ShortC 66 lst by rw [hout2]; exact moveL_short (by omega) hk2.1 (vp_of_depth hk2.2.2.1) HLF.out.2.1)
      have HLL := Lib.hid hll
      have HMB := Lib.hid hmb
      have HLB := Lib.hid hlb
      clear hap hxv hxl hmb hlb hll hok hout hkk hok2 hout2 hk2
      go_wp2_with fail
      refine (HSM.out _ (Below.refl _ _)).mono ?_
      rintro e W4 ⟨rfl, hb4⟩
      have X4 := Lib.hid hb4
      clear hb4
      go_wp2_with fail
      refine (HA.out _ (HC1.out.keep X4.out) (below_next B3.out X4.out)).mono ?_
      rintro e W5 ⟨s5, rfl, ho5, hb5⟩
      obtain ⟨x5, p5, rfl, hn5⟩ := nodes_of_own ho5
      have X5 := Lib.hid (below_next (below_next B3.out X4.out) hb5)
      have HN5 := Lib.hid hn5
      clear ho5 hn5 hb5
      have HMA := Lib.hid (move_named HMB.out (implMoveAll_c x5 xx.length p5 xx t s (by have := HLF.out.1; omega) (HLF.out.2.1.mono (by omega)) (by have := HTT.out; omega) (by have := HSS.out; omega) W5 HN5.out (HE1.out.keep X5.out)))
      go_wp2_with fail
      refine HMA.out.mono ?_
      rintro e W6 ⟨s6, rfl, ho6, hb6⟩
      obtain ⟨x6, p6, rfl, hc6⟩ := cmds_of_own ho6
      have X6 := Lib.hid (below_next X5.out hb6)
      have HLA := Lib.hid (log_named HLB.out (implLogApply_c x5 xx.length p5 xx x6 lst.length p6 lst (by have := HLF.out.1; omega) (by have := HLL.out; omega) (HLF.out.2.1.mono (by omega)) (HSZ2.out.mono (by omega)) W6 (HN5.out.keep hb6) hc6 (HE1.out.keep X6.out)))
      clear ho6 hc6 hb6
      go_wp2_with fail
      refine HLA.out.mono ?_
      rintro e W7 ⟨s7, rfl, ho7, hb7⟩
      obtain ⟨x7, p7, rfl, hn7⟩ := nodes_of_own ho7
      have X7 := Lib.hid (below_next X6.out hb7)
      have HSN := Lib.hid (sameNodes_c x7 a ns.length p7 cap ns (by have := HL.out; omega) W7 hn7 (HN.out.keep X7.out))
      have hle : ((lst.length : Int) == (lst.length : Int)) = true := by simp
      clear ho7 hn7 hb7
      go_wp2_with fail
      refine HSN.out.mono ?_
      rintro e W8 ⟨rfl, hb8⟩
      go_wp2
      go_ret
      exact ⟨rfl, below_next HBL.out (below_next X7.out hb8)⟩
  · have hl : (1048576 : Int) < len0 := by omega
    clear h w0
    go_enter Tryz.func5, Tryz.ntmps5
    go_wp2
    go_ret
    exact ⟨rfl, Below.refl _ _⟩


set_option maxRecDepth 100000 in
/-- What the walk gives, for every argument and every world that holds the listed variables. -/
theorem contract (H : Type) (enc : TypeId × Value → H) (W : World) (base : Nat) (args : Array Value) (ds gs : List (DataW H)) (before : List MemPlace)
    (hval0 : ∀ (j : Nat) t v, Tryz.f5.params[j]? = some t → args[j]? = some v → Value.okWide Tryz.prog W .any base t v)
    (hW : DataW.Whole enc Tryz.prog Tryz.f5.params.toList Rows.fnMoveBackSpec.vars false W args.toList ds gs before) (hL : laidMetH Tryz.prog Rows.fnMoveBackRow.laid W) (hsh : W.ShapedOpen Tryz.prog) :
    Calls Tryz.prog 5 args W fun e W' => ∃ v, e = .returned v ∧ Rows.fnMoveBackSpec.post enc Tryz.prog Tryz.f5 false true false false W args v W' := by
  have hval : ∀ (j : Nat) t v, Tryz.f5.params[j]? = some t → args[j]? = some v → Value.okWide Tryz.prog W .any base t v := hval0
  have hW' := hW
  obtain ⟨p, q, hA0, hV, rfl, hfz, hnd⟩ := hW
  have hA : DataW.TrodAll enc Tryz.prog W 0 (fun _ => true) true Tryz.f5.params.toList args.toList ds p := hA0
  rw [Tryz.params5] at hA hval
  obtain ⟨v0, vs0, d0, ds0, p0, q0, hargs, rfl, rfl, h0, r0⟩ := trodAll_cons hA
  obtain ⟨rfl, rfl, rfl⟩ := trodAll_nil r0
  obtain rfl : args = #[v0] := by cases args; simp_all
  obtain ⟨_, _, _, _, e0, _, _, _, _, _, e1, _, rfl, -⟩ := trodVars_two hV
  obtain ⟨a0, len0, cap0, rfl⟩ := okWide_slice Tryz.underlying22 (hval 0 22 v0 rfl rfl)
  have k0 := h0
  have lt0 : ∀ x ∈ p0, x.block < W.heap.size := by obtain ⟨m, hm⟩ := k0; exact DataW.trod_lt m _ _ _ hm
  obtain ⟨z0, w0⟩ : ∃ zs, IsRow .u8 W a0 len0 cap0 zs := by
    obtain ⟨fuel, hf⟩ := h0
    rcases open_ints Tryz.underlying22 Tryz.underlying5 (by kernel_rfl) hf with ⟨hcs, _⟩ | ⟨x, l, c, zs, hcs, _, hl, hm, hz, _, hcell, hwz⟩
    · simp [Value.cells] at hcs
      obtain ⟨rfl, rfl, rfl⟩ := hcs
      exact ⟨[], .inl ⟨rfl, rfl, rfl, rfl⟩⟩
    · simp [Value.cells] at hcs
      obtain ⟨rfl, rfl, rfl⟩ := hcs
      exact ⟨zs, .inr ⟨_, rfl, hl, hm, by simpa using hz, hcell, hwz⟩⟩
  clear hA0 hval0
  refine (walk a0 len0 cap0 z0 W w0 (cmdVars_of hL (by kernel_rfl) (by kernel_rfl) (by kernel_rfl))).mono fun e W' ⟨he, bel⟩ => ?_
  subst he
  exact ⟨_, rfl, _, _, _, [], _, _, hW', trodAll_mk1 (shut_bool Tryz.underlying4 _), (trodAll_cons_mk (Below.trod laidOut (by kernel_rfl) (of_decide_eq_true (by kernel_rfl)) k0 bel lt0) trodAll_mk0), Below.trodVars laidOut bel (by kernel_rfl) hV, bel.frame _, fun h => by cases h⟩

theorem laid_met (os : Os) : laidMet Tryz.prog Rows.fnMoveBackRow.laid ((World.laidAll Tryz.prog os Rows.fnMoveBackRow.laid).forCall (fun _ _ => 0) ⟨#[], #[.slice none 0 0], []⟩).memory :=
  laidMet_laidAll _ (by kernel_rfl) (by kernel_rfl)
theorem reads (os : Os) {H : Type} (enc : TypeId × Value → H) : ∃ x, DataW.whole enc Tryz.prog ((World.laidAll Tryz.prog os Rows.fnMoveBackRow.laid).forCall (fun _ _ => 0) ⟨#[], #[.slice none 0 0], []⟩).memory Tryz.f5.params.toList Rows.fnMoveBackSpec.vars false #[Value.slice none 0 0].toList 8 = some x :=
  Option.isSome_iff_exists.1 (by kernel_rfl)

set_option maxRecDepth 100000 in
theorem lifted (os : Os) (started : os.Started) (H : Type) (enc : TypeId × Value → H) (F : Stop.Interp) :
    ReturnsInHanded {} Tryz.checked os 5 .any ((OpenSpec.ofChange Rows.fnMoveBackSpec).preRow enc Tryz.prog Tryz.f5 Rows.fnMoveBackRow.domain false Rows.fnMoveBackRow.laid) (((OpenSpec.ofChange Rows.fnMoveBackSpec).at F).post enc Tryz.prog Tryz.f5 false true false false) := by
  obtain ⟨x, hx⟩ := reads os enc
  refine returnsInHanded_of_row (C := Tryz.checked) (s := OpenSpec.ofChange Rows.fnMoveBackSpec) own started (by kernel_rfl) Tryz.func5
    (witness_row_atRef (enc := enc) (C := Tryz.checked) false (World.laidAll Tryz.prog os Rows.fnMoveBackRow.laid) #[.slice none 0 0] rfl (by kernel_rfl) (by kernel_rfl) (by kernel_rfl)
      (OpenSpec.preRow_of_cond 8 hx (by kernel_rfl) (fun k hk => by cases hk) (by kernel_rfl) (laid_met os))) ?_
  intro W base args ds gs before hval hW _ _ _ hL hsh _
  exact contract H enc W base args ds gs before hval hW hL hsh

theorem said : Rows.FnMoveBackSaid :=
  OpenClaim.holds_of_cond 5 Tryz.f5 rfl rfl rfl rfl rfl rfl rfl ⟨rfl, rfl, rfl, rfl, rfl⟩ rfl rfl rfl rfl rfl (by kernel_rfl) Tryz.func5 (by kernel_rfl)
    (of_decide_eq_true (by kernel_rfl)) (by unfold Func.isWrapper; first | (rw [if_pos (by decide +kernel)]; kernel_rfl) | (rw [if_neg (by decide +kernel)]; exact ⟨rfl, rfl⟩))
    (fun os started H enc _ F => by rw [OpenClaim.pre_eq_preRow]; exact lifted os started H enc F)

/-- No parameter wants a stand-in; the program's own looks: what the card asks. -/
theorem plain (f : FuncId) (fn : Func) (hf : Tryz.pinned.checked.prog.funcNamed Rows.fnMoveBackRow.func = some f) (hfn : Tryz.pinned.checked.prog.funcs[f]? = some fn) :
    true = Tryz.pinned.checked.prog.looks [] ∧ ∀ (j : Nat) t, fn.params[j]? = some t → Tryz.pinned.checked.prog.wantsStandIn t = false := by
  obtain rfl : f = 5 := Option.some.inj ((show Tryz.prog.funcNamed Rows.fnMoveBackRow.func = some 5 by kernel_rfl).symm.trans hf) |>.symm
  obtain rfl : fn = Tryz.f5 := (Option.some.inj (Tryz.func5.symm.trans hfn)).symm
  refine ⟨by kernel_rfl, fun j t ht => ?_⟩
  rw [Tryz.params5] at ht
  have hm := Array.mem_of_getElem? ht
  simp at hm
  rcases hm with rfl
  · exact (show Tryz.prog.wantsStandIn 22 = false by kernel_rfl)

/-- THE CARD. -/
theorem card : Rows.FnMoveBackCardSaid :=
  Claim7.holds_tied_plain_at .later [] _ _ _ _ said (fun _ h => by cases h) (by kernel_rfl) (fun _ h => by cases h) fnMoveBack_row_tie rfl ⟨rfl, rfl⟩ (by kernel_rfl) rfl plain (by kernel_rfl)
end Go.Proofs.YtncceljffcjoiaaGreatDoor.fnMoveBack
