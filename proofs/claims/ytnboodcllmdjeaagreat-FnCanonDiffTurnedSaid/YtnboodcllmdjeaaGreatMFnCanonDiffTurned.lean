/-
  laws.FnCanonDiffTurned returns true for every input, and leaves its arguments as they were.
  Conditions: none.
-/
import Derived.Test.YtnboodcllmdjeaaGreatRows
import Derived.WalkKit
import Derived.ProofKit
import Derived.OpenShut
import Derived.ShutString
import Derived.ChangeOld
import Derived.Below
import Derived.Test.YtnboodcllmdjeaaGreatQ8
import Derived.Test.YtnboodcllmdjeaaGreatQ12
import Derived.Test.YtnboodcllmdjeaaGreatQ11
import Derived.Test.YtnboodcllmdjeaaGreatQ9
namespace Go.Proofs.YtnboodcllmdjeaaGreat.fnCanonDiffTurned
open Go.ChangeShapes Go.WideShapes Go.ChangeAt Go.RowKit
open Go.ChangeMaps (open_string shut_string)
set_option linter.unusedVariables false

theorem own : ownKnob Tryz.prog.godebug = none := by kernel_rfl
theorem laidOut : laidOutB Tryz.prog = true := by kernel_rfl

/-- What a pair tells, its two parts named. -/
def MPost (out : List Cmd) (b : Bool) (W : World) (e : Ending) (w' : World) : Prop :=
  ∃ sl, e = .returned (.tuple #[sl, .bool b]) ∧ w'.ownsRow W.heap.size 34 5 sl out.length (flatC out) ∧ Below W.heap.size W w'

theorem move_named {r : List Cmd × Bool} {out : List Cmd} {b : Bool} {W : World} {f : Nat} {args : Array Value} (hr : r = (out, b)) (h : Calls Tryz.prog f args W (MovePost r W)) : Calls Tryz.prog f args W (MPost out b W) := by
  rw [hr] at h
  exact h

theorem undo_short {m : Nat} {cs : List Cmd} (h : ShortC m cs) : ShortC m (undoL cs) ∧ (undoL cs).length ≤ cs.length := by
  unfold undoL
  split
  · refine ⟨fun x hx => ?_, by simp⟩
    obtain ⟨c, hc, rfl⟩ := List.mem_map.1 hx
    have := h c (List.mem_reverse.1 hc)
    unfold undoC
    split
    · exact this
    · exact Nat.zero_le _
  · exact ⟨fun x hx => (by cases hx), by simp⟩

theorem canon_short2 {m : Nat} {cs out : List Cmd} (hs : ShortC m cs) (hr : logCanon cs = (out, true)) : ShortC m out := fun c hc => by
  obtain ⟨_, _, _, _, h5, _⟩ := canon_some hr
  have hk := ((h5 c).1 hc).1
  refine Classical.byContradiction (fun hn => ?_)
  rw [unseen (fun ⟨d, hd, hp⟩ => hn (by rw [← hp]; exact hs d hd))] at hk
  cases hk

theorem canonDiff_short {ns ms : List Nd} {out : List Cmd} {b : Bool} (h : canonDiff ns ms = (out, b)) : ShortC 66 out ∧ out.length ≤ 20 := by
  unfold canonDiff at h
  split at h
  · rename_i hv
    rw [Bool.and_eq_true] at hv
    injection h with e _
    rw [← e]
    refine ⟨fun c hc => ?_, ?_⟩
    · have hc2 := (mem_sort (diff_nodup ns ms) c).1 hc
      have hv2 := vp_of_depth (diff_dep hv.1 hv.2 ((diff_mem hv.1 hv.2 c).1 hc2).1)
      obtain ⟨w, hw, e2⟩ := vpB_word hv2
      rw [e2]
      exact Nat.le_trans (pB_size hw) (by omega)
    · rw [sort_length (diff_nodup ns ms)]
      have := chg_bound hv.1 hv.2
      unfold diffL
      rw [List.length_map]
      exact this
  · injection h with e _
    rw [← e]
    exact ⟨fun c hc => (by cases hc), by simp⟩

set_option maxHeartbeats 4000000 in
set_option maxRecDepth 100000 in
theorem walk (a0 : Option Addr) (len0 cap0 : Nat) (z0 : List Int) (w : World) (w0 : IsRow .u8 w a0 len0 cap0 z0) :
    Calls Tryz.prog 3 #[.slice a0 len0 cap0] w fun e w' => e = .returned (.bool true) ∧ Below w.heap.size w w' := by
  by_cases h : len0 ≤ 1048576
  · have hl : (len0 : Int) ≤ 1048576 := by omega
    have HD := Lib.hid (drawCanonDiff_c a0 len0 cap0 z0 w w0)
    clear h w0
    go_enter Tryz.func3, Tryz.ntmps3
    go_wp2_with fail
    refine HD.out.mono ?_
    rintro e W1 ⟨s1, ns, s2, ms, rfl, hd1, hd2⟩
    obtain ⟨a, cap, rfl, hn⟩ := nodes_of_own hd1.1
    obtain ⟨am, capm, rfl, hmm⟩ := nodes_of_own hd2.1
    have HBL := Lib.hid hd1.2.2.2
    have HNN := Lib.hid (And.intro hn hmm)
    have HL := Lib.hid (And.intro hd1.2.1 hd2.2.1)
    have HSH := Lib.hid (And.intro (hd1.2.2.1.mono (show 64 ≤ 66 by omega)) (hd2.2.2.1.mono (show 64 ≤ 66 by omega)))
    obtain ⟨out, b, hr⟩ : ∃ out b, canonDiff ns ms = (out, b) := ⟨_, _, rfl⟩
    have HR := Lib.hid hr
    have HOS := Lib.hid (canonDiff_short hr)
    have HOL := Lib.hid (canonDiff_short hr).2
    have hol' : (out.length : Int) ≤ 20 := by have := HOL.out; omega
    have HI := Lib.hid (fun W' (hb : Below W1.heap.size W1 W') => move_named hr (implCanonDiff_c a ns.length cap ns am ms.length capm ms (by have := HL.out.1; omega) (by have := HL.out.2; omega) (HSH.out.1.mono (by omega)) (HSH.out.2.mono (by omega)) W' (HNN.out.1.keep hb) (HNN.out.2.keep hb)))
    have HS := Lib.hid (fun W' (hb : Below W1.heap.size W1 W') => move_named hr (specCanonDiff_c a ns.length cap ns am ms.length capm ms (by have := HL.out.1; omega) (by have := HL.out.2; omega) (HSH.out.1.mono (by omega)) (HSH.out.2.mono (by omega)) W' (HNN.out.1.keep hb) (HNN.out.2.keep hb)))
    clear hd1 hd2 hn hmm hr
    go_wp2_with fail
    refine (HI.out _ (Below.refl _ _)).mono ?_
    rintro e W2 ⟨o1, rfl, ho1, hb2⟩
    have B2 := Lib.hid hb2
    clear hb2
    go_wp2_with fail
    refine (HS.out _ B2.out).mono ?_
    rintro e W3 ⟨o2, rfl, ho2, hb3⟩
    have B3 := Lib.hid (below_next B2.out hb3)
    have ho1' := own_below ho1 hb3
    obtain ⟨x1, p1, rfl, hc1⟩ := cmds_of_own ho1'
    obtain ⟨x2, p2, rfl, hc2⟩ := cmds_of_own ho2
    have HSM := Lib.hid (fun W' (hb : Below W3.heap.size W3 W') => sameLog_c x1 x2 out.length p1 p2 out (by have := HOL.out; omega) W' (hc1.keep hb) (hc2.keep hb))
    have HC1 := Lib.hid hc1
    clear ho1 ho2 hb3 ho1' hc1 hc2
    cases b with
    | false =>
      go_wp2_with fail
      refine (HSM.out _ (Below.refl _ _)).mono ?_
      rintro e W4 ⟨rfl, hb4⟩
      have X4 := Lib.hid hb4
      clear hb4
      go_wp2_with fail
      refine (HSM.out _ X4.out).mono ?_
      rintro e W5 ⟨rfl, hb5⟩
      go_wp2
      go_ret
      exact ⟨rfl, below_next HBL.out (below_next B3.out (below_next X4.out hb5))⟩
    | true =>
      go_wp2_with fail
      refine (HSM.out _ (Below.refl _ _)).mono ?_
      rintro e W4 ⟨rfl, hb4⟩
      have X4 := Lib.hid hb4
      clear hb4
      obtain ⟨hv1, hv2, -, -, hos⟩ := diff_told HR.out
      obtain ⟨hlen, hmem⟩ := diff_turn hv1 hv2
      have hrev := diff_ok hv2 hv1
      rw [← hos] at hlen hmem
      obtain ⟨ys, hys⟩ : ∃ y, sortK (diffL ms ns) = y := ⟨_, rfl⟩
      rw [hys] at hlen hmem hrev
      have HMEM := Lib.hid hmem
      have HXS := Lib.hid HOS.out.1
      have HYN := Lib.hid (show ys.length ≤ 20 by have := HOL.out; omega)
      have hxy : (ys.length : Int) = out.length := by omega
      have HD := Lib.hid (fun W' (hb : Below W1.heap.size W1 W') => move_named hrev (implCanonDiff_c am ms.length capm ms a ns.length cap ns (by have := HL.out.2; omega) (by have := HL.out.1; omega) (HSH.out.2.mono (by omega)) (HSH.out.1.mono (by omega)) W' (HNN.out.2.keep hb) (HNN.out.1.keep hb)))
      clear hv1 hv2 hos hlen hmem hrev hys
      go_wp2_with fail
      refine (HD.out _ (below_next B3.out X4.out)).mono ?_
      rintro e W5 ⟨s5, rfl, ho5, hb5⟩
      obtain ⟨x5, p5, rfl, hc5⟩ := cmds_of_own ho5
      have X5 := Lib.hid (below_next X4.out hb5)
      have X5B := Lib.hid (below_next B3.out X5.out)
      have HC5 := Lib.hid hc5
      clear ho5 hb5 hc5
      obtain ⟨WB, hWB⟩ : ∃ X, X = W5 := ⟨_, rfl⟩
      have BL := Lib.hid (show Below W1.heap.size W1 WB by rw [hWB]; exact X5B.out)
      have HXL := Lib.hid (show CmdsAt WB x1 out.length out by rw [hWB]; exact HC1.out.keep X5.out)
      have HYL := Lib.hid (show CmdsAt WB x5 ys.length ys by rw [hWB]; exact HC5.out)
      rw [← hWB]
      clear hWB
      go_wp2
      go_loopw [11] (fun i wr => ∃ n : Nat, i = .int .i64 n ∧ n ≤ out.length ∧ Hid (Below WB.heap.size WB wr)) (fun i _ => out.length - (intOf i).toNat)
      case atStart => exact ⟨0, rfl, Nat.zero_le _, Below.refl _ _⟩
      case round =>
        obtain ⟨n, rfl, hn, HB⟩ := hrel
        by_cases hlt : n < out.length
        · have hlt' : (n : Int) < out.length := by omega
          have HLT := Lib.hid hlt
          obtain ⟨b, off, c, rfl, hc, c0, c1, c2, c3, c4⟩ := (HXL.out.keep HB.out).node hlt
          have hm := List.mem_of_getElem? hc
          have HCU := Lib.hid (fun w => implCmdUndo_c c (Nat.le_trans (HXS.out c hm) (by omega)) w)
          have HHC := Lib.hid (fun W' (hb : Below WB.heap.size WB W') => hasCommand_c x5 ys.length p5 ys (undoC c) (by have := HYN.out; omega) (HMEM.out c hm) W' (HYL.out.keep hb))
          obtain ⟨d, hd⟩ : ∃ d, undoC c = d := ⟨_, rfl⟩
          rw [hd] at HCU HHC
          obtain ⟨p, fk, fv, tk, tv⟩ := c
          unfold cmdV at HCU HHC
          simp only at HCU HHC c0 c1 c2 c3 c4
          clear hn hlt hc hm hd
          go_wp2_with fail
          refine (HCU.out _).mono ?_
          rintro e Wu ⟨rfl, hbu⟩
          have HBu := Lib.hid (below_next HB.out hbu)
          unfold cmdV
          clear hbu c0 c1 c2 c3 c4
          go_wp2_with fail
          refine (HHC.out _ HBu.out).mono ?_
          rintro e Wv ⟨rfl, hbv⟩
          have HBv := Lib.hid (below_next HBu.out hbv)
          clear hbv
          go_wp2
          go_roundw
          case rel => exact ⟨n + 1, by go_num, HLT.out, HBv⟩
          case measure => have := HLT.out; simp [intOf]; omega
        · have hge : ¬ ((n : Int) < out.length) := by omega
          clear hn hlt
          go_wp2
          go_ret
          exact ⟨rfl, below_next HBL.out (below_next BL.out HB.out)⟩
  · have hl : (1048576 : Int) < len0 := by omega
    clear h w0
    go_enter Tryz.func3, Tryz.ntmps3
    go_wp2
    go_ret
    exact ⟨rfl, Below.refl _ _⟩


set_option maxRecDepth 100000 in
theorem lifted (os : Os) (started : os.Started) (H : Type) (enc : TypeId × Value → H) :
    ReturnsInHanded {} Tryz.checked os 3 .any (Rows.fnCanonDiffTurnedSpec.pre6 enc Tryz.prog Tryz.f3 Rows.fnCanonDiffTurnedRow.domain false) (Rows.fnCanonDiffTurnedSpec.post enc Tryz.prog Tryz.f3 false true false false) := by
  refine returnsInHanded_of_change (C := Tryz.checked) own started (by kernel_rfl) Tryz.func3
    (ChangeSpec.witness6 (enc := enc) (C := Tryz.checked) false ⟨#[], #[.slice none 0 0], []⟩ 8 (by kernel_rfl) (by kernel_rfl) (by kernel_rfl) (by kernel_rfl)) ?_
  intro W base args ds gs before hval0 hW hcnd _
  have hval : ∀ (j : Nat) t v, Tryz.f3.params[j]? = some t → args[j]? = some v → Value.okWide Tryz.prog W .any base t v := hval0
  have hW' := hW
  obtain ⟨p, q, hA0, hV, rfl, hfz, hnd⟩ := hW
  have hA : DataW.TrodAll enc Tryz.prog W 0 (fun _ => true) true Tryz.f3.params.toList args.toList ds p := hA0
  rw [Tryz.params3] at hA hval
  obtain ⟨v0, vs0, d0, ds0, p0, q0, hargs, rfl, rfl, h0, r0⟩ := trodAll_cons hA
  obtain ⟨rfl, rfl, rfl⟩ := trodAll_nil r0
  obtain rfl : args = #[v0] := by cases args; simp_all
  obtain ⟨rfl, rfl⟩ := trodVars_none hV
  obtain ⟨a0, len0, cap0, rfl⟩ := okWide_slice Tryz.underlying22 (hval 0 22 v0 rfl rfl)
  have k0 := h0
  have lt0 : ∀ x ∈ p0, x.block < W.heap.size := by obtain ⟨m, hm⟩ := k0; exact DataW.trod_lt m _ _ _ hm
  obtain ⟨z0, w0⟩ : ∃ zs, IsRow .u8 W a0 len0 cap0 zs := by
    obtain ⟨fuel, hf⟩ := h0
    rcases open_ints Tryz.underlying22 Tryz.underlying5 (by kernel_rfl) hf with ⟨hcs, _⟩ | ⟨x, l, c, zs, hcs, _, hl, hm, hz, _, hcell, hwz⟩
    · simp [Value.cells] at hcs
      obtain ⟨rfl, rfl, rfl⟩ := hcs
      exact ⟨[], .inl ⟨rfl, rfl, rfl, rfl⟩⟩
    · simp [Value.cells] at hcs
      obtain ⟨rfl, rfl, rfl⟩ := hcs
      exact ⟨zs, .inr ⟨_, rfl, hl, hm, by simpa using hz, hcell, hwz⟩⟩
  clear hA0 hval0
  refine (walk a0 len0 cap0 z0 W w0).mono fun e W' ⟨he, bel⟩ => ?_
  subst he
  exact ⟨_, rfl, _, _, _, [], _, [], hW', trodAll_mk1 (shut_bool Tryz.underlying4 _), (trodAll_cons_mk (Below.trod laidOut (by kernel_rfl) (of_decide_eq_true (by kernel_rfl)) k0 bel lt0) trodAll_mk0), rfl, bel.frame _, fun h => by cases h⟩

theorem over : Rows.fnCanonDiffTurnedRow.holds Tryz.pinned (OpenSpec.ofChange Rows.fnCanonDiffTurnedSpec) :=
  OpenClaim.holds_of_wide 3 Tryz.f3 rfl rfl rfl rfl rfl rfl rfl ⟨rfl, rfl, rfl, rfl, rfl⟩ rfl rfl rfl rfl rfl (by kernel_rfl) Tryz.func3 (by kernel_rfl)
    (of_decide_eq_true (by kernel_rfl)) (by unfold Func.isWrapper; first | (rw [if_pos (by decide +kernel)]; kernel_rfl) | (rw [if_neg (by decide +kernel)]; exact ⟨rfl, rfl⟩))
    (fun os started H enc _ => lifted os started H enc)

theorem proved : Rows.FnCanonDiffTurnedSaid := over
end Go.Proofs.YtnboodcllmdjeaaGreat.fnCanonDiffTurned
