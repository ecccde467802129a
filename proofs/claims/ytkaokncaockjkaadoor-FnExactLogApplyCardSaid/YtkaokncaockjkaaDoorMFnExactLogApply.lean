/-
  laws.FnExactLogApply returns true for every input, and leaves its arguments as they were.
  Conditions: none of ours; the package-level variables that its row lists hold what the program's text lays (the given tie).
-/
import Derived.Test.YtkaokncaockjkaaDoorRows
import Derived.Test.YtkaokncaockjkaaDoorCards
import Derived.Test.YtkaokncaockjkaaDoorTie
import Derived.WalkKit
import Derived.ProofKit
import Derived.OpenShut
import Derived.ShutString
import Derived.ChangeOld
import Derived.Below
import Derived.Deep.DeepHandedRow
import Derived.Deep.DeepWitnessRowRef
import Derived.Lib.LaidTab
import Derived.LaidMore
import Derived.OpenVars
import Derived.Lay
import Derived.Test.YtkaokncaockjkaaDoorK5
namespace Go.Proofs.YtkaokncaockjkaaDoor.fnExactLogApply
open Go.ChangeShapes Go.WideShapes Go.ChangeAt Go.RowKit
open Go.ChangeMaps (open_string shut_string)
set_option linter.unusedVariables false

theorem own : ownKnob Tryd.prog.godebug = none := by kernel_rfl
theorem laidOut : laidOutB Tryd.prog = true := by kernel_rfl

/-- What LogApply tells, its two parts named. -/
def LPost (out : List Nd) (n : Int) (W : World) (e : Ending) (w' : World) : Prop :=
  ∃ sl, e = .returned (.tuple #[sl, .int .i64 n]) ∧ w'.ownsRow W.heap.size 60 3 sl out.length (flatN out) ∧ Below W.heap.size W w'

theorem log_named {ns out : List Nd} {cs : List Cmd} {n : Int} {W : World} {f : Nat} {args : Array Value} (hr : logApply ns cs = (out, n)) (h : Calls Tryd.prog f args W (LogPost (logApply ns cs) W)) : Calls Tryd.prog f args W (LPost out n W) := by
  rw [hr] at h
  exact h

theorem run_shortL {m : Nat} : ∀ (cs : List Cmd) (ns : List Nd), Short m ns → ShortC m cs → Short m (runL ns cs).1
  | [], ns, h, _ => h
  | c :: cs, ns, h, hc => by
    cases ha : applyC ns c with
    | mk out b =>
      cases b with
      | false => rw [runL_cons_no (by rw [ha])]; exact h
      | true =>
        rw [runL_cons_yes ha]
        exact run_shortL cs out (apply_short2 ha h (hc c (by simp))).1 (fun x hx => hc x (List.mem_cons_of_mem _ hx))

theorem log_facts {ns out : List Nd} {cs : List Cmd} {n : Int} {m : Nat} (hr : logApply ns cs = (out, n)) (hs : Short m ns) (hc : ShortC m cs) : out.length ≤ 10 ∧ Short m out ∧ -1 ≤ n ∧ n ≤ cs.length := by
  have hl := logApply_len (ns := ns) (cs := cs)
  rw [hr] at hl
  refine ⟨hl, ?_⟩
  unfold logApply at hr
  split at hr
  · have e1 := congrArg Prod.fst hr
    have e2 := congrArg Prod.snd hr
    simp only at e1 e2
    have := runL_le cs ns
    exact ⟨by rw [← e1]; exact run_shortL cs ns hs hc, by omega, by omega⟩
  · have e1 := congrArg Prod.fst hr
    have e2 := congrArg Prod.snd hr
    simp only at e1 e2
    exact ⟨(by rw [← e1]; intro x hx; cases hx), by omega, by omega⟩

theorem own_far {W W' : World} {b : Nat} {e : TypeId} {size n : Nat} {v : Value} {xs : List Value} (h : W.ownsRow b e size v n xs) {row : Value} (hg : W.grownBy W' row.ownBlock) (hd : ∀ k, v.ownBlock = some k → row.ownBlock ≠ some k) : W'.ownsRow b e size v n xs := by
  refine h.kept hg ?_
  cases hv : v.ownBlock with
  | none => exact .inl rfl
  | some k => right; exact fun e => hd k hv e.symm

theorem nodes_own {W : World} {base : Nat} {e : TypeId} {a : Option Addr} {cap : Nat} {ns : List Nd} (h : W.ownsRow base e 3 (.slice a ns.length cap) ns.length (flatN ns)) : NodesAt W a ns.length ns := by
  obtain ⟨_, _, e, h⟩ := nodes_of_own h
  simp at e; rw [e.1]; exact h

theorem marked_nodes {W : World} {base len p : Nat} {x : Option Addr} {e : TypeId} (h : W.ownsRow base e 3 (.slice x len p) len (flatN (markN len))) : NodesAt W x len (markN len) := by
  have h2 : W.ownsRow base e 3 (.slice x len p) (markN len).length (flatN (markN len)) := by rw [markN_len]; exact h
  obtain ⟨_, _, e, h⟩ := nodes_of_own h2
  rw [markN_len] at e h
  simp at e; rw [e.1]; exact h

theorem markCommands_at (v : Value) (base len m : Nat) (hm : m ≤ 1048576) (xs : List Value) (hl : len ≤ 2097152) (W : World) (h : W.ownsRow base 36 5 v len xs) :
    Calls Tryd.prog 25 #[v, .int .i64 (1 + 3 * (m : Int))] W fun e W' => e = .returned (.int .i64 (1 + 3 * (m : Int) + 5 * (len : Int))) ∧ W.grownBy W' v.ownBlock := by
  have h2 := markCommandS_c v base len (1 + 3 * m) (by omega) (by omega) xs hl W h
  have e : ((1 + 3 * m : Nat) : Int) = 1 + 3 * (m : Int) := by omega
  rw [e] at h2
  exact h2.mono (fun e W' h => ⟨h.1, h.2.1⟩)

set_option maxHeartbeats 4000000 in
set_option maxRecDepth 100000 in
theorem walk (a0 : Option Addr) (len0 cap0 : Nat) (ns : List Nd) (l0 : len0 ≤ maxLen) (m0 : Short maxLen ns) (a1 : Option Addr) (len1 cap1 : Nat) (cs : List Cmd) (l1 : len1 ≤ maxLen) (m1 : ShortC maxLen cs) (w : World) (w0 : NodesAt w a0 len0 ns) (w1 : CmdsAt w a1 len1 cs) (hE : CmdVars w) :
    Calls Tryd.prog 7 #[.slice a0 len0 cap0, .slice a1 len1 cap1] w fun e w' => e = .returned (.bool true) ∧ Below w.heap.size w w' := by
  have HV := Lib.hid (fun W' (hb : Below w.heap.size w W') => hE.keep hb)
  have HSZ := Lib.hid (szNodeSG_c 1048576 (by omega) (by omega) a0 len0 cap0 ns l0 m0 w w0)
  have HSC := Lib.hid (fun l h0 h1 W' (hb : Below w.heap.size w W') => szCommandS_c l h0 h1 a1 len1 cap1 cs l1 m1 W' (w1.keep hb))
  have HN := Lib.hid w0
  have HC := Lib.hid w1
  obtain ⟨⟨out, n⟩, hr⟩ : ∃ r, logApply ns cs = r := ⟨_, rfl⟩
  have HOL := Lib.hid (show out.length ≤ 10 by have := logApply_len (ns := ns) (cs := cs); rw [hr] at this; exact this)
  have hol : (out.length : Int) ≤ 10 := by have := HOL.out; omega
  have HR := Lib.hid hr
  clear w0 w1 l0 m0 l1 m1 hE hr
  go_enter Tryd.func7, Tryd.ntmps7
  go_wp2_with fail
  refine HSZ.out.mono ?_
  rintro e W1 ⟨z, rfl, hz1, hz, hb1⟩
  have B1 := Lib.hid hb1
  clear hb1
  by_cases h0 : z < 0
  · clear hz hz1
    go_wp2
    go_ret
    exact ⟨rfl, B1.out⟩
  · obtain ⟨hl, hs⟩ := hz (by omega)
    have hz0 : 0 ≤ z := by omega
    have hzd : decide (z < 0) = false := decide_eq_false h0
    have HZ1 := Lib.hid (HSC.out z hz0 hz1 W1 B1.out)
    have HTN := Lib.hid (fun W' (hb : Below w.heap.size w W') => toNodeS_c a0 len0 cap0 ns (by omega) W' (HN.out.keep hb))
    have HLEN := Lib.hid HN.out.1
    have HLN := Lib.hid (show ns.length ≤ 1048576 by have := HLEN.out; omega)
    have hnl : (ns.length : Int) ≤ 1048576 := by have := HLN.out; omega
    have HS2 := Lib.hid (hs.mono (show 1048576 ≤ 2097152 by omega))
    clear h0 hz hz1 hl hs
    go_wp2_with fail
    refine HZ1.out.mono ?_
    rintro e W2 ⟨z2, rfl, -, hz2, hb2⟩
    have B2 := Lib.hid (below_next B1.out hb2)
    clear hb2
    by_cases h2 : z2 < 0
    · clear hz2
      go_wp2
      go_ret
      exact ⟨rfl, B2.out⟩
    · obtain ⟨hl2, hs2⟩ := hz2 (by omega)
      have hz20 : 0 ≤ z2 := by omega
      have hzd2 : decide (z2 < 0) = false := decide_eq_false h2
      have HTC := Lib.hid (fun W' (hb : Below w.heap.size w W') => toCommandS_c a1 len1 cap1 cs (by omega) W' (HC.out.keep hb))
      have HLEC := Lib.hid HC.out.1
      have HLC := Lib.hid (show cs.length ≤ 1048576 by have := HLEC.out; omega)
      have hcl : (cs.length : Int) ≤ 1048576 := by have := HLC.out; omega
      have HSS2 := Lib.hid (hs2.mono (show 1048576 ≤ 2097152 by omega))
      have HSP := Lib.hid (fun x (p : Nat) y (q : Nat) W' (h : NodesAt W' x ns.length ns) (h' : CmdsAt W' y cs.length cs) => log_named HR.out (specLogApply_c x ns.length p ns y cs.length q cs (by have := HLN.out; omega) (by have := HLC.out; omega) HS2.out HSS2.out W' h h'))
      have HIM := Lib.hid (fun x (p : Nat) y (q : Nat) W' (h : NodesAt W' x ns.length ns) (h' : CmdsAt W' y cs.length cs) (hE : CmdVars W') => log_named HR.out (implLogApply_c x ns.length p ns y cs.length q cs (by have := HLN.out; omega) (by have := HLC.out; omega) HS2.out HSS2.out W' h h' hE))
      clear h2 hz2 hl2 hs2
      go_wp2_with fail
      refine (HTN.out _ B2.out).mono ?_
      rintro e W3 ⟨⟨s3, rfl, ho3⟩, hb3⟩
      obtain ⟨x3, p3, rfl, hn3⟩ := nodes_of_own ho3
      have B3 := Lib.hid (below_next B2.out hb3)
      have HN3 := Lib.hid hn3
      clear ho3 hn3 hb3
      go_wp2_with fail
      refine (HTC.out _ B3.out).mono ?_
      rintro e W3b ⟨⟨s3b, rfl, ho3b⟩, hb3b⟩
      obtain ⟨x3b, p3b, rfl, hn3b⟩ := cmds_of_own ho3b
      have B3b := Lib.hid (below_next B3.out hb3b)
      have HSPX := Lib.hid (HSP.out x3 p3 x3b p3b W3b (HN3.out.keep hb3b) hn3b)
      clear ho3b hn3b hb3b
      go_wp2_with fail
      refine HSPX.out.mono ?_
      rintro e W4 ⟨s4, rfl, ho4, hb4⟩
      obtain ⟨x4, p4, rfl, -⟩ := nodes_of_own ho4
      have B4 := Lib.hid (below_next B3b.out hb4)
      have O4 := Lib.hid ho4
      have K4 := Lib.hid (fun k (e : (Value.slice x4 out.length p4).ownBlock = some k) => (ho4.lt k e).2)
      clear ho4 hb4
      go_wp2_with fail
      refine (HTN.out _ B4.out).mono ?_
      rintro e W5 ⟨⟨s5, rfl, ho5⟩, hb5⟩
      obtain ⟨x5, p5, rfl, hn5⟩ := nodes_of_own ho5
      have B5 := Lib.hid (below_next B4.out hb5)
      have HN5 := Lib.hid hn5
      have O45 := Lib.hid (own_below O4.out hb5)
      have O5 := Lib.hid ho5
      have K5 := Lib.hid (fun k (e : (Value.slice x5 ns.length p5).ownBlock = some k) => ho5.lt k e)
      have Z45 := Lib.hid (show W4.heap.size ≤ W5.heap.size from hb5.size)
      clear ho5 hn5 hb5
      go_wp2_with fail
      refine (HTC.out _ B5.out).mono ?_
      rintro e W6 ⟨⟨s6, rfl, ho6⟩, hb6⟩
      obtain ⟨x6, p6, rfl, hn6⟩ := cmds_of_own ho6
      have B6 := Lib.hid (below_next B5.out hb6)
      have HN6 := Lib.hid hn6
      have O46 := Lib.hid (own_below O45.out hb6)
      have O56 := Lib.hid (own_below O5.out hb6)
      have O6 := Lib.hid ho6
      have K6 := Lib.hid (fun k (e : (Value.slice x6 cs.length p6).ownBlock = some k) => ho6.lt k e)
      have Z56 := Lib.hid (show W5.heap.size ≤ W6.heap.size from hb6.size)
      have HIMX := Lib.hid (HIM.out x5 p5 x6 p6 W6 (HN5.out.keep hb6) hn6 (HV.out _ B6.out))
      clear ho6 hn6 hb6
      go_wp2_with fail
      refine HIMX.out.mono ?_
      rintro e W7 ⟨s7, rfl, ho7, hb7⟩
      obtain ⟨x7, p7, rfl, hn7⟩ := nodes_of_own ho7
      have B7 := Lib.hid (below_next B6.out hb7)
      have O47 := Lib.hid (own_below O46.out hb7)
      have O57 := Lib.hid (own_below O56.out hb7)
      have O67 := Lib.hid (own_below O6.out hb7)
      have O7 := Lib.hid ho7
      have K7 := Lib.hid (fun k (e : (Value.slice x7 out.length p7).ownBlock = some k) => (ho7.lt k e).1)
      have HE1 := Lib.hid (eqNodeS_c x7 x4 out.length p7 p4 out (by have := HOL.out; omega) W7 hn7 (nodes_own O47.out))
      clear ho7 hn7 hb7
      go_wp2_with fail
      refine HE1.out.mono ?_
      rintro e W8 ⟨rfl, hb8⟩
      have B8 := Lib.hid (below_next B7.out hb8)
      have H8 := Lib.hid hb8
      clear hb8
      go_wp2_with fail
      refine (HTN.out _ B8.out).mono ?_
      rintro e W9 ⟨⟨s9, rfl, ho9⟩, hb9⟩
      obtain ⟨x9, p9, rfl, hn9⟩ := nodes_of_own ho9
      have B9 := Lib.hid (below_next B8.out hb9)
      have H9 := Lib.hid (below_next H8.out hb9)
      have HE2 := Lib.hid (eqNodeS_c x5 x9 ns.length p5 p9 ns (by have := HLN.out; omega) W9 (nodes_own (own_below O57.out H9.out)) hn9)
      clear ho9 hn9 hb9
      go_wp2_with fail
      refine HE2.out.mono ?_
      rintro e W10 ⟨rfl, hb10⟩
      have B10 := Lib.hid (below_next B9.out hb10)
      have H10 := Lib.hid (below_next H9.out hb10)
      clear hb10
      go_wp2_with fail
      refine (HTC.out _ B10.out).mono ?_
      rintro e Wa ⟨⟨sa, rfl, hoa⟩, hba⟩
      obtain ⟨xa, pa, rfl, hna⟩ := cmds_of_own hoa
      have Ba := Lib.hid (below_next B10.out hba)
      have Ha := Lib.hid (below_next H10.out hba)
      have HE3 := Lib.hid (eqCommandS_c x6 xa cs.length p6 pa cs (by have := HLC.out; omega) Wa (cmds_own (own_below O67.out Ha.out)) hna)
      clear hoa hna hba
      go_wp2_with fail
      refine HE3.out.mono ?_
      rintro e Wb ⟨rfl, hbb⟩
      have Bb := Lib.hid (below_next Ba.out hbb)
      have Hb := Lib.hid (below_next Ha.out hbb)
      have HMK := Lib.hid (markNodeS_c (.slice x5 ns.length p5) W4.heap.size ns.length (flatN ns) (by have := HLN.out; omega) Wb (own_below O57.out Hb.out))
      clear hbb
      go_wp2_with fail
      refine HMK.out.mono ?_
      rintro e W11 ⟨rfl, hg11, -⟩
      have B11 := Lib.hid (Bb.out.grown hg11 Bb.out.size (fun k e => by have := (K5.out k e).1; have := B4.out.size; omega))
      have O4a := Lib.hid (own_far (own_below O47.out Hb.out) hg11 (fun k e1 e2 => by have := K4.out k e1; have := (K5.out k e2).1; omega))
      have O7a := Lib.hid (own_far (own_below O7.out Hb.out) hg11 (fun k e1 e2 => by have := K7.out k e1; have := (K5.out k e2).2; have := Z56.out; omega))
      have O6a := Lib.hid (own_far (own_below O67.out Hb.out) hg11 (fun k e1 e2 => by have := (K6.out k e1).1; have := (K5.out k e2).2; omega))
      have HMC := Lib.hid (markCommands_at (.slice x6 cs.length p6) W5.heap.size cs.length ns.length HLN.out (flatC cs) (by have := HLC.out; omega) W11 O6a.out)
      clear hg11
      go_wp2_with fail
      refine HMC.out.mono ?_
      rintro e W12 ⟨rfl, hg12⟩
      have B12 := Lib.hid (B11.out.grown hg12 B11.out.size (fun k e => by have := (K6.out k e).1; have := B5.out.size; omega))
      have O4b := Lib.hid (own_far O4a.out hg12 (fun k e1 e2 => by have := K4.out k e1; have := (K6.out k e2).1; have := Z45.out; omega))
      have O7b := Lib.hid (own_far O7a.out hg12 (fun k e1 e2 => by have := K7.out k e1; have := (K6.out k e2).2; omega))
      have HE4 := Lib.hid (eqNodeS_c x7 x4 out.length p7 p4 out (by have := HOL.out; omega) W12 (nodes_own O7b.out) (nodes_own O4b.out))
      clear hg12
      go_wp2_with fail
      refine HE4.out.mono ?_
      rintro e W13 ⟨rfl, hb13⟩
      have B13 := Lib.hid (below_next B12.out hb13)
      have O4c := Lib.hid (own_below O4b.out hb13)
      have HMK2 := Lib.hid (markNodeS_c (.slice x7 out.length p7) W6.heap.size out.length (flatN out) (by have := HOL.out; omega) W13 (own_below O7b.out hb13))
      clear hb13
      go_wp2_with fail
      refine HMK2.out.mono ?_
      rintro e W14 ⟨rfl, hg14, ho14⟩
      have B14 := Lib.hid (B13.out.grown hg14 B13.out.size (fun k e => by have := K7.out k e; have := B6.out.size; omega))
      have O4d := Lib.hid (own_far O4c.out hg14 (fun k e1 e2 => by have := K4.out k e1; have := K7.out k e2; have := Z45.out; have := Z56.out; omega))
      have HM14 := Lib.hid (marked_nodes ho14)
      have HH := Lib.hid (fun W' (hb : Below W14.heap.size W14 W') => heldNodeS_c x7 out.length p7 (by have := HOL.out; omega) W' (HM14.out.keep hb))
      clear hg14 ho14
      go_wp2_with fail
      refine (HH.out _ (Below.refl _ _)).mono ?_
      rintro e W15 ⟨rfl, hb15⟩
      have B15 := Lib.hid (below_next B14.out hb15)
      have H15 := Lib.hid hb15
      clear hb15
      go_wp2_with fail
      refine (HTN.out _ B15.out).mono ?_
      rintro e W16 ⟨⟨s16, rfl, ho16⟩, hb16⟩
      obtain ⟨x16, p16, rfl, hn16⟩ := nodes_of_own ho16
      have B16 := Lib.hid (below_next B15.out hb16)
      have H16 := Lib.hid (below_next H15.out hb16)
      have HN16 := Lib.hid hn16
      clear ho16 hn16 hb16
      go_wp2_with fail
      refine (HTC.out _ B16.out).mono ?_
      rintro e W17 ⟨⟨s17, rfl, ho17⟩, hb17⟩
      obtain ⟨x17, p17, rfl, hn17⟩ := cmds_of_own ho17
      have B17 := Lib.hid (below_next B16.out hb17)
      have H17 := Lib.hid (below_next H16.out hb17)
      have HIMY := Lib.hid (HIM.out x16 p16 x17 p17 W17 (HN16.out.keep hb17) hn17 (HV.out _ B17.out))
      clear ho17 hn17 hb17
      go_wp2_with fail
      refine HIMY.out.mono ?_
      rintro e W18 ⟨s18, rfl, ho18, hb18⟩
      obtain ⟨x18, p18, rfl, hn18⟩ := nodes_of_own ho18
      have B18 := Lib.hid (below_next B17.out hb18)
      have H18 := Lib.hid (below_next H17.out hb18)
      have HE5 := Lib.hid (eqNodeS_c x18 x4 out.length p18 p4 out (by have := HOL.out; omega) W18 hn18 (nodes_own (own_below O4d.out H18.out)))
      clear ho18 hn18 hb18
      go_wp2_with fail
      refine HE5.out.mono ?_
      rintro e W19 ⟨rfl, hb19⟩
      have B19 := Lib.hid (below_next B18.out hb19)
      have H19 := Lib.hid (below_next H18.out hb19)
      clear hb19
      go_wp2_with fail
      refine (HH.out _ H19.out).mono ?_
      rintro e W20 ⟨rfl, hb20⟩
      have B20 := Lib.hid (below_next B19.out hb20)
      clear hb20
      go_wp2
      go_ret
      exact ⟨rfl, B20.out⟩


set_option maxRecDepth 100000 in
/-- What the walk gives, for every argument and every world that holds the listed variables. -/
theorem contract (H : Type) (enc : TypeId × Value → H) (W : World) (base : Nat) (args : Array Value) (ds gs : List (DataW H)) (before : List MemPlace)
    (hval0 : ∀ (j : Nat) t v, Tryd.f7.params[j]? = some t → args[j]? = some v → Value.okWide Tryd.prog W .any base t v)
    (hW : DataW.Whole enc Tryd.prog Tryd.f7.params.toList Rows.fnExactLogApplySpec.vars false W args.toList ds gs before) (hL : laidMetH Tryd.prog Rows.fnExactLogApplyRow.laid W) (hsh : W.ShapedOpen Tryd.prog) :
    Calls Tryd.prog 7 args W fun e W' => ∃ v, e = .returned v ∧ Rows.fnExactLogApplySpec.post enc Tryd.prog Tryd.f7 false true false false W args v W' := by
  have hval : ∀ (j : Nat) t v, Tryd.f7.params[j]? = some t → args[j]? = some v → Value.okWide Tryd.prog W .any base t v := hval0
  have hW' := hW
  obtain ⟨p, q, hA0, hV, rfl, hfz, hnd⟩ := hW
  have hA : DataW.TrodAll enc Tryd.prog W 0 (fun _ => true) true Tryd.f7.params.toList args.toList ds p := hA0
  rw [Tryd.params7] at hA hval
  obtain ⟨v0, vs0, d0, ds0, p0, q0, hargs, rfl, rfl, h0, r0⟩ := trodAll_cons hA
  obtain ⟨v1, vs1, d1, ds1, p1, q1, rfl, rfl, rfl, h1, r1⟩ := trodAll_cons r0
  obtain ⟨rfl, rfl, rfl⟩ := trodAll_nil r1
  obtain rfl : args = #[v0, v1] := by cases args; simp_all
  obtain ⟨_, _, _, _, e0, _, _, _, _, _, e1, _, rfl, -⟩ := trodVars_two hV
  obtain ⟨a0, len0, cap0, rfl⟩ := okWide_slice Tryd.underlying40 (hval 0 40 v0 rfl rfl)
  have k0 := h0
  have lt0 : ∀ x ∈ p0, x.block < W.heap.size := by obtain ⟨m, hm⟩ := k0; exact DataW.trod_lt m _ _ _ hm
  obtain ⟨z0, w0, l0, m0⟩ : ∃ ns, NodesAt W a0 len0 ns ∧ len0 ≤ maxLen ∧ Short maxLen ns := by
    obtain ⟨fuel, hf⟩ := h0
    exact open_nodes hf
  obtain ⟨a1, len1, cap1, rfl⟩ := okWide_slice Tryd.underlying41 (hval 1 41 v1 rfl rfl)
  have k1 := h1
  have lt1 : ∀ x ∈ p1, x.block < W.heap.size := by obtain ⟨m, hm⟩ := k1; exact DataW.trod_lt m _ _ _ hm
  obtain ⟨z1, w1, l1, m1⟩ : ∃ cs, CmdsAt W a1 len1 cs ∧ len1 ≤ maxLen ∧ ShortC maxLen cs := by
    obtain ⟨fuel, hf⟩ := h1
    exact open_commands hf
  clear hA0 hval0
  refine (walk a0 len0 cap0 z0 l0 m0 a1 len1 cap1 z1 l1 m1 W w0 w1 (cmdVars_of hL (by kernel_rfl) (by kernel_rfl) (by kernel_rfl))).mono fun e W' ⟨he, bel⟩ => ?_
  subst he
  exact ⟨_, rfl, _, _, _, [], _, _, hW', trodAll_mk1 (shut_bool Tryd.underlying4 _), (trodAll_cons_mk (Below.trod laidOut (by kernel_rfl) (of_decide_eq_true (by kernel_rfl)) k0 bel lt0) (trodAll_cons_mk (Below.trod laidOut (by kernel_rfl) (of_decide_eq_true (by kernel_rfl)) k1 bel lt1) trodAll_mk0)), Below.trodVars laidOut bel (by kernel_rfl) hV, bel.frame _, fun h => by cases h⟩

theorem laid_met (os : Os) : laidMet Tryd.prog Rows.fnExactLogApplyRow.laid ((World.laidAll Tryd.prog os Rows.fnExactLogApplyRow.laid).forCall (fun _ _ => 0) ⟨#[], #[.slice none 0 0, .slice none 0 0], []⟩).memory :=
  laidMet_laidAll _ (by kernel_rfl) (by kernel_rfl)
theorem reads (os : Os) {H : Type} (enc : TypeId × Value → H) : ∃ x, DataW.whole enc Tryd.prog ((World.laidAll Tryd.prog os Rows.fnExactLogApplyRow.laid).forCall (fun _ _ => 0) ⟨#[], #[.slice none 0 0, .slice none 0 0], []⟩).memory Tryd.f7.params.toList Rows.fnExactLogApplySpec.vars false #[Value.slice none 0 0, Value.slice none 0 0].toList 8 = some x :=
  Option.isSome_iff_exists.1 (by kernel_rfl)

set_option maxRecDepth 100000 in
theorem lifted (os : Os) (started : os.Started) (H : Type) (enc : TypeId × Value → H) (F : Stop.Interp) :
    ReturnsInHanded {} Tryd.checked os 7 .any ((OpenSpec.ofChange Rows.fnExactLogApplySpec).preRow enc Tryd.prog Tryd.f7 Rows.fnExactLogApplyRow.domain false Rows.fnExactLogApplyRow.laid) (((OpenSpec.ofChange Rows.fnExactLogApplySpec).at F).post enc Tryd.prog Tryd.f7 false true false false) := by
  obtain ⟨x, hx⟩ := reads os enc
  refine returnsInHanded_of_row (C := Tryd.checked) (s := OpenSpec.ofChange Rows.fnExactLogApplySpec) own started (by kernel_rfl) Tryd.func7
    (witness_row_atRef (enc := enc) (C := Tryd.checked) false (World.laidAll Tryd.prog os Rows.fnExactLogApplyRow.laid) #[.slice none 0 0, .slice none 0 0] rfl (by kernel_rfl) (by kernel_rfl) (by kernel_rfl)
      (OpenSpec.preRow_of_cond 8 hx (by kernel_rfl) (fun k hk => by cases hk) (by kernel_rfl) (laid_met os))) ?_
  intro W base args ds gs before hval hW _ _ _ hL hsh _
  exact contract H enc W base args ds gs before hval hW hL hsh

theorem said : Rows.FnExactLogApplySaid :=
  OpenClaim.holds_of_cond 7 Tryd.f7 rfl rfl rfl rfl rfl rfl rfl ⟨rfl, rfl, rfl, rfl, rfl⟩ rfl rfl rfl rfl rfl (by kernel_rfl) Tryd.func7 (by kernel_rfl)
    (of_decide_eq_true (by kernel_rfl)) (by unfold Func.isWrapper; first | (rw [if_pos (by decide +kernel)]; kernel_rfl) | (rw [if_neg (by decide +kernel)]; exact ⟨rfl, rfl⟩))
    (fun os started H enc _ F => by rw [OpenClaim.pre_eq_preRow]; exact lifted os started H enc F)

/-- No parameter wants a stand-in; the program's own looks: what the card asks. -/
theorem plain (f : FuncId) (fn : Func) (hf : Tryd.pinned.checked.prog.funcNamed Rows.fnExactLogApplyRow.func = some f) (hfn : Tryd.pinned.checked.prog.funcs[f]? = some fn) :
    true = Tryd.pinned.checked.prog.looks [] ∧ ∀ (j : Nat) t, fn.params[j]? = some t → Tryd.pinned.checked.prog.wantsStandIn t = false := by
  obtain rfl : f = 7 := Option.some.inj ((show Tryd.prog.funcNamed Rows.fnExactLogApplyRow.func = some 7 by kernel_rfl).symm.trans hf) |>.symm
  obtain rfl : fn = Tryd.f7 := (Option.some.inj (Tryd.func7.symm.trans hfn)).symm
  refine ⟨by kernel_rfl, fun j t ht => ?_⟩
  rw [Tryd.params7] at ht
  have hm := Array.mem_of_getElem? ht
  simp at hm
  rcases hm with rfl | rfl
  · exact (show Tryd.prog.wantsStandIn 40 = false by kernel_rfl)
  · exact (show Tryd.prog.wantsStandIn 41 = false by kernel_rfl)

/-- THE CARD. -/
theorem card : Rows.FnExactLogApplyCardSaid :=
  Claim7.holds_tied_plain_at .later [] _ _ _ _ said (fun _ h => by cases h) (by kernel_rfl) (fun _ h => by cases h) fnExactLogApply_row_tie rfl ⟨rfl, rfl⟩ (by kernel_rfl) rfl plain (by kernel_rfl)
end Go.Proofs.YtkaokncaockjkaaDoor.fnExactLogApply
