/-
  laws.FnExactMoveAll returns true for every input, and leaves its arguments as they were.
  Conditions: none of ours; the package-level variables that its row lists hold what the program's text lays (the given tie).
-/
import Derived.Test.YtncceljffcjoiaaGreatDoorRows
import Derived.Test.YtncceljffcjoiaaGreatDoorCards
import Derived.Test.YtncceljffcjoiaaGreatDoorTie
import Derived.WalkKit
import Derived.ProofKit
import Derived.OpenShut
import Derived.ShutString
import Derived.ChangeOld
import Derived.Below
import Derived.Deep.DeepHandedRow
import Derived.Deep.DeepWitnessRowRef
import Derived.Lib.LaidTab
import Derived.LaidMore
import Derived.OpenVars
import Derived.Lay
import Derived.Test.YtncceljffcjoiaaGreatDoorQ6
import Derived.Test.YtncceljffcjoiaaGreatDoorQ9
import Derived.Test.YtncceljffcjoiaaGreatDoorOn
import Derived.Test.YtncceljffcjoiaaGreatDoorQ5
namespace Go.Proofs.YtncceljffcjoiaaGreatDoor.fnExactMoveAll
open Go.ChangeShapes Go.WideShapes Go.ChangeAt Go.RowKit
open Go.ChangeMaps (open_string shut_string)
set_option linter.unusedVariables false

theorem own : ownKnob Tryz.prog.godebug = none := by kernel_rfl
theorem laidOut : laidOutB Tryz.prog = true := by kernel_rfl

theorem own_farC {W W' : World} {b : Nat} {e : TypeId} {size n : Nat} {v : Value} {xs : List Value} (h : W.ownsRow b e size v n xs) {row : Value} (hg : W.grownBy W' row.ownBlock) (hd : ∀ k, v.ownBlock = some k → row.ownBlock ≠ some k) : W'.ownsRow b e size v n xs := by
  refine h.kept hg ?_
  cases hv : v.ownBlock with
  | none => exact .inl rfl
  | some k => right; exact fun e => hd k hv e.symm

theorem marked_at {W : World} {base len p : Nat} {x : Option Addr} {e : TypeId} (h : W.ownsRow base e 5 (.slice x len p) len (flatC (markCK 1 len))) : CmdsAt W x len (markCK 1 len) := by
  have h2 : W.ownsRow base e 5 (.slice x len p) (markCK 1 len).length (flatC (markCK 1 len)) := by rw [markCK_len]; exact h
  obtain ⟨_, _, e, h⟩ := cmds_of_own h2
  rw [markCK_len] at e h
  simp at e; rw [e.1]; exact h

/-- What a move tells, its two parts named. -/
def MPost (out : List Cmd) (b : Bool) (W : World) (e : Ending) (w' : World) : Prop :=
  ∃ sl, e = .returned (.tuple #[sl, .bool b]) ∧ w'.ownsRow W.heap.size 59 5 sl out.length (flatC out) ∧ Below W.heap.size W w'

theorem move_named {r : List Cmd × Bool} {out : List Cmd} {b : Bool} {W : World} {f : Nat} {args : Array Value} (hr : r = (out, b)) (h : Calls Tryz.prog f args W (MovePost r W)) : Calls Tryz.prog f args W (MPost out b W) := by
  rw [hr] at h
  exact h

theorem move_len {ns : List Nd} {p q : ByteArray} {out : List Cmd} {b : Bool} (h : moveAll ns p q = (out, b)) : out.length ≤ 20 := by
  cases b with
  | true => obtain ⟨_, _, _, _, _, _, hl⟩ := move_told h; omega
  | false =>
    unfold moveAll at h
    split at h
    · cases h
    · have e := congrArg Prod.fst h
      simp only at e
      rw [← e]; simp

set_option maxHeartbeats 4000000 in
set_option maxRecDepth 100000 in
theorem walk (a0 : Option Addr) (len0 cap0 : Nat) (ns : List Nd) (l0 : len0 ≤ maxLen) (m0 : Short maxLen ns) (s : ByteArray) (w1 : s.size ≤ maxLen) (t : ByteArray) (w2 : t.size ≤ maxLen) (w : World) (w0 : NodesAt w a0 len0 ns) (hE : CmdVars w) :
    Calls Tryz.prog 7 #[.slice a0 len0 cap0, .string s, .string t] w fun e w' => e = .returned (.bool true) ∧ Below w.heap.size w w' := by
  have HE := Lib.hid hE
  clear hE
  by_cases hss : s.size ≤ 1048576
  · have hss' : (s.size : Int) ≤ 1048576 := by omega
    have HSS := Lib.hid hss
    clear w1 hss
    by_cases htt : t.size ≤ 1048576
    · have htt' : (t.size : Int) ≤ 1048576 := by omega
      have HTT := Lib.hid htt
      clear w2 htt
      have HSZ := Lib.hid (szNodeS_c a0 len0 cap0 ns l0 m0 w w0)
      have HN := Lib.hid w0
      obtain ⟨⟨u, b⟩, hu⟩ : ∃ r, moveAll ns s t = r := ⟨_, rfl⟩
      have HUL := Lib.hid (move_len hu)
      have HU := Lib.hid hu
      have hbb : (b != b) = false := by simp
      clear w0 l0 m0 hu
      go_enter Tryz.func7, Tryz.ntmps7
      go_wp2_with fail
      refine HSZ.out.mono ?_
      rintro e W1 ⟨z, rfl, hz, hb1⟩
      have B1 := Lib.hid hb1
      clear hb1
      by_cases h0 : z < 0
      · clear hz
        go_wp2
        go_ret
        exact ⟨rfl, B1.out⟩
      · obtain ⟨hl, hs⟩ := hz (by omega)
        have hz0 : 0 ≤ z := by omega
        have hzd : decide (z < 0) = false := decide_eq_false h0
        have HTO := Lib.hid (fun W' (hb : Below w.heap.size w W') => toNodeS_c a0 len0 cap0 ns (by omega) W' (HN.out.keep hb))
        have HLE := Lib.hid HN.out.1
        have HLL := Lib.hid (show ns.length ≤ 1048576 by have := HLE.out; omega)
        have hnl : (ns.length : Int) ≤ 1048576 := by have := HLL.out; omega
        have hul : (u.length : Int) ≤ 1048576 := by have := HUL.out; omega
        have HS2 := Lib.hid (Short.mono (show Short 1048576 ns from hs) (show 1048576 ≤ 2097152 by omega))
        have HSP := Lib.hid (fun x (p : Nat) W' (h : NodesAt W' x ns.length ns) => move_named HU.out (specMoveAll_c x ns.length p ns s t (by have := HLL.out; omega) HS2.out (by have := HSS.out; omega) (by have := HTT.out; omega) W' h))
        have HIM := Lib.hid (fun x (p : Nat) W' (h : NodesAt W' x ns.length ns) (hb : Below w.heap.size w W') => move_named HU.out (implMoveAll_c x ns.length p ns s t (by have := HLL.out; omega) HS2.out (by have := HSS.out; omega) (by have := HTT.out; omega) W' h (HE.out.keep hb)))
        clear h0 hz hl hs
        go_wp2_with fail
        refine (HTO.out _ B1.out).mono ?_
        rintro e W2 ⟨⟨s2, rfl, ho2⟩, hb2⟩
        obtain ⟨x2, p2, rfl, hn2⟩ := nodes_of_own ho2
        have B2 := Lib.hid (below_next B1.out hb2)
        have HN2 := Lib.hid hn2
        clear ho2 hn2 hb2
        go_wp2_with fail
        refine (HSP.out _ _ _ HN2.out).mono ?_
        rintro e W3 ⟨s3, rfl, ho3, hb3⟩
        obtain ⟨x3, p3, rfl, -⟩ := cmds_of_own ho3
        have B3 := Lib.hid (below_next B2.out hb3)
        have O3 := Lib.hid ho3
        have K3 := Lib.hid (fun k (e : (Value.slice x3 u.length p3).ownBlock = some k) => (ho3.lt k e).2)
        clear ho3 hb3
        go_wp2_with fail
        refine (HTO.out _ B3.out).mono ?_
        rintro e W4 ⟨⟨s4, rfl, ho4⟩, hb4⟩
        obtain ⟨x4, p4, rfl, hn4⟩ := nodes_of_own ho4
        have B4 := Lib.hid (below_next B3.out hb4)
        have O34 := Lib.hid (own_below O3.out hb4)
        have HZ34 := Lib.hid (show W3.heap.size ≤ W4.heap.size from hb4.size)
        have O4 := Lib.hid ho4
        have N4 := Lib.hid hn4
        have K4 := Lib.hid (fun k (e : (Value.slice x4 ns.length p4).ownBlock = some k) => ho4.lt k e)
        clear ho4 hn4 hb4
        go_wp2_with fail
        refine (HIM.out _ _ _ N4.out B4.out).mono ?_
        rintro e W5 ⟨s5, rfl, ho5, hb5⟩
        obtain ⟨x5, p5, rfl, hn5⟩ := cmds_of_own ho5
        have B5 := Lib.hid (below_next B4.out hb5)
        have O35 := Lib.hid (own_below O34.out hb5)
        have O45 := Lib.hid (own_below O4.out hb5)
        have O5 := Lib.hid ho5
        have K5 := Lib.hid (fun k (e : (Value.slice x5 u.length p5).ownBlock = some k) => (ho5.lt k e).1)
        have HE1 := Lib.hid (eqCommandS_c x5 x3 u.length p5 p3 u (by have := HUL.out; omega) W5 hn5 (cmds_own O35.out))
        clear ho5 hn5 hb5
        go_wp2_with fail
        refine HE1.out.mono ?_
        rintro e W6 ⟨rfl, hb6⟩
        have B6 := Lib.hid (below_next B5.out hb6)
        have H6 := Lib.hid hb6
        clear hb6
        go_wp2_with fail
        refine (HTO.out _ B6.out).mono ?_
        rintro e W7 ⟨⟨s7, rfl, ho7⟩, hb7⟩
        obtain ⟨x7, p7, rfl, hn7⟩ := nodes_of_own ho7
        have B7 := Lib.hid (below_next B6.out hb7)
        have H7 := Lib.hid (below_next H6.out hb7)
        have HE2 := Lib.hid (eqNodeS_c x4 x7 ns.length p4 p7 ns (by have := HLL.out; omega) W7 (by obtain ⟨_, _, e, h⟩ := nodes_of_own (own_below O45.out H7.out); simp at e; rw [e.1]; exact h) hn7)
        clear ho7 hn7 hb7
        go_wp2_with fail
        refine HE2.out.mono ?_
        rintro e W8 ⟨rfl, hb8⟩
        have B8 := Lib.hid (below_next B7.out hb8)
        have H8 := Lib.hid (below_next H7.out hb8)
        have HMK := Lib.hid (markNodeS_c (.slice x4 ns.length p4) W3.heap.size ns.length (flatN ns) (by have := HLL.out; omega) W8 (own_below O45.out H8.out))
        clear hb8
        go_wp2_with fail
        refine HMK.out.mono ?_
        rintro e W9 ⟨rfl, hg9, -⟩
        have B9 := Lib.hid (B8.out.grown hg9 B8.out.size (fun k e => by have := (K4.out k e).1; have := B3.out.size; omega))
        have O39 := Lib.hid (own_farC (own_below O35.out H8.out) hg9 (fun k e1 e2 => by have := K3.out k e1; have := (K4.out k e2).1; omega))
        have O59 := Lib.hid (own_farC (own_below O5.out H8.out) hg9 (fun k e1 e2 => by have := K5.out k e1; have := (K4.out k e2).2; omega))
        have HE3 := Lib.hid (eqCommandS_c x5 x3 u.length p5 p3 u (by have := HUL.out; omega) W9 (cmds_own O59.out) (cmds_own O39.out))
        clear hg9
        go_wp2_with fail
        refine HE3.out.mono ?_
        rintro e Wa ⟨rfl, hba⟩
        have Ba := Lib.hid (below_next B9.out hba)
        have O3a := Lib.hid (own_below O39.out hba)
        have HMK2 := Lib.hid (markCommandS_c (.slice x5 u.length p5) W4.heap.size u.length 1 (by omega) (by omega) (flatC u) (by have := HUL.out; omega) Wa (own_below O59.out hba))
        clear hba
        go_wp2_with fail
        refine HMK2.out.mono ?_
        rintro e Wb ⟨rfl, hgb, hob⟩
        have Bb := Lib.hid (Ba.out.grown hgb Ba.out.size (fun k e => by have := K5.out k e; have := B4.out.size; omega))
        have O3b := Lib.hid (own_farC O3a.out hgb (fun k e1 e2 => by have := K3.out k e1; have := K5.out k e2; have := HZ34.out; omega))
        have HM := Lib.hid (marked_at hob)
        have HH := Lib.hid (fun W' (hb : Below Wb.heap.size Wb W') => heldCommandS_c x5 u.length p5 (by have := HUL.out; omega) W' (HM.out.keep hb))
        clear hgb hob
        go_wp2_with fail
        refine (HH.out _ (Below.refl _ _)).mono ?_
        rintro e Wc ⟨rfl, hbc⟩
        have Bc := Lib.hid (below_next Bb.out hbc)
        have Hc := Lib.hid hbc
        clear hbc
        go_wp2_with fail
        refine (HTO.out _ Bc.out).mono ?_
        rintro e Wd ⟨⟨sd, rfl, hod⟩, hbd⟩
        obtain ⟨xd, pd, rfl, hnd⟩ := nodes_of_own hod
        have Bd := Lib.hid (below_next Bc.out hbd)
        have Hd := Lib.hid (below_next Hc.out hbd)
        have HND := Lib.hid hnd
        clear hod hnd hbd
        go_wp2_with fail
        refine (HIM.out _ _ _ HND.out Bd.out).mono ?_
        rintro e We ⟨se, rfl, hoe, hbe⟩
        obtain ⟨xe, pe, rfl, hne⟩ := cmds_of_own hoe
        have Be := Lib.hid (below_next Bd.out hbe)
        have He := Lib.hid (below_next Hd.out hbe)
        have HE4 := Lib.hid (eqCommandS_c xe x3 u.length pe p3 u (by have := HUL.out; omega) We hne (cmds_own (own_below O3b.out He.out)))
        clear hoe hne hbe
        go_wp2_with fail
        refine HE4.out.mono ?_
        rintro e Wf ⟨rfl, hbf⟩
        have Bf := Lib.hid (below_next Be.out hbf)
        have Hf := Lib.hid (below_next He.out hbf)
        clear hbf
        go_wp2_with fail
        refine (HH.out _ Hf.out).mono ?_
        rintro e Wg ⟨rfl, hbg⟩
        go_wp2
        go_ret
        exact ⟨rfl, below_next Bf.out hbg⟩
    · have htt' : (1048576 : Int) < t.size := by omega
      clear w0 w2 htt l0 m0
      go_enter Tryz.func7, Tryz.ntmps7
      go_wp2
      go_ret
      exact ⟨rfl, Below.refl _ _⟩
  · have hss' : (1048576 : Int) < s.size := by omega
    clear w0 w1 hss l0 m0
    go_enter Tryz.func7, Tryz.ntmps7
    go_wp2
    go_ret
    exact ⟨rfl, Below.refl _ _⟩


set_option maxRecDepth 100000 in
/-- What the walk gives, for every argument and every world that holds the listed variables. -/
theorem contract (H : Type) (enc : TypeId × Value → H) (W : World) (base : Nat) (args : Array Value) (ds gs : List (DataW H)) (before : List MemPlace)
    (hval0 : ∀ (j : Nat) t v, Tryz.f7.params[j]? = some t → args[j]? = some v → Value.okWide Tryz.prog W .any base t v)
    (hW : DataW.Whole enc Tryz.prog Tryz.f7.params.toList Rows.fnExactMoveAllSpec.vars false W args.toList ds gs before) (hL : laidMetH Tryz.prog Rows.fnExactMoveAllRow.laid W) (hsh : W.ShapedOpen Tryz.prog) :
    Calls Tryz.prog 7 args W fun e W' => ∃ v, e = .returned v ∧ Rows.fnExactMoveAllSpec.post enc Tryz.prog Tryz.f7 false true false false W args v W' := by
  have hval : ∀ (j : Nat) t v, Tryz.f7.params[j]? = some t → args[j]? = some v → Value.okWide Tryz.prog W .any base t v := hval0
  have hW' := hW
  obtain ⟨p, q, hA0, hV, rfl, hfz, hnd⟩ := hW
  have hA : DataW.TrodAll enc Tryz.prog W 0 (fun _ => true) true Tryz.f7.params.toList args.toList ds p := hA0
  rw [Tryz.params7] at hA hval
  obtain ⟨v0, vs0, d0, ds0, p0, q0, hargs, rfl, rfl, h0, r0⟩ := trodAll_cons hA
  obtain ⟨v1, vs1, d1, ds1, p1, q1, rfl, rfl, rfl, h1, r1⟩ := trodAll_cons r0
  obtain ⟨v2, vs2, d2, ds2, p2, q2, rfl, rfl, rfl, h2, r2⟩ := trodAll_cons r1
  obtain ⟨rfl, rfl, rfl⟩ := trodAll_nil r2
  obtain rfl : args = #[v0, v1, v2] := by cases args; simp_all
  obtain ⟨_, _, _, _, e0, _, _, _, _, _, e1, _, rfl, -⟩ := trodVars_two hV
  obtain ⟨a0, len0, cap0, rfl⟩ := okWide_slice Tryz.underlying38 (hval 0 38 v0 rfl rfl)
  have k0 := h0
  have lt0 : ∀ x ∈ p0, x.block < W.heap.size := by obtain ⟨m, hm⟩ := k0; exact DataW.trod_lt m _ _ _ hm
  obtain ⟨z0, w0, l0, m0⟩ : ∃ ns, NodesAt W a0 len0 ns ∧ len0 ≤ maxLen ∧ Short maxLen ns := by
    obtain ⟨fuel, hf⟩ := h0
    exact open_nodes hf
  obtain ⟨a1, rfl, rfl, rfl, w1⟩ := open_string Tryz.underlying9 (hval 1 9 v1 rfl rfl) h1
  obtain ⟨a2, rfl, rfl, rfl, w2⟩ := open_string Tryz.underlying9 (hval 2 9 v2 rfl rfl) h2
  clear hA0 hval0
  refine (walk a0 len0 cap0 z0 l0 m0 a1 w1 a2 w2 W w0 (cmdVars_of hL (by kernel_rfl) (by kernel_rfl) (by kernel_rfl))).mono fun e W' ⟨he, bel⟩ => ?_
  subst he
  exact ⟨_, rfl, _, _, _, [], _, _, hW', trodAll_mk1 (shut_bool Tryz.underlying4 _), (trodAll_cons_mk (Below.trod laidOut (by kernel_rfl) (of_decide_eq_true (by kernel_rfl)) k0 bel lt0) (trodAll_cons_mk (shut_string Tryz.underlying9 w1) (trodAll_cons_mk (shut_string Tryz.underlying9 w2) trodAll_mk0))), Below.trodVars laidOut bel (by kernel_rfl) hV, bel.frame _, fun h => by cases h⟩

theorem laid_met (os : Os) : laidMet Tryz.prog Rows.fnExactMoveAllRow.laid ((World.laidAll Tryz.prog os Rows.fnExactMoveAllRow.laid).forCall (fun _ _ => 0) ⟨#[], #[.slice none 0 0, .string ⟨#[]⟩, .string ⟨#[]⟩], []⟩).memory :=
  laidMet_laidAll _ (by kernel_rfl) (by kernel_rfl)
theorem reads (os : Os) {H : Type} (enc : TypeId × Value → H) : ∃ x, DataW.whole enc Tryz.prog ((World.laidAll Tryz.prog os Rows.fnExactMoveAllRow.laid).forCall (fun _ _ => 0) ⟨#[], #[.slice none 0 0, .string ⟨#[]⟩, .string ⟨#[]⟩], []⟩).memory Tryz.f7.params.toList Rows.fnExactMoveAllSpec.vars false #[Value.slice none 0 0, Value.string ⟨#[]⟩, Value.string ⟨#[]⟩].toList 8 = some x :=
  Option.isSome_iff_exists.1 (by kernel_rfl)

set_option maxRecDepth 100000 in
theorem lifted (os : Os) (started : os.Started) (H : Type) (enc : TypeId × Value → H) (F : Stop.Interp) :
    ReturnsInHanded {} Tryz.checked os 7 .any ((OpenSpec.ofChange Rows.fnExactMoveAllSpec).preRow enc Tryz.prog Tryz.f7 Rows.fnExactMoveAllRow.domain false Rows.fnExactMoveAllRow.laid) (((OpenSpec.ofChange Rows.fnExactMoveAllSpec).at F).post enc Tryz.prog Tryz.f7 false true false false) := by
  obtain ⟨x, hx⟩ := reads os enc
  refine returnsInHanded_of_row (C := Tryz.checked) (s := OpenSpec.ofChange Rows.fnExactMoveAllSpec) own started (by kernel_rfl) Tryz.func7
    (witness_row_atRef (enc := enc) (C := Tryz.checked) false (World.laidAll Tryz.prog os Rows.fnExactMoveAllRow.laid) #[.slice none 0 0, .string ⟨#[]⟩, .string ⟨#[]⟩] rfl (by kernel_rfl) (by kernel_rfl) (by kernel_rfl)
      (OpenSpec.preRow_of_cond 8 hx (by kernel_rfl) (fun k hk => by cases hk) (by kernel_rfl) (laid_met os))) ?_
  intro W base args ds gs before hval hW _ _ _ hL hsh _
  exact contract H enc W base args ds gs before hval hW hL hsh

theorem said : Rows.FnExactMoveAllSaid :=
  OpenClaim.holds_of_cond 7 Tryz.f7 rfl rfl rfl rfl rfl rfl rfl ⟨rfl, rfl, rfl, rfl, rfl⟩ rfl rfl rfl rfl rfl (by kernel_rfl) Tryz.func7 (by kernel_rfl)
    (of_decide_eq_true (by kernel_rfl)) (by unfold Func.isWrapper; first | (rw [if_pos (by decide +kernel)]; kernel_rfl) | (rw [if_neg (by decide +kernel)]; exact ⟨rfl, rfl⟩))
    (fun os started H enc _ F => by rw [OpenClaim.pre_eq_preRow]; exact lifted os started H enc F)

/-- No parameter wants a stand-in; the program's own looks: what the card asks. -/
theorem plain (f : FuncId) (fn : Func) (hf : Tryz.pinned.checked.prog.funcNamed Rows.fnExactMoveAllRow.func = some f) (hfn : Tryz.pinned.checked.prog.funcs[f]? = some fn) :
    true = Tryz.pinned.checked.prog.looks [] ∧ ∀ (j : Nat) t, fn.params[j]? = some t → Tryz.pinned.checked.prog.wantsStandIn t = false := by
  obtain rfl : f = 7 := Option.some.inj ((show Tryz.prog.funcNamed Rows.fnExactMoveAllRow.func = some 7 by kernel_rfl).symm.trans hf) |>.symm
  obtain rfl : fn = Tryz.f7 := (Option.some.inj (Tryz.func7.symm.trans hfn)).symm
  refine ⟨by kernel_rfl, fun j t ht => ?_⟩
  rw [Tryz.params7] at ht
  have hm := Array.mem_of_getElem? ht
  simp at hm
  rcases hm with rfl | rfl
  · exact (show Tryz.prog.wantsStandIn 38 = false by kernel_rfl)
  · exact (show Tryz.prog.wantsStandIn 9 = false by kernel_rfl)

/-- THE CARD. -/
theorem card : Rows.FnExactMoveAllCardSaid :=
  Claim7.holds_tied_plain_at .later [] _ _ _ _ said (fun _ h => by cases h) (by kernel_rfl) (fun _ h => by cases h) fnExactMoveAll_row_tie rfl ⟨rfl, rfl⟩ (by kernel_rfl) rfl plain (by kernel_rfl)
end Go.Proofs.YtncceljffcjoiaaGreatDoor.fnExactMoveAll
