/-
  laws.FnExactRemoveAll returns true for every input, and leaves its arguments as they were.
  Conditions: none.
-/
import Derived.Test.YtncceljffcjoiaaRows
import Derived.WalkKit
import Derived.ProofKit
import Derived.OpenShut
import Derived.ShutString
import Derived.ChangeOld
import Derived.Below
import Derived.Test.YtncceljffcjoiaaQ6
import Derived.Test.YtncceljffcjoiaaQ5
import Derived.Test.YtncceljffcjoiaaOn
namespace Go.Proofs.Ytncceljffcjoiaa.fnExactRemoveAll
open Go.ChangeShapes Go.WideShapes Go.ChangeAt Go.RowKit
open Go.ChangeMaps (open_string shut_string)
set_option linter.unusedVariables false

theorem own : ownKnob Try.prog.godebug = none := by kernel_rfl
theorem laidOut : laidOutB Try.prog = true := by kernel_rfl

theorem own_farC {W W' : World} {b : Nat} {e : TypeId} {size n : Nat} {v : Value} {xs : List Value} (h : W.ownsRow b e size v n xs) {row : Value} (hg : W.grownBy W' row.ownBlock) (hd : ∀ k, v.ownBlock = some k → row.ownBlock ≠ some k) : W'.ownsRow b e size v n xs := by
  refine h.kept hg ?_
  cases hv : v.ownBlock with
  | none => exact .inl rfl
  | some k => right; exact fun e => hd k hv e.symm

theorem marked_at {W : World} {base len p : Nat} {x : Option Addr} {e : TypeId} (h : W.ownsRow base e 5 (.slice x len p) len (flatC (markCK 1 len))) : CmdsAt W x len (markCK 1 len) := by
  have h2 : W.ownsRow base e 5 (.slice x len p) (markCK 1 len).length (flatC (markCK 1 len)) := by rw [markCK_len]; exact h
  obtain ⟨_, _, e, h⟩ := cmds_of_own h2
  rw [markCK_len] at e h
  simp at e; rw [e.1]; exact h

/-- What a move tells, its two parts named. -/
def MPost (out : List Cmd) (b : Bool) (W : World) (e : Ending) (w' : World) : Prop :=
  ∃ sl, e = .returned (.tuple #[sl, .bool b]) ∧ w'.ownsRow W.heap.size 33 5 sl out.length (flatC out) ∧ Below W.heap.size W w'

theorem move_named {r : List Cmd × Bool} {out : List Cmd} {b : Bool} {W : World} {f : Nat} {args : Array Value} (hr : r = (out, b)) (h : Calls Try.prog f args W (MovePost r W)) : Calls Try.prog f args W (MPost out b W) := by
  rw [hr] at h
  exact h

theorem move_len {ns : List Nd} {p : ByteArray} {out : List Cmd} {b : Bool} (h : removeAll ns p = (out, b)) : out.length ≤ 20 := by
  cases b with
  | true => obtain ⟨_, _, _, _, _, _, hl, _⟩ := remove_done h; omega
  | false =>
    unfold removeAll at h
    split at h
    · cases h
    · have e := congrArg Prod.fst h
      simp only at e
      rw [← e]; simp

set_option maxHeartbeats 4000000 in
set_option maxRecDepth 100000 in
theorem walk (a0 : Option Addr) (len0 cap0 : Nat) (ns : List Nd) (l0 : len0 ≤ maxLen) (m0 : Short maxLen ns) (s : ByteArray) (w1 : s.size ≤ maxLen) (w : World) (w0 : NodesAt w a0 len0 ns) :
    Calls Try.prog 4 #[.slice a0 len0 cap0, .string s] w fun e w' => e = .returned (.bool true) ∧ Below w.heap.size w w' := by
  by_cases hss : s.size ≤ 1048576
  · have hss' : (s.size : Int) ≤ 1048576 := by omega
    have HSS := Lib.hid hss
    clear w1 hss
    have HSZ := Lib.hid (szNodeS_c a0 len0 cap0 ns l0 m0 w w0)
    have HN := Lib.hid w0
    obtain ⟨⟨u, b⟩, hu⟩ : ∃ r, removeAll ns s = r := ⟨_, rfl⟩
    have HUL := Lib.hid (move_len hu)
    have HU := Lib.hid hu
    have hbb : (b != b) = false := by simp
    clear w0 l0 m0 hu
    go_enter Try.func4, Try.ntmps4
    go_wp2_with fail
    refine HSZ.out.mono ?_
    rintro e W1 ⟨z, rfl, hz, hb1⟩
    have B1 := Lib.hid hb1
    clear hb1
    by_cases h0 : z < 0
    · clear hz
      go_wp2
      go_ret
      exact ⟨rfl, B1.out⟩
    · obtain ⟨hl, hs⟩ := hz (by omega)
      have hz0 : 0 ≤ z := by omega
      have hzd : decide (z < 0) = false := decide_eq_false h0
      have HTO := Lib.hid (fun W' (hb : Below w.heap.size w W') => toNodeS_c a0 len0 cap0 ns (by omega) W' (HN.out.keep hb))
      have HLE := Lib.hid HN.out.1
      have HLL := Lib.hid (show ns.length ≤ 1048576 by have := HLE.out; omega)
      have hnl : (ns.length : Int) ≤ 1048576 := by have := HLL.out; omega
      have hul : (u.length : Int) ≤ 1048576 := by have := HUL.out; omega
      have HS2 := Lib.hid (Short.mono (show Short 1048576 ns from hs) (show 1048576 ≤ 2097152 by omega))
      have HSP := Lib.hid (fun x (p : Nat) W' (h : NodesAt W' x ns.length ns) => move_named HU.out (specRemoveAll_c x ns.length p ns s (by have := HLL.out; omega) HS2.out (by have := HSS.out; omega) W' h))
      have HIM := Lib.hid (fun x (p : Nat) W' (h : NodesAt W' x ns.length ns) (hb : Below w.heap.size w W') => move_named HU.out (implRemoveAll_c x ns.length p ns s (by have := HLL.out; omega) HS2.out (by have := HSS.out; omega) W' h))
      clear h0 hz hl hs
      go_wp2_with fail
      refine (HTO.out _ B1.out).mono ?_
      rintro e W2 ⟨⟨s2, rfl, ho2⟩, hb2⟩
      obtain ⟨x2, p2, rfl, hn2⟩ := nodes_of_own ho2
      have B2 := Lib.hid (below_next B1.out hb2)
      have HN2 := Lib.hid hn2
      clear ho2 hn2 hb2
      go_wp2_with fail
      refine (HSP.out _ _ _ HN2.out).mono ?_
      rintro e W3 ⟨s3, rfl, ho3, hb3⟩
      obtain ⟨x3, p3, rfl, -⟩ := cmds_of_own ho3
      have B3 := Lib.hid (below_next B2.out hb3)
      have O3 := Lib.hid ho3
      have K3 := Lib.hid (fun k (e : (Value.slice x3 u.length p3).ownBlock = some k) => (ho3.lt k e).2)
      clear ho3 hb3
      go_wp2_with fail
      refine (HTO.out _ B3.out).mono ?_
      rintro e W4 ⟨⟨s4, rfl, ho4⟩, hb4⟩
      obtain ⟨x4, p4, rfl, hn4⟩ := nodes_of_own ho4
      have B4 := Lib.hid (below_next B3.out hb4)
      have O34 := Lib.hid (own_below O3.out hb4)
      have HZ34 := Lib.hid (show W3.heap.size ≤ W4.heap.size from hb4.size)
      have O4 := Lib.hid ho4
      have N4 := Lib.hid hn4
      have K4 := Lib.hid (fun k (e : (Value.slice x4 ns.length p4).ownBlock = some k) => ho4.lt k e)
      clear ho4 hn4 hb4
      go_wp2_with fail
      refine (HIM.out _ _ _ N4.out B4.out).mono ?_
      rintro e W5 ⟨s5, rfl, ho5, hb5⟩
      obtain ⟨x5, p5, rfl, hn5⟩ := cmds_of_own ho5
      have B5 := Lib.hid (below_next B4.out hb5)
      have O35 := Lib.hid (own_below O34.out hb5)
      have O45 := Lib.hid (own_below O4.out hb5)
      have O5 := Lib.hid ho5
      have K5 := Lib.hid (fun k (e : (Value.slice x5 u.length p5).ownBlock = some k) => (ho5.lt k e).1)
      have HE1 := Lib.hid (eqCommandS_c x5 x3 u.length p5 p3 u (by have := HUL.out; omega) W5 hn5 (cmds_own O35.out))
      clear ho5 hn5 hb5
      go_wp2_with fail
      refine HE1.out.mono ?_
      rintro e W6 ⟨rfl, hb6⟩
      have B6 := Lib.hid (below_next B5.out hb6)
      have H6 := Lib.hid hb6
      clear hb6
      go_wp2_with fail
      refine (HTO.out _ B6.out).mono ?_
      rintro e W7 ⟨⟨s7, rfl, ho7⟩, hb7⟩
      obtain ⟨x7, p7, rfl, hn7⟩ := nodes_of_own ho7
      have B7 := Lib.hid (below_next B6.out hb7)
      have H7 := Lib.hid (below_next H6.out hb7)
      have HE2 := Lib.hid (eqNodeS_c x4 x7 ns.length p4 p7 ns (by have := HLL.out; omega) W7 (by obtain ⟨_, _, e, h⟩ := nodes_of_own (own_below O45.out H7.out); simp at e; rw [e.1]; exact h) hn7)
      clear ho7 hn7 hb7
      go_wp2_with fail
      refine HE2.out.mono ?_
      rintro e W8 ⟨rfl, hb8⟩
      have B8 := Lib.hid (below_next B7.out hb8)
      have H8 := Lib.hid (below_next H7.out hb8)
      have HMK := Lib.hid (markNodeS_c (.slice x4 ns.length p4) W3.heap.size ns.length (flatN ns) (by have := HLL.out; omega) W8 (own_below O45.out H8.out))
      clear hb8
      go_wp2_with fail
      refine HMK.out.mono ?_
      rintro e W9 ⟨rfl, hg9, -⟩
      have B9 := Lib.hid (B8.out.grown hg9 B8.out.size (fun k e => by have := (K4.out k e).1; have := B3.out.size; omega))
      have O39 := Lib.hid (own_farC (own_below O35.out H8.out) hg9 (fun k e1 e2 => by have := K3.out k e1; have := (K4.out k e2).1; omega))
      have O59 := Lib.hid (own_farC (own_below O5.out H8.out) hg9 (fun k e1 e2 => by have := K5.out k e1; have := (K4.out k e2).2; omega))
      have HE3 := Lib.hid (eqCommandS_c x5 x3 u.length p5 p3 u (by have := HUL.out; omega) W9 (cmds_own O59.out) (cmds_own O39.out))
      clear hg9
      go_wp2_with fail
      refine HE3.out.mono ?_
      rintro e Wa ⟨rfl, hba⟩
      have Ba := Lib.hid (below_next B9.out hba)
      have O3a := Lib.hid (own_below O39.out hba)
      have HMK2 := Lib.hid (markCommandS_c (.slice x5 u.length p5) W4.heap.size u.length 1 (by omega) (by omega) (flatC u) (by have := HUL.out; omega) Wa (own_below O59.out hba))
      clear hba
      go_wp2_with fail
      refine HMK2.out.mono ?_
      rintro e Wb ⟨rfl, hgb, hob⟩
      have Bb := Lib.hid (Ba.out.grown hgb Ba.out.size (fun k e => by have := K5.out k e; have := B4.out.size; omega))
      have O3b := Lib.hid (own_farC O3a.out hgb (fun k e1 e2 => by have := K3.out k e1; have := K5.out k e2; have := HZ34.out; omega))
      have HM := Lib.hid (marked_at hob)
      have HH := Lib.hid (fun W' (hb : Below Wb.heap.size Wb W') => heldCommandS_c x5 u.length p5 (by have := HUL.out; omega) W' (HM.out.keep hb))
      clear hgb hob
      go_wp2_with fail
      refine (HH.out _ (Below.refl _ _)).mono ?_
      rintro e Wc ⟨rfl, hbc⟩
      have Bc := Lib.hid (below_next Bb.out hbc)
      have Hc := Lib.hid hbc
      clear hbc
      go_wp2_with fail
      refine (HTO.out _ Bc.out).mono ?_
      rintro e Wd ⟨⟨sd, rfl, hod⟩, hbd⟩
      obtain ⟨xd, pd, rfl, hnd⟩ := nodes_of_own hod
      have Bd := Lib.hid (below_next Bc.out hbd)
      have Hd := Lib.hid (below_next Hc.out hbd)
      have HND := Lib.hid hnd
      clear hod hnd hbd
      go_wp2_with fail
      refine (HIM.out _ _ _ HND.out Bd.out).mono ?_
      rintro e We ⟨se, rfl, hoe, hbe⟩
      obtain ⟨xe, pe, rfl, hne⟩ := cmds_of_own hoe
      have Be := Lib.hid (below_next Bd.out hbe)
      have He := Lib.hid (below_next Hd.out hbe)
      have HE4 := Lib.hid (eqCommandS_c xe x3 u.length pe p3 u (by have := HUL.out; omega) We hne (cmds_own (own_below O3b.out He.out)))
      clear hoe hne hbe
      go_wp2_with fail
      refine HE4.out.mono ?_
      rintro e Wf ⟨rfl, hbf⟩
      have Bf := Lib.hid (below_next Be.out hbf)
      have Hf := Lib.hid (below_next He.out hbf)
      clear hbf
      go_wp2_with fail
      refine (HH.out _ Hf.out).mono ?_
      rintro e Wg ⟨rfl, hbg⟩
      go_wp2
      go_ret
      exact ⟨rfl, below_next Bf.out hbg⟩
  · have hss' : (1048576 : Int) < s.size := by omega
    clear w0 w1 hss l0 m0
    go_enter Try.func4, Try.ntmps4
    go_wp2
    go_ret
    exact ⟨rfl, Below.refl _ _⟩


set_option maxRecDepth 100000 in
theorem lifted (os : Os) (started : os.Started) (H : Type) (enc : TypeId × Value → H) :
    ReturnsInHanded {} Try.checked os 4 .any (Rows.fnExactRemoveAllSpec.pre6 enc Try.prog Try.f4 Rows.fnExactRemoveAllRow.domain false) (Rows.fnExactRemoveAllSpec.post enc Try.prog Try.f4 false true false false) := by
  refine returnsInHanded_of_change (C := Try.checked) own started (by kernel_rfl) Try.func4
    (ChangeSpec.witness6 (enc := enc) (C := Try.checked) false ⟨#[], #[.slice none 0 0, .string ⟨#[]⟩], []⟩ 8 (by kernel_rfl) (by kernel_rfl) (by kernel_rfl) (by kernel_rfl)) ?_
  intro W base args ds gs before hval0 hW hcnd _
  have hval : ∀ (j : Nat) t v, Try.f4.params[j]? = some t → args[j]? = some v → Value.okWide Try.prog W .any base t v := hval0
  have hW' := hW
  obtain ⟨p, q, hA0, hV, rfl, hfz, hnd⟩ := hW
  have hA : DataW.TrodAll enc Try.prog W 0 (fun _ => true) true Try.f4.params.toList args.toList ds p := hA0
  rw [Try.params4] at hA hval
  obtain ⟨v0, vs0, d0, ds0, p0, q0, hargs, rfl, rfl, h0, r0⟩ := trodAll_cons hA
  obtain ⟨v1, vs1, d1, ds1, p1, q1, rfl, rfl, rfl, h1, r1⟩ := trodAll_cons r0
  obtain ⟨rfl, rfl, rfl⟩ := trodAll_nil r1
  obtain rfl : args = #[v0, v1] := by cases args; simp_all
  obtain ⟨rfl, rfl⟩ := trodVars_none hV
  obtain ⟨a0, len0, cap0, rfl⟩ := okWide_slice Try.underlying38 (hval 0 38 v0 rfl rfl)
  have k0 := h0
  have lt0 : ∀ x ∈ p0, x.block < W.heap.size := by obtain ⟨m, hm⟩ := k0; exact DataW.trod_lt m _ _ _ hm
  obtain ⟨z0, w0, l0, m0⟩ : ∃ ns, NodesAt W a0 len0 ns ∧ len0 ≤ maxLen ∧ Short maxLen ns := by
    obtain ⟨fuel, hf⟩ := h0
    exact open_nodes hf
  obtain ⟨a1, rfl, rfl, rfl, w1⟩ := open_string Try.underlying9 (hval 1 9 v1 rfl rfl) h1
  clear hA0 hval0
  refine (walk a0 len0 cap0 z0 l0 m0 a1 w1 W w0).mono fun e W' ⟨he, bel⟩ => ?_
  subst he
  exact ⟨_, rfl, _, _, _, [], _, [], hW', trodAll_mk1 (shut_bool Try.underlying4 _), (trodAll_cons_mk (Below.trod laidOut (by kernel_rfl) (of_decide_eq_true (by kernel_rfl)) k0 bel lt0) (trodAll_cons_mk (shut_string Try.underlying9 w1) trodAll_mk0)), rfl, bel.frame _, fun h => by cases h⟩

theorem over : Rows.fnExactRemoveAllRow.holds Try.pinned (OpenSpec.ofChange Rows.fnExactRemoveAllSpec) :=
  OpenClaim.holds_of_wide 4 Try.f4 rfl rfl rfl rfl rfl rfl rfl ⟨rfl, rfl, rfl, rfl, rfl⟩ rfl rfl rfl rfl rfl (by kernel_rfl) Try.func4 (by kernel_rfl)
    (of_decide_eq_true (by kernel_rfl)) (by unfold Func.isWrapper; first | (rw [if_pos (by decide +kernel)]; kernel_rfl) | (rw [if_neg (by decide +kernel)]; exact ⟨rfl, rfl⟩))
    (fun os started H enc _ => lifted os started H enc)

theorem proved : Rows.FnExactRemoveAllSaid := over
end Go.Proofs.Ytncceljffcjoiaa.fnExactRemoveAll
