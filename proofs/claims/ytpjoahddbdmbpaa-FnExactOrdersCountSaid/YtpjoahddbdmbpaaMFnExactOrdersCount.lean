/-
  laws.FnExactOrdersCount returns true for every input, and leaves its arguments as they were.
  Conditions: none.
-/
import Derived.Test.YtpjoahddbdmbpaaRows
import Derived.WalkKit
import Derived.ProofKit
import Derived.OpenShut
import Derived.ShutString
import Derived.ChangeOld
import Derived.Below
import Derived.Test.YtpjoahddbdmbpaaQ8
import Derived.Test.YtpjoahddbdmbpaaQ6
import Derived.Test.YtpjoahddbdmbpaaQ10
import Derived.Test.YtpjoahddbdmbpaaQ9
namespace Go.Proofs.Ytpjoahddbdmbpaa.fnExactOrdersCount
open Go.ChangeShapes Go.WideShapes Go.ChangeAt Go.RowKit
open Go.ChangeMaps (open_string shut_string)
set_option linter.unusedVariables false

theorem own : ownKnob Try.prog.godebug = none := by kernel_rfl
theorem laidOut : laidOutB Try.prog = true := by kernel_rfl

set_option maxHeartbeats 2000000 in
set_option maxRecDepth 100000 in
theorem walk (a0 : Option Addr) (len0 cap0 : Nat) (cs : List Cmd) (l0 : len0 ≤ maxLen) (m0 : ShortC maxLen cs) (w : World) (w0 : CmdsAt w a0 len0 cs) :
    Calls Try.prog 13 #[.slice a0 len0 cap0] w fun e w' => e = .returned (.bool true) ∧ Below w.heap.size w w' := by
  have HSZ := Lib.hid (szCommandS_c 1048576 (by omega) (by omega) a0 len0 cap0 cs l0 m0 w w0)
  have HN := Lib.hid w0
  obtain ⟨vl, hvl⟩ : ∃ vl, ordersCount cs = vl := ⟨_, rfl⟩
  have hne : (vl != vl) = false := by simp
  have HVL := Lib.hid hvl
  clear w0 l0 m0 hvl
  go_enter Try.func13, Try.ntmps13
  go_wp2_with fail
  refine HSZ.out.mono ?_
  rintro e W1 ⟨z, rfl, hz1, hz, hb1⟩
  have B1 := Lib.hid hb1
  clear hb1
  by_cases h0 : z < 0
  · clear hz hz1
    go_wp2
    go_ret
    exact ⟨rfl, B1.out⟩
  · obtain ⟨hl, hs⟩ := hz (by omega)
    have hz0 : 0 ≤ z := by omega
    have hzd : decide (z < 0) = false := decide_eq_false h0
    have HTO := Lib.hid (fun W' (hb : Below w.heap.size w W') => toCommandS_c a0 len0 cap0 cs (by omega) W' (HN.out.keep hb))
    have HLE := Lib.hid HN.out.1
    have HLL := Lib.hid (show cs.length ≤ 1048576 by have := HLE.out; omega)
    have HS2 := Lib.hid (hs.mono (show 1048576 ≤ 2097152 by omega))
    have HSP := Lib.hid (fun x (p : Nat) W' (h : CmdsAt W' x cs.length cs) => show Calls Try.prog 27 #[.slice x cs.length p] W' (CountPost vl W') by rw [← HVL.out]; exact specOrdersCount_c x cs.length p cs (by have := HLL.out; omega) HS2.out W' h)
    have HIM := Lib.hid (fun x (p : Nat) W' (h : CmdsAt W' x cs.length cs) => show Calls Try.prog 26 #[.slice x cs.length p] W' (CountPostU vl W') by rw [← HVL.out]; exact implOrdersCount_c x cs.length p cs (by have := HLL.out; omega) HS2.out W' h)
    clear h0 hz hz1 hl hs
    go_wp2_with fail
    refine (HTO.out _ B1.out).mono ?_
    rintro e W2 ⟨⟨s2, rfl, ho2⟩, hb2⟩
    obtain ⟨x2, p2, rfl, hn2⟩ := cmds_of_own ho2
    have B2 := Lib.hid (below_next B1.out hb2)
    have HN2 := Lib.hid hn2
    clear ho2 hn2 hb2
    go_wp2_with fail
    refine (HSP.out _ _ _ HN2.out).mono ?_
    rintro e W3 ⟨rfl, hb3⟩
    have B3 := Lib.hid (below_next B2.out hb3)
    clear hb3
    go_wp2_with fail
    refine (HTO.out _ B3.out).mono ?_
    rintro e W4 ⟨⟨s4, rfl, ho4⟩, hb4⟩
    obtain ⟨x4, p4, rfl, hn4⟩ := cmds_of_own ho4
    have B4 := Lib.hid (below_next B3.out hb4)
    have HN4 := Lib.hid hn4
    clear ho4 hn4 hb4
    go_wp2_with fail
    refine (HIM.out _ _ _ HN4.out).mono ?_
    rintro e W5 ⟨rfl, hb5⟩
    have B5 := Lib.hid (below_next B4.out hb5)
    have HN5 := Lib.hid (HN4.out.keep hb5)
    clear hb5
    go_wp2_with fail
    refine (HTO.out _ B5.out).mono ?_
    rintro e W6 ⟨⟨s6, rfl, ho6⟩, hb6⟩
    obtain ⟨x6, p6, rfl, hn6⟩ := cmds_of_own ho6
    have B6 := Lib.hid (below_next B5.out hb6)
    have HE := Lib.hid (eqCommandS_c x4 x6 cs.length p4 p6 cs (by have := HLL.out; omega) W6 (HN5.out.keep hb6) hn6)
    clear ho6 hn6 hb6
    go_wp2_with fail
    refine HE.out.mono ?_
    rintro e W7 ⟨rfl, hb7⟩
    go_wp2
    go_ret
    exact ⟨rfl, below_next B6.out hb7⟩


set_option maxRecDepth 100000 in
theorem lifted (os : Os) (started : os.Started) (H : Type) (enc : TypeId × Value → H) :
    ReturnsInHanded {} Try.checked os 13 .any (Rows.fnExactOrdersCountSpec.pre6 enc Try.prog Try.f13 Rows.fnExactOrdersCountRow.domain false) (Rows.fnExactOrdersCountSpec.post enc Try.prog Try.f13 false true false false) := by
  refine returnsInHanded_of_change (C := Try.checked) own started (by kernel_rfl) Try.func13
    (ChangeSpec.witness6 (enc := enc) (C := Try.checked) false ⟨#[], #[.slice none 0 0], []⟩ 8 (by kernel_rfl) (by kernel_rfl) (by kernel_rfl) (by kernel_rfl)) ?_
  intro W base args ds gs before hval0 hW hcnd _
  have hval : ∀ (j : Nat) t v, Try.f13.params[j]? = some t → args[j]? = some v → Value.okWide Try.prog W .any base t v := hval0
  have hW' := hW
  obtain ⟨p, q, hA0, hV, rfl, hfz, hnd⟩ := hW
  have hA : DataW.TrodAll enc Try.prog W 0 (fun _ => true) true Try.f13.params.toList args.toList ds p := hA0
  rw [Try.params13] at hA hval
  obtain ⟨v0, vs0, d0, ds0, p0, q0, hargs, rfl, rfl, h0, r0⟩ := trodAll_cons hA
  obtain ⟨rfl, rfl, rfl⟩ := trodAll_nil r0
  obtain rfl : args = #[v0] := by cases args; simp_all
  obtain ⟨rfl, rfl⟩ := trodVars_none hV
  obtain ⟨a0, len0, cap0, rfl⟩ := okWide_slice Try.underlying49 (hval 0 49 v0 rfl rfl)
  have k0 := h0
  have lt0 : ∀ x ∈ p0, x.block < W.heap.size := by obtain ⟨m, hm⟩ := k0; exact DataW.trod_lt m _ _ _ hm
  obtain ⟨z0, w0, l0, m0⟩ : ∃ cs, CmdsAt W a0 len0 cs ∧ len0 ≤ maxLen ∧ ShortC maxLen cs := by
    obtain ⟨fuel, hf⟩ := h0
    exact open_commands hf
  clear hA0 hval0
  refine (walk a0 len0 cap0 z0 l0 m0 W w0).mono fun e W' ⟨he, bel⟩ => ?_
  subst he
  exact ⟨_, rfl, _, _, _, [], _, [], hW', trodAll_mk1 (shut_bool Try.underlying4 _), (trodAll_cons_mk (Below.trod laidOut (by kernel_rfl) (of_decide_eq_true (by kernel_rfl)) k0 bel lt0) trodAll_mk0), rfl, bel.frame _, fun h => by cases h⟩

theorem over : Rows.fnExactOrdersCountRow.holds Try.pinned (OpenSpec.ofChange Rows.fnExactOrdersCountSpec) :=
  OpenClaim.holds_of_wide 13 Try.f13 rfl rfl rfl rfl rfl rfl rfl ⟨rfl, rfl, rfl, rfl, rfl⟩ rfl rfl rfl rfl rfl (by kernel_rfl) Try.func13 (by kernel_rfl)
    (of_decide_eq_true (by kernel_rfl)) (by unfold Func.isWrapper; first | (rw [if_pos (by decide +kernel)]; kernel_rfl) | (rw [if_neg (by decide +kernel)]; exact ⟨rfl, rfl⟩))
    (fun os started H enc _ => lifted os started H enc)

theorem proved : Rows.FnExactOrdersCountSaid := over
end Go.Proofs.Ytpjoahddbdmbpaa.fnExactOrdersCount
