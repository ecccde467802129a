/-
  laws.FnExactTreeValid returns true for every input, and leaves its arguments as they were.
  Conditions: none.
-/
import Derived.Test.YtkoopkaoojhfhaaRows
import Derived.Test.YtkoopkaoojhfhaaIu
import Derived.Test.YtkoopkaoojhfhaaOn
import Derived.Test.YtkoopkaoojhfhaaSz
import Derived.Test.YtkoopkaoojhfhaaMk
import Derived.WalkKit
import Derived.ProofKit
import Derived.OpenShut
import Derived.ShutString
import Derived.ChangeOld
import Derived.Below
namespace Go.Proofs.Ytkoopkaoojhfhaa.fnExactTreeValid
open Go.ChangeShapes Go.WideShapes Go.ChangeAt Go.RowKit
open Go.ChangeMaps (open_string shut_string)
set_option linter.unusedVariables false

theorem own : ownKnob Try.prog.godebug = none := by kernel_rfl
theorem laidOut : laidOutB Try.prog = true := by kernel_rfl

set_option maxHeartbeats 1000000 in
set_option maxRecDepth 100000 in
theorem walk (a0 : Option Addr) (len0 cap0 : Nat) (ns : List Nd) (l0 : len0 ≤ maxLen) (m0 : Short maxLen ns) (w : World) (w0 : NodesAt w a0 len0 ns) :
    Calls Try.prog 12 #[.slice a0 len0 cap0] w fun e w' => e = .returned (.bool true) ∧ Below w.heap.size w w' := by
  have HSZ := Lib.hid (szNodeS_c a0 len0 cap0 ns l0 m0 w w0)
  have HN := Lib.hid w0
  clear w0 l0 m0
  go_enter Try.func12, Try.ntmps12
  go_wp2_with fail
  refine HSZ.out.mono ?_
  rintro e W1 ⟨z, rfl, hz, hb1⟩
  have HB1 := Lib.hid hb1
  clear hb1
  by_cases h0 : z < 0
  · go_wp2
    go_ret
    exact ⟨rfl, HB1.out⟩
  · obtain ⟨hl, hs⟩ := hz (by omega)
    have hz0 : 0 ≤ z := by omega
    have hzd : decide (z < 0) = false := decide_eq_false h0
    have HTO := Lib.hid (fun W' (hb : Below w.heap.size w W') => toNodeS_c a0 len0 cap0 ns (by omega) W' (HN.out.keep hb))
    have hs2 : Short 2097152 ns := hs.mono (by omega)
    have HLE := Lib.hid HN.out.1
    have HS2 := Lib.hid hs2
    clear h0 hz hs hs2
    go_wp2_with fail
    refine (HTO.out _ HB1.out).mono ?_
    rintro e W2 ⟨⟨s2, rfl, ho2⟩, hb2⟩
    obtain ⟨x2, p2, rfl, hn2⟩ := nodes_of_own ho2
    have HB2 := Lib.hid (below_next HB1.out hb2)
    have HSV := Lib.hid (specTreeValid_c x2 ns.length p2 ns (by have := HLE.out; omega) HS2.out W2 hn2)
    clear ho2 hn2 hb2
    go_wp2_with fail
    refine HSV.out.mono ?_
    rintro e W3 ⟨rfl, hb3⟩
    have HB3 := Lib.hid (below_next HB2.out hb3)
    clear hb3
    go_wp2_with fail
    refine (HTO.out _ HB3.out).mono ?_
    rintro e W4 ⟨⟨s4, rfl, ho4⟩, hb4⟩
    obtain ⟨x4, p4, rfl, hn4⟩ := nodes_of_own ho4
    have HB4 := Lib.hid (below_next HB3.out hb4)
    have HN4 := Lib.hid hn4
    have HIV := Lib.hid (implTreeValid_c x4 ns.length p4 ns (by have := HLE.out; omega) HS2.out W4 hn4)
    clear ho4 hn4 hb4
    go_wp2_with fail
    refine HIV.out.mono ?_
    rintro e W5 ⟨rfl, hb5⟩
    have HB5 := Lib.hid (below_next HB4.out hb5)
    have HN5 := Lib.hid (HN4.out.keep hb5)
    clear hb5
    go_wp2_with fail
    refine (HTO.out _ HB5.out).mono ?_
    rintro e W6 ⟨⟨s6, rfl, ho6⟩, hb6⟩
    obtain ⟨x6, p6, rfl, hn6⟩ := nodes_of_own ho6
    have HB6 := Lib.hid (below_next HB5.out hb6)
    have HEQ := Lib.hid (eqNodeS_c x4 x6 ns.length p4 p6 ns (by have := HLE.out; omega) W6 (HN5.out.keep hb6) hn6)
    clear ho6 hn6 hb6
    go_wp2_with fail
    refine HEQ.out.mono ?_
    rintro e W7 ⟨rfl, hb7⟩
    have HB7 := Lib.hid (below_next HB6.out hb7)
    clear hb7
    go_wp2
    go_ret
    exact ⟨rfl, HB7.out⟩

set_option maxRecDepth 100000 in
theorem lifted (os : Os) (started : os.Started) (H : Type) (enc : TypeId × Value → H) :
    ReturnsInHanded {} Try.checked os 12 .any (Rows.fnExactTreeValidSpec.pre6 enc Try.prog Try.f12 Rows.fnExactTreeValidRow.domain false) (Rows.fnExactTreeValidSpec.post enc Try.prog Try.f12 false true false false) := by
  refine returnsInHanded_of_change (C := Try.checked) own started (by kernel_rfl) Try.func12
    (ChangeSpec.witness6 (enc := enc) (C := Try.checked) false ⟨#[], #[.slice none 0 0], []⟩ 8 (by kernel_rfl) (by kernel_rfl) (by kernel_rfl) (by kernel_rfl)) ?_
  intro W base args ds gs before hval0 hW hcnd _
  have hval : ∀ (j : Nat) t v, Try.f12.params[j]? = some t → args[j]? = some v → Value.okWide Try.prog W .any base t v := hval0
  have hW' := hW
  obtain ⟨p, q, hA0, hV, rfl, hfz, hnd⟩ := hW
  have hA : DataW.TrodAll enc Try.prog W 0 (fun _ => true) true Try.f12.params.toList args.toList ds p := hA0
  rw [Try.params12] at hA hval
  obtain ⟨v0, vs0, d0, ds0, p0, q0, hargs, rfl, rfl, h0, r0⟩ := trodAll_cons hA
  obtain ⟨rfl, rfl, rfl⟩ := trodAll_nil r0
  obtain rfl : args = #[v0] := by cases args; simp_all
  obtain ⟨rfl, rfl⟩ := trodVars_none hV
  obtain ⟨a0, len0, cap0, rfl⟩ := okWide_slice Try.underlying48 (hval 0 48 v0 rfl rfl)
  have k0 := h0
  have lt0 : ∀ x ∈ p0, x.block < W.heap.size := by obtain ⟨m, hm⟩ := k0; exact DataW.trod_lt m _ _ _ hm
  obtain ⟨z0, w0, l0, m0⟩ : ∃ ns, NodesAt W a0 len0 ns ∧ len0 ≤ maxLen ∧ Short maxLen ns := by
    obtain ⟨fuel, hf⟩ := h0
    exact open_nodes hf
  clear hA0 hval0
  refine (walk a0 len0 cap0 z0 l0 m0 W w0).mono fun e W' ⟨he, bel⟩ => ?_
  subst he
  exact ⟨_, rfl, _, _, _, [], _, [], hW', trodAll_mk1 (shut_bool Try.underlying4 _), (trodAll_cons_mk (Below.trod laidOut (by kernel_rfl) (of_decide_eq_true (by kernel_rfl)) k0 bel lt0) trodAll_mk0), rfl, bel.frame _, fun h => by cases h⟩

theorem over : Rows.fnExactTreeValidRow.holds Try.pinned (OpenSpec.ofChange Rows.fnExactTreeValidSpec) :=
  OpenClaim.holds_of_wide 12 Try.f12 rfl rfl rfl rfl rfl rfl rfl ⟨rfl, rfl, rfl, rfl, rfl⟩ rfl rfl rfl rfl rfl (by kernel_rfl) Try.func12 (by kernel_rfl)
    (of_decide_eq_true (by kernel_rfl)) (by unfold Func.isWrapper; first | (rw [if_pos (by decide +kernel)]; kernel_rfl) | (rw [if_neg (by decide +kernel)]; exact ⟨rfl, rfl⟩))
    (fun os started H enc _ => lifted os started H enc)

theorem proved : Rows.FnExactTreeValidSaid := over
end Go.Proofs.Ytkoopkaoojhfhaa.fnExactTreeValid
