/-
  laws.FnExactTreeGet returns true for every input, and leaves its arguments as they were.
  Conditions: none.
-/
import Derived.Test.YtkoopkaoojhfhaaRows
import Derived.Test.YtkoopkaoojhfhaaIu
import Derived.Test.YtkoopkaoojhfhaaOn
import Derived.Test.YtkoopkaoojhfhaaSz
import Derived.Test.YtkoopkaoojhfhaaMk
import Derived.Test.YtkoopkaoojhfhaaTg
import Derived.WalkKit
import Derived.ProofKit
import Derived.OpenShut
import Derived.ShutString
import Derived.ChangeOld
import Derived.Below
namespace Go.Proofs.Ytkoopkaoojhfhaa.fnExactTreeGet
open Go.ChangeShapes Go.WideShapes Go.ChangeAt Go.RowKit
open Go.ChangeMaps (open_string shut_string)
set_option linter.unusedVariables false

theorem own : ownKnob Try.prog.godebug = none := by kernel_rfl
theorem laidOut : laidOutB Try.prog = true := by kernel_rfl

theorem cell_lt {W : World} {a : Addr} {v : Value} (h : W.cell? a = some v) : a.block < W.heap.size := World.block_lt_of_cell? W _ h

set_option maxHeartbeats 1000000 in
set_option maxRecDepth 100000 in
theorem walk (a0 : Option Addr) (len0 cap0 : Nat) (ns : List Nd) (l0 : len0 ≤ maxLen) (m0 : Short maxLen ns) (s : ByteArray) (w1 : s.size ≤ maxLen) (w : World) (w0 : NodesAt w a0 len0 ns) :
    Calls Try.prog 13 #[.slice a0 len0 cap0, .string s] w fun e w' => e = .returned (.bool true) ∧ Below w.heap.size w w' := by
  by_cases hss : s.size ≤ 1048576
  · have hss' : (s.size : Int) ≤ 1048576 := by omega
    have HSS := Lib.hid hss
    have HSZ := Lib.hid (szNodeS_c a0 len0 cap0 ns l0 m0 w w0)
    have HN := Lib.hid w0
    clear w0 l0 m0 w1 hss
    go_enter Try.func13, Try.ntmps13
    go_wp2_with fail
    refine HSZ.out.mono ?_
    rintro e W1 ⟨z, rfl, hz, hb1⟩
    have HB1 := Lib.hid hb1
    clear hb1
    by_cases h0 : z < 0
    · go_wp2
      go_ret
      exact ⟨rfl, HB1.out⟩
    · obtain ⟨hl, hs⟩ := hz (by omega)
      have hz0 : 0 ≤ z := by omega
      have hzd : decide (z < 0) = false := decide_eq_false h0
      have HTO := Lib.hid (fun W' (hb : Below w.heap.size w W') => toNodeS_c a0 len0 cap0 ns (by omega) W' (HN.out.keep hb))
      have HLE := Lib.hid HN.out.1
      have HS2 := Lib.hid (hs.mono (show 1048576 ≤ 2097152 by omega))
      obtain ⟨k, v, hkv⟩ : ∃ k v, treeGet ns s = (k, v) := ⟨_, _, rfl⟩
      have HKV := Lib.hid hkv
      clear h0 hz hs hkv
      go_wp2_with fail
      refine (HTO.out _ HB1.out).mono ?_
      rintro e W2 ⟨⟨s2, rfl, ho2⟩, hb2⟩
      obtain ⟨x2, p2, rfl, hn2⟩ := nodes_of_own ho2
      have HB2 := Lib.hid (below_next HB1.out hb2)
      have HSV := Lib.hid (show Calls Try.prog 18 #[.slice x2 ns.length p2, .string s] W2 (ConRet k v W2) by
        have := specTreeGet_c x2 ns.length p2 ns s (by have := HLE.out; omega) HS2.out (by have := HSS.out; omega) W2 hn2
        rwa [HKV.out] at this)
      clear ho2 hn2 hb2
      go_wp2_with fail
      refine HSV.out.mono ?_
      rintro e W3 ⟨rfl, hb3⟩
      have HB3 := Lib.hid (below_next HB2.out hb3)
      clear hb3
      unfold con
      go_wp2_with fail
      refine (HTO.out _ (below_next HB3.out (below_box _ _))).mono ?_
      rintro e W4 ⟨⟨s4, rfl, ho4⟩, hb4⟩
      obtain ⟨x4, p4, rfl, hn4⟩ := nodes_of_own ho4
      have c0 := box_cell hb4 0
      have c1 := box_cell hb4 1
      simp at c0 c1
      have HB4 := Lib.hid (below_next HB3.out (below_next (below_box _ _) hb4))
      have h34 : W3.heap.size < W4.heap.size := by have := cell_lt c0; simpa using this
      have HN4 := Lib.hid hn4
      have HIV := Lib.hid (show Calls Try.prog 17 #[.slice x4 ns.length p4, .string s] W4 (ConRet k v W4) by
        have := implTreeGet_c x4 ns.length p4 ns s (by have := HLE.out; omega) HS2.out (by have := HSS.out; omega) W4 hn4
        rwa [HKV.out] at this)
      clear ho4 hn4 hb4
      go_wp2_with fail
      refine HIV.out.mono ?_
      rintro e W5 ⟨rfl, hb5⟩
      have d0 := cell_kept hb5 c0
      have d1 := cell_kept hb5 c1
      have h35 : W3.heap.size < W5.heap.size := by have := cell_lt d0; simpa using this
      have HB5 := Lib.hid (below_next HB4.out hb5)
      have HN5 := Lib.hid (HN4.out.keep hb5)
      have HEC := Lib.hid (fun w => eqContent_c k v w)
      clear hb5 c0 c1 h34
      unfold con
      go_wp2_with fail
      refine (HEC.out _).mono ?_
      rintro e W6 ⟨rfl, hb6⟩
      have HB6 := Lib.hid (below_next HB5.out (below_next (below_box _ _) hb6))
      have HN6 := Lib.hid (HN5.out.keep (below_next (below_box _ _) hb6))
      clear hb6
      go_wp2_with fail
      refine (HTO.out _ HB6.out).mono ?_
      rintro e W7 ⟨⟨s7, rfl, ho7⟩, hb7⟩
      obtain ⟨x7, p7, rfl, hn7⟩ := nodes_of_own ho7
      have HB7 := Lib.hid (below_next HB6.out hb7)
      have HEQ := Lib.hid (eqNodeS_c x4 x7 ns.length p4 p7 ns (by have := HLE.out; omega) W7 (HN6.out.keep hb7) hn7)
      clear ho7 hn7 hb7
      go_wp2_with fail
      refine HEQ.out.mono ?_
      rintro e W8 ⟨rfl, hb8⟩
      have HB8 := Lib.hid (below_next HB7.out hb8)
      clear hb8
      go_wp2
      go_ret
      exact ⟨rfl, HB8.out⟩
  · have hss' : (1048576 : Int) < s.size := by omega
    clear hss w0 l0 m0
    have w1' : s.size ≤ 9223372036854775807 := Nat.le_trans w1 (by unfold maxLen; omega)
    go_enter Try.func13, Try.ntmps13
    go_wp2
    go_ret
    exact ⟨rfl, Below.refl _ _⟩

set_option maxRecDepth 100000 in
theorem lifted (os : Os) (started : os.Started) (H : Type) (enc : TypeId × Value → H) :
    ReturnsInHanded {} Try.checked os 13 .any (Rows.fnExactTreeGetSpec.pre6 enc Try.prog Try.f13 Rows.fnExactTreeGetRow.domain false) (Rows.fnExactTreeGetSpec.post enc Try.prog Try.f13 false true false false) := by
  refine returnsInHanded_of_change (C := Try.checked) own started (by kernel_rfl) Try.func13
    (ChangeSpec.witness6 (enc := enc) (C := Try.checked) false ⟨#[], #[.slice none 0 0, .string ⟨#[]⟩], []⟩ 8 (by kernel_rfl) (by kernel_rfl) (by kernel_rfl) (by kernel_rfl)) ?_
  intro W base args ds gs before hval0 hW hcnd _
  have hval : ∀ (j : Nat) t v, Try.f13.params[j]? = some t → args[j]? = some v → Value.okWide Try.prog W .any base t v := hval0
  have hW' := hW
  obtain ⟨p, q, hA0, hV, rfl, hfz, hnd⟩ := hW
  have hA : DataW.TrodAll enc Try.prog W 0 (fun _ => true) true Try.f13.params.toList args.toList ds p := hA0
  rw [Try.params13] at hA hval
  obtain ⟨v0, vs0, d0, ds0, p0, q0, hargs, rfl, rfl, h0, r0⟩ := trodAll_cons hA
  obtain ⟨v1, vs1, d1, ds1, p1, q1, rfl, rfl, rfl, h1, r1⟩ := trodAll_cons r0
  obtain ⟨rfl, rfl, rfl⟩ := trodAll_nil r1
  obtain rfl : args = #[v0, v1] := by cases args; simp_all
  obtain ⟨rfl, rfl⟩ := trodVars_none hV
  obtain ⟨a0, len0, cap0, rfl⟩ := okWide_slice Try.underlying48 (hval 0 48 v0 rfl rfl)
  have k0 := h0
  have lt0 : ∀ x ∈ p0, x.block < W.heap.size := by obtain ⟨m, hm⟩ := k0; exact DataW.trod_lt m _ _ _ hm
  obtain ⟨z0, w0, l0, m0⟩ : ∃ ns, NodesAt W a0 len0 ns ∧ len0 ≤ maxLen ∧ Short maxLen ns := by
    obtain ⟨fuel, hf⟩ := h0
    exact open_nodes hf
  obtain ⟨a1, rfl, rfl, rfl, w1⟩ := open_string Try.underlying9 (hval 1 9 v1 rfl rfl) h1
  clear hA0 hval0
  refine (walk a0 len0 cap0 z0 l0 m0 a1 w1 W w0).mono fun e W' ⟨he, bel⟩ => ?_
  subst he
  exact ⟨_, rfl, _, _, _, [], _, [], hW', trodAll_mk1 (shut_bool Try.underlying4 _), (trodAll_cons_mk (Below.trod laidOut (by kernel_rfl) (of_decide_eq_true (by kernel_rfl)) k0 bel lt0) (trodAll_cons_mk (shut_string Try.underlying9 w1) trodAll_mk0)), rfl, bel.frame _, fun h => by cases h⟩

theorem over : Rows.fnExactTreeGetRow.holds Try.pinned (OpenSpec.ofChange Rows.fnExactTreeGetSpec) :=
  OpenClaim.holds_of_wide 13 Try.f13 rfl rfl rfl rfl rfl rfl rfl ⟨rfl, rfl, rfl, rfl, rfl⟩ rfl rfl rfl rfl rfl (by kernel_rfl) Try.func13 (by kernel_rfl)
    (of_decide_eq_true (by kernel_rfl)) (by unfold Func.isWrapper; first | (rw [if_pos (by decide +kernel)]; kernel_rfl) | (rw [if_neg (by decide +kernel)]; exact ⟨rfl, rfl⟩))
    (fun os started H enc _ => lifted os started H enc)

theorem proved : Rows.FnExactTreeGetSaid := over
end Go.Proofs.Ytkoopkaoojhfhaa.fnExactTreeGet
