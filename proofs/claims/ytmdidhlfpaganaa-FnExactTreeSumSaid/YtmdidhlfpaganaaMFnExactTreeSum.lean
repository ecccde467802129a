/-
  laws.FnExactTreeSum returns true for every input, and leaves its arguments as they were.
  Conditions: none.
-/
import Derived.Test.YtmdidhlfpaganaaRows
import Derived.WalkKit
import Derived.ProofKit
import Derived.OpenShut
import Derived.ShutString
import Derived.ChangeOld
import Derived.Below
import Derived.Test.YtmdidhlfpaganaaK5
namespace Go.Proofs.Ytmdidhlfpaganaa.fnExactTreeSum
open Go.ChangeShapes Go.WideShapes Go.ChangeAt Go.RowKit
open Go.ChangeMaps (open_string shut_string)
set_option linter.unusedVariables false

theorem own : ownKnob Try.prog.godebug = none := by kernel_rfl
theorem laidOut : laidOutB Try.prog = true := by kernel_rfl

set_option maxHeartbeats 2000000 in
set_option maxRecDepth 100000 in
theorem walk (a0 : Option Addr) (len0 cap0 : Nat) (ns : List Nd) (l0 : len0 ≤ maxLen) (m0 : Short maxLen ns) (s : ByteArray) (w1 : s.size ≤ maxLen) (w : World) (w0 : NodesAt w a0 len0 ns) :
    Calls Try.prog 9 #[.slice a0 len0 cap0, .string s] w fun e w' => e = .returned (.bool true) ∧ Below w.heap.size w w' := by
  by_cases hss : s.size ≤ 1048576
  · have hss' : (s.size : Int) ≤ 1048576 := by omega
    have HSS := Lib.hid hss
    have HSZ := Lib.hid (szNodeS_c a0 len0 cap0 ns l0 m0 w w0)
    have HN := Lib.hid w0
    clear w0 l0 m0 w1 hss
    go_enter Try.func9, Try.ntmps9
    go_wp2_with fail
    refine HSZ.out.mono ?_
    rintro e W1 ⟨z, rfl, hz, hb1⟩
    have HB1 := Lib.hid hb1
    clear hb1
    by_cases h0 : z < 0
    · go_wp2
      go_ret
      exact ⟨rfl, HB1.out⟩
    · obtain ⟨hl, hs⟩ := hz (by omega)
      have hz0 : 0 ≤ z := by omega
      have hzd : decide (z < 0) = false := decide_eq_false h0
      have HTO := Lib.hid (fun W' (hb : Below w.heap.size w W') => toNodeS_c a0 len0 cap0 ns (by omega) W' (HN.out.keep hb))
      have HLE := Lib.hid HN.out.1
      have HS2 := Lib.hid (hs.mono (show 1048576 ≤ 2097152 by omega))
      have HL := Lib.hid (show ns.length ≤ 1048576 by have := HLE.out; omega)
      obtain ⟨r, hr⟩ : ∃ r, treeSum ns s = r := ⟨_, rfl⟩
      have HI := Lib.hid (fun x (p : Nat) W' (h : NodesAt W' x ns.length ns) => show Calls Try.prog 13 #[.slice x ns.length p, .string s] W' (NumPost r W') by
        rw [← hr]; exact implTreeSum_c x ns.length p ns s (by have := HL.out; omega) HS2.out (by have := HSS.out; omega) W' h)
      have HS := Lib.hid (fun x (p : Nat) W' (h : NodesAt W' x ns.length ns) => show Calls Try.prog 14 #[.slice x ns.length p, .string s] W' (NumPost r W') by
        rw [← hr]; exact specTreeSum_c x ns.length p ns s (by have := HL.out; omega) HS2.out (by have := HSS.out; omega) W' h)
      have hrr : (r != r) = false := by simp
      clear h0 hz hs hr hl
      go_wp2_with fail
      refine (HTO.out _ HB1.out).mono ?_
      rintro e W2 ⟨⟨s2, rfl, ho2⟩, hb2⟩
      obtain ⟨x2, p2, rfl, hn2⟩ := nodes_of_own ho2
      have HB2 := Lib.hid (below_next HB1.out hb2)
      have HS3 := Lib.hid (HS.out x2 p2 W2 hn2)
      clear ho2 hn2 hb2
      go_wp2_with fail
      refine HS3.out.mono ?_
      rintro e W3 ⟨rfl, hb3⟩
      have HB3 := Lib.hid (below_next HB2.out hb3)
      clear hb3
      go_wp2_with fail
      refine (HTO.out _ HB3.out).mono ?_
      rintro e W4 ⟨⟨s4, rfl, ho4⟩, hb4⟩
      obtain ⟨x4, p4, rfl, hn4⟩ := nodes_of_own ho4
      have HB4 := Lib.hid (below_next HB3.out hb4)
      have HN4 := Lib.hid hn4
      have HI5 := Lib.hid (HI.out x4 p4 W4 hn4)
      clear ho4 hn4 hb4
      go_wp2_with fail
      refine HI5.out.mono ?_
      rintro e W5 ⟨rfl, hb5⟩
      have HB5 := Lib.hid (below_next HB4.out hb5)
      have H5 := Lib.hid hb5
      clear hb5
      go_wp2_with fail
      refine (HTO.out _ HB5.out).mono ?_
      rintro e W6 ⟨⟨s6, rfl, ho6⟩, hb6⟩
      obtain ⟨x6, p6, rfl, hn6⟩ := nodes_of_own ho6
      have HB6 := Lib.hid (below_next HB5.out hb6)
      have HE6 := Lib.hid (eqNodeS_c x4 x6 ns.length p4 p6 ns (by have := HL.out; omega) W6 (HN4.out.keep (below_next H5.out hb6)) hn6)
      clear ho6 hn6 hb6
      go_wp2_with fail
      refine HE6.out.mono ?_
      rintro e W7 ⟨rfl, hb7⟩
      have HB7 := Lib.hid (below_next HB6.out hb7)
      clear hb7
      go_wp2
      go_ret
      exact ⟨rfl, HB7.out⟩
  · have hss' : (1048576 : Int) < s.size := by omega
    have hsm : s.size ≤ 9223372036854775807 := Nat.le_trans w1 (by unfold maxLen; omega)
    clear w0 l0 m0 w1 hss
    go_enter Try.func9, Try.ntmps9
    go_wp2
    go_ret
    exact ⟨rfl, Below.refl _ _⟩


set_option maxRecDepth 100000 in
theorem lifted (os : Os) (started : os.Started) (H : Type) (enc : TypeId × Value → H) :
    ReturnsInHanded {} Try.checked os 9 .any (Rows.fnExactTreeSumSpec.pre6 enc Try.prog Try.f9 Rows.fnExactTreeSumRow.domain false) (Rows.fnExactTreeSumSpec.post enc Try.prog Try.f9 false true false false) := by
  refine returnsInHanded_of_change (C := Try.checked) own started (by kernel_rfl) Try.func9
    (ChangeSpec.witness6 (enc := enc) (C := Try.checked) false ⟨#[], #[.slice none 0 0, .string ⟨#[]⟩], []⟩ 8 (by kernel_rfl) (by kernel_rfl) (by kernel_rfl) (by kernel_rfl)) ?_
  intro W base args ds gs before hval0 hW hcnd _
  have hval : ∀ (j : Nat) t v, Try.f9.params[j]? = some t → args[j]? = some v → Value.okWide Try.prog W .any base t v := hval0
  have hW' := hW
  obtain ⟨p, q, hA0, hV, rfl, hfz, hnd⟩ := hW
  have hA : DataW.TrodAll enc Try.prog W 0 (fun _ => true) true Try.f9.params.toList args.toList ds p := hA0
  rw [Try.params9] at hA hval
  obtain ⟨v0, vs0, d0, ds0, p0, q0, hargs, rfl, rfl, h0, r0⟩ := trodAll_cons hA
  obtain ⟨v1, vs1, d1, ds1, p1, q1, rfl, rfl, rfl, h1, r1⟩ := trodAll_cons r0
  obtain ⟨rfl, rfl, rfl⟩ := trodAll_nil r1
  obtain rfl : args = #[v0, v1] := by cases args; simp_all
  obtain ⟨rfl, rfl⟩ := trodVars_none hV
  obtain ⟨a0, len0, cap0, rfl⟩ := okWide_slice Try.underlying51 (hval 0 51 v0 rfl rfl)
  have k0 := h0
  have lt0 : ∀ x ∈ p0, x.block < W.heap.size := by obtain ⟨m, hm⟩ := k0; exact DataW.trod_lt m _ _ _ hm
  obtain ⟨z0, w0, l0, m0⟩ : ∃ ns, NodesAt W a0 len0 ns ∧ len0 ≤ maxLen ∧ Short maxLen ns := by
    obtain ⟨fuel, hf⟩ := h0
    exact open_nodes hf
  obtain ⟨a1, rfl, rfl, rfl, w1⟩ := open_string Try.underlying9 (hval 1 9 v1 rfl rfl) h1
  clear hA0 hval0
  refine (walk a0 len0 cap0 z0 l0 m0 a1 w1 W w0).mono fun e W' ⟨he, bel⟩ => ?_
  subst he
  exact ⟨_, rfl, _, _, _, [], _, [], hW', trodAll_mk1 (shut_bool Try.underlying4 _), (trodAll_cons_mk (Below.trod laidOut (by kernel_rfl) (of_decide_eq_true (by kernel_rfl)) k0 bel lt0) (trodAll_cons_mk (shut_string Try.underlying9 w1) trodAll_mk0)), rfl, bel.frame _, fun h => by cases h⟩

theorem over : Rows.fnExactTreeSumRow.holds Try.pinned (OpenSpec.ofChange Rows.fnExactTreeSumSpec) :=
  OpenClaim.holds_of_wide 9 Try.f9 rfl rfl rfl rfl rfl rfl rfl ⟨rfl, rfl, rfl, rfl, rfl⟩ rfl rfl rfl rfl rfl (by kernel_rfl) Try.func9 (by kernel_rfl)
    (of_decide_eq_true (by kernel_rfl)) (by unfold Func.isWrapper; first | (rw [if_pos (by decide +kernel)]; kernel_rfl) | (rw [if_neg (by decide +kernel)]; exact ⟨rfl, rfl⟩))
    (fun os started H enc _ => lifted os started H enc)

theorem proved : Rows.FnExactTreeSumSaid := over
end Go.Proofs.Ytmdidhlfpaganaa.fnExactTreeSum
