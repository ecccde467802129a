/-
  laws.FnLogUndoTwice returns true for every input, and leaves its arguments as they were.
  Conditions: none.
-/
import Derived.Test.YtkaokncaockjkaaRows
import Derived.WalkKit
import Derived.ProofKit
import Derived.OpenShut
import Derived.ShutString
import Derived.ChangeOld
import Derived.Below
import Derived.Test.YtkaokncaockjkaaK4
namespace Go.Proofs.Ytkaokncaockjkaa.fnLogUndoTwice
open Go.ChangeShapes Go.WideShapes Go.ChangeAt Go.RowKit
open Go.ChangeMaps (open_string shut_string)
set_option linter.unusedVariables false

theorem own : ownKnob Try.prog.godebug = none := by kernel_rfl
theorem laidOut : laidOutB Try.prog = true := by kernel_rfl

theorem undoL_short {cs : List Cmd} {m : Nat} (h : ShortC m cs) : ShortC m (undoL cs) := by
  unfold undoL
  split
  · intro x hx
    obtain ⟨c, hc, rfl⟩ := List.mem_map.1 hx
    have := h c (List.mem_reverse.1 hc)
    unfold undoC
    split
    · exact this
    · exact Nat.zero_le _
  · intro x hx; cases hx

theorem undoL_le (cs : List Cmd) : (undoL cs).length ≤ cs.length := by
  unfold undoL
  split
  · simp
  · simp

set_option maxHeartbeats 4000000 in
set_option maxRecDepth 100000 in
theorem walk (a0 : Option Addr) (len0 cap0 : Nat) (z0 : List Int) (w : World) (w0 : IsRow .u8 w a0 len0 cap0 z0) :
    Calls Try.prog 3 #[.slice a0 len0 cap0] w fun e w' => e = .returned (.bool true) ∧ Below w.heap.size w w' := by
  by_cases h : len0 ≤ 1048576
  · have hl : (len0 : Int) ≤ 1048576 := by omega
    have HD := Lib.hid (drawLogUndo_c a0 len0 cap0 z0 w w0)
    clear h w0
    go_enter Try.func3, Try.ntmps3
    go_wp2_with fail
    refine HD.out.mono ?_
    rintro e W1 ⟨sl, cs, rfl, ho, hl21, hs66, hB⟩
    obtain ⟨a, cap, rfl, hn⟩ := cmds_of_own ho
    have HN := Lib.hid hn
    have HBL := Lib.hid hB
    obtain ⟨u, hu⟩ : ∃ u, undoL cs = u := ⟨_, rfl⟩
    obtain ⟨vl, hvl⟩ : ∃ vl, validL cs = vl := ⟨_, rfl⟩
    have HU1 := Lib.hid (fun W' (hb : Below W1.heap.size W1 W') => show Calls Try.prog 8 #[.slice a cs.length cap] W' (CmdsPost u W') by rw [← hu]; exact implLogUndo_c a cs.length cap cs (by omega) (hs66.mono (by omega)) W' (hn.keep hb))
    have HU2 := Lib.hid (fun W' (hb : Below W1.heap.size W1 W') => show Calls Try.prog 9 #[.slice a cs.length cap] W' (CmdsPost u W') by rw [← hu]; exact specLogUndo_c a cs.length cap cs (by omega) (hs66.mono (by omega)) W' (hn.keep hb))
    have HV := Lib.hid (fun W' (hb : Below W1.heap.size W1 W') => show Calls Try.prog 11 #[.slice a cs.length cap] W' (BoolPost vl W') by rw [← hvl]; exact specLogValid_c a cs.length cap cs (by omega) (hs66.mono (by omega)) W' (hn.keep hb))
    have HK := Lib.hid (fun (h : vl = true) => show undoL u = cs ∧ validL u = true ∧ u.length = cs.length by
      rw [h] at hvl
      rw [← hu]
      exact ⟨undoL_twice hvl, undoL_valid hvl, undoL_length hvl⟩)
    have HUL := Lib.hid (show u.length ≤ 21 by rw [← hu]; have := undoL_le cs; omega)
    have HUS := Lib.hid (show ShortC 66 u by rw [← hu]; exact undoL_short hs66)
    have HCL := Lib.hid hl21
    clear ho hn hB hu hvl hl21 hs66
    go_wp2_with fail
    refine (HU1.out _ (Below.refl _ _)).mono ?_
    rintro e W2 ⟨⟨s2, rfl, ho2⟩, hb2⟩
    have B2 := Lib.hid hb2
    obtain ⟨x2, p2, rfl, hn2⟩ := cmds_of_own ho2
    have HN2 := Lib.hid hn2
    clear ho2 hn2 hb2
    go_wp2_with fail
    refine (HU2.out _ B2.out).mono ?_
    rintro e W3 ⟨⟨s3, rfl, ho3⟩, hb3⟩
    obtain ⟨x3, p3, rfl, hn3⟩ := cmds_of_own ho3
    have B3 := Lib.hid (below_next B2.out hb3)
    have HN23 := Lib.hid (HN2.out.keep hb3)
    have HSM := Lib.hid (fun W' (hb : Below W3.heap.size W3 W') => sameLog_c x2 x3 u.length p2 p3 u (by have := HUL.out; omega) W' (HN23.out.keep hb) (hn3.keep hb))
    clear ho3 hn3 hb3
    go_wp2_with fail
    refine (HSM.out _ (Below.refl _ _)).mono ?_
    rintro e W4 ⟨rfl, hb4⟩
    have X4 := Lib.hid hb4
    clear hb4
    go_wp2_with fail
    refine (HV.out _ (below_next B3.out X4.out)).mono ?_
    rintro e W5 ⟨rfl, hb5⟩
    have X5 := Lib.hid (below_next X4.out hb5)
    clear hb5
    cases vl with
    | false =>
      go_wp2_with fail
      refine (HSM.out _ X5.out).mono ?_
      rintro e W6 ⟨rfl, hb6⟩
      go_wp2
      go_ret
      exact ⟨rfl, below_next HBL.out (below_next B3.out (below_next X5.out hb6))⟩
    | true =>
      obtain ⟨k1, k2, k3⟩ := HK.out (by first | rfl | trivial)
      have HU6 := Lib.hid (fun W' (hb : Below W3.heap.size W3 W') => show Calls Try.prog 8 #[.slice x2 u.length p2] W' (CmdsPost cs W') by rw [← k1]; exact implLogUndo_c x2 u.length p2 u (by have := HUL.out; omega) (HUS.out.mono (by omega)) W' (HN23.out.keep hb))
      have HV8 := Lib.hid (fun W' (hb : Below W3.heap.size W3 W') => show Calls Try.prog 12 #[.slice x2 u.length p2] W' (BoolPost true W') by rw [← k2]; exact implLogValid_c x2 u.length p2 u (by have := HUL.out; omega) (HUS.out.mono (by omega)) W' (HN23.out.keep hb))
      have hll : ((u.length : Int) == (cs.length : Int)) = true := by rw [k3]; simp
      clear k1 k2 k3
      go_wp2_with fail
      refine (HU6.out _ X5.out).mono ?_
      rintro e W6 ⟨⟨s6, rfl, ho6⟩, hb6⟩
      obtain ⟨x6, p6, rfl, hn6⟩ := cmds_of_own ho6
      have X6 := Lib.hid (below_next X5.out hb6)
      have HSM7 := Lib.hid (sameLog_c x6 a cs.length p6 cap cs (by have := HCL.out; omega) W6 hn6 (HN.out.keep (below_next B3.out X6.out)))
      clear ho6 hn6 hb6
      go_wp2_with fail
      refine HSM7.out.mono ?_
      rintro e W7 ⟨rfl, hb7⟩
      have X7 := Lib.hid (below_next X6.out hb7)
      clear hb7
      go_wp2_with fail
      refine (HV8.out _ X7.out).mono ?_
      rintro e W8 ⟨rfl, hb8⟩
      go_wp2
      go_ret
      exact ⟨rfl, below_next HBL.out (below_next B3.out (below_next X7.out hb8))⟩
  · have hl : (1048576 : Int) < len0 := by omega
    clear h w0
    go_enter Try.func3, Try.ntmps3
    go_wp2
    go_ret
    exact ⟨rfl, Below.refl _ _⟩


set_option maxRecDepth 100000 in
theorem lifted (os : Os) (started : os.Started) (H : Type) (enc : TypeId × Value → H) :
    ReturnsInHanded {} Try.checked os 3 .any (Rows.fnLogUndoTwiceSpec.pre6 enc Try.prog Try.f3 Rows.fnLogUndoTwiceRow.domain false) (Rows.fnLogUndoTwiceSpec.post enc Try.prog Try.f3 false true false false) := by
  refine returnsInHanded_of_change (C := Try.checked) own started (by kernel_rfl) Try.func3
    (ChangeSpec.witness6 (enc := enc) (C := Try.checked) false ⟨#[], #[.slice none 0 0], []⟩ 8 (by kernel_rfl) (by kernel_rfl) (by kernel_rfl) (by kernel_rfl)) ?_
  intro W base args ds gs before hval0 hW hcnd _
  have hval : ∀ (j : Nat) t v, Try.f3.params[j]? = some t → args[j]? = some v → Value.okWide Try.prog W .any base t v := hval0
  have hW' := hW
  obtain ⟨p, q, hA0, hV, rfl, hfz, hnd⟩ := hW
  have hA : DataW.TrodAll enc Try.prog W 0 (fun _ => true) true Try.f3.params.toList args.toList ds p := hA0
  rw [Try.params3] at hA hval
  obtain ⟨v0, vs0, d0, ds0, p0, q0, hargs, rfl, rfl, h0, r0⟩ := trodAll_cons hA
  obtain ⟨rfl, rfl, rfl⟩ := trodAll_nil r0
  obtain rfl : args = #[v0] := by cases args; simp_all
  obtain ⟨rfl, rfl⟩ := trodVars_none hV
  obtain ⟨a0, len0, cap0, rfl⟩ := okWide_slice Try.underlying22 (hval 0 22 v0 rfl rfl)
  have k0 := h0
  have lt0 : ∀ x ∈ p0, x.block < W.heap.size := by obtain ⟨m, hm⟩ := k0; exact DataW.trod_lt m _ _ _ hm
  obtain ⟨z0, w0⟩ : ∃ zs, IsRow .u8 W a0 len0 cap0 zs := by
    obtain ⟨fuel, hf⟩ := h0
    rcases open_ints Try.underlying22 Try.underlying5 (by kernel_rfl) hf with ⟨hcs, _⟩ | ⟨x, l, c, zs, hcs, _, hl, hm, hz, _, hcell, hwz⟩
    · simp [Value.cells] at hcs
      obtain ⟨rfl, rfl, rfl⟩ := hcs
      exact ⟨[], .inl ⟨rfl, rfl, rfl, rfl⟩⟩
    · simp [Value.cells] at hcs
      obtain ⟨rfl, rfl, rfl⟩ := hcs
      exact ⟨zs, .inr ⟨_, rfl, hl, hm, by simpa using hz, hcell, hwz⟩⟩
  clear hA0 hval0
  refine (walk a0 len0 cap0 z0 W w0).mono fun e W' ⟨he, bel⟩ => ?_
  subst he
  exact ⟨_, rfl, _, _, _, [], _, [], hW', trodAll_mk1 (shut_bool Try.underlying4 _), (trodAll_cons_mk (Below.trod laidOut (by kernel_rfl) (of_decide_eq_true (by kernel_rfl)) k0 bel lt0) trodAll_mk0), rfl, bel.frame _, fun h => by cases h⟩

theorem over : Rows.fnLogUndoTwiceRow.holds Try.pinned (OpenSpec.ofChange Rows.fnLogUndoTwiceSpec) :=
  OpenClaim.holds_of_wide 3 Try.f3 rfl rfl rfl rfl rfl rfl rfl ⟨rfl, rfl, rfl, rfl, rfl⟩ rfl rfl rfl rfl rfl (by kernel_rfl) Try.func3 (by kernel_rfl)
    (of_decide_eq_true (by kernel_rfl)) (by unfold Func.isWrapper; first | (rw [if_pos (by decide +kernel)]; kernel_rfl) | (rw [if_neg (by decide +kernel)]; exact ⟨rfl, rfl⟩))
    (fun os started H enc _ => lifted os started H enc)

theorem proved : Rows.FnLogUndoTwiceSaid := over
end Go.Proofs.Ytkaokncaockjkaa.fnLogUndoTwice
