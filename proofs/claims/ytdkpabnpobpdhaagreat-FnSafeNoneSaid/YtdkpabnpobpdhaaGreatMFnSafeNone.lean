/-
  laws.FnSafeNone returns true for every input, and leaves its arguments as they were.
  Conditions: none.
-/
import Derived.Test.YtdkpabnpobpdhaaGreatRows
import Derived.WalkKit
import Derived.ProofKit
import Derived.OpenShut
import Derived.ShutString
import Derived.ChangeOld
import Derived.Below
import Derived.Test.YtdkpabnpobpdhaaGreatQ10
import Derived.Test.YtdkpabnpobpdhaaGreatQ8
namespace Go.Proofs.YtdkpabnpobpdhaaGreat.fnSafeNone
open Go.ChangeShapes Go.WideShapes Go.ChangeAt Go.RowKit
open Go.ChangeMaps (open_string shut_string)
set_option linter.unusedVariables false

theorem own : ownKnob Tryz.prog.godebug = none := by kernel_rfl
theorem laidOut : laidOutB Tryz.prog = true := by kernel_rfl

theorem clash_len (a b : List Cmd) (h1 : a.length ≤ 21) (h2 : b.length ≤ 21) : (clashesL a b).length ≤ 441 := by
  unfold clashesL
  split
  · have h := rowsL_le b a 0
    have k : a.length * b.length ≤ 21 * 21 := Nat.mul_le_mul h1 h2
    omega
  · simp

set_option maxHeartbeats 4000000 in
set_option maxRecDepth 100000 in
theorem walk (a0 : Option Addr) (len0 cap0 : Nat) (z0 : List Int) (w : World) (w0 : IsRow .u8 w a0 len0 cap0 z0) :
    Calls Tryz.prog 7 #[.slice a0 len0 cap0] w fun e w' => e = .returned (.bool true) ∧ Below w.heap.size w w' := by
  by_cases h : len0 ≤ 1048576
  · have hl : (len0 : Int) ≤ 1048576 := by omega
    have HD := Lib.hid (drawClashesOf_c a0 len0 cap0 z0 w w0)
    clear h w0
    go_enter Tryz.func7, Tryz.ntmps7
    go_wp2_with fail
    refine HD.out.mono ?_
    rintro e W1 ⟨v1, us, v2, bs, rfl, o1, l1, s1, o2, l2, s2, hB⟩
    obtain ⟨a, c1, rfl, hA⟩ := cmds_of_own o1
    obtain ⟨b, c2, rfl, hBB⟩ := cmds_of_own o2
    have HBL := Lib.hid hB
    obtain ⟨cl, hcl⟩ : ∃ cl, clashesL us bs = cl := ⟨_, rfl⟩
    obtain ⟨u, hu⟩ : ∃ u, canonV us = u := ⟨_, rfl⟩
    obtain ⟨v, hv⟩ : ∃ v, canonV bs = v := ⟨_, rfl⟩
    have HI := Lib.hid (show Calls Tryz.prog 22 #[.slice a us.length c1, .slice b bs.length c2] W1 (ClashPost cl W1) by rw [← hcl]; exact implClashes_c a us.length c1 us b bs.length c2 bs (by omega) (by omega) (s1.mono (by omega)) (s2.mono (by omega)) W1 hA hBB)
    have HS := Lib.hid (fun W' (hb : Below W1.heap.size W1 W') => show Calls Tryz.prog 24 #[.slice a us.length c1, .slice b bs.length c2] W' (ClashPost cl W') by rw [← hcl]; exact specClashes_c a us.length c1 us b bs.length c2 bs (by omega) (by omega) (s1.mono (by omega)) (s2.mono (by omega)) W' (hA.keep hb) (hBB.keep hb))
    have HU := Lib.hid (fun W' (hb : Below W1.heap.size W1 W') => show Calls Tryz.prog 12 #[.slice a us.length c1] W' (BoolPost u W') by rw [← hu]; exact specCanonValid_c a us.length c1 us (by omega) (s1.mono (by omega)) W' (hA.keep hb))
    have HV := Lib.hid (fun W' (hb : Below W1.heap.size W1 W') => show Calls Tryz.prog 12 #[.slice b bs.length c2] W' (BoolPost v W') by rw [← hv]; exact specCanonValid_c b bs.length c2 bs (by omega) (s2.mono (by omega)) W' (hBB.keep hb))
    have HSA := Lib.hid (fun W' (hb : Below W1.heap.size W1 W') => implSafe_c a us.length c1 us b bs.length c2 bs (by omega) (by omega) (s1.mono (by omega)) (s2.mono (by omega)) W' (hA.keep hb) (hBB.keep hb))
    have HAG := Lib.hid (fun W' (hb : Below W1.heap.size W1 W') => implAgreed_c a us.length c1 us b bs.length c2 bs (by omega) (by omega) (s1.mono (by omega)) (s2.mono (by omega)) W' (hA.keep hb) (hBB.keep hb))
    have HLE := Lib.hid (fun W' (hb : Below W1.heap.size W1 W') => implLeft_c a us.length c1 us b bs.length c2 bs (by omega) (by omega) (s1.mono (by omega)) (s2.mono (by omega)) W' (hA.keep hb) (hBB.keep hb))
    have HNS := Lib.hid (show u = true → v = true → cl.length = 0 → (safeL us bs).length + (agreedL us bs).length = bs.length ∧ (leftL us bs).length = 0 by
      intro h1 h2 h3
      have hok : okL us bs = true := by unfold okL; rw [hu, hv, h1, h2]; rfl
      have := none_safe hok (hcl.trans (List.length_eq_zero_iff.1 h3))
      exact ⟨this.1, by rw [this.2]; rfl⟩)
    have HL := Lib.hid (show cl.length ≤ 441 by rw [← hcl]; exact clash_len us bs l1 l2)
    have HLL := Lib.hid (And.intro l1 l2)
    clear o1 l1 s1 o2 l2 s2 hB hA hBB hcl hu hv
    go_wp2_with fail
    refine HI.out.mono ?_
    rintro e W2 ⟨⟨v3, rfl, o3⟩, hb2⟩
    obtain ⟨a3, c3, rfl, h3⟩ := clash_of_own o3
    have B2 := Lib.hid hb2
    have HN2 := Lib.hid h3
    clear o3 h3 hb2
    go_wp2_with fail
    refine (HS.out _ B2.out).mono ?_
    rintro e W3 ⟨⟨v4, rfl, o4⟩, hb3⟩
    obtain ⟨a4, c4, rfl, h4⟩ := clash_of_own o4
    have B3 := Lib.hid (below_next B2.out hb3)
    have HSL := Lib.hid (fun W' (hb : Below W3.heap.size W3 W') => sameClashes_c a3 a4 cl.length c3 c4 cl (by have := HL.out; omega) W' ((HN2.out.keep hb3).keep hb) (h4.keep hb))
    have hL : (cl.length : Int) ≤ 441 := by have := HL.out; omega
    clear o4
    go_wp2_with fail
    refine (HSL.out _ (Below.refl _ _)).mono ?_
    rintro e W4 ⟨rfl, hb4⟩
    have X4 := Lib.hid hb4
    clear hb4
    go_wp2_with fail
    refine (HU.out _ (below_next B3.out X4.out)).mono ?_
    rintro e W5 ⟨rfl, hb5⟩
    have X5 := Lib.hid (below_next X4.out hb5)
    clear hb5
    cases u with
    | false =>
      go_wp2_with fail
      refine (HSL.out _ X5.out).mono ?_
      rintro e W6 ⟨rfl, hb6⟩
      have X6 := Lib.hid (below_next X5.out hb6)
      clear hb6
      go_wp2
      go_ret
      exact ⟨rfl, below_next HBL.out (below_next B3.out X6.out)⟩
    | true =>
      go_wp2_with fail
      refine (HV.out _ (below_next B3.out X5.out)).mono ?_
      rintro e W6 ⟨rfl, hb6⟩
      have X6 := Lib.hid (below_next X5.out hb6)
      clear hb6
      cases v with
      | false =>
        go_wp2_with fail
        refine (HSL.out _ X6.out).mono ?_
        rintro e W7 ⟨rfl, hb7⟩
        have X7 := Lib.hid (below_next X6.out hb7)
        clear hb7
        go_wp2
        go_ret
        exact ⟨rfl, below_next HBL.out (below_next B3.out X7.out)⟩
      | true =>
        by_cases hz : 0 < cl.length
        · have hz' : (0 : Int) < cl.length := by omega
          clear hz
          go_wp2_with fail
          refine (HSL.out _ X6.out).mono ?_
          rintro e W7 ⟨rfl, hb7⟩
          have X7 := Lib.hid (below_next X6.out hb7)
          clear hb7
          go_wp2
          go_ret
          exact ⟨rfl, below_next HBL.out (below_next B3.out X7.out)⟩
        · have hz' : (cl.length : Int) ≤ 0 := by omega
          have HF := Lib.hid (HNS.out (by first | rfl | trivial) (by first | rfl | trivial) (by omega))
          clear hz
          go_wp2_with fail
          refine (HSA.out _ (below_next B3.out X6.out)).mono ?_
          rintro e W7 ⟨⟨v5, rfl, o5⟩, hb7⟩
          obtain ⟨a5, c5, rfl, -⟩ := cmds_of_own o5
          have X7 := Lib.hid (below_next X6.out hb7)
          clear hb7 o5
          go_wp2_with fail
          refine (HAG.out _ (below_next B3.out X7.out)).mono ?_
          rintro e W8 ⟨⟨v6, rfl, o6⟩, hb8⟩
          obtain ⟨a6, c6, rfl, -⟩ := cmds_of_own o6
          have X8 := Lib.hid (below_next X7.out hb8)
          clear hb8 o6
          have hsum : IntKind.i64.wrap (((safeL us bs).length : Int) + ((agreedL us bs).length : Int)) = (bs.length : Int) := (IntWalk.i64_in _ (by have := HF.out.1; have := HLL.out; omega)).trans (by have := HF.out.1; omega)
          have hbe : ((bs.length : Int) == (bs.length : Int)) = true := by simp
          go_wp2_with fail
          refine (HLE.out _ (below_next B3.out X8.out)).mono ?_
          rintro e W9 ⟨⟨v7, rfl, o7⟩, hb9⟩
          obtain ⟨a7, c7, rfl, -⟩ := cmds_of_own o7
          have X9 := Lib.hid (below_next X8.out hb9)
          have hle : (((leftL us bs).length : Int) == 0) = true := by rw [HF.out.2]; rfl
          clear hb9 o7
          go_wp2
          go_ret
          exact ⟨rfl, below_next HBL.out (below_next B3.out X9.out)⟩
  · have hl : (1048576 : Int) < len0 := by omega
    clear h w0
    go_enter Tryz.func7, Tryz.ntmps7
    go_wp2
    go_ret
    exact ⟨rfl, Below.refl _ _⟩


set_option maxRecDepth 100000 in
theorem lifted (os : Os) (started : os.Started) (H : Type) (enc : TypeId × Value → H) :
    ReturnsInHanded {} Tryz.checked os 7 .any (Rows.fnSafeNoneSpec.pre6 enc Tryz.prog Tryz.f7 Rows.fnSafeNoneRow.domain false) (Rows.fnSafeNoneSpec.post enc Tryz.prog Tryz.f7 false true false false) := by
  refine returnsInHanded_of_change (C := Tryz.checked) own started (by kernel_rfl) Tryz.func7
    (ChangeSpec.witness6 (enc := enc) (C := Tryz.checked) false ⟨#[], #[.slice none 0 0], []⟩ 8 (by kernel_rfl) (by kernel_rfl) (by kernel_rfl) (by kernel_rfl)) ?_
  intro W base args ds gs before hval0 hW hcnd _
  have hval : ∀ (j : Nat) t v, Tryz.f7.params[j]? = some t → args[j]? = some v → Value.okWide Tryz.prog W .any base t v := hval0
  have hW' := hW
  obtain ⟨p, q, hA0, hV, rfl, hfz, hnd⟩ := hW
  have hA : DataW.TrodAll enc Tryz.prog W 0 (fun _ => true) true Tryz.f7.params.toList args.toList ds p := hA0
  rw [Tryz.params7] at hA hval
  obtain ⟨v0, vs0, d0, ds0, p0, q0, hargs, rfl, rfl, h0, r0⟩ := trodAll_cons hA
  obtain ⟨rfl, rfl, rfl⟩ := trodAll_nil r0
  obtain rfl : args = #[v0] := by cases args; simp_all
  obtain ⟨rfl, rfl⟩ := trodVars_none hV
  obtain ⟨a0, len0, cap0, rfl⟩ := okWide_slice Tryz.underlying22 (hval 0 22 v0 rfl rfl)
  have k0 := h0
  have lt0 : ∀ x ∈ p0, x.block < W.heap.size := by obtain ⟨m, hm⟩ := k0; exact DataW.trod_lt m _ _ _ hm
  obtain ⟨z0, w0⟩ : ∃ zs, IsRow .u8 W a0 len0 cap0 zs := by
    obtain ⟨fuel, hf⟩ := h0
    rcases open_ints Tryz.underlying22 Tryz.underlying5 (by kernel_rfl) hf with ⟨hcs, _⟩ | ⟨x, l, c, zs, hcs, _, hl, hm, hz, _, hcell, hwz⟩
    · simp [Value.cells] at hcs
      obtain ⟨rfl, rfl, rfl⟩ := hcs
      exact ⟨[], .inl ⟨rfl, rfl, rfl, rfl⟩⟩
    · simp [Value.cells] at hcs
      obtain ⟨rfl, rfl, rfl⟩ := hcs
      exact ⟨zs, .inr ⟨_, rfl, hl, hm, by simpa using hz, hcell, hwz⟩⟩
  clear hA0 hval0
  refine (walk a0 len0 cap0 z0 W w0).mono fun e W' ⟨he, bel⟩ => ?_
  subst he
  exact ⟨_, rfl, _, _, _, [], _, [], hW', trodAll_mk1 (shut_bool Tryz.underlying4 _), (trodAll_cons_mk (Below.trod laidOut (by kernel_rfl) (of_decide_eq_true (by kernel_rfl)) k0 bel lt0) trodAll_mk0), rfl, bel.frame _, fun h => by cases h⟩

theorem over : Rows.fnSafeNoneRow.holds Tryz.pinned (OpenSpec.ofChange Rows.fnSafeNoneSpec) :=
  OpenClaim.holds_of_wide 7 Tryz.f7 rfl rfl rfl rfl rfl rfl rfl ⟨rfl, rfl, rfl, rfl, rfl⟩ rfl rfl rfl rfl rfl (by kernel_rfl) Tryz.func7 (by kernel_rfl)
    (of_decide_eq_true (by kernel_rfl)) (by unfold Func.isWrapper; first | (rw [if_pos (by decide +kernel)]; kernel_rfl) | (rw [if_neg (by decide +kernel)]; exact ⟨rfl, rfl⟩))
    (fun os started H enc _ => lifted os started H enc)

theorem proved : Rows.FnSafeNoneSaid := over
end Go.Proofs.YtdkpabnpobpdhaaGreat.fnSafeNone
