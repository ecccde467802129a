/-
  laws.FnParts returns true for every input, and leaves its arguments as they were.
  Conditions: none.
-/
import Derived.Test.YtdkpabnpobpdhaaGreatRows
import Derived.WalkKit
import Derived.ProofKit
import Derived.OpenShut
import Derived.ShutString
import Derived.ChangeOld
import Derived.Below
import Derived.Test.YtdkpabnpobpdhaaGreatQ10
import Derived.Test.YtdkpabnpobpdhaaGreatQ7
import Derived.Test.YtdkpabnpobpdhaaGreatQ8
import Derived.Test.YtdkpabnpobpdhaaGreatQ9
namespace Go.Proofs.YtdkpabnpobpdhaaGreat.fnParts
open Go.ChangeShapes Go.WideShapes Go.ChangeAt Go.RowKit
open Go.ChangeMaps (open_string shut_string)
set_option linter.unusedVariables false

theorem own : ownKnob Tryz.prog.godebug = none := by kernel_rfl
theorem laidOut : laidOutB Tryz.prog = true := by kernel_rfl

theorem safe_len (a b : List Cmd) : (safeL a b).length ≤ b.length := by
  unfold safeL
  split
  · exact List.length_filter_le _ _
  · simp
theorem agreed_len (a b : List Cmd) : (agreedL a b).length ≤ b.length := by
  unfold agreedL
  split
  · exact List.length_filter_le _ _
  · simp
theorem left_len (a b : List Cmd) : (leftL a b).length ≤ a.length := by
  unfold leftL
  split
  · exact List.length_filter_le _ _
  · simp

set_option maxHeartbeats 4000000 in
set_option maxRecDepth 100000 in
theorem walk (a0 : Option Addr) (len0 cap0 : Nat) (z0 : List Int) (w : World) (w0 : IsRow .u8 w a0 len0 cap0 z0) :
    Calls Tryz.prog 6 #[.slice a0 len0 cap0] w fun e w' => e = .returned (.bool true) ∧ Below w.heap.size w w' := by
  by_cases h : len0 ≤ 1048576
  · have hl : (len0 : Int) ≤ 1048576 := by omega
    have HD := Lib.hid (drawSafeOf_c a0 len0 cap0 z0 w w0)
    clear h w0
    go_enter Tryz.func6, Tryz.ntmps6
    go_wp2_with fail
    refine HD.out.mono ?_
    rintro e W1 ⟨v1, us, v2, bs, rfl, o1, l1, s1, o2, l2, s2, hB⟩
    obtain ⟨a, c1, rfl, hA⟩ := cmds_of_own o1
    obtain ⟨b, c2, rfl, hBB⟩ := cmds_of_own o2
    have HBL := Lib.hid hB
    obtain ⟨cl, hcl⟩ : ∃ cl, safeL us bs = cl := ⟨_, rfl⟩
    obtain ⟨u, hu⟩ : ∃ u, canonV us = u := ⟨_, rfl⟩
    obtain ⟨v, hv⟩ : ∃ v, canonV bs = v := ⟨_, rfl⟩
    have HI := Lib.hid (show Calls Tryz.prog 9 #[.slice a us.length c1, .slice b bs.length c2] W1 (CmdsPost cl W1) by rw [← hcl]; exact implSafe_c a us.length c1 us b bs.length c2 bs (by omega) (by omega) (s1.mono (by omega)) (s2.mono (by omega)) W1 hA hBB)
    have HS := Lib.hid (fun W' (hb : Below W1.heap.size W1 W') => show Calls Tryz.prog 10 #[.slice a us.length c1, .slice b bs.length c2] W' (CmdsPost cl W') by rw [← hcl]; exact specSafe_c a us.length c1 us b bs.length c2 bs (by omega) (by omega) (s1.mono (by omega)) (s2.mono (by omega)) W' (hA.keep hb) (hBB.keep hb))
    have HU := Lib.hid (fun W' (hb : Below W1.heap.size W1 W') => show Calls Tryz.prog 12 #[.slice a us.length c1] W' (BoolPost u W') by rw [← hu]; exact specCanonValid_c a us.length c1 us (by omega) (s1.mono (by omega)) W' (hA.keep hb))
    have HV := Lib.hid (fun W' (hb : Below W1.heap.size W1 W') => show Calls Tryz.prog 12 #[.slice b bs.length c2] W' (BoolPost v W') by rw [← hv]; exact specCanonValid_c b bs.length c2 bs (by omega) (s2.mono (by omega)) W' (hBB.keep hb))
    have HAG := Lib.hid (fun W' (hb : Below W1.heap.size W1 W') => implAgreed_c a us.length c1 us b bs.length c2 bs (by omega) (by omega) (s1.mono (by omega)) (s2.mono (by omega)) W' (hA.keep hb) (hBB.keep hb))
    have HLE := Lib.hid (fun W' (hb : Below W1.heap.size W1 W') => implLeft_c b bs.length c2 bs a us.length c1 us (by omega) (by omega) (s2.mono (by omega)) (s1.mono (by omega)) W' (hBB.keep hb) (hA.keep hb))
    have HNS := Lib.hid (show u = true → v = true → cl.length + (agreedL us bs).length + (leftL bs us).length = bs.length ∧ ∀ d ∈ bs, (hasC cl d = true ∧ hasC (agreedL us bs) d = false ∧ hasC (leftL bs us) d = false) ∨ (hasC cl d = false ∧ hasC (agreedL us bs) d = true ∧ hasC (leftL bs us) d = false) ∨ (hasC cl d = false ∧ hasC (agreedL us bs) d = false ∧ hasC (leftL bs us) d = true) by
      intro h1 h2
      have hok : okL us bs = true := by unfold okL; rw [hu, hv, h1, h2]; rfl
      rw [← hcl]
      refine ⟨parts_len hok, fun d hd => ?_⟩
      have h := parts_one hok hd
      have hb : ∀ l : List Cmd, (¬ d ∈ l) → hasC l d = false := fun l k => by rw [Bool.eq_false_iff]; exact fun m => k (hasC_iff.1 m)
      rcases h with ⟨_, x, y, z⟩ | ⟨_, _, x, y, z⟩ | ⟨_, _, x, y, z⟩
      · exact .inr (.inr ⟨hb _ x, hb _ y, hasC_iff.2 z⟩)
      · exact .inr (.inl ⟨hb _ x, hasC_iff.2 y, hb _ z⟩)
      · exact .inl ⟨hasC_iff.2 x, hb _ y, hb _ z⟩)
    have HL := Lib.hid (show cl.length ≤ 21 ∧ (agreedL us bs).length ≤ 21 ∧ (leftL bs us).length ≤ 21 by
      rw [← hcl]
      have k1 := safe_len us bs
      have k2 := agreed_len us bs
      have k3 := left_len bs us
      omega)
    have HBS := Lib.hid hBB
    have HLL := Lib.hid (And.intro l1 l2)
    clear o1 l1 s1 o2 l2 s2 hB hA hBB hcl hu hv
    go_wp2_with fail
    refine HI.out.mono ?_
    rintro e W2 ⟨⟨v3, rfl, o3⟩, hb2⟩
    obtain ⟨a3, c3, rfl, h3⟩ := cmds_of_own o3
    have B2 := Lib.hid hb2
    have HN2 := Lib.hid h3
    clear o3 h3 hb2
    go_wp2_with fail
    refine (HS.out _ B2.out).mono ?_
    rintro e W3 ⟨⟨v4, rfl, o4⟩, hb3⟩
    obtain ⟨a4, c4, rfl, h4⟩ := cmds_of_own o4
    have B3 := Lib.hid (below_next B2.out hb3)
    have HN3 := Lib.hid (HN2.out.keep hb3)
    have HSL := Lib.hid (fun W' (hb : Below W3.heap.size W3 W') => sameLog_c a3 a4 cl.length c3 c4 cl (by have := HL.out; omega) W' ((HN2.out.keep hb3).keep hb) (h4.keep hb))
    have hL : (cl.length : Int) ≤ 441 := by have := HL.out; omega
    clear o4
    go_wp2_with fail
    refine (HSL.out _ (Below.refl _ _)).mono ?_
    rintro e W4 ⟨rfl, hb4⟩
    have X4 := Lib.hid hb4
    clear hb4
    go_wp2_with fail
    refine (HU.out _ (below_next B3.out X4.out)).mono ?_
    rintro e W5 ⟨rfl, hb5⟩
    have X5 := Lib.hid (below_next X4.out hb5)
    clear hb5
    cases u with
    | false =>
      go_wp2_with fail
      refine (HSL.out _ X5.out).mono ?_
      rintro e W6 ⟨rfl, hb6⟩
      have X6 := Lib.hid (below_next X5.out hb6)
      clear hb6
      go_wp2
      go_ret
      exact ⟨rfl, below_next HBL.out (below_next B3.out X6.out)⟩
    | true =>
      go_wp2_with fail
      refine (HV.out _ (below_next B3.out X5.out)).mono ?_
      rintro e W6 ⟨rfl, hb6⟩
      have X6 := Lib.hid (below_next X5.out hb6)
      clear hb6
      cases v with
      | false =>
        go_wp2_with fail
        refine (HSL.out _ X6.out).mono ?_
        rintro e W7 ⟨rfl, hb7⟩
        have X7 := Lib.hid (below_next X6.out hb7)
        clear hb7
        go_wp2
        go_ret
        exact ⟨rfl, below_next HBL.out (below_next B3.out X7.out)⟩
      | true =>
        have HF := Lib.hid (HNS.out (by first | rfl | trivial) (by first | rfl | trivial))
        go_wp2_with fail
        refine (HAG.out _ (below_next B3.out X6.out)).mono ?_
        rintro e W7 ⟨⟨v5, rfl, o5⟩, hb7⟩
        obtain ⟨a5, c5, rfl, h5⟩ := cmds_of_own o5
        have X7 := Lib.hid (below_next X6.out hb7)
        have N5 := Lib.hid h5
        clear hb7 o5 h5
        go_wp2_with fail
        refine (HLE.out _ (below_next B3.out X7.out)).mono ?_
        rintro e W8 ⟨⟨v6, rfl, o6⟩, hb8⟩
        obtain ⟨a6, c6, rfl, h6⟩ := cmds_of_own o6
        have X8 := Lib.hid (below_next X7.out hb8)
        have N6 := Lib.hid h6
        have N5 := Lib.hid (N5.out.keep hb8)
        have N3 := Lib.hid (HN3.out.keep X8.out)
        have NB := Lib.hid (HBS.out.keep (below_next B3.out X8.out))
        clear hb8 o6 h6
        have hbl : (bs.length : Int) ≤ 21 := by have := HLL.out; omega
        go_wp2_with fail
        go_loopw [9] (fun k wr => ∃ n : Nat, k = .int .i64 n ∧ n ≤ bs.length ∧ Hid (Below W8.heap.size W8 wr)) (fun k _ => bs.length - (intOf k).toNat)
        case atStart => exact ⟨0, rfl, Nat.zero_le _, Lib.hid (Below.refl _ _)⟩
        case round =>
          obtain ⟨n, rfl, hn, HB⟩ := hrel
          by_cases hlt : n < bs.length
          · have hlt' : (n : Int) < bs.length := by omega
            have hw1 : IntKind.i64.wrap ((n : Int) + 1) = (n : Int) + 1 := IntWalk.i64_in _ (by omega)
            have HLT := Lib.hid hlt
            obtain ⟨g, off, x, rfl, hx, d0, d1, d2, d3, d4⟩ := (NB.out.keep HB.out).node hlt
            have HX := Lib.hid hx
            obtain ⟨t1, ht1⟩ : ∃ t, hasC cl x = t := ⟨_, rfl⟩
            obtain ⟨t2, ht2⟩ : ∃ t, hasC (agreedL us bs) x = t := ⟨_, rfl⟩
            obtain ⟨t3, ht3⟩ : ∃ t, hasC (leftL bs us) x = t := ⟨_, rfl⟩
            have HT := HF.out.2 x (List.mem_of_getElem? hx)
            rw [ht1, ht2, ht3] at HT
            replace HT := Lib.hid HT
            have HH1 := Lib.hid (fun W' (hb : Below W8.heap.size W8 W') => show Calls Tryz.prog 13 #[.slice a3 cl.length c3, cmdV x] W' (BoolPost t1 W') by rw [← ht1]; exact lawHas_c a3 cl.length c3 cl x (by have := HL.out; omega) W' (N3.out.keep hb))
            have HH2 := Lib.hid (fun W' (hb : Below W8.heap.size W8 W') => show Calls Tryz.prog 13 #[.slice a5 (agreedL us bs).length c5, cmdV x] W' (BoolPost t2 W') by rw [← ht2]; exact lawHas_c a5 (agreedL us bs).length c5 (agreedL us bs) x (by have := HL.out; omega) W' (N5.out.keep hb))
            have HH3 := Lib.hid (fun W' (hb : Below W8.heap.size W8 W') => show Calls Tryz.prog 13 #[.slice a6 (leftL bs us).length c6, cmdV x] W' (BoolPost t3 W') by rw [← ht3]; exact lawHas_c a6 (leftL bs us).length c6 (leftL bs us) x (by have := HL.out; omega) W' (N6.out.keep hb))
            obtain ⟨p, fk, fv, tk, tv⟩ := x
            unfold cmdV at HH1 HH2 HH3
            simp only at d0 d1 d2 d3 d4 HH1 HH2 HH3
            clear hn hlt hx ht1 ht2 ht3
            rcases HT.out with ⟨q1, q2, q3⟩ | ⟨q1, q2, q3⟩ | ⟨q1, q2, q3⟩
            all_goals
              subst q1
              subst q2
              subst q3
              clear HT
              go_wp2_with fail
              refine (HH1.out _ HB.out).mono ?_
              rintro e W9 ⟨rfl, hb9⟩
              have HB9 := Lib.hid (below_next HB.out hb9)
              obtain ⟨g', off', x', hv, hx', e0, e1, e2, e3, e4⟩ := (NB.out.keep HB9.out).node HLT.out
              cases hv
              obtain rfl := Option.some.inj (HX.out.symm.trans hx')
              simp only at e0 e1 e2 e3 e4
              clear hb9 hx' d0 d1 d2 d3 d4
              go_wp2_with fail
              refine (HH2.out _ HB9.out).mono ?_
              rintro e W10 ⟨rfl, hb10⟩
              have HB10 := Lib.hid (below_next HB9.out hb10)
              obtain ⟨g', off', x', hv, hx', d0, d1, d2, d3, d4⟩ := (NB.out.keep HB10.out).node HLT.out
              cases hv
              obtain rfl := Option.some.inj (HX.out.symm.trans hx')
              simp only at d0 d1 d2 d3 d4
              clear hb10 hx' e0 e1 e2 e3 e4
              go_wp2_with fail
              refine (HH3.out _ HB10.out).mono ?_
              rintro e W11 ⟨rfl, hb11⟩
              have HB11 := Lib.hid (below_next HB10.out hb11)
              clear hb11 d0 d1 d2 d3 d4
              go_wp2
              go_roundw
              case rel => exact ⟨n + 1, by go_num, HLT.out, HB11⟩
              case measure => have := HLT.out; simp [intOf]; omega
          · have hge : (bs.length : Int) ≤ n := by omega
            have hs1 : IntKind.i64.wrap ((cl.length : Int) + ((agreedL us bs).length : Int)) = (cl.length : Int) + ((agreedL us bs).length : Int) := IntWalk.i64_in _ (by have := HL.out; omega)
            have hs2 : IntKind.i64.wrap ((cl.length : Int) + ((agreedL us bs).length : Int) + ((leftL bs us).length : Int)) = (bs.length : Int) := (IntWalk.i64_in _ (by have := HL.out; omega)).trans (by have := HF.out.1; omega)
            have hbe : ((bs.length : Int) == (bs.length : Int)) = true := by simp
            clear hn hlt
            go_wp2
            go_ret
            exact ⟨rfl, below_next HBL.out (below_next (below_next B3.out X8.out) HB.out)⟩
  · have hl : (1048576 : Int) < len0 := by omega
    clear h w0
    go_enter Tryz.func6, Tryz.ntmps6
    go_wp2
    go_ret
    exact ⟨rfl, Below.refl _ _⟩


set_option maxRecDepth 100000 in
theorem lifted (os : Os) (started : os.Started) (H : Type) (enc : TypeId × Value → H) :
    ReturnsInHanded {} Tryz.checked os 6 .any (Rows.fnPartsSpec.pre6 enc Tryz.prog Tryz.f6 Rows.fnPartsRow.domain false) (Rows.fnPartsSpec.post enc Tryz.prog Tryz.f6 false true false false) := by
  refine returnsInHanded_of_change (C := Tryz.checked) own started (by kernel_rfl) Tryz.func6
    (ChangeSpec.witness6 (enc := enc) (C := Tryz.checked) false ⟨#[], #[.slice none 0 0], []⟩ 8 (by kernel_rfl) (by kernel_rfl) (by kernel_rfl) (by kernel_rfl)) ?_
  intro W base args ds gs before hval0 hW hcnd _
  have hval : ∀ (j : Nat) t v, Tryz.f6.params[j]? = some t → args[j]? = some v → Value.okWide Tryz.prog W .any base t v := hval0
  have hW' := hW
  obtain ⟨p, q, hA0, hV, rfl, hfz, hnd⟩ := hW
  have hA : DataW.TrodAll enc Tryz.prog W 0 (fun _ => true) true Tryz.f6.params.toList args.toList ds p := hA0
  rw [Tryz.params6] at hA hval
  obtain ⟨v0, vs0, d0, ds0, p0, q0, hargs, rfl, rfl, h0, r0⟩ := trodAll_cons hA
  obtain ⟨rfl, rfl, rfl⟩ := trodAll_nil r0
  obtain rfl : args = #[v0] := by cases args; simp_all
  obtain ⟨rfl, rfl⟩ := trodVars_none hV
  obtain ⟨a0, len0, cap0, rfl⟩ := okWide_slice Tryz.underlying22 (hval 0 22 v0 rfl rfl)
  have k0 := h0
  have lt0 : ∀ x ∈ p0, x.block < W.heap.size := by obtain ⟨m, hm⟩ := k0; exact DataW.trod_lt m _ _ _ hm
  obtain ⟨z0, w0⟩ : ∃ zs, IsRow .u8 W a0 len0 cap0 zs := by
    obtain ⟨fuel, hf⟩ := h0
    rcases open_ints Tryz.underlying22 Tryz.underlying5 (by kernel_rfl) hf with ⟨hcs, _⟩ | ⟨x, l, c, zs, hcs, _, hl, hm, hz, _, hcell, hwz⟩
    · simp [Value.cells] at hcs
      obtain ⟨rfl, rfl, rfl⟩ := hcs
      exact ⟨[], .inl ⟨rfl, rfl, rfl, rfl⟩⟩
    · simp [Value.cells] at hcs
      obtain ⟨rfl, rfl, rfl⟩ := hcs
      exact ⟨zs, .inr ⟨_, rfl, hl, hm, by simpa using hz, hcell, hwz⟩⟩
  clear hA0 hval0
  refine (walk a0 len0 cap0 z0 W w0).mono fun e W' ⟨he, bel⟩ => ?_
  subst he
  exact ⟨_, rfl, _, _, _, [], _, [], hW', trodAll_mk1 (shut_bool Tryz.underlying4 _), (trodAll_cons_mk (Below.trod laidOut (by kernel_rfl) (of_decide_eq_true (by kernel_rfl)) k0 bel lt0) trodAll_mk0), rfl, bel.frame _, fun h => by cases h⟩

theorem over : Rows.fnPartsRow.holds Tryz.pinned (OpenSpec.ofChange Rows.fnPartsSpec) :=
  OpenClaim.holds_of_wide 6 Tryz.f6 rfl rfl rfl rfl rfl rfl rfl ⟨rfl, rfl, rfl, rfl, rfl⟩ rfl rfl rfl rfl rfl (by kernel_rfl) Tryz.func6 (by kernel_rfl)
    (of_decide_eq_true (by kernel_rfl)) (by unfold Func.isWrapper; first | (rw [if_pos (by decide +kernel)]; kernel_rfl) | (rw [if_neg (by decide +kernel)]; exact ⟨rfl, rfl⟩))
    (fun os started H enc _ => lifted os started H enc)

theorem proved : Rows.FnPartsSaid := over
end Go.Proofs.YtdkpabnpobpdhaaGreat.fnParts
