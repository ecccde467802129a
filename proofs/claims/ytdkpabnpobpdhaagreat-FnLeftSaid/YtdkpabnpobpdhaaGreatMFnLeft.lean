/-
  laws.FnLeft returns true for every input, and leaves its arguments as they were.
  Conditions: none.
-/
import Derived.Test.YtdkpabnpobpdhaaGreatRows
import Derived.WalkKit
import Derived.ProofKit
import Derived.OpenShut
import Derived.ShutString
import Derived.ChangeOld
import Derived.Below
import Derived.Test.YtdkpabnpobpdhaaGreatQ10
import Derived.Test.YtdkpabnpobpdhaaGreatQ7
import Derived.Test.YtdkpabnpobpdhaaGreatQ8
import Derived.Test.YtdkpabnpobpdhaaGreatQ9
namespace Go.Proofs.YtdkpabnpobpdhaaGreat.fnLeft
open Go.ChangeShapes Go.WideShapes Go.ChangeAt Go.RowKit
open Go.ChangeMaps (open_string shut_string)
set_option linter.unusedVariables false

theorem own : ownKnob Tryz.prog.godebug = none := by kernel_rfl
theorem laidOut : laidOutB Tryz.prog = true := by kernel_rfl

theorem left_len (a b : List Cmd) : (leftL a b).length ≤ a.length := by
  unfold leftL
  split
  · exact List.length_filter_le _ _
  · simp
theorem clash_len (a b : List Cmd) (h1 : a.length ≤ 21) (h2 : b.length ≤ 21) : (clashesL a b).length ≤ 441 := by
  unfold clashesL
  split
  · have h := rowsL_le b a 0
    have k : a.length * b.length ≤ 21 * 21 := Nat.mul_le_mul h1 h2
    omega
  · simp
def anyA (xs : List Pr2) (m n : Nat) : Bool := (xs.take m).any (fun x => x.1 == n)
theorem any_step {xs : List Pr2} {m n : Nat} {x : Pr2} (h : xs[m]? = some x) : anyA xs (m + 1) n = (anyA xs m n || (x.1 == n)) := by
  unfold anyA
  rw [List.take_add_one, h, List.any_append]
  simp
theorem any_left {us bs : List Cmd} {n m : Nat} {c : Cmd} (hok : okL us bs = true) (h : us[n]? = some c) (hm : (clashesL us bs).length ≤ m) : anyA (clashesL us bs) m n = hasC (leftL us bs) c := by
  unfold anyA
  rw [List.take_of_length_le hm, Bool.eq_iff_iff, hasC_iff, ← left_told hok h, List.any_eq_true]
  constructor
  · rintro ⟨⟨x, y⟩, h1, h2⟩
    obtain rfl : x = n := by simpa using h2
    exact ⟨y, h1⟩
  · rintro ⟨y, h1⟩
    exact ⟨(n, y), h1, by simp⟩

set_option maxHeartbeats 4000000 in
set_option maxRecDepth 100000 in
theorem walk (a0 : Option Addr) (len0 cap0 : Nat) (z0 : List Int) (w : World) (w0 : IsRow .u8 w a0 len0 cap0 z0) :
    Calls Tryz.prog 5 #[.slice a0 len0 cap0] w fun e w' => e = .returned (.bool true) ∧ Below w.heap.size w w' := by
  by_cases h : len0 ≤ 1048576
  · have hl : (len0 : Int) ≤ 1048576 := by omega
    have HD := Lib.hid (drawLeftOf_c a0 len0 cap0 z0 w w0)
    clear h w0
    go_enter Tryz.func5, Tryz.ntmps5
    go_wp2_with fail
    refine HD.out.mono ?_
    rintro e W1 ⟨v1, us, v2, bs, rfl, o1, l1, s1, o2, l2, s2, hB⟩
    obtain ⟨a, c1, rfl, hA⟩ := cmds_of_own o1
    obtain ⟨b, c2, rfl, hBB⟩ := cmds_of_own o2
    have HBL := Lib.hid hB
    obtain ⟨cl, hcl⟩ : ∃ cl, leftL us bs = cl := ⟨_, rfl⟩
    obtain ⟨u, hu⟩ : ∃ u, canonV us = u := ⟨_, rfl⟩
    obtain ⟨v, hv⟩ : ∃ v, canonV bs = v := ⟨_, rfl⟩
    have HI := Lib.hid (show Calls Tryz.prog 20 #[.slice a us.length c1, .slice b bs.length c2] W1 (CmdsPost cl W1) by rw [← hcl]; exact implLeft_c a us.length c1 us b bs.length c2 bs (by omega) (by omega) (s1.mono (by omega)) (s2.mono (by omega)) W1 hA hBB)
    have HS := Lib.hid (fun W' (hb : Below W1.heap.size W1 W') => show Calls Tryz.prog 21 #[.slice a us.length c1, .slice b bs.length c2] W' (CmdsPost cl W') by rw [← hcl]; exact specLeft_c a us.length c1 us b bs.length c2 bs (by omega) (by omega) (s1.mono (by omega)) (s2.mono (by omega)) W' (hA.keep hb) (hBB.keep hb))
    have HU := Lib.hid (fun W' (hb : Below W1.heap.size W1 W') => show Calls Tryz.prog 12 #[.slice a us.length c1] W' (BoolPost u W') by rw [← hu]; exact specCanonValid_c a us.length c1 us (by omega) (s1.mono (by omega)) W' (hA.keep hb))
    have HV := Lib.hid (fun W' (hb : Below W1.heap.size W1 W') => show Calls Tryz.prog 12 #[.slice b bs.length c2] W' (BoolPost v W') by rw [← hv]; exact specCanonValid_c b bs.length c2 bs (by omega) (s2.mono (by omega)) W' (hBB.keep hb))
    have HAG := Lib.hid (fun W' (hb : Below W1.heap.size W1 W') => implClashes_c a us.length c1 us b bs.length c2 bs (by omega) (by omega) (s1.mono (by omega)) (s2.mono (by omega)) W' (hA.keep hb) (hBB.keep hb))
    have HNS := Lib.hid (show u = true → v = true → ∀ (n m : Nat) (c : Cmd), us[n]? = some c → (clashesL us bs).length ≤ m → anyA (clashesL us bs) m n = hasC cl c by
      intro h1 h2 n m c h3 h4
      have hok : okL us bs = true := by unfold okL; rw [hu, hv, h1, h2]; rfl
      rw [← hcl]
      exact any_left hok h3 h4)
    have HL := Lib.hid (show cl.length ≤ 21 ∧ (clashesL us bs).length ≤ 441 by
      rw [← hcl]
      have k1 := left_len us bs
      have k2 := clash_len us bs l1 l2
      omega)
    have HCV := Lib.hid (show canonV cl = true by rw [← hcl]; exact left_canon us bs)
    have HSS := Lib.hid (show ShortC 66 cl from fun x hx => by
      rw [← hcl] at hx
      unfold leftL at hx
      split at hx
      · exact s1 x (List.mem_filter.1 hx).1
      · cases hx)
    have HAS := Lib.hid hA
    have HBS := Lib.hid hBB
    have HLL := Lib.hid (And.intro l1 l2)
    clear o1 l1 s1 o2 l2 s2 hB hA hBB hcl hu hv
    go_wp2_with fail
    refine HI.out.mono ?_
    rintro e W2 ⟨⟨v3, rfl, o3⟩, hb2⟩
    obtain ⟨a3, c3, rfl, h3⟩ := cmds_of_own o3
    have B2 := Lib.hid hb2
    have HN2 := Lib.hid h3
    clear o3 h3 hb2
    go_wp2_with fail
    refine (HS.out _ B2.out).mono ?_
    rintro e W3 ⟨⟨v4, rfl, o4⟩, hb3⟩
    obtain ⟨a4, c4, rfl, h4⟩ := cmds_of_own o4
    have B3 := Lib.hid (below_next B2.out hb3)
    have HN3 := Lib.hid (HN2.out.keep hb3)
    have HSL := Lib.hid (fun W' (hb : Below W3.heap.size W3 W') => sameLog_c a3 a4 cl.length c3 c4 cl (by have := HL.out; omega) W' ((HN2.out.keep hb3).keep hb) (h4.keep hb))
    have hL : (cl.length : Int) ≤ 441 := by have := HL.out; omega
    clear o4
    go_wp2_with fail
    refine (HSL.out _ (Below.refl _ _)).mono ?_
    rintro e W4 ⟨rfl, hb4⟩
    have X4 := Lib.hid hb4
    clear hb4
    go_wp2_with fail
    refine (HU.out _ (below_next B3.out X4.out)).mono ?_
    rintro e W5 ⟨rfl, hb5⟩
    have X5 := Lib.hid (below_next X4.out hb5)
    clear hb5
    cases u with
    | false =>
      go_wp2_with fail
      refine (HSL.out _ X5.out).mono ?_
      rintro e W6 ⟨rfl, hb6⟩
      have X6 := Lib.hid (below_next X5.out hb6)
      clear hb6
      go_wp2
      go_ret
      exact ⟨rfl, below_next HBL.out (below_next B3.out X6.out)⟩
    | true =>
      go_wp2_with fail
      refine (HV.out _ (below_next B3.out X5.out)).mono ?_
      rintro e W6 ⟨rfl, hb6⟩
      have X6 := Lib.hid (below_next X5.out hb6)
      clear hb6
      cases v with
      | false =>
        go_wp2_with fail
        refine (HSL.out _ X6.out).mono ?_
        rintro e W7 ⟨rfl, hb7⟩
        have X7 := Lib.hid (below_next X6.out hb7)
        clear hb7
        go_wp2
        go_ret
        exact ⟨rfl, below_next HBL.out (below_next B3.out X7.out)⟩
      | true =>
        have HF := Lib.hid (HNS.out (by first | rfl | trivial) (by first | rfl | trivial))
        go_wp2_with fail
        refine (HAG.out _ (below_next B3.out X6.out)).mono ?_
        rintro e W8 ⟨⟨v5, rfl, o5⟩, hb8⟩
        obtain ⟨xs, hxs⟩ : ∃ xs, clashesL us bs = xs := ⟨_, rfl⟩
        rw [hxs] at HF o5 HL
        obtain ⟨a5, c5, rfl, h5⟩ := clash_of_own o5
        have X8 := Lib.hid (below_next X6.out hb8)
        have N5 := Lib.hid h5
        have N3 := Lib.hid (HN3.out.keep X8.out)
        have NA := Lib.hid (HAS.out.keep (below_next B3.out X8.out))
        have HUE := Lib.hid (show xs.length ≤ 441 from HL.out.2)
        clear hb8 o5 h5 hxs
        have hbl : (us.length : Int) ≤ 21 := by have := HLL.out; omega
        have hxl : (xs.length : Int) ≤ 441 := by have := HUE.out; omega
        go_wp2_with fail
        go_loopw [8, 9, 10] (fun i _ _ wr => ∃ n : Nat, i = .int .i64 n ∧ n ≤ us.length ∧ Hid (Below W8.heap.size W8 wr)) (fun i _ _ _ => us.length - (intOf i).toNat)
        case atStart => exact ⟨0, rfl, Nat.zero_le _, Lib.hid (Below.refl _ _)⟩
        case round =>
          obtain ⟨n, rfl, hn, HB⟩ := hrel
          by_cases hlt : n < us.length
          · have hlt' : (n : Int) < us.length := by omega
            have hw1 : IntKind.i64.wrap ((n : Int) + 1) = (n : Int) + 1 := IntWalk.i64_in _ (by omega)
            have HW := Lib.hid hw1
            have HLT := Lib.hid hlt
            clear hn hlt
            go_wp2_with fail
            go_loopw [9, 10] (fun s k wr => ∃ m : Nat, k = .int .i64 m ∧ m ≤ xs.length ∧ s = .bool (anyA xs m n) ∧ Hid (Below W8.heap.size W8 wr)) (fun _ k _ => xs.length - (intOf k).toNat)
            case atStart => exact ⟨0, rfl, Nat.zero_le _, rfl, HB⟩
            case round =>
              obtain ⟨m, rfl, hm, rfl, HBI⟩ := hrel
              by_cases hmt : m < xs.length
              · have hmt' : (m : Int) < xs.length := by omega
                have hwm : IntKind.i64.wrap ((m : Int) + 1) = (m : Int) + 1 := IntWalk.i64_in _ (by omega)
                have HMT := Lib.hid hmt
                obtain ⟨g, off, x, rfl, hx, d0, d1⟩ := (N5.out.keep HBI.out).node hmt
                have HST := Lib.hid (any_step (n := n) hx)
                obtain ⟨t, ht⟩ : ∃ t, anyA xs m n = t := ⟨_, rfl⟩
                rw [ht] at HST ⊢
                clear hm hmt hx ht
                cases t with
                | true =>
                  go_wp2
                  go_roundw
                  case rel => exact ⟨m + 1, by go_num, HMT.out, by rw [HST.out]; rfl, HBI⟩
                  case measure => have := HMT.out; simp [intOf]; omega
                | false =>
                  have hee : ((x.1 : Int) == (n : Int)) = (x.1 == n) := by
                    by_cases h : x.1 = n
                    · rw [h]; simp
                    · rw [beq_eq_false_iff_ne.2 h, beq_eq_false_iff_ne.2 (by omega)]
                  go_wp2
                  go_roundw
                  case rel => exact ⟨m + 1, by go_num, HMT.out, by rw [HST.out]; first | rfl | simp [hee], HBI⟩
                  case measure => have := HMT.out; simp [intOf]; omega
              · have hge : (xs.length : Int) ≤ m := by omega
                have hmx : xs.length ≤ m := by omega
                have hw1 := HW.out
                obtain ⟨g, off, x, rfl, hx, d0, d1, d2, d3, d4⟩ := (NA.out.keep HBI.out).node HLT.out
                obtain ⟨t, ht⟩ : ∃ t, anyA xs m n = t := ⟨_, rfl⟩
                have HH := Lib.hid (fun W' (hb : Below W8.heap.size W8 W') => show Calls Tryz.prog 13 #[.slice a3 cl.length c3, cmdV x] W' (BoolPost t W') by rw [← ht, HF.out n m x hx hmx]; exact lawHas_c a3 cl.length c3 cl x (by have := HL.out; omega) W' (N3.out.keep hb))
                rw [ht]
                obtain ⟨p, fk, fv, tk, tv⟩ := x
                unfold cmdV at HH
                simp only at d0 d1 d2 d3 d4 HH
                have hbt : (t != t) = false := by simp
                clear hm hmt hx ht
                go_wp2_with fail
                refine (HH.out _ HBI.out).mono ?_
                rintro e W9 ⟨rfl, hb9⟩
                have HB9 := Lib.hid (below_next HBI.out hb9)
                clear hb9 d0 d1 d2 d3 d4
                go_wp2
                go_roundw
                case rel => exact ⟨n + 1, by go_num, HLT.out, HB9⟩
                case measure => have := HLT.out; simp [intOf]; omega
          · have hge : (us.length : Int) ≤ n := by omega
            have HC := Lib.hid (show Calls Tryz.prog 15 #[.slice a3 cl.length c3] wr (BoolPost true wr) by rw [← HCV.out]; exact implCanonValid_c a3 cl.length c3 cl (by have := HL.out; omega) (HSS.out.mono (by omega)) wr (N3.out.keep HB.out))
            clear hn hlt
            go_wp2_with fail
            refine HC.out.mono ?_
            rintro e W7 ⟨rfl, hb7⟩
            have B7 := Lib.hid (below_next HB.out hb7)
            clear hb7
            go_wp2
            go_ret
            exact ⟨rfl, below_next HBL.out (below_next (below_next B3.out X8.out) B7.out)⟩
  · have hl : (1048576 : Int) < len0 := by omega
    clear h w0
    go_enter Tryz.func5, Tryz.ntmps5
    go_wp2
    go_ret
    exact ⟨rfl, Below.refl _ _⟩


set_option maxRecDepth 100000 in
theorem lifted (os : Os) (started : os.Started) (H : Type) (enc : TypeId × Value → H) :
    ReturnsInHanded {} Tryz.checked os 5 .any (Rows.fnLeftSpec.pre6 enc Tryz.prog Tryz.f5 Rows.fnLeftRow.domain false) (Rows.fnLeftSpec.post enc Tryz.prog Tryz.f5 false true false false) := by
  refine returnsInHanded_of_change (C := Tryz.checked) own started (by kernel_rfl) Tryz.func5
    (ChangeSpec.witness6 (enc := enc) (C := Tryz.checked) false ⟨#[], #[.slice none 0 0], []⟩ 8 (by kernel_rfl) (by kernel_rfl) (by kernel_rfl) (by kernel_rfl)) ?_
  intro W base args ds gs before hval0 hW hcnd _
  have hval : ∀ (j : Nat) t v, Tryz.f5.params[j]? = some t → args[j]? = some v → Value.okWide Tryz.prog W .any base t v := hval0
  have hW' := hW
  obtain ⟨p, q, hA0, hV, rfl, hfz, hnd⟩ := hW
  have hA : DataW.TrodAll enc Tryz.prog W 0 (fun _ => true) true Tryz.f5.params.toList args.toList ds p := hA0
  rw [Tryz.params5] at hA hval
  obtain ⟨v0, vs0, d0, ds0, p0, q0, hargs, rfl, rfl, h0, r0⟩ := trodAll_cons hA
  obtain ⟨rfl, rfl, rfl⟩ := trodAll_nil r0
  obtain rfl : args = #[v0] := by cases args; simp_all
  obtain ⟨rfl, rfl⟩ := trodVars_none hV
  obtain ⟨a0, len0, cap0, rfl⟩ := okWide_slice Tryz.underlying22 (hval 0 22 v0 rfl rfl)
  have k0 := h0
  have lt0 : ∀ x ∈ p0, x.block < W.heap.size := by obtain ⟨m, hm⟩ := k0; exact DataW.trod_lt m _ _ _ hm
  obtain ⟨z0, w0⟩ : ∃ zs, IsRow .u8 W a0 len0 cap0 zs := by
    obtain ⟨fuel, hf⟩ := h0
    rcases open_ints Tryz.underlying22 Tryz.underlying5 (by kernel_rfl) hf with ⟨hcs, _⟩ | ⟨x, l, c, zs, hcs, _, hl, hm, hz, _, hcell, hwz⟩
    · simp [Value.cells] at hcs
      obtain ⟨rfl, rfl, rfl⟩ := hcs
      exact ⟨[], .inl ⟨rfl, rfl, rfl, rfl⟩⟩
    · simp [Value.cells] at hcs
      obtain ⟨rfl, rfl, rfl⟩ := hcs
      exact ⟨zs, .inr ⟨_, rfl, hl, hm, by simpa using hz, hcell, hwz⟩⟩
  clear hA0 hval0
  refine (walk a0 len0 cap0 z0 W w0).mono fun e W' ⟨he, bel⟩ => ?_
  subst he
  exact ⟨_, rfl, _, _, _, [], _, [], hW', trodAll_mk1 (shut_bool Tryz.underlying4 _), (trodAll_cons_mk (Below.trod laidOut (by kernel_rfl) (of_decide_eq_true (by kernel_rfl)) k0 bel lt0) trodAll_mk0), rfl, bel.frame _, fun h => by cases h⟩

theorem over : Rows.fnLeftRow.holds Tryz.pinned (OpenSpec.ofChange Rows.fnLeftSpec) :=
  OpenClaim.holds_of_wide 5 Tryz.f5 rfl rfl rfl rfl rfl rfl rfl ⟨rfl, rfl, rfl, rfl, rfl⟩ rfl rfl rfl rfl rfl (by kernel_rfl) Tryz.func5 (by kernel_rfl)
    (of_decide_eq_true (by kernel_rfl)) (by unfold Func.isWrapper; first | (rw [if_pos (by decide +kernel)]; kernel_rfl) | (rw [if_neg (by decide +kernel)]; exact ⟨rfl, rfl⟩))
    (fun os started H enc _ => lifted os started H enc)

theorem proved : Rows.FnLeftSaid := over
end Go.Proofs.YtdkpabnpobpdhaaGreat.fnLeft
