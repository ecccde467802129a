/-
  laws.FnAgreed returns true for every input, and leaves its arguments as they were.
  Conditions: none.
-/
import Derived.Test.YtdkpabnpobpdhaaGreatRows
import Derived.WalkKit
import Derived.ProofKit
import Derived.OpenShut
import Derived.ShutString
import Derived.ChangeOld
import Derived.Below
import Derived.Test.YtdkpabnpobpdhaaGreatQ10
import Derived.Test.YtdkpabnpobpdhaaGreatQ8
import Derived.Test.YtdkpabnpobpdhaaGreatQ7
import Derived.Test.YtdkpabnpobpdhaaGreatQ9
namespace Go.Proofs.YtdkpabnpobpdhaaGreat.fnAgreed
open Go.ChangeShapes Go.WideShapes Go.ChangeAt Go.RowKit
open Go.ChangeMaps (open_string shut_string)
set_option linter.unusedVariables false

theorem own : ownKnob Tryz.prog.godebug = none := by kernel_rfl
theorem laidOut : laidOutB Tryz.prog = true := by kernel_rfl

theorem agreed_both {a b : List Cmd} {x : Cmd} (h : x ∈ agreedL a b) : x ∈ a ∧ x ∈ b := by
  unfold agreedL at h
  split at h
  · rw [List.mem_filter, Bool.and_eq_true] at h
    exact ⟨hasC_iff.1 h.2.1, h.1⟩
  · cases h
theorem agreed_len (a b : List Cmd) : (agreedL a b).length ≤ b.length := by
  unfold agreedL
  split
  · exact List.length_filter_le _ _
  · simp

set_option maxHeartbeats 4000000 in
set_option maxRecDepth 100000 in
theorem walk (a0 : Option Addr) (len0 cap0 : Nat) (z0 : List Int) (w : World) (w0 : IsRow .u8 w a0 len0 cap0 z0) :
    Calls Tryz.prog 4 #[.slice a0 len0 cap0] w fun e w' => e = .returned (.bool true) ∧ Below w.heap.size w w' := by
  by_cases h : len0 ≤ 1048576
  · have hl : (len0 : Int) ≤ 1048576 := by omega
    have HD := Lib.hid (drawAgreedOf_c a0 len0 cap0 z0 w w0)
    clear h w0
    go_enter Tryz.func4, Tryz.ntmps4
    go_wp2_with fail
    refine HD.out.mono ?_
    rintro e W1 ⟨v1, us, v2, bs, rfl, o1, l1, s1, o2, l2, s2, hB⟩
    obtain ⟨a, c1, rfl, hA⟩ := cmds_of_own o1
    obtain ⟨b, c2, rfl, hBB⟩ := cmds_of_own o2
    have HBL := Lib.hid hB
    obtain ⟨ag, hag⟩ : ∃ ag, agreedL us bs = ag := ⟨_, rfl⟩
    have HI := Lib.hid (show Calls Tryz.prog 17 #[.slice a us.length c1, .slice b bs.length c2] W1 (CmdsPost ag W1) by rw [← hag]; exact implAgreed_c a us.length c1 us b bs.length c2 bs (by omega) (by omega) (s1.mono (by omega)) (s2.mono (by omega)) W1 hA hBB)
    have HS := Lib.hid (fun W' (hb : Below W1.heap.size W1 W') => show Calls Tryz.prog 18 #[.slice a us.length c1, .slice b bs.length c2] W' (CmdsPost ag W') by rw [← hag]; exact specAgreed_c a us.length c1 us b bs.length c2 bs (by omega) (by omega) (s1.mono (by omega)) (s2.mono (by omega)) W' (hA.keep hb) (hBB.keep hb))
    have HA := Lib.hid hA
    have HBS := Lib.hid hBB
    have HM := Lib.hid (show ∀ x ∈ ag, x ∈ us ∧ x ∈ bs by intro x hx; rw [← hag] at hx; exact agreed_both hx)
    have HCV := Lib.hid (show canonV ag = true by rw [← hag]; exact agreed_canon us bs)
    have HL := Lib.hid (show ag.length ≤ 21 by have := agreed_len us bs; rw [hag] at this; omega)
    have HSS := Lib.hid (show ShortC 66 ag from fun x hx => s2 x (HM.out x hx).2)
    have HLL := Lib.hid (And.intro l1 l2)
    clear o1 l1 s1 o2 l2 s2 hB hA hBB hag
    go_wp2_with fail
    refine HI.out.mono ?_
    rintro e W2 ⟨⟨v3, rfl, o3⟩, hb2⟩
    obtain ⟨a3, c3, rfl, -⟩ := cmds_of_own o3
    have B2 := Lib.hid hb2
    have HO3 := Lib.hid o3
    clear o3 hb2
    go_wp2_with fail
    refine (HS.out _ B2.out).mono ?_
    rintro e W3 ⟨⟨v4, rfl, o4⟩, hb3⟩
    obtain ⟨a4, c4, rfl, h4⟩ := cmds_of_own o4
    have B3 := Lib.hid (below_next B2.out hb3)
    have HN3 := Lib.hid (cmds_own (own_below HO3.out hb3))
    have HSL := Lib.hid (sameLog_c a3 a4 ag.length c3 c4 ag (by have := HL.out; omega) W3 HN3.out h4)
    have HLEN := Lib.hid HL.out
    have hL : (ag.length : Int) ≤ 21 := by have := HL.out; omega
    clear o4 h4 hb3
    go_wp2_with fail
    refine HSL.out.mono ?_
    rintro e W4 ⟨rfl, hb4⟩
    have B4 := Lib.hid (below_next B3.out hb4)
    have HN4 := Lib.hid (HN3.out.keep hb4)
    clear hb4
    go_wp2_with fail
    go_loopw [7] (fun k wr => ∃ n : Nat, k = .int .i64 n ∧ n ≤ ag.length ∧ Hid (Below W4.heap.size W4 wr)) (fun k _ => ag.length - (intOf k).toNat)
    case atStart => exact ⟨0, rfl, Nat.zero_le _, Lib.hid (Below.refl _ _)⟩
    case round =>
      obtain ⟨n, rfl, hn, HB⟩ := hrel
      by_cases hlt : n < ag.length
      · have hlt' : (n : Int) < ag.length := by omega
        have hw1 : IntKind.i64.wrap ((n : Int) + 1) = (n : Int) + 1 := IntWalk.i64_in _ (by omega)
        have HLT := Lib.hid hlt
        obtain ⟨g, off, x, rfl, hx, d0, d1, d2, d3, d4⟩ := (HN4.out.keep HB.out).node hlt
        have HX := Lib.hid hx
        have hmm := HM.out x (List.mem_of_getElem? hx)
        have HH1 := Lib.hid (fun W' (hb : Below W1.heap.size W1 W') => show Calls Tryz.prog 13 #[.slice a us.length c1, cmdV x] W' (BoolPost true W') by rw [← hasC_iff.2 hmm.1]; exact lawHas_c a us.length c1 us x (by have := HLL.out; omega) W' (HA.out.keep hb))
        have HH2 := Lib.hid (fun W' (hb : Below W1.heap.size W1 W') => show Calls Tryz.prog 13 #[.slice b bs.length c2, cmdV x] W' (BoolPost true W') by rw [← hasC_iff.2 hmm.2]; exact lawHas_c b bs.length c2 bs x (by have := HLL.out; omega) W' (HBS.out.keep hb))
        obtain ⟨p, fk, fv, tk, tv⟩ := x
        unfold cmdV at HH1 HH2
        simp only at d0 d1 d2 d3 d4 HH1 HH2
        clear hn hlt hx hmm
        go_wp2_with fail
        refine (HH1.out _ (below_next B4.out HB.out)).mono ?_
        rintro e W5 ⟨rfl, hb5⟩
        have HB5 := Lib.hid (below_next HB.out hb5)
        obtain ⟨g', off', x', hv, hx', e0, e1, e2, e3, e4⟩ := (HN4.out.keep HB5.out).node HLT.out
        cases hv
        obtain rfl := Option.some.inj (HX.out.symm.trans hx')
        simp only at e0 e1 e2 e3 e4
        clear hb5 hx' d0 d1 d2 d3 d4
        go_wp2_with fail
        refine (HH2.out _ (below_next B4.out HB5.out)).mono ?_
        rintro e W6 ⟨rfl, hb6⟩
        have HB6 := Lib.hid (below_next HB5.out hb6)
        clear hb6 e0 e1 e2 e3 e4
        go_wp2
        go_roundw
        case rel => exact ⟨n + 1, by go_num, HLT.out, HB6⟩
        case measure => have := HLT.out; simp [intOf]; omega
      · have hge : (ag.length : Int) ≤ n := by omega
        have HC := Lib.hid (show Calls Tryz.prog 15 #[.slice a3 ag.length c3] wr (BoolPost true wr) by rw [← HCV.out]; exact implCanonValid_c a3 ag.length c3 ag (by have := HL.out; omega) (HSS.out.mono (by omega)) wr (HN4.out.keep HB.out))
        clear hn hlt
        go_wp2_with fail
        refine HC.out.mono ?_
        rintro e W7 ⟨rfl, hb7⟩
        have B7 := Lib.hid (below_next (below_next B4.out HB.out) hb7)
        clear hb7
        go_wp2
        go_ret
        exact ⟨rfl, below_next HBL.out B7.out⟩
  · have hl : (1048576 : Int) < len0 := by omega
    clear h w0
    go_enter Tryz.func4, Tryz.ntmps4
    go_wp2
    go_ret
    exact ⟨rfl, Below.refl _ _⟩

set_option maxRecDepth 100000 in
theorem lifted (os : Os) (started : os.Started) (H : Type) (enc : TypeId × Value → H) :
    ReturnsInHanded {} Tryz.checked os 4 .any (Rows.fnAgreedSpec.pre6 enc Tryz.prog Tryz.f4 Rows.fnAgreedRow.domain false) (Rows.fnAgreedSpec.post enc Tryz.prog Tryz.f4 false true false false) := by
  refine returnsInHanded_of_change (C := Tryz.checked) own started (by kernel_rfl) Tryz.func4
    (ChangeSpec.witness6 (enc := enc) (C := Tryz.checked) false ⟨#[], #[.slice none 0 0], []⟩ 8 (by kernel_rfl) (by kernel_rfl) (by kernel_rfl) (by kernel_rfl)) ?_
  intro W base args ds gs before hval0 hW hcnd _
  have hval : ∀ (j : Nat) t v, Tryz.f4.params[j]? = some t → args[j]? = some v → Value.okWide Tryz.prog W .any base t v := hval0
  have hW' := hW
  obtain ⟨p, q, hA0, hV, rfl, hfz, hnd⟩ := hW
  have hA : DataW.TrodAll enc Tryz.prog W 0 (fun _ => true) true Tryz.f4.params.toList args.toList ds p := hA0
  rw [Tryz.params4] at hA hval
  obtain ⟨v0, vs0, d0, ds0, p0, q0, hargs, rfl, rfl, h0, r0⟩ := trodAll_cons hA
  obtain ⟨rfl, rfl, rfl⟩ := trodAll_nil r0
  obtain rfl : args = #[v0] := by cases args; simp_all
  obtain ⟨rfl, rfl⟩ := trodVars_none hV
  obtain ⟨a0, len0, cap0, rfl⟩ := okWide_slice Tryz.underlying22 (hval 0 22 v0 rfl rfl)
  have k0 := h0
  have lt0 : ∀ x ∈ p0, x.block < W.heap.size := by obtain ⟨m, hm⟩ := k0; exact DataW.trod_lt m _ _ _ hm
  obtain ⟨z0, w0⟩ : ∃ zs, IsRow .u8 W a0 len0 cap0 zs := by
    obtain ⟨fuel, hf⟩ := h0
    rcases open_ints Tryz.underlying22 Tryz.underlying5 (by kernel_rfl) hf with ⟨hcs, _⟩ | ⟨x, l, c, zs, hcs, _, hl, hm, hz, _, hcell, hwz⟩
    · simp [Value.cells] at hcs
      obtain ⟨rfl, rfl, rfl⟩ := hcs
      exact ⟨[], .inl ⟨rfl, rfl, rfl, rfl⟩⟩
    · simp [Value.cells] at hcs
      obtain ⟨rfl, rfl, rfl⟩ := hcs
      exact ⟨zs, .inr ⟨_, rfl, hl, hm, by simpa using hz, hcell, hwz⟩⟩
  clear hA0 hval0
  refine (walk a0 len0 cap0 z0 W w0).mono fun e W' ⟨he, bel⟩ => ?_
  subst he
  exact ⟨_, rfl, _, _, _, [], _, [], hW', trodAll_mk1 (shut_bool Tryz.underlying4 _), (trodAll_cons_mk (Below.trod laidOut (by kernel_rfl) (of_decide_eq_true (by kernel_rfl)) k0 bel lt0) trodAll_mk0), rfl, bel.frame _, fun h => by cases h⟩

theorem over : Rows.fnAgreedRow.holds Tryz.pinned (OpenSpec.ofChange Rows.fnAgreedSpec) :=
  OpenClaim.holds_of_wide 4 Tryz.f4 rfl rfl rfl rfl rfl rfl rfl ⟨rfl, rfl, rfl, rfl, rfl⟩ rfl rfl rfl rfl rfl (by kernel_rfl) Tryz.func4 (by kernel_rfl)
    (of_decide_eq_true (by kernel_rfl)) (by unfold Func.isWrapper; first | (rw [if_pos (by decide +kernel)]; kernel_rfl) | (rw [if_neg (by decide +kernel)]; exact ⟨rfl, rfl⟩))
    (fun os started H enc _ => lifted os started H enc)

theorem proved : Rows.FnAgreedSaid := over
end Go.Proofs.YtdkpabnpobpdhaaGreat.fnAgreed
