/-
  laws.FnTreeChangedNone returns true for every input, and leaves its arguments as they were.
  Conditions: none.
-/
import Derived.Test.YtmdidhlfpaganaaRows
import Derived.WalkKit
import Derived.ProofKit
import Derived.OpenShut
import Derived.ShutString
import Derived.ChangeOld
import Derived.Below
import Derived.Test.YtmdidhlfpaganaaK5
namespace Go.Proofs.Ytmdidhlfpaganaa.fnTreeChangedNone
open Go.ChangeShapes Go.WideShapes Go.ChangeAt Go.RowKit
open Go.ChangeMaps (open_string shut_string)
set_option linter.unusedVariables false

theorem own : ownKnob Try.prog.godebug = none := by kernel_rfl
theorem laidOut : laidOutB Try.prog = true := by kernel_rfl

set_option maxHeartbeats 2000000 in
set_option maxRecDepth 100000 in
theorem walk (a0 : Option Addr) (len0 cap0 : Nat) (z0 : List Int) (w : World) (w0 : IsRow .u8 w a0 len0 cap0 z0) :
    Calls Try.prog 7 #[.slice a0 len0 cap0] w fun e w' => e = .returned (.bool true) ∧ Below w.heap.size w w' := by
  by_cases h : len0 ≤ 1048576
  · have hl : (len0 : Int) ≤ 1048576 := by omega
    have HD := Lib.hid (drawTreeChanged_c a0 len0 cap0 z0 w w0)
    clear h w0
    go_enter Try.func7, Try.ntmps7
    go_wp2_with fail
    refine HD.out.mono ?_
    rintro e W1 ⟨s1, ns, s2, ms, rfl, hd1, hd2⟩
    obtain ⟨a1, c1, rfl, hn1⟩ := nodes_of_own hd1.1
    obtain ⟨a2, c2, rfl, hn2⟩ := nodes_of_own hd2.1
    have hlen1 := hd1.2.1
    have hlen2 := hd2.2.1
    have hsh1 : Short 2097152 ns := hd1.2.2.1.mono (by omega)
    have hsh2 : Short 2097152 ms := hd2.2.2.1.mono (by omega)
    have HSH := Lib.hid (And.intro hd1.2.2.1 hd2.2.2.1)
    have HBL := Lib.hid hd1.2.2.2
    obtain ⟨v1, hv1⟩ : ∃ v, validT ns = v := ⟨_, rfl⟩
    obtain ⟨v2, hv2⟩ : ∃ v, validT ms = v := ⟨_, rfl⟩
    have HV1 := Lib.hid (fun W' (hb : Below W1.heap.size W1 W') => show Calls Try.prog 22 #[.slice a1 ns.length c1] W' (BoolPost v1 W') by
      rw [← hv1]; exact specTreeValid_c a1 ns.length c1 ns (by omega) hsh1 W' (hn1.keep hb))
    have HV2 := Lib.hid (fun W' (hb : Below W1.heap.size W1 W') => show Calls Try.prog 22 #[.slice a2 ms.length c2] W' (BoolPost v2 W') by
      rw [← hv2]; exact specTreeValid_c a2 ms.length c2 ms (by omega) hsh2 W' (hn2.keep hb))
    have HI := Lib.hid (fun W' (hb : Below W1.heap.size W1 W') => implTreeChanged_c a1 ns.length c1 ns a2 ms.length c2 ms (by omega) (by omega) hsh1 hsh2 W' (hn1.keep hb) (hn2.keep hb))
    have HI2 := Lib.hid (fun W' (hb : Below W1.heap.size W1 W') => implTreeChanged_c a2 ms.length c2 ms a1 ns.length c1 ns (by omega) (by omega) hsh2 hsh1 W' (hn2.keep hb) (hn1.keep hb))
    have HS := Lib.hid (fun W' (hb : Below W1.heap.size W1 W') => specTreeChanged_c a1 ns.length c1 ns a2 ms.length c2 ms (by omega) (by omega) hsh1 hsh2 W' (hn1.keep hb) (hn2.keep hb))
    have HSN := Lib.hid (fun W' (hb : Below W1.heap.size W1 W') => sameNodesB_c a1 a2 ns.length ms.length c1 c2 ns ms (by omega) (by omega) W' (hn1.keep hb) (hn2.keep hb))
    have HT1 := Lib.hid (fun p (hp : p.size ≤ 2097152) W' (hb : Below W1.heap.size W1 W') => implTreeSum_c a1 ns.length c1 ns p (by omega) hsh1 hp W' (hn1.keep hb))
    have HT2 := Lib.hid (fun p (hp : p.size ≤ 2097152) W' (hb : Below W1.heap.size W1 W') => implTreeSum_c a2 ms.length c2 ms p (by omega) hsh2 hp W' (hn2.keep hb))
    have HG1 := Lib.hid (fun p (hp : p.size ≤ 2097152) W' (hb : Below W1.heap.size W1 W') => implTreeGet_c a1 ns.length c1 ns p (by omega) hsh1 hp W' (hn1.keep hb))
    have HG2 := Lib.hid (fun p (hp : p.size ≤ 2097152) W' (hb : Below W1.heap.size W1 W') => implTreeGet_c a2 ms.length c2 ms p (by omega) hsh2 hp W' (hn2.keep hb))
    have HVT1 := Lib.hid hv1
    have HVT2 := Lib.hid hv2
    obtain ⟨ch, hch⟩ : ∃ ch, chgL ns ms = ch := ⟨_, rfl⟩
    rw [hch] at HI HS
    have HCH := Lib.hid hch
    have HCL := Lib.hid (show ch.length ≤ 20 by rw [← hch]; exact chg_len ns ms)
    have HN1 := Lib.hid hn1
    have HN2 := Lib.hid hn2
    obtain ⟨l1, hl1⟩ : ∃ l, ns.length = l := ⟨_, rfl⟩
    obtain ⟨l2, hl2⟩ : ∃ l, ms.length = l := ⟨_, rfl⟩
    rw [hl1] at HI HI2 HS HSN HV1 HT1 HG1 HN1 hlen1 ⊢
    rw [hl2] at HI HI2 HS HSN HV2 HT2 HG2 HN2 hlen2 ⊢
    have HLE1 := Lib.hid hl1
    have HLE2 := Lib.hid hl2
    have hlen1' : (l1 : Int) ≤ 11 := by omega
    have hlen2' : (l2 : Int) ≤ 11 := by omega
    clear hn1 hn2 hd1 hd2 hv1 hv2 hch hl1 hl2 hlen1 hlen2 hsh1 hsh2
    go_wp2_with fail
    refine (HI.out _ (Below.refl _ _)).mono ?_
    rintro e W2 ⟨⟨x2, rfl, ho2⟩, hb2⟩
    obtain ⟨a3, c3, rfl, ht2⟩ := texts_of_own ho2
    have HB2 := Lib.hid hb2
    have HX2 := Lib.hid ht2
    obtain ⟨cl, hcl⟩ : ∃ cl, ch.length = cl := ⟨_, rfl⟩
    rw [hcl] at HX2 HCL ⊢
    have HCE := Lib.hid hcl
    have hcl20 : (cl : Int) ≤ 20 := by have := HCL.out; omega
    clear ho2 ht2 hb2 hcl
    go_wp2_with fail
    refine (HS.out _ HB2.out).mono ?_
    rintro e W3 ⟨⟨x3, rfl, ho3⟩, hb3⟩
    obtain ⟨a4, c4, rfl, ht3⟩ := texts_of_own ho3
    rw [HCE.out] at ht3 ⊢
    have HX3 := Lib.hid ht3
    have HX23 := Lib.hid (HX2.out.keep hb3)
    have HB3 := Lib.hid (below_next HB2.out hb3)
    clear ho3 ht3 hb3
    have HST := Lib.hid (fun W' (hb : Below W3.heap.size W3 W') => sameTexts_c a3 a4 cl c3 c4 ch (by have := HCL.out; omega) W' (HX23.out.keep hb) (HX3.out.keep hb))
    go_wp2_with fail
    refine (HST.out _ (Below.refl _ _)).mono ?_
    rintro e W4 ⟨rfl, hb4⟩
    have H4 := Lib.hid hb4
    have HB4 := Lib.hid (below_next HB3.out hb4)
    clear hb4
    go_wp2_with fail
    refine (HV1.out _ HB4.out).mono ?_
    rintro e W5 ⟨rfl, hb5⟩
    have H5 := Lib.hid (below_next H4.out hb5)
    have HB5 := Lib.hid (below_next HB4.out hb5)
    clear hb5
    cases v1 with
    | false =>
      go_wp2_with fail
      refine (HST.out _ H5.out).mono ?_
      rintro e W6 ⟨rfl, hb6⟩
      go_wp2
      go_ret
      exact ⟨rfl, below_next HBL.out (below_next HB5.out hb6)⟩
    | true =>
      go_wp2_with fail
      refine (HV2.out _ HB5.out).mono ?_
      rintro e W6 ⟨rfl, hb6⟩
      have H6 := Lib.hid (below_next H5.out hb6)
      have HB6 := Lib.hid (below_next HB5.out hb6)
      clear hb6
      cases v2 with
      | false =>
        go_wp2_with fail
        refine (HST.out _ H6.out).mono ?_
        rintro e W7 ⟨rfl, hb7⟩
        go_wp2
        go_ret
        exact ⟨rfl, below_next HBL.out (below_next HB6.out hb7)⟩
      | true =>
        have HSY := Lib.hid (chg_symm HVT1.out HVT2.out)
        have HNL := Lib.hid (chg_nil HVT1.out HVT2.out)
        rw [HCH.out] at HSY HNL
        rw [HSY.out] at HI2
        go_wp2_with fail
        refine (HSN.out _ HB6.out).mono ?_
        rintro e W7 ⟨⟨sm, rfl, hsm⟩, hb7⟩
        have H7 := Lib.hid (below_next H6.out hb7)
        have HB7 := Lib.hid (below_next HB6.out hb7)
        have hz : ((cl : Int) == 0) = sm := by
          have h1 : cl = 0 ↔ sm = true := by rw [hsm, ← HNL.out, ← HCE.out]; exact List.length_eq_zero_iff
          cases sm with
          | true => rw [h1.2 rfl]; rfl
          | false => exact beq_eq_false_iff_ne.2 (fun e => by have := h1.1 (by omega); cases this)
        have HSM := Lib.hid hsm
        have hss : (sm == sm) = true := by simp
        clear hsm hb7
        go_wp2_with fail
        refine (HI2.out _ HB7.out).mono ?_
        rintro e W8 ⟨⟨x8, rfl, ho8⟩, hb8⟩
        obtain ⟨a8, c8, rfl, ht8⟩ := texts_of_own ho8
        rw [HCE.out] at ht8 ⊢
        have H8 := Lib.hid (below_next H7.out hb8)
        have HB8 := Lib.hid (below_next HB7.out hb8)
        have HS8 := Lib.hid (sameTexts_c a8 a3 cl c8 c3 ch (by have := HCL.out; omega) W8 ht8 (HX23.out.keep H8.out))
        clear ho8 ht8 hb8
        go_wp2_with fail
        refine HS8.out.mono ?_
        rintro e W9 ⟨rfl, hb9⟩
        have HB9 := Lib.hid (below_next HB8.out hb9)
        clear hb9
        cases sm with
        | false =>
          go_wp2
          go_ret
          exact ⟨rfl, below_next HBL.out HB9.out⟩
        | true =>
          have he : ns = ms := HSM.out.1 rfl
          obtain ⟨r, hr⟩ : ∃ r, treeSum ns ⟨#[47]⟩ = r := ⟨_, rfl⟩
          have HR1 := Lib.hid (HT1.out ⟨#[47]⟩ (by decide) W9 HB9.out)
          have HR2 := Lib.hid (fun W' hb => HT2.out ⟨#[47]⟩ (by decide) W' hb)
          rw [← he, hr] at HR2
          rw [hr] at HR1
          have hrr : (r == r) = true := by simp
          clear he hr
          go_wp2_with fail
          refine HR1.out.mono ?_
          rintro e W10 ⟨rfl, hb10⟩
          have HB10 := Lib.hid (below_next HB9.out hb10)
          clear hb10
          go_wp2_with fail
          refine (HR2.out _ HB10.out).mono ?_
          rintro e W11 ⟨rfl, hb11⟩
          have HB11 := Lib.hid (below_next HBL.out (below_next HB10.out hb11))
          clear hb11
          go_wp2
          go_ret
          exact ⟨rfl, HB11.out⟩
  · have hl : (1048576 : Int) < len0 := by omega
    clear h w0
    go_enter Try.func7, Try.ntmps7
    go_wp2
    go_ret
    exact ⟨rfl, Below.refl _ _⟩


set_option maxRecDepth 100000 in
theorem lifted (os : Os) (started : os.Started) (H : Type) (enc : TypeId × Value → H) :
    ReturnsInHanded {} Try.checked os 7 .any (Rows.fnTreeChangedNoneSpec.pre6 enc Try.prog Try.f7 Rows.fnTreeChangedNoneRow.domain false) (Rows.fnTreeChangedNoneSpec.post enc Try.prog Try.f7 false true false false) := by
  refine returnsInHanded_of_change (C := Try.checked) own started (by kernel_rfl) Try.func7
    (ChangeSpec.witness6 (enc := enc) (C := Try.checked) false ⟨#[], #[.slice none 0 0], []⟩ 8 (by kernel_rfl) (by kernel_rfl) (by kernel_rfl) (by kernel_rfl)) ?_
  intro W base args ds gs before hval0 hW hcnd _
  have hval : ∀ (j : Nat) t v, Try.f7.params[j]? = some t → args[j]? = some v → Value.okWide Try.prog W .any base t v := hval0
  have hW' := hW
  obtain ⟨p, q, hA0, hV, rfl, hfz, hnd⟩ := hW
  have hA : DataW.TrodAll enc Try.prog W 0 (fun _ => true) true Try.f7.params.toList args.toList ds p := hA0
  rw [Try.params7] at hA hval
  obtain ⟨v0, vs0, d0, ds0, p0, q0, hargs, rfl, rfl, h0, r0⟩ := trodAll_cons hA
  obtain ⟨rfl, rfl, rfl⟩ := trodAll_nil r0
  obtain rfl : args = #[v0] := by cases args; simp_all
  obtain ⟨rfl, rfl⟩ := trodVars_none hV
  obtain ⟨a0, len0, cap0, rfl⟩ := okWide_slice Try.underlying22 (hval 0 22 v0 rfl rfl)
  have k0 := h0
  have lt0 : ∀ x ∈ p0, x.block < W.heap.size := by obtain ⟨m, hm⟩ := k0; exact DataW.trod_lt m _ _ _ hm
  obtain ⟨z0, w0⟩ : ∃ zs, IsRow .u8 W a0 len0 cap0 zs := by
    obtain ⟨fuel, hf⟩ := h0
    rcases open_ints Try.underlying22 Try.underlying5 (by kernel_rfl) hf with ⟨hcs, _⟩ | ⟨x, l, c, zs, hcs, _, hl, hm, hz, _, hcell, hwz⟩
    · simp [Value.cells] at hcs
      obtain ⟨rfl, rfl, rfl⟩ := hcs
      exact ⟨[], .inl ⟨rfl, rfl, rfl, rfl⟩⟩
    · simp [Value.cells] at hcs
      obtain ⟨rfl, rfl, rfl⟩ := hcs
      exact ⟨zs, .inr ⟨_, rfl, hl, hm, by simpa using hz, hcell, hwz⟩⟩
  clear hA0 hval0
  refine (walk a0 len0 cap0 z0 W w0).mono fun e W' ⟨he, bel⟩ => ?_
  subst he
  exact ⟨_, rfl, _, _, _, [], _, [], hW', trodAll_mk1 (shut_bool Try.underlying4 _), (trodAll_cons_mk (Below.trod laidOut (by kernel_rfl) (of_decide_eq_true (by kernel_rfl)) k0 bel lt0) trodAll_mk0), rfl, bel.frame _, fun h => by cases h⟩

theorem over : Rows.fnTreeChangedNoneRow.holds Try.pinned (OpenSpec.ofChange Rows.fnTreeChangedNoneSpec) :=
  OpenClaim.holds_of_wide 7 Try.f7 rfl rfl rfl rfl rfl rfl rfl ⟨rfl, rfl, rfl, rfl, rfl⟩ rfl rfl rfl rfl rfl (by kernel_rfl) Try.func7 (by kernel_rfl)
    (of_decide_eq_true (by kernel_rfl)) (by unfold Func.isWrapper; first | (rw [if_pos (by decide +kernel)]; kernel_rfl) | (rw [if_neg (by decide +kernel)]; exact ⟨rfl, rfl⟩))
    (fun os started H enc _ => lifted os started H enc)

theorem proved : Rows.FnTreeChangedNoneSaid := over
end Go.Proofs.Ytmdidhlfpaganaa.fnTreeChangedNone
