/-
  laws.FnKeepNone returns true for every input, and leaves its arguments as they were.
  Conditions: none.
-/
import Derived.Test.YtmlnakkfjecibaaRows
import Derived.WalkKit
import Derived.ProofKit
import Derived.OpenShut
import Derived.ShutString
import Derived.ChangeOld
import Derived.Below
import Derived.Test.YtmlnakkfjecibaaQ7
import Derived.Test.YtmlnakkfjecibaaQ9
import Derived.Test.YtmlnakkfjecibaaZeq
import Derived.Test.YtmlnakkfjecibaaQ10
namespace Go.Proofs.Ytmlnakkfjecibaa.fnKeepNone
open Go.ChangeShapes Go.WideShapes Go.ChangeAt Go.RowKit
open Go.ChangeMaps (open_string shut_string)
set_option linter.unusedVariables false

theorem own : ownKnob Try.prog.godebug = none := by kernel_rfl
theorem laidOut : laidOutB Try.prog = true := by kernel_rfl

theorem own_cap {W : World} {base : Nat} {e : TypeId} {size n len cap : Nat} {a : Option Addr} {xs : List Value} (h : W.ownsRow base e size (.slice a len cap) n xs) : len ≤ cap := by
  rcases h.2 with ⟨e, h0⟩ | ⟨g, cap', cur, e, _, _, hnc, _⟩
  · simp at e; omega
  · simp at e; omega
theorem texts_take {W : World} {a : Option Addr} {len k : Nat} {xs : List ByteArray} (h : TextsAt W a len xs) (hk : k ≤ len) : TextsAt W a k (xs.take k) := by
  obtain ⟨h1, h0 | ⟨b, off, ha, hc⟩⟩ := h
  · exact ⟨by rw [List.length_take]; omega, .inl (by omega)⟩
  · refine ⟨by rw [List.length_take]; omega, .inr ⟨b, off, ha, fun i x hx => hc i x ?_⟩⟩
    have hi : i < k := by have := (List.getElem?_eq_some_iff.1 hx).1; rw [List.length_take] at this; omega
    rw [List.getElem?_take_of_lt hi] at hx
    exact hx

set_option maxHeartbeats 4000000 in
set_option maxRecDepth 100000 in
theorem walk (a0 : Option Addr) (len0 cap0 : Nat) (z0 : List Int) (a1 : Option Addr) (len1 cap1 : Nat) (z1 : List Int) (w : World) (w0 : IsRow .u8 w a0 len0 cap0 z0) (w1 : IsRow .u8 w a1 len1 cap1 z1) :
    Calls Try.prog 5 #[.slice a0 len0 cap0, .slice a1 len1 cap1] w fun e w' => e = .returned (.bool true) ∧ Below w.heap.size w w' := by
  clear w1
  by_cases h : len0 ≤ 1048576
  · have hl : (len0 : Int) ≤ 1048576 := by omega
    by_cases h1 : len1 ≤ 1048576
    · have hl1 : (len1 : Int) ≤ 1048576 := by omega
      have HD := Lib.hid (drawFilterKeep_c a0 len0 cap0 z0 w w0)
      clear h w0
      go_enter Try.func5, Try.ntmps5
      go_wp2_with fail
      refine HD.out.mono ?_
      rintro e W1 ⟨v1, cs, v2, igs, rfl, o1, l1, s1, o2, l2, s2, hB⟩
      obtain ⟨a, c1, rfl, hA⟩ := cmds_of_own o1
      obtain ⟨b, c2, rfl, hG⟩ := texts_of_own o2
      have HBL := Lib.hid hB
      obtain ⟨kk, hkk⟩ : ∃ x, keepL cs igs = x := ⟨_, rfl⟩
      have HI := Lib.hid (show Calls Try.prog 13 #[.slice a cs.length c1, .slice b igs.length c2] W1 (CmdsPost kk W1) by rw [← hkk]; exact implKeep_c a cs.length c1 cs b igs.length c2 igs (by omega) (by omega) (s1.mono (by omega)) (s2.mono (by omega)) W1 hA hG)
      have HS := Lib.hid (fun W' (hb : Below W1.heap.size W1 W') => show Calls Try.prog 14 #[.slice a cs.length c1, .slice b igs.length c2] W' (CmdsPost kk W') by rw [← hkk]; exact specKeep_c a cs.length c1 cs b igs.length c2 igs (by omega) (by omega) (s1.mono (by omega)) (s2.mono (by omega)) W' (hA.keep hb) (hG.keep hb))
      have HKL := Lib.hid (show kk.length ≤ 21 by rw [← hkk]; have := keep_len cs igs; omega)
      have HKK := Lib.hid hkk
      have HLL := Lib.hid (And.intro l1 l2)
      have HAS := Lib.hid hA
      have HGS := Lib.hid hG
      have HSH := Lib.hid (And.intro s1 s2)
      obtain ⟨u, hu⟩ : ∃ u, validL cs = u := ⟨_, rfl⟩
      obtain ⟨v, hv⟩ : ∃ v, igV igs = v := ⟨_, rfl⟩
      have HU := Lib.hid (fun W' (hb : Below W1.heap.size W1 W') => show Calls Try.prog 17 #[.slice a cs.length c1] W' (BoolPost u W') by rw [← hu]; exact specLogValid_c a cs.length c1 cs (by omega) (s1.mono (by omega)) W' (hA.keep hb))
      have HV := Lib.hid (fun W' (hb : Below W1.heap.size W1 W') => show Calls Try.prog 18 #[.slice b igs.length c2] W' (BoolPost v W') by rw [← hv]; exact specIgnores_c b igs.length c2 igs (by omega) (s2.mono (by omega)) W' (hG.keep hb))
      have HUV := Lib.hid (And.intro hu hv)
      have HKI := Lib.hid (fun (x : Option Addr) (n q : Nat) (is : List ByteArray) (hn : n ≤ 5) (hs : ShortX 64 is) W' (hb : Below W1.heap.size W1 W') (hi : TextsAt W' x n is) => show Calls Try.prog 13 #[.slice a cs.length c1, .slice x n q] W' (CmdsPost (keepL cs is) W') from implKeep_c a cs.length c1 cs x n q is (by omega) (by omega) (s1.mono (by omega)) (hs.mono (by omega)) W' (hA.keep hb) hi)
      have HMO := Lib.hid (fun (k n : Nat) (c : Cmd) (hc : kk[n]? = some c) => show hasC (keepL cs (igs.take k)) c = true from hasC_iff.2 (keep_more k (by rw [hkk]; exact List.mem_of_getElem? hc)))
      have HNO := Lib.hid (show u = true → keepL cs [] = cs by intro e; exact keep_none (hu.trans e))
      have HTL := Lib.hid (fun (k : Nat) => show (keepL cs (igs.take k)).length ≤ 21 by have := keep_len cs (igs.take k); omega)
      have HCP := Lib.hid (own_cap o2)
      clear o1 l1 s1 o2 l2 s2 hB hA hG hkk hu hv
      go_wp2_with fail
      refine HI.out.mono ?_
      rintro e W2 ⟨⟨v3, rfl, o3⟩, hb2⟩
      obtain ⟨a3, c3, rfl, h3⟩ := cmds_of_own o3
      have B2 := Lib.hid hb2
      have HN2 := Lib.hid h3
      clear o3 h3 hb2
      go_wp2_with fail
      refine (HS.out _ B2.out).mono ?_
      rintro e W3 ⟨⟨v4, rfl, o4⟩, hb3⟩
      obtain ⟨a4, c4, rfl, h4⟩ := cmds_of_own o4
      have B3 := Lib.hid (below_next B2.out hb3)
      have HN3 := Lib.hid (HN2.out.keep hb3)
      have HSL := Lib.hid (fun W' (hb : Below W3.heap.size W3 W') => sameLog_c a3 a4 kk.length c3 c4 kk (by have := HKL.out; omega) W' ((HN2.out.keep hb3).keep hb) (h4.keep hb))
      have hL : (kk.length : Int) ≤ 21 := by have := HKL.out; omega
      clear o4 h4 hb3
      go_wp2_with fail
      refine (HSL.out _ (Below.refl _ _)).mono ?_
      rintro e W4 ⟨rfl, hb4⟩
      have X4 := Lib.hid hb4
      clear hb4
      go_wp2_with fail
      refine (HU.out _ (below_next B3.out X4.out)).mono ?_
      rintro e W5 ⟨rfl, hb5⟩
      have X5 := Lib.hid (below_next X4.out hb5)
      clear hb5
      cases u with
      | false =>
        go_wp2_with fail
        refine (HSL.out _ X5.out).mono ?_
        rintro e W6 ⟨rfl, hb6⟩
        have X6 := Lib.hid (below_next X5.out hb6)
        clear hb6
        go_wp2
        go_ret
        exact ⟨rfl, below_next HBL.out (below_next B3.out X6.out)⟩
      | true =>
        go_wp2_with fail
        refine (HV.out _ (below_next B3.out X5.out)).mono ?_
        rintro e W6 ⟨rfl, hb6⟩
        have X6 := Lib.hid (below_next X5.out hb6)
        clear hb6
        cases v with
        | false =>
          go_wp2_with fail
          refine (HSL.out _ X6.out).mono ?_
          rintro e W7 ⟨rfl, hb7⟩
          have X7 := Lib.hid (below_next X6.out hb7)
          clear hb7
          go_wp2
          go_ret
          exact ⟨rfl, below_next HBL.out (below_next B3.out X7.out)⟩
        | true =>
          have HNO2 := Lib.hid (HNO.out (by first | rfl | trivial))
          clear HNO
          have HGL := Lib.hid (show igs.length ≤ 5 from HLL.out.2)
          have hgl : (igs.length : Int) ≤ 5 := by have := HGL.out; omega
          have hw2 : IntKind.i64.wrap ((igs.length : Int) + 1) = (igs.length : Int) + 1 := IntWalk.i64_in _ (by omega)
          obtain ⟨k, hkk2⟩ : ∃ k, k = len1 % (igs.length + 1) := ⟨_, rfl⟩
          have hrem : Int.tmod (len1 : Int) ((igs.length : Int) + 1) = (k : Int) := by rw [hkk2]; rfl
          have hk1 : (k : Int) ≤ igs.length := by have := Nat.mod_lt len1 (show 0 < igs.length + 1 by omega); omega
          have hnz : (((igs.length : Int) + 1) == 0) = false := beq_eq_false_iff_ne.2 (by omega)
          have hk0 : (0 : Int) ≤ k := by omega
          have hkc : k ≤ c2 := by have := HCP.out; omega
          have HKB := Lib.hid (show k ≤ igs.length by omega)
          have HGT := Lib.hid (fun W' (hb : Below W1.heap.size W1 W') => texts_take (HGS.out.keep hb) HKB.out)
          have HKT := Lib.hid (fun W' (hb : Below W1.heap.size W1 W') q => HKI.out b k q (igs.take k) (by have := HKB.out; have := HGL.out; omega) (fun x hx => HSH.out.2 x (List.mem_of_mem_take hx)) W' hb (HGT.out W' hb))
          obtain ⟨xx, hxx⟩ : ∃ x, keepL cs (igs.take k) = x := ⟨_, rfl⟩
          have HXL := Lib.hid (show xx.length ≤ 21 by rw [← hxx]; exact HTL.out k)
          have HMX := Lib.hid (fun (n : Nat) (c : Cmd) (hc : kk[n]? = some c) => show hasC xx c = true by rw [← hxx]; exact HMO.out k n c hc)
          rw [hxx] at HKT
          clear hkk2 hxx
          go_wp2_with fail
          refine (HKT.out _ (below_next B3.out X6.out) _).mono ?_
          rintro e W8 ⟨⟨v5, rfl, o5⟩, hb8⟩
          obtain ⟨a5, c5, rfl, h5⟩ := cmds_of_own o5
          have X8 := Lib.hid (below_next X6.out hb8)
          have N5 := Lib.hid h5
          have N3 := Lib.hid (HN3.out.keep X8.out)
          clear hb8 o5 h5 hrem hk1 hnz hw2 hk0 hkc
          go_wp2_with fail
          go_loopw [10] (fun i wr => ∃ n : Nat, i = .int .i64 n ∧ n ≤ kk.length ∧ Hid (Below W8.heap.size W8 wr)) (fun i _ => kk.length - (intOf i).toNat)
          case atStart => exact ⟨0, rfl, Nat.zero_le _, Lib.hid (Below.refl _ _)⟩
          case round =>
            obtain ⟨n, rfl, hn, HB⟩ := hrel
            by_cases hlt : n < kk.length
            · have hlt' : (n : Int) < kk.length := by omega
              have HLT := Lib.hid hlt
              obtain ⟨g, off, c, hga, hc, d0, d1, d2, d3, d4⟩ := (N3.out.keep HB.out).node hlt
              have HA1 := Lib.hid (show Calls Try.prog 20 #[.slice a5 xx.length c5, cmdV c] wr (BoolPost true wr) by rw [← HMX.out n c hc]; exact lawHas_c a5 xx.length c5 xx c (by have := HXL.out; omega) wr (N5.out.keep HB.out))
              clear hn hlt hc
              obtain ⟨p, fk, fv, tk, tv⟩ := c
              unfold cmdV at HA1
              simp only at d0 d1 d2 d3 d4 HA1
              subst hga
              go_wp2_with fail
              refine HA1.out.mono ?_
              rintro e W9 ⟨rfl, hb9⟩
              have HB9 := Lib.hid (below_next HB.out hb9)
              clear hb9 d0 d1 d2 d3 d4
              go_wp2
              go_roundw
              case rel => exact ⟨n + 1, by go_num, HLT.out, HB9⟩
              case measure => have := HLT.out; simp [intOf]; omega
            · have hge : (kk.length : Int) ≤ n := by omega
              clear hn hlt
              have HBW := Lib.hid (below_next X8.out HB.out)
              have HBE := Lib.hid (below_box wr (.cells #[] 9))
              have HEM := Lib.hid (fun W' (hb : Below W1.heap.size W1 W') (x : Option Addr) q => HKI.out x 0 q [] (by omega) (fun x hx => by cases hx) W' hb ⟨rfl, .inl rfl⟩)
              rw [HNO2.out] at HEM
              go_wp2_with fail
              refine (HEM.out _ (below_next (below_next B3.out HBW.out) HBE.out) _ _).mono ?_
              rintro e W10 ⟨⟨v6, rfl, o6⟩, hb10⟩
              obtain ⟨a6, c6, rfl, h6⟩ := cmds_of_own o6
              have X10 := Lib.hid (below_next (below_next HBW.out HBE.out) hb10)
              have HSE := Lib.hid (sameLog_c a6 a cs.length c6 c1 cs (by have := HLL.out; omega) W10 h6 (HAS.out.keep (below_next B3.out X10.out)))
              clear hb10 o6 h6
              go_wp2_with fail
              refine HSE.out.mono ?_
              rintro e W11 ⟨rfl, hb11⟩
              have X11 := Lib.hid (below_next X10.out hb11)
              clear hb11
              go_wp2
              go_ret
              exact ⟨rfl, below_next HBL.out (below_next B3.out X11.out)⟩
    · have hl1 : ¬ ((len1 : Int) ≤ 1048576) := by omega
      have hl12 : (1048576 : Int) < len1 := by omega
      clear h1 w0
      go_enter Try.func5, Try.ntmps5
      go_wp2
      go_ret
      exact ⟨rfl, Below.refl _ _⟩
  · have hl : ¬ ((len0 : Int) ≤ 1048576) := by omega
    have hl2 : (1048576 : Int) < len0 := by omega
    clear h w0
    go_enter Try.func5, Try.ntmps5
    go_wp2
    go_ret
    exact ⟨rfl, Below.refl _ _⟩


set_option maxRecDepth 100000 in
theorem lifted (os : Os) (started : os.Started) (H : Type) (enc : TypeId × Value → H) :
    ReturnsInHanded {} Try.checked os 5 .any (Rows.fnKeepNoneSpec.pre6 enc Try.prog Try.f5 Rows.fnKeepNoneRow.domain false) (Rows.fnKeepNoneSpec.post enc Try.prog Try.f5 false true false false) := by
  refine returnsInHanded_of_change (C := Try.checked) own started (by kernel_rfl) Try.func5
    (ChangeSpec.witness6 (enc := enc) (C := Try.checked) false ⟨#[], #[.slice none 0 0, .slice none 0 0], []⟩ 8 (by kernel_rfl) (by kernel_rfl) (by kernel_rfl) (by kernel_rfl)) ?_
  intro W base args ds gs before hval0 hW hcnd _
  have hval : ∀ (j : Nat) t v, Try.f5.params[j]? = some t → args[j]? = some v → Value.okWide Try.prog W .any base t v := hval0
  have hW' := hW
  obtain ⟨p, q, hA0, hV, rfl, hfz, hnd⟩ := hW
  have hA : DataW.TrodAll enc Try.prog W 0 (fun _ => true) true Try.f5.params.toList args.toList ds p := hA0
  rw [Try.params5] at hA hval
  obtain ⟨v0, vs0, d0, ds0, p0, q0, hargs, rfl, rfl, h0, r0⟩ := trodAll_cons hA
  obtain ⟨v1, vs1, d1, ds1, p1, q1, rfl, rfl, rfl, h1, r1⟩ := trodAll_cons r0
  obtain ⟨rfl, rfl, rfl⟩ := trodAll_nil r1
  obtain rfl : args = #[v0, v1] := by cases args; simp_all
  obtain ⟨rfl, rfl⟩ := trodVars_none hV
  obtain ⟨a0, len0, cap0, rfl⟩ := okWide_slice Try.underlying22 (hval 0 22 v0 rfl rfl)
  have k0 := h0
  have lt0 : ∀ x ∈ p0, x.block < W.heap.size := by obtain ⟨m, hm⟩ := k0; exact DataW.trod_lt m _ _ _ hm
  obtain ⟨z0, w0⟩ : ∃ zs, IsRow .u8 W a0 len0 cap0 zs := by
    obtain ⟨fuel, hf⟩ := h0
    rcases open_ints Try.underlying22 Try.underlying5 (by kernel_rfl) hf with ⟨hcs, _⟩ | ⟨x, l, c, zs, hcs, _, hl, hm, hz, _, hcell, hwz⟩
    · simp [Value.cells] at hcs
      obtain ⟨rfl, rfl, rfl⟩ := hcs
      exact ⟨[], .inl ⟨rfl, rfl, rfl, rfl⟩⟩
    · simp [Value.cells] at hcs
      obtain ⟨rfl, rfl, rfl⟩ := hcs
      exact ⟨zs, .inr ⟨_, rfl, hl, hm, by simpa using hz, hcell, hwz⟩⟩
  obtain ⟨a1, len1, cap1, rfl⟩ := okWide_slice Try.underlying22 (hval 1 22 v1 rfl rfl)
  have k1 := h1
  have lt1 : ∀ x ∈ p1, x.block < W.heap.size := by obtain ⟨m, hm⟩ := k1; exact DataW.trod_lt m _ _ _ hm
  obtain ⟨z1, w1⟩ : ∃ zs, IsRow .u8 W a1 len1 cap1 zs := by
    obtain ⟨fuel, hf⟩ := h1
    rcases open_ints Try.underlying22 Try.underlying5 (by kernel_rfl) hf with ⟨hcs, _⟩ | ⟨x, l, c, zs, hcs, _, hl, hm, hz, _, hcell, hwz⟩
    · simp [Value.cells] at hcs
      obtain ⟨rfl, rfl, rfl⟩ := hcs
      exact ⟨[], .inl ⟨rfl, rfl, rfl, rfl⟩⟩
    · simp [Value.cells] at hcs
      obtain ⟨rfl, rfl, rfl⟩ := hcs
      exact ⟨zs, .inr ⟨_, rfl, hl, hm, by simpa using hz, hcell, hwz⟩⟩
  clear hA0 hval0
  refine (walk a0 len0 cap0 z0 a1 len1 cap1 z1 W w0 w1).mono fun e W' ⟨he, bel⟩ => ?_
  subst he
  exact ⟨_, rfl, _, _, _, [], _, [], hW', trodAll_mk1 (shut_bool Try.underlying4 _), (trodAll_cons_mk (Below.trod laidOut (by kernel_rfl) (of_decide_eq_true (by kernel_rfl)) k0 bel lt0) (trodAll_cons_mk (Below.trod laidOut (by kernel_rfl) (of_decide_eq_true (by kernel_rfl)) k1 bel lt1) trodAll_mk0)), rfl, bel.frame _, fun h => by cases h⟩

theorem over : Rows.fnKeepNoneRow.holds Try.pinned (OpenSpec.ofChange Rows.fnKeepNoneSpec) :=
  OpenClaim.holds_of_wide 5 Try.f5 rfl rfl rfl rfl rfl rfl rfl ⟨rfl, rfl, rfl, rfl, rfl⟩ rfl rfl rfl rfl rfl (by kernel_rfl) Try.func5 (by kernel_rfl)
    (of_decide_eq_true (by kernel_rfl)) (by unfold Func.isWrapper; first | (rw [if_pos (by decide +kernel)]; kernel_rfl) | (rw [if_neg (by decide +kernel)]; exact ⟨rfl, rfl⟩))
    (fun os started H enc _ => lifted os started H enc)

theorem proved : Rows.FnKeepNoneSaid := over
end Go.Proofs.Ytmlnakkfjecibaa.fnKeepNone
