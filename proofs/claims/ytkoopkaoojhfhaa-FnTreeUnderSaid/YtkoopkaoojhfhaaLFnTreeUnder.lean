/-
  laws.FnTreeUnder returns true for every input, and leaves its arguments as they were.
  Conditions: none.
-/
import Derived.Test.YtkoopkaoojhfhaaRows
import Derived.Test.YtkoopkaoojhfhaaIu
import Derived.Test.YtkoopkaoojhfhaaLd
import Derived.Test.YtkoopkaoojhfhaaTg
import Derived.Test.YtkoopkaoojhfhaaSm
import Derived.WalkKit
import Derived.ProofKit
import Derived.OpenShut
import Derived.ShutString
import Derived.ChangeOld
import Derived.Below
namespace Go.Proofs.Ytkoopkaoojhfhaa.fnTreeUnder
open Go.ChangeShapes Go.WideShapes Go.ChangeAt Go.RowKit
open Go.ChangeMaps (open_string shut_string)
set_option linter.unusedVariables false

theorem own : ownKnob Try.prog.godebug = none := by kernel_rfl
theorem laidOut : laidOutB Try.prog = true := by kernel_rfl

theorem undAcc_pre (ns : List Nd) (p : ByteArray) (i : Nat) : undAcc ns p i <+: (ns.filter (fun n => undB p n.p)).map Nd.p := by
  unfold undAcc
  refine List.IsPrefix.map _ (List.IsPrefix.filter _ (List.take_prefix _ _))

def CountRel (ns : List Nd) (s : ByteArray) (W : World) (m i : Value) (wr : World) : Prop :=
  ∃ n : Nat, i = .int .i64 n ∧ n ≤ ns.length ∧ m = .int .i64 (undAcc ns s n).length ∧ Hid (Below W.heap.size W wr)

set_option maxHeartbeats 2000000 in
set_option maxRecDepth 100000 in
theorem walk (a0 : Option Addr) (len0 cap0 : Nat) (z0 : List Int) (w : World) (w0 : IsRow .u8 w a0 len0 cap0 z0) :
    Calls Try.prog 8 #[.slice a0 len0 cap0] w fun e w' => e = .returned (.bool true) ∧ Below w.heap.size w w' := by
  by_cases h : len0 ≤ 1048576
  · have hl : (len0 : Int) ≤ 1048576 := by omega
    have HD := Lib.hid (drawTreeUnder_c a0 len0 cap0 z0 w w0)
    clear h w0
    go_enter Try.func8, Try.ntmps8
    go_wp2_with fail
    refine HD.out.mono ?_
    rintro e W1 ⟨sl, ns, s, rfl, hs, hd⟩
    obtain ⟨a, cap, rfl, hn⟩ := nodes_of_own hd.1
    have HN := Lib.hid hn
    have hlen := hd.2.1
    have HL := Lib.hid hlen
    have hsh := hd.2.2.1.mono (show 64 ≤ 2097152 by omega)
    have HBL := Lib.hid hd.2.2.2
    obtain ⟨xs, hxs⟩ : ∃ xs, treeUnder ns s = xs := ⟨_, rfl⟩
    have hxl : xs.length ≤ 11 := by
      rw [← hxs]; unfold treeUnder
      split
      · rw [List.length_map]; exact Nat.le_trans (List.length_filter_le _ _) hlen
      · simp
    have HU := Lib.hid (fun W' (hb : Below W1.heap.size W1 W') => show Calls Try.prog 29 #[.slice a ns.length cap, .string s] W' (TextsPost xs W') by
      rw [← hxs]; exact implTreeUnder_c a ns.length cap ns s (by omega) hsh (by omega) W' (hn.keep hb))
    have HU2 := Lib.hid (fun W' (hb : Below W1.heap.size W1 W') => show Calls Try.prog 31 #[.slice a ns.length cap, .string s] W' (TextsPost xs W') by
      rw [← hxs]; exact specTreeUnder_c a ns.length cap ns s (by omega) hsh (by omega) W' (hn.keep hb))
    have HXS := Lib.hid hxs
    have HXL := Lib.hid hxl
    obtain ⟨vt, hvt⟩ : ∃ vt, validT ns = vt := ⟨_, rfl⟩
    have HV := Lib.hid (fun W' (hb : Below W1.heap.size W1 W') => show Calls Try.prog 19 #[.slice a ns.length cap] W' (BoolPost vt W') by
      rw [← hvt]; exact specTreeValid_c a ns.length cap ns (by omega) hsh W' (hn.keep hb))
    have HVT := Lib.hid hvt
    obtain ⟨vp, hvp⟩ : ∃ vp, vpB s = vp := ⟨_, rfl⟩
    have HP := Lib.hid (fun W' => show Calls Try.prog 20 #[.string s] W' (BoolPost vp W') by
      rw [← hvp]; exact specValid_c s (by omega) W')
    have HVP := Lib.hid hvp
    have HSH := Lib.hid hd.2.2.1
    have HS := Lib.hid hs
    clear hn hd hvt hvp hsh hxs
    go_wp2_with fail
    refine (HU.out _ (Below.refl _ _)).mono ?_
    rintro e W2 ⟨⟨s2, rfl, ho2⟩, hb2⟩
    obtain ⟨a2, cap2, rfl, ht2⟩ := texts_of_own ho2
    have HB2 := Lib.hid hb2
    have HT2 := Lib.hid ht2
    clear ho2 hb2 ht2
    go_wp2_with fail
    refine (HU2.out _ HB2.out).mono ?_
    rintro e W3 ⟨⟨s3, rfl, ho3⟩, hb3⟩
    obtain ⟨a3, cap3, rfl, ht3⟩ := texts_of_own ho3
    have HB3 := Lib.hid (below_next HB2.out hb3)
    have HT3 := Lib.hid ht3
    have HT23 := Lib.hid (HT2.out.keep hb3)
    clear ho3 hb3 ht3
    have HSM := Lib.hid (fun W' (hb : Below W3.heap.size W3 W') => sameTexts_c a2 a3 xs.length cap2 cap3 xs (by have := HXL.out; omega) W' (HT23.out.keep hb) (HT3.out.keep hb))
    go_wp2_with fail
    refine (HSM.out _ (Below.refl _ _)).mono ?_
    rintro e W4 ⟨rfl, hb4⟩
    have H4 := Lib.hid hb4
    clear hb4
    go_wp2_with fail
    refine (HV.out _ (below_next HB3.out H4.out)).mono ?_
    rintro e W5 ⟨rfl, hb5⟩
    have H5 := Lib.hid (below_next H4.out hb5)
    clear hb5
    cases vt with
    | false =>
      go_wp2_with fail
      refine (HSM.out _ H5.out).mono ?_
      rintro e W6 ⟨rfl, hb6⟩
      go_wp2
      go_ret
      exact ⟨rfl, below_next HBL.out (below_next HB3.out (below_next H5.out hb6))⟩
    | true =>
      go_wp2_with fail
      refine (HP.out _).mono ?_
      rintro e W6 ⟨rfl, hb6⟩
      have H6 := Lib.hid (below_next H5.out hb6)
      clear hb6
      cases vp with
      | false =>
        go_wp2_with fail
        refine (HSM.out _ H6.out).mono ?_
        rintro e W7 ⟨rfl, hb7⟩
        go_wp2
        go_ret
        exact ⟨rfl, below_next HBL.out (below_next HB3.out (below_next H6.out hb7))⟩
      | true =>
        have HX := Lib.hid (show xs = (ns.filter (fun n => undB s n.p)).map Nd.p by
          rw [← HXS.out]; unfold treeUnder; rw [show validT ns = true from HVT.out, show vpB s = true from HVP.out]; rfl)
        have hll : (ns.length : Int) ≤ 11 := by omega
        have hxx : (xs.length : Int) ≤ 11 := by omega
        clear hxl
        go_wp2
        go_loopw [7, 8] (fun m i wr => CountRel ns s W6 m i wr) (fun _ i _ => ns.length - (intOf i).toNat)
        case atStart => exact ⟨0, rfl, by omega, rfl, Below.refl _ _⟩
        case round =>
          obtain ⟨i, rfl, hi, rfl, HB⟩ := hrel
          have HW := Lib.hid (below_next H6.out HB.out)
          by_cases hlt : i < ns.length
          · obtain ⟨b, off, n, rfl, hni, c0, c1, c2⟩ := (HN.out.keep (below_next HB3.out HW.out)).node hlt
            have hlt' : (i : Int) < ns.length := by omega
            have hil : (i : Int) ≤ 11 := by omega
            have HLT := Lib.hid hlt
            obtain ⟨u, hu⟩ : ∃ u, undB s n.p = u := ⟨_, rfl⟩
            have HPU := Lib.hid (fun W' => show Calls Try.prog 33 #[.string s, .string n.p] W' (BoolPost u W') by
              rw [← hu]; exact pathUnder_c s n.p (by omega) (by have := HSH.out n (List.mem_of_getElem? hni); omega) W')
            have hal := undAcc_len ns s i
            cases u with
            | false =>
              have HNX := Lib.hid (undAcc_no hni hu)
              clear hlt hi hni hu hal
              go_wp2_with fail
              refine (HPU.out _).mono ?_
              rintro e W7 ⟨rfl, hb7⟩
              have HB7 := Lib.hid (below_next HB.out hb7)
              clear c0 c1 c2 hb7
              go_wp2
              go_roundw
              case rel => exact ⟨i + 1, by go_num, by have := HLT.out; omega, by rw [HNX.out], HB7.out⟩
              case measure => have := HLT.out; simp [intOf]; omega
            | true =>
              have hnx := undAcc_yes hni hu
              have hpre := undAcc_pre ns s (i + 1)
              rw [← HX.out, hnx] at hpre
              obtain ⟨m, hm⟩ : ∃ m, m = (undAcc ns s i).length := ⟨_, rfl⟩
              have hmx : xs[m]? = some n.p := by
                obtain ⟨t, ht⟩ := hpre
                rw [← ht, hm, List.append_assoc, List.getElem?_append_right (Nat.le_refl _)]
                simp
              have hml : m < xs.length := (List.getElem?_eq_some_iff.1 hmx).1
              have HNX := Lib.hid (show (undAcc ns s (i + 1)).length = m + 1 by rw [hnx, List.length_append, ← hm]; rfl)
              rw [← hm]
              have hmi : (m : Int) < xs.length := by omega
              have hm11 : (m : Int) ≤ 11 := by omega
              have hmd : decide ((xs.length : Int) ≤ m) = false := decide_eq_false (by omega)
              clear hlt hi hni hu hal hnx hpre hm
              go_wp2_with fail
              refine (HPU.out _).mono ?_
              rintro e W7 ⟨rfl, hb7⟩
              have HB7 := Lib.hid (below_next HB.out hb7)
              have d0 := cell_kept hb7 c0
              obtain ⟨b2, off2, y, rfl, hy, e0⟩ := (HT23.out.keep (below_next HW.out hb7)).node hml
              obtain rfl : y = n.p := by rw [hmx] at hy; exact (Option.some.inj hy).symm
              clear c0 c1 c2 hb7 hy hmx
              go_wp2
              go_quiet (fail)
              go_wp2
              go_roundw
              case rel => exact ⟨i + 1, by go_num, by have := HLT.out; omega, by rw [HNX.out]; push_cast; rfl, below_drewN HB7.out nq⟩
              case measure => have := HLT.out; simp [intOf]; omega
          · have hge : (ns.length : Int) ≤ i := by omega
            have hfl : (undAcc ns s i).length = xs.length := by
              rw [HX.out]; unfold undAcc; rw [List.take_of_length_le (by omega)]
            rw [hfl]
            have HE := Lib.hid (below_next HBL.out (below_next HB3.out HW.out))
            clear hlt hfl
            go_wp2
            go_ret
            exact ⟨rfl, HE.out⟩
  · have hl : (1048576 : Int) < len0 := by omega
    clear h w0
    go_enter Try.func8, Try.ntmps8
    go_wp2
    go_ret
    exact ⟨rfl, Below.refl _ _⟩


set_option maxRecDepth 100000 in
theorem lifted (os : Os) (started : os.Started) (H : Type) (enc : TypeId × Value → H) :
    ReturnsInHanded {} Try.checked os 8 .any (Rows.fnTreeUnderSpec.pre6 enc Try.prog Try.f8 Rows.fnTreeUnderRow.domain false) (Rows.fnTreeUnderSpec.post enc Try.prog Try.f8 false true false false) := by
  refine returnsInHanded_of_change (C := Try.checked) own started (by kernel_rfl) Try.func8
    (ChangeSpec.witness6 (enc := enc) (C := Try.checked) false ⟨#[], #[.slice none 0 0], []⟩ 8 (by kernel_rfl) (by kernel_rfl) (by kernel_rfl) (by kernel_rfl)) ?_
  intro W base args ds gs before hval0 hW hcnd _
  have hval : ∀ (j : Nat) t v, Try.f8.params[j]? = some t → args[j]? = some v → Value.okWide Try.prog W .any base t v := hval0
  have hW' := hW
  obtain ⟨p, q, hA0, hV, rfl, hfz, hnd⟩ := hW
  have hA : DataW.TrodAll enc Try.prog W 0 (fun _ => true) true Try.f8.params.toList args.toList ds p := hA0
  rw [Try.params8] at hA hval
  obtain ⟨v0, vs0, d0, ds0, p0, q0, hargs, rfl, rfl, h0, r0⟩ := trodAll_cons hA
  obtain ⟨rfl, rfl, rfl⟩ := trodAll_nil r0
  obtain rfl : args = #[v0] := by cases args; simp_all
  obtain ⟨rfl, rfl⟩ := trodVars_none hV
  obtain ⟨a0, len0, cap0, rfl⟩ := okWide_slice Try.underlying22 (hval 0 22 v0 rfl rfl)
  have k0 := h0
  have lt0 : ∀ x ∈ p0, x.block < W.heap.size := by obtain ⟨m, hm⟩ := k0; exact DataW.trod_lt m _ _ _ hm
  obtain ⟨z0, w0⟩ : ∃ zs, IsRow .u8 W a0 len0 cap0 zs := by
    obtain ⟨fuel, hf⟩ := h0
    rcases open_ints Try.underlying22 Try.underlying5 (by kernel_rfl) hf with ⟨hcs, _⟩ | ⟨x, l, c, zs, hcs, _, hl, hm, hz, _, hcell, hwz⟩
    · simp [Value.cells] at hcs
      obtain ⟨rfl, rfl, rfl⟩ := hcs
      exact ⟨[], .inl ⟨rfl, rfl, rfl, rfl⟩⟩
    · simp [Value.cells] at hcs
      obtain ⟨rfl, rfl, rfl⟩ := hcs
      exact ⟨zs, .inr ⟨_, rfl, hl, hm, by simpa using hz, hcell, hwz⟩⟩
  clear hA0 hval0
  refine (walk a0 len0 cap0 z0 W w0).mono fun e W' ⟨he, bel⟩ => ?_
  subst he
  exact ⟨_, rfl, _, _, _, [], _, [], hW', trodAll_mk1 (shut_bool Try.underlying4 _), (trodAll_cons_mk (Below.trod laidOut (by kernel_rfl) (of_decide_eq_true (by kernel_rfl)) k0 bel lt0) trodAll_mk0), rfl, bel.frame _, fun h => by cases h⟩

theorem over : Rows.fnTreeUnderRow.holds Try.pinned (OpenSpec.ofChange Rows.fnTreeUnderSpec) :=
  OpenClaim.holds_of_wide 8 Try.f8 rfl rfl rfl rfl rfl rfl rfl ⟨rfl, rfl, rfl, rfl, rfl⟩ rfl rfl rfl rfl rfl (by kernel_rfl) Try.func8 (by kernel_rfl)
    (of_decide_eq_true (by kernel_rfl)) (by unfold Func.isWrapper; first | (rw [if_pos (by decide +kernel)]; kernel_rfl) | (rw [if_neg (by decide +kernel)]; exact ⟨rfl, rfl⟩))
    (fun os started H enc _ => lifted os started H enc)

theorem proved : Rows.FnTreeUnderSaid := over
end Go.Proofs.Ytkoopkaoojhfhaa.fnTreeUnder
