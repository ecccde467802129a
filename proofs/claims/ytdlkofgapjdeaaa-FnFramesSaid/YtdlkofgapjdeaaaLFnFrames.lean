/-
  laws.FnFrames returns true for every input, and leaves its arguments as they were.
  Conditions: none.
-/
import Derived.Test.YtdlkofgapjdeaaaRows
import Derived.Test.YtdlkofgapjdeaaaGl
import Derived.WalkKit
import Derived.ProofKit
import Derived.OpenShut
import Derived.ShutString
import Derived.ChangeOld
import Derived.Below
namespace Go.Proofs.Ytdlkofgapjdeaaa.fnFrames
open Go.ChangeShapes Go.WideShapes Go.ChangeAt Go.RowKit
open Go.ChangeMaps (open_string shut_string)
set_option linter.unusedVariables false

theorem own : ownKnob Try.prog.godebug = none := by kernel_rfl
theorem laidOut : laidOutB Try.prog = true := by kernel_rfl

set_option maxHeartbeats 2000000 in
set_option maxRecDepth 100000 in
theorem walk (a0 : Option Addr) (len0 cap0 : Nat) (z0 : List Int) (w : World) (w0 : IsRow .u8 w a0 len0 cap0 z0) :
    Calls Try.prog 5 #[.slice a0 len0 cap0] w fun e w' => e = .returned (.bool true) ∧ Below w.heap.size w w' := by
  by_cases h : len0 ≤ 1048576
  · have hl : (len0 : Int) ≤ 1048576 := by omega
    have HD := Lib.hid (drawFramesOf_c a0 len0 cap0 z0 w w0)
    clear h w0
    go_enter Try.func5, Try.ntmps5
    go_wp2_with fail
    refine HD.out.mono ?_
    rintro e W1 hd
    obtain ⟨a, cap, bs, rfl, ht, hlen, hsh, hcl, hcm, hb1⟩ := hd.at
    have HT := Lib.hid ht
    have HSH := Lib.hid hsh
    have HB1 := Lib.hid hb1
    have HCP := Lib.hid (And.intro hcl hcm)
    have HI := Lib.hid (implFramesOf_c a bs.length cap bs (by omega) (hsh.mono (by omega)) W1 ht)
    have HS := Lib.hid (fun W' (hb : Below W1.heap.size W1 W') => specFramesOf_c a bs.length cap bs (by omega) (hsh.mono (by omega)) W' (ht.keep hb))
    obtain ⟨ln, hln⟩ : ∃ ln, bs.length = ln := ⟨_, rfl⟩
    rw [hln] at HI HS HT HCP hlen ⊢
    have HLN := Lib.hid hln
    clear hd ht hsh hcl hcm hb1 hln
    go_wp2_with fail
    refine HI.out.mono ?_
    rintro e W2 h2
    obtain ⟨a2, c2, out, b, rfl, hr, hi2, hc2, hm2, hb2⟩ := h2.at
    have HR := Lib.hid hr
    have HOL := Lib.hid (fpost_len hr)
    have HI2 := Lib.hid hi2
    have HC2 := Lib.hid (And.intro hc2 hm2)
    have HB2 := Lib.hid hb2
    clear h2 hr hi2 hc2 hm2 hb2
    obtain ⟨fl, hfl⟩ : ∃ fl, out.length = fl := ⟨_, rfl⟩
    rw [hfl] at HI2 HC2 HOL ⊢
    have HFE := Lib.hid hfl
    clear hfl
    go_wp2_with fail
    refine (HS.out _ HB2.out).mono ?_
    rintro e W3 h3
    obtain ⟨a3, c3, out', b', rfl, hr', hi3, -, -, hb3⟩ := h3.at
    obtain ⟨rfl, rfl⟩ := fpost_same HR.out hr'
    have HB3 := Lib.hid (below_next HB2.out hb3)
    have HI3 := Lib.hid hi3
    have HI23 := Lib.hid (HI2.out.keep hb3)
    clear h3 hr' hi3 hb3
    rw [HFE.out] at HI3 ⊢
    have HSI := Lib.hid (fun W' (hb : Below W3.heap.size W3 W') => sameInts_c a2 a3 fl c2 c3 out' (by have := HOL.out; omega) W' (HI23.out.keep hb) (HI3.out.keep hb))
    have hbb : (b' != b') = false := by simp
    have hbe : (b' == b') = true := by simp
    go_wp2_with fail
    refine (HSI.out _ (Below.refl _ _)).mono ?_
    rintro e W4 ⟨rfl, hb4⟩
    have HB4 := Lib.hid hb4
    clear hb4
    cases b' with
    | false =>
      go_wp2_with fail
      refine (HSI.out _ HB4.out).mono ?_
      rintro e W5 ⟨rfl, hb5⟩
      go_wp2
      go_ret
      exact ⟨rfl, below_next HB1.out (below_next HB3.out (below_next HB4.out hb5))⟩
    | true =>
      have hr : framesOf bs = some out' := by
        rcases HR.out with ⟨_, h⟩ | ⟨h, _⟩
        · exact h
        · cases h
      have HFO := Lib.hid hr
      obtain ⟨hok, h40, hof⟩ := framesOf_some hr
      have HOK := Lib.hid hok
      have HOF := Lib.hid hof
      rw [HLN.out] at h40
      clear hr hok hof
      have HFS := Lib.hid (fun W' (hb : Below W3.heap.size W3 W') => show Calls Try.prog 22 #[.slice a2 fl c2] W' (ScanPost (bs, fl) W') by
        have h7 := implFramesScan_c a2 fl c2 out' (by have := HOL.out; omega) HC2.out.1 HC2.out.2 W' (HI23.out.keep hb)
        rw [HOF.out, scan_all HOK.out, ← HOF.out, HFE.out] at h7
        exact h7)
      go_wp2_with fail
      refine (HFS.out _ HB4.out).mono ?_
      rintro e W5 h5
      obtain ⟨a5, c5, rfl, ht5, -, -, hb5⟩ := h5.at
      have HB5 := Lib.hid (below_next HB3.out (below_next HB4.out hb5))
      have HST := Lib.hid (sameTable_c a5 a ln c5 cap bs (by omega) (HSH.out.mono (by omega)) W5 (by rw [← HLN.out]; exact ht5) (HT.out.keep HB5.out))
      clear h5 ht5 hb5
      rw [HLN.out]
      go_wp2_with fail
      refine HST.out.mono ?_
      rintro e W6 ⟨rfl, hb6⟩
      have HB6 := Lib.hid (below_next HB1.out (below_next HB5.out hb6))
      clear hb6
      go_wp2
      go_ret
      exact ⟨rfl, HB6.out⟩
  · have hl : (1048576 : Int) < len0 := by omega
    clear h w0
    go_enter Try.func5, Try.ntmps5
    go_wp2
    go_ret
    exact ⟨rfl, Below.refl _ _⟩


set_option maxRecDepth 100000 in
theorem lifted (os : Os) (started : os.Started) (H : Type) (enc : TypeId × Value → H) :
    ReturnsInHanded {} Try.checked os 5 .any (Rows.fnFramesSpec.pre6 enc Try.prog Try.f5 Rows.fnFramesRow.domain false) (Rows.fnFramesSpec.post enc Try.prog Try.f5 false true false false) := by
  refine returnsInHanded_of_change (C := Try.checked) own started (by kernel_rfl) Try.func5
    (ChangeSpec.witness6 (enc := enc) (C := Try.checked) false ⟨#[], #[.slice none 0 0], []⟩ 8 (by kernel_rfl) (by kernel_rfl) (by kernel_rfl) (by kernel_rfl)) ?_
  intro W base args ds gs before hval0 hW hcnd _
  have hval : ∀ (j : Nat) t v, Try.f5.params[j]? = some t → args[j]? = some v → Value.okWide Try.prog W .any base t v := hval0
  have hW' := hW
  obtain ⟨p, q, hA0, hV, rfl, hfz, hnd⟩ := hW
  have hA : DataW.TrodAll enc Try.prog W 0 (fun _ => true) true Try.f5.params.toList args.toList ds p := hA0
  rw [Try.params5] at hA hval
  obtain ⟨v0, vs0, d0, ds0, p0, q0, hargs, rfl, rfl, h0, r0⟩ := trodAll_cons hA
  obtain ⟨rfl, rfl, rfl⟩ := trodAll_nil r0
  obtain rfl : args = #[v0] := by cases args; simp_all
  obtain ⟨rfl, rfl⟩ := trodVars_none hV
  obtain ⟨a0, len0, cap0, rfl⟩ := okWide_slice Try.underlying22 (hval 0 22 v0 rfl rfl)
  have k0 := h0
  have lt0 : ∀ x ∈ p0, x.block < W.heap.size := by obtain ⟨m, hm⟩ := k0; exact DataW.trod_lt m _ _ _ hm
  obtain ⟨z0, w0⟩ : ∃ zs, IsRow .u8 W a0 len0 cap0 zs := by
    obtain ⟨fuel, hf⟩ := h0
    rcases open_ints Try.underlying22 Try.underlying5 (by kernel_rfl) hf with ⟨hcs, _⟩ | ⟨x, l, c, zs, hcs, _, hl, hm, hz, _, hcell, hwz⟩
    · simp [Value.cells] at hcs
      obtain ⟨rfl, rfl, rfl⟩ := hcs
      exact ⟨[], .inl ⟨rfl, rfl, rfl, rfl⟩⟩
    · simp [Value.cells] at hcs
      obtain ⟨rfl, rfl, rfl⟩ := hcs
      exact ⟨zs, .inr ⟨_, rfl, hl, hm, by simpa using hz, hcell, hwz⟩⟩
  clear hA0 hval0
  refine (walk a0 len0 cap0 z0 W w0).mono fun e W' ⟨he, bel⟩ => ?_
  subst he
  exact ⟨_, rfl, _, _, _, [], _, [], hW', trodAll_mk1 (shut_bool Try.underlying4 _), (trodAll_cons_mk (Below.trod laidOut (by kernel_rfl) (of_decide_eq_true (by kernel_rfl)) k0 bel lt0) trodAll_mk0), rfl, bel.frame _, fun h => by cases h⟩

theorem over : Rows.fnFramesRow.holds Try.pinned (OpenSpec.ofChange Rows.fnFramesSpec) :=
  OpenClaim.holds_of_wide 5 Try.f5 rfl rfl rfl rfl rfl rfl rfl ⟨rfl, rfl, rfl, rfl, rfl⟩ rfl rfl rfl rfl rfl (by kernel_rfl) Try.func5 (by kernel_rfl)
    (of_decide_eq_true (by kernel_rfl)) (by unfold Func.isWrapper; first | (rw [if_pos (by decide +kernel)]; kernel_rfl) | (rw [if_neg (by decide +kernel)]; exact ⟨rfl, rfl⟩))
    (fun os started H enc _ => lifted os started H enc)

theorem proved : Rows.FnFramesSaid := over
end Go.Proofs.Ytdlkofgapjdeaaa.fnFrames
