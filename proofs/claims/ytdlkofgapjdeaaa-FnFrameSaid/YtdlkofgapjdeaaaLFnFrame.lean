/-
  laws.FnFrame returns true for every input, and leaves its arguments as they were.
  Conditions: none.
-/
import Derived.Test.YtdlkofgapjdeaaaRows
import Derived.Test.YtdlkofgapjdeaaaGk
import Derived.WalkKit
import Derived.ProofKit
import Derived.OpenShut
import Derived.ShutString
import Derived.ChangeOld
import Derived.Below
namespace Go.Proofs.Ytdlkofgapjdeaaa.fnFrame
open Go.ChangeShapes Go.WideShapes Go.ChangeAt Go.RowKit
open Go.ChangeMaps (open_string shut_string)
set_option linter.unusedVariables false

theorem own : ownKnob Try.prog.godebug = none := by kernel_rfl
theorem laidOut : laidOutB Try.prog = true := by kernel_rfl

set_option maxHeartbeats 2000000 in
set_option maxRecDepth 100000 in
theorem walk (a0 : Option Addr) (len0 cap0 : Nat) (z0 : List Int) (w : World) (w0 : IsRow .u8 w a0 len0 cap0 z0) :
    Calls Try.prog 4 #[.slice a0 len0 cap0] w fun e w' => e = .returned (.bool true) ∧ Below w.heap.size w w' := by
  by_cases h : len0 ≤ 1048576
  · have hl : (len0 : Int) ≤ 1048576 := by omega
    have HD := Lib.hid (drawFrameOf_c a0 len0 cap0 z0 w w0)
    clear h w0
    go_enter Try.func4, Try.ntmps4
    go_wp2_with fail
    refine HD.out.mono ?_
    rintro e W1 hd
    obtain ⟨a, cap, zs, rfl, hn, hlen, -, -, hb1⟩ := hd.at
    have HN := Lib.hid hn
    have HL := Lib.hid hlen
    have HB1 := Lib.hid hb1
    obtain ⟨ln, hln⟩ : ∃ ln, zs.length = ln := ⟨_, rfl⟩
    have HI := Lib.hid (implFrameOf_c a zs.length cap zs (by omega) W1 hn)
    have HS := Lib.hid (fun W' (hb : Below W1.heap.size W1 W') => specFrameOf_c a zs.length cap zs (by omega) W' (hn.keep hb))
    rw [hln] at HI HS ⊢
    have hl17 : (ln : Int) ≤ 17 := by omega
    have HLN := Lib.hid hln
    clear hn hlen hb1 hln hd
    obtain ⟨fr, hfr⟩ : ∃ fr, frameOf zs = fr := ⟨_, rfl⟩
    rw [hfr] at HI HS
    have HFR := Lib.hid hfr
    have HFL := Lib.hid (show fr.length ≤ 19 by
      rw [← hfr]; unfold frameOf; split
      · rw [frame_length]; have := HL.out; omega
      · simp)
    clear hfr
    go_wp2_with fail
    refine HI.out.mono ?_
    rintro e W2 ⟨ho2, hb2⟩
    obtain ⟨a2, c2, rfl, hn2, hc2, hm2⟩ := ho2.at
    have HC2 := Lib.hid (And.intro hc2 hm2)
    have HN2 := Lib.hid hn2
    have HB2 := Lib.hid hb2
    clear ho2 hn2 hc2 hm2 hb2
    obtain ⟨fl, hfl⟩ : ∃ fl, fr.length = fl := ⟨_, rfl⟩
    rw [hfl] at HN2 HC2 HFL ⊢
    have HFE := Lib.hid hfl
    clear hfl
    go_wp2_with fail
    refine (HS.out _ HB2.out).mono ?_
    rintro e W3 ⟨ho3, hb3⟩
    obtain ⟨a3, c3, rfl, hn3, -, -⟩ := ho3.at
    rw [HFE.out] at hn3 ⊢
    have HN3 := Lib.hid hn3
    have HB3 := Lib.hid (below_next HB2.out hb3)
    have HN23 := Lib.hid (HN2.out.keep hb3)
    clear ho3 hn3 hb3
    have HSI := Lib.hid (fun W' (hb : Below W3.heap.size W3 W') => sameInts_c a2 a3 fl c2 c3 fr (by have := HFL.out; omega) W' (HN23.out.keep hb) (HN3.out.keep hb))
    go_wp2_with fail
    refine (HSI.out _ (Below.refl _ _)).mono ?_
    rintro e W4 ⟨rfl, hb4⟩
    have HB4 := Lib.hid hb4
    clear hb4
    by_cases hok : bodyOk zs = true
    · have hlz := bodyOk_len hok
      have hfe : fl = ln + 2 := by rw [← HFE.out, ← HFR.out, ← HLN.out]; unfold frameOf; rw [if_pos hok, frame_length]
      have h0 : ((fl : Int) == 0) = false := beq_eq_false_iff_ne.2 (by omega)
      have HSC := Lib.hid (show scanL fr = ([zs], ln + 2) by
        rw [← HFR.out]; unfold frameOf; rw [if_pos hok, ← framesL_one, scan_all (by simp [hok]), framesL_one, frame_length, HLN.out])
      have HFS := Lib.hid (fun W' (hb : Below W3.heap.size W3 W') => show Calls Try.prog 22 #[.slice a2 fl c2] W' (ScanPost ([zs], ln + 2) W') by
        rw [← HSC.out]; exact implFramesScan_c a2 fl c2 fr (by have := HFL.out; omega) HC2.out.1 HC2.out.2 W' (HN23.out.keep hb))
      subst hfe
      clear hlz hok
      go_wp2_with fail
      refine (HFS.out _ HB4.out).mono ?_
      rintro e W5 h5
      obtain ⟨a5, c5, rfl, ht5, -, -, hb5⟩ := h5.at
      obtain ⟨b, off, z, ai, ci, rfl, hz, c0, hzi⟩ := ht5.at (i := 0) (by simp)
      simp at hz
      subst hz
      have HSB := Lib.hid (sameInts_c ai a ln ci cap zs (by have := HL.out; omega) W5 (by rw [← HLN.out]; exact hzi) (by rw [← HLN.out]; exact (HN.out.keep (below_next HB3.out (below_next HB4.out hb5)))))
      rw [HLN.out, Nat.add_zero] at c0
      have HB5 := Lib.hid (below_next HB3.out (below_next HB4.out hb5))
      clear h5 ht5 hzi hb5
      have e2 : ((ln + 2 : Nat) : Int) = (ln : Int) + 2 := by push_cast; rfl
      go_wp2_with fail
      refine HSB.out.mono ?_
      rintro e W6 ⟨rfl, hb6⟩
      have HB6 := Lib.hid (below_next HB1.out (below_next HB5.out hb6))
      clear hb6
      go_wp2
      go_ret
      exact ⟨rfl, HB6.out⟩
    · have hfe : fl = 0 := by rw [← HFE.out, ← HFR.out]; unfold frameOf; rw [if_neg hok]; rfl
      subst hfe
      clear hok
      go_wp2_with fail
      refine (HSI.out _ HB4.out).mono ?_
      rintro e W5 ⟨rfl, hb5⟩
      go_wp2
      go_ret
      exact ⟨rfl, below_next HB1.out (below_next HB3.out (below_next HB4.out hb5))⟩
  · have hl : (1048576 : Int) < len0 := by omega
    clear h w0
    go_enter Try.func4, Try.ntmps4
    go_wp2
    go_ret
    exact ⟨rfl, Below.refl _ _⟩


set_option maxRecDepth 100000 in
theorem lifted (os : Os) (started : os.Started) (H : Type) (enc : TypeId × Value → H) :
    ReturnsInHanded {} Try.checked os 4 .any (Rows.fnFrameSpec.pre6 enc Try.prog Try.f4 Rows.fnFrameRow.domain false) (Rows.fnFrameSpec.post enc Try.prog Try.f4 false true false false) := by
  refine returnsInHanded_of_change (C := Try.checked) own started (by kernel_rfl) Try.func4
    (ChangeSpec.witness6 (enc := enc) (C := Try.checked) false ⟨#[], #[.slice none 0 0], []⟩ 8 (by kernel_rfl) (by kernel_rfl) (by kernel_rfl) (by kernel_rfl)) ?_
  intro W base args ds gs before hval0 hW hcnd _
  have hval : ∀ (j : Nat) t v, Try.f4.params[j]? = some t → args[j]? = some v → Value.okWide Try.prog W .any base t v := hval0
  have hW' := hW
  obtain ⟨p, q, hA0, hV, rfl, hfz, hnd⟩ := hW
  have hA : DataW.TrodAll enc Try.prog W 0 (fun _ => true) true Try.f4.params.toList args.toList ds p := hA0
  rw [Try.params4] at hA hval
  obtain ⟨v0, vs0, d0, ds0, p0, q0, hargs, rfl, rfl, h0, r0⟩ := trodAll_cons hA
  obtain ⟨rfl, rfl, rfl⟩ := trodAll_nil r0
  obtain rfl : args = #[v0] := by cases args; simp_all
  obtain ⟨rfl, rfl⟩ := trodVars_none hV
  obtain ⟨a0, len0, cap0, rfl⟩ := okWide_slice Try.underlying22 (hval 0 22 v0 rfl rfl)
  have k0 := h0
  have lt0 : ∀ x ∈ p0, x.block < W.heap.size := by obtain ⟨m, hm⟩ := k0; exact DataW.trod_lt m _ _ _ hm
  obtain ⟨z0, w0⟩ : ∃ zs, IsRow .u8 W a0 len0 cap0 zs := by
    obtain ⟨fuel, hf⟩ := h0
    rcases open_ints Try.underlying22 Try.underlying5 (by kernel_rfl) hf with ⟨hcs, _⟩ | ⟨x, l, c, zs, hcs, _, hl, hm, hz, _, hcell, hwz⟩
    · simp [Value.cells] at hcs
      obtain ⟨rfl, rfl, rfl⟩ := hcs
      exact ⟨[], .inl ⟨rfl, rfl, rfl, rfl⟩⟩
    · simp [Value.cells] at hcs
      obtain ⟨rfl, rfl, rfl⟩ := hcs
      exact ⟨zs, .inr ⟨_, rfl, hl, hm, by simpa using hz, hcell, hwz⟩⟩
  clear hA0 hval0
  refine (walk a0 len0 cap0 z0 W w0).mono fun e W' ⟨he, bel⟩ => ?_
  subst he
  exact ⟨_, rfl, _, _, _, [], _, [], hW', trodAll_mk1 (shut_bool Try.underlying4 _), (trodAll_cons_mk (Below.trod laidOut (by kernel_rfl) (of_decide_eq_true (by kernel_rfl)) k0 bel lt0) trodAll_mk0), rfl, bel.frame _, fun h => by cases h⟩

theorem over : Rows.fnFrameRow.holds Try.pinned (OpenSpec.ofChange Rows.fnFrameSpec) :=
  OpenClaim.holds_of_wide 4 Try.f4 rfl rfl rfl rfl rfl rfl rfl ⟨rfl, rfl, rfl, rfl, rfl⟩ rfl rfl rfl rfl rfl (by kernel_rfl) Try.func4 (by kernel_rfl)
    (of_decide_eq_true (by kernel_rfl)) (by unfold Func.isWrapper; first | (rw [if_pos (by decide +kernel)]; kernel_rfl) | (rw [if_neg (by decide +kernel)]; exact ⟨rfl, rfl⟩))
    (fun os started H enc _ => lifted os started H enc)

theorem proved : Rows.FnFrameSaid := over
end Go.Proofs.Ytdlkofgapjdeaaa.fnFrame
