/-
  laws.FnScanPart returns true for every input, and leaves its arguments as they were.
  Conditions: none.
-/
import Derived.Test.YtdlkofgapjdeaaaRows
import Derived.Test.YtdlkofgapjdeaaaGn
import Derived.WalkKit
import Derived.ProofKit
import Derived.OpenShut
import Derived.ShutString
import Derived.ChangeOld
import Derived.Below
namespace Go.Proofs.Ytdlkofgapjdeaaa.fnScanPart
open Go.ChangeShapes Go.WideShapes Go.ChangeAt Go.RowKit
open Go.ChangeMaps (open_string shut_string)
set_option linter.unusedVariables false

theorem own : ownKnob Try.prog.godebug = none := by kernel_rfl
theorem laidOut : laidOutB Try.prog = true := by kernel_rfl

set_option maxHeartbeats 2000000 in
set_option maxRecDepth 100000 in
theorem walk (a0 : Option Addr) (len0 cap0 : Nat) (z0 : List Int) (a1 : Option Addr) (len1 cap1 : Nat) (z1 : List Int) (w : World) (w0 : IsRow .u8 w a0 len0 cap0 z0) (w1 : IsRow .u8 w a1 len1 cap1 z1) :
    Calls Try.prog 8 #[.slice a0 len0 cap0, .slice a1 len1 cap1] w fun e w' => e = .returned (.bool true) ∧ Below w.heap.size w w' := by
  clear w1
  by_cases h : len0 ≤ 1048576
  · have hl : (len0 : Int) ≤ 1048576 := by omega
    by_cases h1 : len1 ≤ 1048576
    · have hl1 : (len1 : Int) ≤ 1048576 := by omega
      have HD := Lib.hid (drawFramesScan_c a0 len0 cap0 z0 w w0)
      clear h w0 h1
      go_enter Try.func8, Try.ntmps8
      go_wp2_with fail
      refine HD.out.mono ?_
      rintro e W1 hd
      obtain ⟨a, cap, zs, rfl, ht, hlen, hcl, hcm, hb1⟩ := hd.at
      obtain ⟨bs, n, hsc⟩ : ∃ bs n, scanL zs = (bs, n) := ⟨_, _, rfl⟩
      have HSC := Lib.hid hsc
      have HSF := Lib.hid (scan_facts hsc)
      have HT := Lib.hid ht
      have HB1 := Lib.hid hb1
      have HCP := Lib.hid (And.intro hcl hcm)
      have HI := Lib.hid (show Calls Try.prog 22 #[.slice a zs.length cap] W1 (ScanPost (bs, n) W1) by rw [← hsc]; exact implFramesScan_c a zs.length cap zs (by omega) hcl hcm W1 ht)
      have HS := Lib.hid (fun W' (hb : Below W1.heap.size W1 W') => show Calls Try.prog 28 #[.slice a zs.length cap] W' (ScanPost (bs, n) W') by rw [← hsc]; exact specFramesScan_c a zs.length cap zs (by omega) hcl hcm W' (ht.keep hb))
      obtain ⟨ln, hln⟩ : ∃ ln, zs.length = ln := ⟨_, rfl⟩
      rw [hln] at HI HS HT HCP hlen HSF ⊢
      have HLN := Lib.hid hln
      clear hd ht hcl hcm hb1 hln hsc
      go_wp2_with fail
      refine HI.out.mono ?_
      rintro e W2 h2
      obtain ⟨a2, c2, rfl, ht2, hc2, hm2, hb2⟩ := h2.at
      have HT2 := Lib.hid (show TabAt W2 a2 bs.length bs from ht2)
      have HC2 := Lib.hid (show bs.length ≤ c2 ∧ c2 ≤ maxLen from ⟨hc2, hm2⟩)
      have HB2 := Lib.hid hb2
      clear h2 ht2 hc2 hm2 hb2
      dsimp only
      obtain ⟨bl, hbl⟩ : ∃ bl, bs.length = bl := ⟨_, rfl⟩
      rw [hbl] at HT2 HC2 HSF ⊢
      have HBL := Lib.hid hbl
      clear hbl
      go_wp2_with fail
      refine (HS.out _ HB2.out).mono ?_
      rintro e W3 h3
      obtain ⟨a3, c3, rfl, ht3, -, -, hb3⟩ := h3.at
      have HB3 := Lib.hid (below_next HB2.out hb3)
      have HT3 := Lib.hid (show TabAt W3 a3 bl bs by rw [← HBL.out]; exact ht3)
      have HT23 := Lib.hid (HT2.out.keep hb3)
      clear h3 ht3 hb3
      dsimp only
      rw [HBL.out]
      have hnn : ((n : Int) != n) = false := by simp
      have hnl : (n : Int) ≤ ln := by have := HSF.out.2.2.1; omega
      have hbn : (bl : Int) ≤ n := by have := HSF.out.2.2.2.1; omega
      have hl721 : (ln : Int) ≤ 721 := by omega
      have HST := Lib.hid (sameTable_c a2 a3 bl c2 c3 bs (by omega) ((shortT_ok HSF.out.1).mono (by omega)) W3 HT23.out HT3.out)
      go_wp2_with fail
      refine HST.out.mono ?_
      rintro e W4 ⟨rfl, hb4⟩
      have HB4 := Lib.hid (below_next HB3.out hb4)
      have HT4 := Lib.hid (HT23.out.keep hb4)
      have HI4 := Lib.hid (HT.out.keep HB4.out)
      clear hb4
      have hapA := rem_nat len1 (ln + 1) (by omega)
      rw [show ((ln + 1 : Nat) : Int) = (ln : Int) + 1 by push_cast; rfl] at hapA
      obtain ⟨k, hk⟩ : ∃ k, k = len1 % (ln + 1) := ⟨_, rfl⟩
      rw [← hk] at hapA
      have hkl : k ≤ ln := by have := Nat.mod_lt len1 (show 0 < ln + 1 by omega); omega
      have hkl' : (k : Int) ≤ ln := by omega
      have hcapb : (ln : Int) ≤ cap := by have := HCP.out.1; omega
      have hkc : (k : Int) ≤ cap := by omega
      have hcapb2 : cap ≤ 9223372036854775807 := Nat.le_trans HCP.out.2 (by unfold maxLen; omega)
      have HKL := Lib.hid hkl
      obtain ⟨xs, m, hxm⟩ : ∃ xs m, scanL (zs.take k) = (xs, m) := ⟨_, _, rfl⟩
      obtain ⟨s1, s2, s3⟩ := scan_part zs k
      rw [hxm, HSC.out] at s2 s3
      rw [hxm] at s1
      have s1 : m ≤ k := s1
      have s2 : m ≤ n := s2
      have s3 : xs <+: bs := s3
      have hmk : (m : Int) ≤ k := by omega
      have hmn : (m : Int) ≤ n := by omega
      have HPX := Lib.hid s3
      have HX := Lib.hid (show Calls Try.prog 22 #[.slice a k cap] W4 (ScanPost (xs, m) W4) by rw [← hxm]; exact implFramesScan_c a k cap (zs.take k) (by omega) (by have := HCP.out.1; omega) HCP.out.2 W4 (ints_take HI4.out hkl))
      clear hk hkl hxm s1 s2 s3
      go_wp2_with fail
      refine HX.out.mono ?_
      rintro e W5 h5
      obtain ⟨a5, c5, rfl, ht5, -, -, hb5⟩ := h5.at
      have HT5 := Lib.hid (show TabAt W5 a5 xs.length xs from ht5)
      have HB5 := Lib.hid (below_next HB4.out hb5)
      have HT45 := Lib.hid (HT4.out.keep hb5)
      clear h5 ht5 hb5
      dsimp only
      have hxl : xs.length ≤ bl := by have := HPX.out.length_le; have := HBL.out; omega
      obtain ⟨xl, hxe⟩ : ∃ xl, xs.length = xl := ⟨_, rfl⟩
      rw [hxe] at HT5 hxl ⊢
      have hxl' : (xl : Int) ≤ bl := by omega
      have hxc : (xl : Int) ≤ c2 := by have := HC2.out.1; omega
      have hc2b : c2 ≤ 9223372036854775807 := Nat.le_trans HC2.out.2 (by unfold maxLen; omega)
      have HTX := Lib.hid (show TabAt W5 a2 xl xs by
        have h8 := tab_take HT45.out hxl
        rw [← hxe, ← List.prefix_iff_eq_take.1 HPX.out] at h8
        rw [← hxe]; exact h8)
      have HSX := Lib.hid (sameTable_c a5 a2 xl c5 c2 xs (by omega) (fun b hb => by have := (shortT_ok HSF.out.1) b (HPX.out.subset hb); omega) W5 HT5.out HTX.out)
      clear hxl hxe
      go_wp2_with fail
      refine HSX.out.mono ?_
      rintro e W6 ⟨rfl, hb6⟩
      have HB6 := Lib.hid (below_next HB1.out (below_next HB5.out hb6))
      clear hb6
      go_wp2
      go_ret
      exact ⟨rfl, HB6.out⟩
    · have hl1 : (1048576 : Int) < len1 := by omega
      clear h h1 w0
      go_enter Try.func8, Try.ntmps8
      go_wp2
      go_ret
      exact ⟨rfl, Below.refl _ _⟩
  · have hl : (1048576 : Int) < len0 := by omega
    clear h w0
    go_enter Try.func8, Try.ntmps8
    go_wp2
    go_ret
    exact ⟨rfl, Below.refl _ _⟩


set_option maxRecDepth 100000 in
theorem lifted (os : Os) (started : os.Started) (H : Type) (enc : TypeId × Value → H) :
    ReturnsInHanded {} Try.checked os 8 .any (Rows.fnScanPartSpec.pre6 enc Try.prog Try.f8 Rows.fnScanPartRow.domain false) (Rows.fnScanPartSpec.post enc Try.prog Try.f8 false true false false) := by
  refine returnsInHanded_of_change (C := Try.checked) own started (by kernel_rfl) Try.func8
    (ChangeSpec.witness6 (enc := enc) (C := Try.checked) false ⟨#[], #[.slice none 0 0, .slice none 0 0], []⟩ 8 (by kernel_rfl) (by kernel_rfl) (by kernel_rfl) (by kernel_rfl)) ?_
  intro W base args ds gs before hval0 hW hcnd _
  have hval : ∀ (j : Nat) t v, Try.f8.params[j]? = some t → args[j]? = some v → Value.okWide Try.prog W .any base t v := hval0
  have hW' := hW
  obtain ⟨p, q, hA0, hV, rfl, hfz, hnd⟩ := hW
  have hA : DataW.TrodAll enc Try.prog W 0 (fun _ => true) true Try.f8.params.toList args.toList ds p := hA0
  rw [Try.params8] at hA hval
  obtain ⟨v0, vs0, d0, ds0, p0, q0, hargs, rfl, rfl, h0, r0⟩ := trodAll_cons hA
  obtain ⟨v1, vs1, d1, ds1, p1, q1, rfl, rfl, rfl, h1, r1⟩ := trodAll_cons r0
  obtain ⟨rfl, rfl, rfl⟩ := trodAll_nil r1
  obtain rfl : args = #[v0, v1] := by cases args; simp_all
  obtain ⟨rfl, rfl⟩ := trodVars_none hV
  obtain ⟨a0, len0, cap0, rfl⟩ := okWide_slice Try.underlying22 (hval 0 22 v0 rfl rfl)
  have k0 := h0
  have lt0 : ∀ x ∈ p0, x.block < W.heap.size := by obtain ⟨m, hm⟩ := k0; exact DataW.trod_lt m _ _ _ hm
  obtain ⟨z0, w0⟩ : ∃ zs, IsRow .u8 W a0 len0 cap0 zs := by
    obtain ⟨fuel, hf⟩ := h0
    rcases open_ints Try.underlying22 Try.underlying5 (by kernel_rfl) hf with ⟨hcs, _⟩ | ⟨x, l, c, zs, hcs, _, hl, hm, hz, _, hcell, hwz⟩
    · simp [Value.cells] at hcs
      obtain ⟨rfl, rfl, rfl⟩ := hcs
      exact ⟨[], .inl ⟨rfl, rfl, rfl, rfl⟩⟩
    · simp [Value.cells] at hcs
      obtain ⟨rfl, rfl, rfl⟩ := hcs
      exact ⟨zs, .inr ⟨_, rfl, hl, hm, by simpa using hz, hcell, hwz⟩⟩
  obtain ⟨a1, len1, cap1, rfl⟩ := okWide_slice Try.underlying22 (hval 1 22 v1 rfl rfl)
  have k1 := h1
  have lt1 : ∀ x ∈ p1, x.block < W.heap.size := by obtain ⟨m, hm⟩ := k1; exact DataW.trod_lt m _ _ _ hm
  obtain ⟨z1, w1⟩ : ∃ zs, IsRow .u8 W a1 len1 cap1 zs := by
    obtain ⟨fuel, hf⟩ := h1
    rcases open_ints Try.underlying22 Try.underlying5 (by kernel_rfl) hf with ⟨hcs, _⟩ | ⟨x, l, c, zs, hcs, _, hl, hm, hz, _, hcell, hwz⟩
    · simp [Value.cells] at hcs
      obtain ⟨rfl, rfl, rfl⟩ := hcs
      exact ⟨[], .inl ⟨rfl, rfl, rfl, rfl⟩⟩
    · simp [Value.cells] at hcs
      obtain ⟨rfl, rfl, rfl⟩ := hcs
      exact ⟨zs, .inr ⟨_, rfl, hl, hm, by simpa using hz, hcell, hwz⟩⟩
  clear hA0 hval0
  refine (walk a0 len0 cap0 z0 a1 len1 cap1 z1 W w0 w1).mono fun e W' ⟨he, bel⟩ => ?_
  subst he
  exact ⟨_, rfl, _, _, _, [], _, [], hW', trodAll_mk1 (shut_bool Try.underlying4 _), (trodAll_cons_mk (Below.trod laidOut (by kernel_rfl) (of_decide_eq_true (by kernel_rfl)) k0 bel lt0) (trodAll_cons_mk (Below.trod laidOut (by kernel_rfl) (of_decide_eq_true (by kernel_rfl)) k1 bel lt1) trodAll_mk0)), rfl, bel.frame _, fun h => by cases h⟩

theorem over : Rows.fnScanPartRow.holds Try.pinned (OpenSpec.ofChange Rows.fnScanPartSpec) :=
  OpenClaim.holds_of_wide 8 Try.f8 rfl rfl rfl rfl rfl rfl rfl ⟨rfl, rfl, rfl, rfl, rfl⟩ rfl rfl rfl rfl rfl (by kernel_rfl) Try.func8 (by kernel_rfl)
    (of_decide_eq_true (by kernel_rfl)) (by unfold Func.isWrapper; first | (rw [if_pos (by decide +kernel)]; kernel_rfl) | (rw [if_neg (by decide +kernel)]; exact ⟨rfl, rfl⟩))
    (fun os started H enc _ => lifted os started H enc)

theorem proved : Rows.FnScanPartSaid := over
end Go.Proofs.Ytdlkofgapjdeaaa.fnScanPart
