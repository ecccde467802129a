/-
  laws.FnExactDiskValid returns true for every input, and leaves its arguments as they were.
  Conditions: none.
-/
import Derived.Test.YtonbkmmddahlfaaRows
import Derived.Test.YtonbkmmddahlfaaKj
import Derived.Test.YtonbkmmddahlfaaKb
import Derived.Test.YtonbkmmddahlfaaJl
import Derived.Test.YtonbkmmddahlfaaJc
import Derived.WalkKit
import Derived.ProofKit
import Derived.OpenShut
import Derived.ShutString
import Derived.ChangeOld
import Derived.Below
namespace Go.Proofs.Ytonbkmmddahlfaa.fnExactDiskValid
open Go.ChangeShapes Go.WideShapes Go.ChangeAt Go.RowKit
open Go.ChangeMaps (open_string shut_string)
set_option linter.unusedVariables false

theorem own : ownKnob Try.prog.godebug = none := by kernel_rfl
theorem laidOut : laidOutB Try.prog = true := by kernel_rfl

set_option maxHeartbeats 4000000 in
set_option maxRecDepth 100000 in
theorem walk (a0 : Option Addr) (len0 cap0 : Nat) (bs : List Bl) (l0 : len0 ≤ maxLen) (m0 : UpTo maxLen bs) (w : World) (w0 : RawsAt w a0 len0 bs) :
    Calls Try.prog 3 #[.slice a0 len0 cap0] w fun e w' => e = .returned (.bool true) ∧ Below w.heap.size w w' := by
  have HSZ := Lib.hid (szBlobS_c a0 len0 cap0 bs l0 m0 w w0)
  have HN := Lib.hid w0
  have HE := Lib.hid w0.1
  clear w0 l0 m0
  go_enter Try.func3, Try.ntmps3
  go_wp2_with fail
  refine HSZ.out.mono ?_
  rintro e S0 ⟨⟨z, rfl, hz⟩, hbz⟩
  have BS := Lib.hid hbz
  clear hbz
  by_cases hneg : z < 0
  · clear hz
    go_wp2
    go_ret
    exact ⟨rfl, BS.out⟩
  · obtain ⟨hl, hs⟩ := hz (by omega)
    have hzd : decide (z < 0) = false := decide_eq_false hneg
    have HL := Lib.hid (show bs.length ≤ 1048576 by have := HE.out; omega)
    have HS := Lib.hid hs
    have HU := Lib.hid (show UpTo 2097152 bs from fun b hb => ⟨Nat.le_trans (hs b hb).1 (by omega), Nat.le_trans (hs b hb).2 (by omega)⟩)
    have HSB := Lib.hid (show ShortB 2000000 bs from fun b hb => ⟨Nat.le_trans (hs b hb).1 (by omega), Nat.le_trans (hs b hb).2 (by omega)⟩)
    have HTO := Lib.hid (fun W' (hb : Below w.heap.size w W') => toBlobS_c a0 len0 cap0 bs (by omega) (fun b hb => ⟨Nat.le_trans (hs b hb).1 (by omega), Nat.le_trans (hs b hb).2 (by omega)⟩) W' (HN.out.keep hb))
    have hnl : (bs.length : Int) ≤ 1048576 := by have := HL.out; omega
    have HEQ := Lib.hid (fun d1 d2 k1 k2 W' (h1 : BlobsAt W' d1 bs.length bs) (h2 : BlobsAt W' d2 bs.length bs) => eqBlobS_c d1 d2 bs.length k1 k2 bs (by have := HL.out; omega) HU.out W' h1 h2)
    clear hneg hz hl hs
    obtain ⟨vv, hvv⟩ : ∃ vv, diskV bs = vv := ⟨_, rfl⟩
    have HSP := Lib.hid (fun a c W' (h : BlobsAt W' a bs.length bs) => show Calls Try.prog 10 #[.slice a bs.length c] W' (BoolPost vv W') by rw [← hvv]; exact specDiskValid_c a bs.length c bs (by have := HL.out; omega) HU.out W' h)
    have HIM := Lib.hid (fun a c W' (h : BlobsAt W' a bs.length bs) => show Calls Try.prog 12 #[.slice a bs.length c] W' (BoolPost vv W') by rw [← hvv]; exact implDiskValid_c a bs.length c bs (by have := HL.out; omega) HSB.out W' h)
    have hbb : (vv != vv) = false := by simp
    clear hvv
    go_wp2_with fail
    refine (HTO.out _ BS.out).mono ?_
    rintro e W1 ⟨s1, v1, rfl, hd1, hb1⟩
    obtain ⟨a1, c1, rfl, hB1, -, -, -⟩ := hd1.disk.at
    have D1 := Lib.hid hd1
    have N1 := Lib.hid hB1
    have B1 := Lib.hid (below_next BS.out hb1)
    have Z1 := Lib.hid hb1.size
    have HS1 := Lib.hid (HSP.out a1 c1 W1 hB1)
    clear hd1 hB1 hb1
    go_wp2_with fail
    refine HS1.out.mono ?_
    rintro e W2 ⟨rfl, hb2⟩
    have B2 := Lib.hid (below_next B1.out hb2)
    clear hb2
    go_wp2_with fail
    refine (HTO.out _ B2.out).mono ?_
    rintro e W3 ⟨s3, v3, rfl, hd3, hb3⟩
    obtain ⟨a3, c3, rfl, hB3, -, -, -⟩ := hd3.disk.at
    have D3 := Lib.hid hd3
    have N3 := Lib.hid hB3
    have B3 := Lib.hid (below_next B2.out hb3)
    have Z3 := Lib.hid hb3.size
    have HI3 := Lib.hid (HIM.out a3 c3 W3 hB3)
    clear hd3 hB3 hb3
    go_wp2_with fail
    refine HI3.out.mono ?_
    rintro e W4 ⟨rfl, hb4⟩
    have N4 := Lib.hid (N3.out.keep hb4)
    have B4 := Lib.hid (below_next B3.out hb4)
    clear hb4
    go_wp2_with fail
    refine (HTO.out _ B4.out).mono ?_
    rintro e W5 ⟨s5, v5, rfl, hd5, hb5⟩
    obtain ⟨a5, c5, rfl, hB5, -, -, -⟩ := hd5.disk.at
    have D5 := Lib.hid hd5
    have N5 := Lib.hid hB5
    have B5 := Lib.hid (below_next B4.out hb5)
    have Z5 := Lib.hid hb5.size
    have HE5 := Lib.hid (HEQ.out a3 a5 c3 c5 W5 (N4.out.keep hb5) hB5)
    clear hd5 hB5 hb5
    go_wp2_with fail
    refine HE5.out.mono ?_
    rintro e W6 ⟨rfl, hb6⟩
    have B6 := Lib.hid (below_next B5.out hb6)
    clear hb6
    go_wp2
    go_ret
    exact ⟨rfl, B6.out⟩


set_option maxRecDepth 100000 in
theorem lifted (os : Os) (started : os.Started) (H : Type) (enc : TypeId × Value → H) :
    ReturnsInHanded {} Try.checked os 3 .any (Rows.fnExactDiskValidSpec.pre6 enc Try.prog Try.f3 Rows.fnExactDiskValidRow.domain false) (Rows.fnExactDiskValidSpec.post enc Try.prog Try.f3 false true false false) := by
  refine returnsInHanded_of_change (C := Try.checked) own started (by kernel_rfl) Try.func3
    (ChangeSpec.witness6 (enc := enc) (C := Try.checked) false ⟨#[], #[.slice none 0 0], []⟩ 8 (by kernel_rfl) (by kernel_rfl) (by kernel_rfl) (by kernel_rfl)) ?_
  intro W base args ds gs before hval0 hW hcnd _
  have hval : ∀ (j : Nat) t v, Try.f3.params[j]? = some t → args[j]? = some v → Value.okWide Try.prog W .any base t v := hval0
  have hW' := hW
  obtain ⟨p, q, hA0, hV, rfl, hfz, hnd⟩ := hW
  have hA : DataW.TrodAll enc Try.prog W 0 (fun _ => true) true Try.f3.params.toList args.toList ds p := hA0
  rw [Try.params3] at hA hval
  obtain ⟨v0, vs0, d0, ds0, p0, q0, hargs, rfl, rfl, h0, r0⟩ := trodAll_cons hA
  obtain ⟨rfl, rfl, rfl⟩ := trodAll_nil r0
  obtain rfl : args = #[v0] := by cases args; simp_all
  obtain ⟨rfl, rfl⟩ := trodVars_none hV
  obtain ⟨a0, len0, cap0, rfl⟩ := okWide_slice Try.underlying22 (hval 0 22 v0 rfl rfl)
  have k0 := h0
  have lt0 : ∀ x ∈ p0, x.block < W.heap.size := by obtain ⟨m, hm⟩ := k0; exact DataW.trod_lt m _ _ _ hm
  obtain ⟨z0, w0, l0, m0⟩ : ∃ bs, RawsAt W a0 len0 bs ∧ len0 ≤ maxLen ∧ UpTo maxLen bs := by
    obtain ⟨fuel, hf⟩ := h0
    exact open_blobs hf
  clear hA0 hval0
  refine (walk a0 len0 cap0 z0 l0 m0 W w0).mono fun e W' ⟨he, bel⟩ => ?_
  subst he
  exact ⟨_, rfl, _, _, _, [], _, [], hW', trodAll_mk1 (shut_bool Try.underlying4 _), (trodAll_cons_mk (Below.trod laidOut (by kernel_rfl) (of_decide_eq_true (by kernel_rfl)) k0 bel lt0) trodAll_mk0), rfl, bel.frame _, fun h => by cases h⟩

theorem over : Rows.fnExactDiskValidRow.holds Try.pinned (OpenSpec.ofChange Rows.fnExactDiskValidSpec) :=
  OpenClaim.holds_of_wide 3 Try.f3 rfl rfl rfl rfl rfl rfl rfl ⟨rfl, rfl, rfl, rfl, rfl⟩ rfl rfl rfl rfl rfl (by kernel_rfl) Try.func3 (by kernel_rfl)
    (of_decide_eq_true (by kernel_rfl)) (by unfold Func.isWrapper; first | (rw [if_pos (by decide +kernel)]; kernel_rfl) | (rw [if_neg (by decide +kernel)]; exact ⟨rfl, rfl⟩))
    (fun os started H enc _ => lifted os started H enc)

theorem proved : Rows.FnExactDiskValidSaid := over
end Go.Proofs.Ytonbkmmddahlfaa.fnExactDiskValid
