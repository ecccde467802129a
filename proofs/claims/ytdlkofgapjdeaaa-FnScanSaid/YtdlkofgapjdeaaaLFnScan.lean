/-
  laws.FnScan returns true for every input, and leaves its arguments as they were.
  Conditions: none.
-/
import Derived.Test.YtdlkofgapjdeaaaRows
import Derived.Test.YtdlkofgapjdeaaaGn
import Derived.WalkKit
import Derived.ProofKit
import Derived.OpenShut
import Derived.ShutString
import Derived.ChangeOld
import Derived.Below
namespace Go.Proofs.Ytdlkofgapjdeaaa.fnScan
open Go.ChangeShapes Go.WideShapes Go.ChangeAt Go.RowKit
open Go.ChangeMaps (open_string shut_string)
set_option linter.unusedVariables false

theorem own : ownKnob Try.prog.godebug = none := by kernel_rfl
theorem laidOut : laidOutB Try.prog = true := by kernel_rfl

def JoinsRel (bs : List (List Int)) (W1 : World) (o i : Value) (wr : World) : Prop :=
  ∃ n : Nat, i = .int .i64 n ∧ n ≤ bs.length ∧ wr.ownsRow W1.heap.size 3 1 o (framesL (bs.take n)).length (intsV (framesL (bs.take n))) ∧ Hid (Below W1.heap.size W1 wr)

set_option maxHeartbeats 2000000 in
set_option maxRecDepth 100000 in
theorem walk (a0 : Option Addr) (len0 cap0 : Nat) (z0 : List Int) (w : World) (w0 : IsRow .u8 w a0 len0 cap0 z0) :
    Calls Try.prog 7 #[.slice a0 len0 cap0] w fun e w' => e = .returned (.bool true) ∧ Below w.heap.size w w' := by
  by_cases h : len0 ≤ 1048576
  · have hl : (len0 : Int) ≤ 1048576 := by omega
    have HD := Lib.hid (drawFramesScan_c a0 len0 cap0 z0 w w0)
    clear h w0
    go_enter Try.func7, Try.ntmps7
    go_wp2_with fail
    refine HD.out.mono ?_
    rintro e W1 hd
    obtain ⟨a, cap, zs, rfl, ht, hlen, hcl, hcm, hb1⟩ := hd.at
    obtain ⟨bs, n, hsc⟩ : ∃ bs n, scanL zs = (bs, n) := ⟨_, _, rfl⟩
    have HSC := Lib.hid hsc
    have HSF := Lib.hid (scan_facts hsc)
    have HT := Lib.hid ht
    have HB1 := Lib.hid hb1
    have HCP := Lib.hid (And.intro hcl hcm)
    have HI := Lib.hid (show Calls Try.prog 22 #[.slice a zs.length cap] W1 (ScanPost (bs, n) W1) by rw [← hsc]; exact implFramesScan_c a zs.length cap zs (by omega) hcl hcm W1 ht)
    have HS := Lib.hid (fun W' (hb : Below W1.heap.size W1 W') => show Calls Try.prog 28 #[.slice a zs.length cap] W' (ScanPost (bs, n) W') by rw [← hsc]; exact specFramesScan_c a zs.length cap zs (by omega) hcl hcm W' (ht.keep hb))
    obtain ⟨ln, hln⟩ : ∃ ln, zs.length = ln := ⟨_, rfl⟩
    rw [hln] at HI HS HT HCP hlen HSF ⊢
    have HLN := Lib.hid hln
    clear hd ht hcl hcm hb1 hln hsc
    go_wp2_with fail
    refine HI.out.mono ?_
    rintro e W2 h2
    obtain ⟨a2, c2, rfl, ht2, hc2, hm2, hb2⟩ := h2.at
    have HT2 := Lib.hid (show TabAt W2 a2 bs.length bs from ht2)
    have HC2 := Lib.hid (show bs.length ≤ c2 ∧ c2 ≤ maxLen from ⟨hc2, hm2⟩)
    have HB2 := Lib.hid hb2
    clear h2 ht2 hc2 hm2 hb2
    dsimp only
    obtain ⟨bl, hbl⟩ : ∃ bl, bs.length = bl := ⟨_, rfl⟩
    rw [hbl] at HT2 HC2 HSF ⊢
    have HBL := Lib.hid hbl
    clear hbl
    go_wp2_with fail
    refine (HS.out _ HB2.out).mono ?_
    rintro e W3 h3
    obtain ⟨a3, c3, rfl, ht3, -, -, hb3⟩ := h3.at
    have HB3 := Lib.hid (below_next HB2.out hb3)
    have HT3 := Lib.hid (show TabAt W3 a3 bl bs by rw [← HBL.out]; exact ht3)
    have HT23 := Lib.hid (HT2.out.keep hb3)
    clear h3 ht3 hb3
    dsimp only
    rw [HBL.out]
    have hnn : ((n : Int) != n) = false := by simp
    have hnl : (n : Int) ≤ ln := by have := HSF.out.2.2.1; omega
    have hbn : (bl : Int) ≤ n := by have := HSF.out.2.2.2.1; omega
    have hl721 : (ln : Int) ≤ 721 := by omega
    have HST := Lib.hid (sameTable_c a2 a3 bl c2 c3 bs (by omega) ((shortT_ok HSF.out.1).mono (by omega)) W3 HT23.out HT3.out)
    go_wp2_with fail
    refine HST.out.mono ?_
    rintro e W4 ⟨rfl, hb4⟩
    have HB4 := Lib.hid (below_next HB3.out hb4)
    have HT4 := Lib.hid (HT23.out.keep hb4)
    have HI4 := Lib.hid (HT.out.keep HB4.out)
    clear hb4
    have hl2 : bl ≤ 721 := by omega
    have hcapb : (ln : Int) ≤ cap := by have := HCP.out.1; omega
    have hnc : (n : Int) ≤ cap := by omega
    have hcapb2 : cap ≤ 9223372036854775807 := Nat.le_trans HCP.out.2 (by unfold maxLen; omega)
    go_wp2_with fail
    go_loopw [8, 9] (fun o i wr => JoinsRel bs W4 o i wr) (fun _ i _ => bl - (intOf i).toNat)
    case atStart => exact ⟨0, rfl, by omega, World.ownsRow_lit (e := 3) (size := 1) W4 #[] 0 (Nat.le_refl _) (by simp [maxLen]) rfl, below_box _ _⟩
    case round =>
      obtain ⟨i, rfl, hi1, hown, HB⟩ := hrel
      by_cases hlt : i < bl
      · obtain ⟨b, off, z, ai, ci, rfl, hz, c0, hzi⟩ := (HT4.out.keep HB.out).at hlt
        have hlt' : (i : Int) < bl := by omega
        have hil : (i : Int) ≤ 721 := by omega
        have HLT := Lib.hid hlt
        have hok : bodyOk z = true := List.all_eq_true.1 HSF.out.1 z (List.mem_of_getElem? hz)
        have hzlen := bodyOk_len hok
        have HFR := Lib.hid (show Calls Try.prog 19 #[.slice ai z.length ci] wr (fun e W' => OwnsInts wr.heap.size (frame z) e W' ∧ Below wr.heap.size wr W') by
          rw [← frameOf_ok hok]; exact implFrameOf_c ai z.length ci z (by omega) wr hzi)
        have HTK := Lib.hid (takeT_next hz)
        have HFL := Lib.hid (show (framesL (bs.take i)).length + (frame z).length ≤ 2097152 by
          have h7 : (framesL (bs.take i)).length ≤ 18 * (bs.take i).length := framesL_len (List.all_eq_true.2 fun x hx => List.all_eq_true.1 HSF.out.1 x (List.mem_of_mem_take hx))
          rw [List.length_take] at h7
          rw [frame_length]
          omega)
        have HO := Lib.hid hown
        clear hlt hi1 hz hzi hown hok hzlen
        go_wp2_with fail
        refine HFR.out.mono ?_
        rintro e w2 ⟨h2, hb2⟩
        obtain ⟨x2, p2, rfl, hi2, hn2⟩ := h2.at2
        have HI2 := Lib.hid hi2
        have HN2 := Lib.hid hn2
        have HB2x := Lib.hid (below_next HB.out hb2)
        have HO2 := Lib.hid (own_below1 HO.out hb2)
        have hlt0 := HO2.out.lt
        clear h2 hi2 hn2 hb2
        go_wp2_with (at_builtin; refine wpList_append_ints (by simp [Region.wanted, go_sem]) _ _ rfl W4.heap.size _ (framesL (bs.take i)) rfl HO2.out x2 _ p2 (frame z) rfl HI2.out HN2.out HFL.out HB2x.out.size ?_; intro v5 w5 ho5 hg5)
        have B5 : Below W4.heap.size W4 w5 := HB2x.out.grown hg5 HB2x.out.size (fun g e => (hlt0 g e).1)
        go_roundw
        case rel => exact ⟨i + 1, by push_cast; rfl, by have := HBL.out; have := HLT.out; omega, by rw [HTK.out, framesL_append, framesL_one]; exact ho5, B5⟩
        case measure => have := HLT.out; simp [intOf]; omega
      · have hge : (bl : Int) ≤ i := by omega
        have htk : bs.take i = bs := List.take_of_length_le (by have := HBL.out; omega)
        rw [htk, HSF.out.2.1] at hown
        obtain ⟨x5, p5, rfl, hi5⟩ := ints_of_own hown
        have htl : (zs.take n).length = n := by rw [List.length_take, HLN.out]; omega
        rw [htl] at hi5 ⊢
        have HSI := Lib.hid (sameInts_c x5 a n p5 cap (zs.take n) (by omega) wr hi5 (ints_take (HI4.out.keep HB.out) (by omega)))
        clear hi1 hlt htk hown hi5 htl
        go_wp2_with fail
        refine HSI.out.mono ?_
        rintro e W6 ⟨rfl, hb6⟩
        have HB6 := Lib.hid (below_next HB1.out (below_next HB4.out (below_next HB.out hb6)))
        clear hb6
        go_wp2
        go_ret
        exact ⟨rfl, HB6.out⟩
  · have hl : (1048576 : Int) < len0 := by omega
    clear h w0
    go_enter Try.func7, Try.ntmps7
    go_wp2
    go_ret
    exact ⟨rfl, Below.refl _ _⟩


set_option maxRecDepth 100000 in
theorem lifted (os : Os) (started : os.Started) (H : Type) (enc : TypeId × Value → H) :
    ReturnsInHanded {} Try.checked os 7 .any (Rows.fnScanSpec.pre6 enc Try.prog Try.f7 Rows.fnScanRow.domain false) (Rows.fnScanSpec.post enc Try.prog Try.f7 false true false false) := by
  refine returnsInHanded_of_change (C := Try.checked) own started (by kernel_rfl) Try.func7
    (ChangeSpec.witness6 (enc := enc) (C := Try.checked) false ⟨#[], #[.slice none 0 0], []⟩ 8 (by kernel_rfl) (by kernel_rfl) (by kernel_rfl) (by kernel_rfl)) ?_
  intro W base args ds gs before hval0 hW hcnd _
  have hval : ∀ (j : Nat) t v, Try.f7.params[j]? = some t → args[j]? = some v → Value.okWide Try.prog W .any base t v := hval0
  have hW' := hW
  obtain ⟨p, q, hA0, hV, rfl, hfz, hnd⟩ := hW
  have hA : DataW.TrodAll enc Try.prog W 0 (fun _ => true) true Try.f7.params.toList args.toList ds p := hA0
  rw [Try.params7] at hA hval
  obtain ⟨v0, vs0, d0, ds0, p0, q0, hargs, rfl, rfl, h0, r0⟩ := trodAll_cons hA
  obtain ⟨rfl, rfl, rfl⟩ := trodAll_nil r0
  obtain rfl : args = #[v0] := by cases args; simp_all
  obtain ⟨rfl, rfl⟩ := trodVars_none hV
  obtain ⟨a0, len0, cap0, rfl⟩ := okWide_slice Try.underlying22 (hval 0 22 v0 rfl rfl)
  have k0 := h0
  have lt0 : ∀ x ∈ p0, x.block < W.heap.size := by obtain ⟨m, hm⟩ := k0; exact DataW.trod_lt m _ _ _ hm
  obtain ⟨z0, w0⟩ : ∃ zs, IsRow .u8 W a0 len0 cap0 zs := by
    obtain ⟨fuel, hf⟩ := h0
    rcases open_ints Try.underlying22 Try.underlying5 (by kernel_rfl) hf with ⟨hcs, _⟩ | ⟨x, l, c, zs, hcs, _, hl, hm, hz, _, hcell, hwz⟩
    · simp [Value.cells] at hcs
      obtain ⟨rfl, rfl, rfl⟩ := hcs
      exact ⟨[], .inl ⟨rfl, rfl, rfl, rfl⟩⟩
    · simp [Value.cells] at hcs
      obtain ⟨rfl, rfl, rfl⟩ := hcs
      exact ⟨zs, .inr ⟨_, rfl, hl, hm, by simpa using hz, hcell, hwz⟩⟩
  clear hA0 hval0
  refine (walk a0 len0 cap0 z0 W w0).mono fun e W' ⟨he, bel⟩ => ?_
  subst he
  exact ⟨_, rfl, _, _, _, [], _, [], hW', trodAll_mk1 (shut_bool Try.underlying4 _), (trodAll_cons_mk (Below.trod laidOut (by kernel_rfl) (of_decide_eq_true (by kernel_rfl)) k0 bel lt0) trodAll_mk0), rfl, bel.frame _, fun h => by cases h⟩

theorem over : Rows.fnScanRow.holds Try.pinned (OpenSpec.ofChange Rows.fnScanSpec) :=
  OpenClaim.holds_of_wide 7 Try.f7 rfl rfl rfl rfl rfl rfl rfl ⟨rfl, rfl, rfl, rfl, rfl⟩ rfl rfl rfl rfl rfl (by kernel_rfl) Try.func7 (by kernel_rfl)
    (of_decide_eq_true (by kernel_rfl)) (by unfold Func.isWrapper; first | (rw [if_pos (by decide +kernel)]; kernel_rfl) | (rw [if_neg (by decide +kernel)]; exact ⟨rfl, rfl⟩))
    (fun os started H enc _ => lifted os started H enc)

theorem proved : Rows.FnScanSaid := over
end Go.Proofs.Ytdlkofgapjdeaaa.fnScan
