/-
  WALKS: the model's functions on disks: DiskValid, l31Find, l31Copy, l31All, l31Without, l31With.
-/
import Derived.Deep.RegionHeld3
import Derived.Deep.RegionLaw
import Derived.Test.YtonbkmmddahlfaaJg
import Derived.Test.YtonbkmmddahlfaaFe
namespace Go.Proofs.Ytonbkmmddahlfaa
open Go.RowKit
set_option linter.unusedVariables false

theorem jc_first : (0 : Nat) ≤ 0 := Nat.le_refl 0

/-- Each file is one, and its number is above that of the file before it. -/
theorem dvalid_at : ∀ {bs : List Bl} {l : Int}, dvalid l bs = true ↔ (∀ b ∈ bs, blOk b = true) ∧ (∀ b, bs[0]? = some b → l < b.n) ∧ (∀ i b c, bs[i]? = some b → bs[i + 1]? = some c → b.n < c.n)
  | [], l => by simp [dvalid]
  | x :: r, l => by
    unfold dvalid
    simp only [Bool.and_eq_true, decide_eq_true_eq]
    rw [dvalid_at]
    constructor
    · rintro ⟨h1, h2, h3, h4, h5⟩
      refine ⟨fun b hb => ?_, fun b hb => ?_, fun i b c hb hc => ?_⟩
      · rcases List.mem_cons.1 hb with rfl | hb
        · exact h1
        · exact h3 b hb
      · simp at hb; subst hb; exact h2
      · match i, hb with
        | 0, hb =>
          simp at hb
          subst hb
          exact h4 c (by simpa using hc)
        | i + 1, hb => exact h5 i b c (by simpa using hb) (by simpa using hc)
    · rintro ⟨h1, h2, h3⟩
      refine ⟨h1 x (by simp), h2 x rfl, fun b hb => h1 b (by simp [hb]), fun b hb => ?_, fun i b c hb hc => h3 (i + 1) b c (by simpa using hb) (by simpa using hc)⟩
      exact h3 0 x b rfl (by simpa using hb)

/-- The first n files are all right. -/
def okTo (bs : List Bl) (n : Nat) : Prop := (∀ j b, j < n → bs[j]? = some b → blOk b = true) ∧ ∀ j b c, j + 1 < n → bs[j]? = some b → bs[j + 1]? = some c → b.n < c.n
theorem okTo_end {bs : List Bl} (h : okTo bs bs.length) : diskV bs = true := by
  refine dvalid_at.2 ⟨fun b hb => ?_, fun b hb => ?_, fun i b c hb hc => ?_⟩
  · obtain ⟨j, hj⟩ := List.getElem?_of_mem hb
    exact h.1 j b (List.getElem?_eq_some_iff.1 hj).1 hj
  · have := h.1 0 b (List.getElem?_eq_some_iff.1 hb).1 hb
    have := ((blOk_iff _).1 this).1
    omega
  · exact h.2 i b c (List.getElem?_eq_some_iff.1 hc).1 hb hc
theorem okTo_next {bs : List Bl} {n : Nat} {x : Bl} (h : okTo bs n) (hx : bs[n]? = some x) (hok : blOk x = true) (hp : ∀ y, 0 < n → bs[n - 1]? = some y → y.n < x.n) : okTo bs (n + 1) := by
  refine ⟨fun j b hj hb => ?_, fun j b c hj hb hc => ?_⟩
  · by_cases e : j < n
    · exact h.1 j b e hb
    · obtain rfl : j = n := by omega
      rw [hx] at hb; cases hb; exact hok
  · by_cases e : j + 1 < n
    · exact h.2 j b c e hb hc
    · obtain rfl : n = j + 1 := by omega
      rw [hx] at hc; cases hc
      exact hp b (by omega) (by simpa using hb)
theorem bad_file {bs : List Bl} {n : Nat} {x : Bl} (hx : bs[n]? = some x) (hok : blOk x = false) : diskV bs = false := by
  rw [Bool.eq_false_iff]
  intro h
  have := (dvalid_low h x (List.mem_of_getElem? hx)).2
  rw [hok] at this; cases this
theorem bad_pair {bs : List Bl} {n : Nat} {x y : Bl} (hy : bs[n]? = some y) (hx : bs[n + 1]? = some x) (hn : x.n ≤ y.n) : diskV bs = false := by
  rw [Bool.eq_false_iff]
  intro h
  have := (dvalid_at.1 h).2.2 n y x hy hx
  omega

set_option maxHeartbeats 2000000 in
set_option maxRecDepth 100000 in
theorem specDiskValid_c (a : Option Addr) (len cap : Nat) (bs : List Bl) (hl : len ≤ 2097152) (hs : ∀ b ∈ bs, b.s.length ≤ 2097152 ∧ b.f.length ≤ 2097152) (W : World) (hN : BlobsAt W a len bs) :
    Calls Try.prog 10 #[.slice a len cap] W (BoolPost (diskV bs) W) := by
  have HN := Lib.hid hN
  have HE := Lib.hid hN.1
  have HS := Lib.hid hs
  have HI := Lib.hid (fun n w => l6In_c n 1 3 w)
  have hl' : (len : Int) ≤ 2097152 := by omega
  clear hN hs
  go_enter Try.func10, Try.ntmps10
  go_wp2
  go_loopw [3, 4] (fun k _ wr => ∃ n : Nat, k = .int .i64 n ∧ n ≤ len ∧ Hid (okTo bs n) ∧ Hid (Below W.heap.size W wr)) (fun k _ _ => len - (intOf k).toNat)
  case atStart => exact ⟨0, rfl, Nat.zero_le _, ⟨fun j b hj => absurd hj (by omega), fun j b c hj => absurd hj (by omega)⟩, Below.refl _ _⟩
  case round =>
    obtain ⟨i, rfl, hi, HV, HB⟩ := hrel
    by_cases hlt : i < len
    · obtain ⟨b, off, x, a1, c1, a2, c2, rfl, hx, e0, e1, e2, l1, l2⟩ := (HN.out.keep HB.out).at2 hlt
      have hlt' : (i : Int) < len := by omega
      have hi0 : (0 : Int) ≤ i := by omega
      have HLT := Lib.hid hlt
      obtain ⟨hs1, hs2⟩ := HS.out x (List.mem_of_getElem? hx)
      have hbw := below_box wr (.cells #[.int .i64 x.n, .slice a1 x.s.length c1, .slice a2 x.f.length c2] 48)
      have HB1 := Lib.hid (below_next HB.out hbw)
      obtain ⟨p, hp⟩ : ∃ q, decide ((1 : Int) ≤ x.n ∧ x.n ≤ 3) = q := ⟨_, rfl⟩
      obtain ⟨q1, hq1⟩ : ∃ q, x.s.all byteOk = q := ⟨_, rfl⟩
      obtain ⟨q2, hq2⟩ : ∃ q, x.f.all byteOk = q := ⟨_, rfl⟩
      have HIP := Lib.hid (fun w => show Calls Try.prog 31 #[.int .i64 x.n, .int .i64 1, .int .i64 3] w (fun e w' => e = .returned (.bool p) ∧ w' = w) by rw [← hp]; exact l6In_c x.n 1 3 w)
      have HP1 := Lib.hid (fun n => show Calls Try.prog 32 #[.slice a1 x.s.length c1] ((wr.alloc (.cells #[.int .i64 x.n, .slice a1 x.s.length c1, .slice a2 x.f.length c2] 48)).drewN n) (fun e w' => e = .returned (.bool q1) ∧ w' = (wr.alloc (.cells #[.int .i64 x.n, .slice a1 x.s.length c1, .slice a2 x.f.length c2] 48)).drewN n) by
        rw [← hq1]; exact l4Bytes_c a1 x.s.length c1 x.s hs1 _ ((l1.keep hbw).ints.2.1.keep (drewN_below _ n)))
      have HP2 := Lib.hid (fun n => show Calls Try.prog 32 #[.slice a2 x.f.length c2] ((wr.alloc (.cells #[.int .i64 x.n, .slice a1 x.s.length c1, .slice a2 x.f.length c2] 48)).drewN n) (fun e w' => e = .returned (.bool q2) ∧ w' = (wr.alloc (.cells #[.int .i64 x.n, .slice a1 x.s.length c1, .slice a2 x.f.length c2] 48)).drewN n) by
        rw [← hq2]; exact l4Bytes_c a2 x.f.length c2 x.f hs2 _ ((l2.keep hbw).ints.2.1.keep (drewN_below _ n)))
      have HBX := Lib.hid (bbox_new wr x.n (.slice a1 x.s.length c1) (.slice a2 x.f.length c2))
      have HX := Lib.hid hx
      have HOK := Lib.hid (show blOk x = (p && (q1 && (q2 && decide (x.s.length + x.f.length ≤ 400)))) by unfold blOk; rw [hp, hq1, hq2])
      have hsz : (x.s.length : Int) + x.f.length ≤ 4194304 := by omega
      generalize hxn : x.n = xn at e0 HB1 HIP HP1 HP2 HBX
      generalize hxs : x.s.length = xs at e1 HB1 HP1 HP2 HBX hsz HOK
      generalize hxf : x.f.length = xf at e2 HB1 HP1 HP2 HBX hsz HOK
      have HXN := Lib.hid hxn
      have HPV := Lib.hid (fun j (hj : j < len) => show ∃ y, bs[j]? = some y ∧ (wr.alloc (.cells #[.int .i64 xn, .slice a1 xs c1, .slice a2 xf c2] 48)).cell? ⟨b, off + j * 3, none⟩ = some (.int .i64 y.n) by
        obtain ⟨b', off', y, _, _, _, _, ha, hy, hc, -⟩ := (HN.out.keep HB.out).at2 hj
        cases ha
        exact ⟨y, hy, cell_kept (below_box wr _) hc⟩)
      clear hx l1 l2 hs1 hs2 hbw hp hq1 hq2 hxn hxs hxf hlt hi
      go_upto_region 5 with (fail)
      generalize wr.alloc (.cells #[.int .i64 xn, .slice a1 xs c1, .slice a2 xf c2] 48) = X at HB1 HP1 HP2 HBX HPV ⊢
      obtain ⟨x0, x1, x2, -, -, -⟩ := HBX.out.cells
      cases p with
      | false =>
        have HR := Lib.hid (bad_file HX.out (by rw [HOK.out]; rfl))
        clear e0 e1 e2
        go_quiet (first | (go_at_call 31; refine Calls.quiet_of_same (HIP.out _)))
        go_wp2
        go_ret
        exact ⟨retb HR.out.symm, below_drewN1 HB1.out nq⟩
      | true =>
        cases q1 with
        | false =>
          have HR := Lib.hid (bad_file HX.out (by rw [HOK.out]; rfl))
          clear e0 e1 e2
          go_quiet (first | (go_at_call 31; refine Calls.quiet_of_same (HIP.out _)) | (go_at_call 32; with_reducible refine Calls.quiet_of_same (HP1.out _)))
          go_wp2
          go_ret
          exact ⟨retb HR.out.symm, below_drewN1 HB1.out nq⟩
        | true =>
          cases q2 with
          | false =>
            have HR := Lib.hid (bad_file HX.out (by rw [HOK.out]; rfl))
            clear e0 e1 e2
            go_quiet (first | (go_at_call 31; refine Calls.quiet_of_same (HIP.out _)) | (go_at_call 32; with_reducible refine Calls.quiet_of_same (HP1.out _)) | (go_at_call 32; with_reducible refine Calls.quiet_of_same (HP2.out _)))
            go_wp2
            go_ret
            exact ⟨retb HR.out.symm, below_drewN1 HB1.out nq⟩
          | true =>
            have hwz : IntKind.i64.wrap ((xs : Int) + xf) = (xs : Int) + xf := IntWalk.i64_in _ (by omega)
            by_cases hz : xs + xf ≤ 400
            · have hz' : (xs : Int) + xf ≤ 400 := by omega
              have hzd : decide ((400 : Int) < (xs : Int) + xf) = false := decide_eq_false (by omega)
              have HO2 := Lib.hid (show blOk x = true by rw [HOK.out, decide_eq_true hz]; rfl)
              clear hz
              obtain rfl | ⟨j, rfl⟩ : i = 0 ∨ ∃ j, i = j + 1 := by
                cases i with
                | zero => exact .inl rfl
                | succ j => exact .inr ⟨j, rfl⟩
              · clear e0 e1 e2
                have HV2 := Lib.hid (okTo_next HV.out HX.out HO2.out (fun y h => absurd h (by omega)))
                simp only [Int.natCast_zero] at hi0 hlt' ⊢
                go_quiet (first | (go_at_call 31; refine Calls.quiet_of_same (HIP.out _)) | (go_at_call 32; with_reducible refine Calls.quiet_of_same (HP1.out _)) | (go_at_call 32; with_reducible refine Calls.quiet_of_same (HP2.out _)))
                go_wp2
                go_roundw
                case rel => exact ⟨1, by go_num, HLT.out, HV2.out, below_drewN1 HB1.out nq⟩
                case measure => have := HLT.out; simp [intOf]; omega
              · obtain ⟨y, hy, y0⟩ := HPV.out j (by have := HLT.out; omega)
                have hp0 : (0 : Int) < ((j + 1 : Nat) : Int) := by omega
                have hw1 : IntKind.i64.wrap (((j + 1 : Nat) : Int) - 1) = j := (IntWalk.i64_in _ (by omega)).trans (by omega)
                have hj0 : (0 : Int) ≤ j := by omega
                have hjl : (j : Int) < len := by omega
                have hd0 : decide ((0 : Int) < ((j + 1 : Nat) : Int)) = true := decide_eq_true hp0
                generalize hyn : y.n = yn at y0
                have HYN := Lib.hid hyn
                have HY := Lib.hid hy
                clear hyn hy e0 e1 e2
                by_cases hc : xn ≤ yn
                · have hcd : decide (xn ≤ yn) = true := decide_eq_true hc
                  have HR := Lib.hid (bad_pair HY.out HX.out (by rw [HXN.out, HYN.out]; exact hc))
                  go_quiet (first | (go_at_call 31; refine Calls.quiet_of_same (HIP.out _)) | (go_at_call 32; with_reducible refine Calls.quiet_of_same (HP1.out _)) | (go_at_call 32; with_reducible refine Calls.quiet_of_same (HP2.out _)))
                  go_wp2
                  go_ret
                  exact ⟨retb HR.out.symm, below_drewN1 HB1.out nq⟩
                · have hcd : decide (xn ≤ yn) = false := decide_eq_false hc
                  have hc' : yn < xn := by omega
                  have HV2 := Lib.hid (okTo_next HV.out HX.out HO2.out (fun z _ hz => by
                    have : bs[j]? = some z := hz
                    rw [HY.out] at this; cases this
                    rw [HXN.out, HYN.out]; exact hc'))
                  clear hc
                  go_quiet (first | (go_at_call 31; refine Calls.quiet_of_same (HIP.out _)) | (go_at_call 32; with_reducible refine Calls.quiet_of_same (HP1.out _)) | (go_at_call 32; with_reducible refine Calls.quiet_of_same (HP2.out _)))
                  go_wp2
                  go_roundw
                  case rel => exact ⟨j + 1 + 1, by go_num, HLT.out, HV2.out, below_drewN1 HB1.out nq⟩
                  case measure => have := HLT.out; simp [intOf]; omega
            · have hz' : 400 < (xs : Int) + xf := by omega
              have HR := Lib.hid (bad_file HX.out (by rw [HOK.out, decide_eq_false hz]; rfl))
              clear e0 e1 e2 hz
              go_quiet (first | (go_at_call 31; refine Calls.quiet_of_same (HIP.out _)) | (go_at_call 32; with_reducible refine Calls.quiet_of_same (HP1.out _)) | (go_at_call 32; with_reducible refine Calls.quiet_of_same (HP2.out _)))
              go_wp2
              go_ret
              exact ⟨retb HR.out.symm, below_drewN1 HB1.out nq⟩
    · have hge : (len : Int) ≤ i := by omega
      have HR := Lib.hid (show diskV bs = true by
        obtain rfl : i = bs.length := by have := HE.out; omega
        exact okTo_end HV.out)
      clear hlt hi
      go_wp2
      go_ret
      exact ⟨retb HR.out.symm, HB.out⟩

end Go.Proofs.Ytonbkmmddahlfaa
