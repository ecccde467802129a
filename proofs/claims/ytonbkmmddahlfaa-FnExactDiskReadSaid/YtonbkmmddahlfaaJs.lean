/-
  WALKS: spec.DiskRead, DiskSync, DiskRename, DiskWrite.
-/
import Derived.Test.YtonbkmmddahlfaaJr
namespace Go.Proofs.Ytonbkmmddahlfaa
open Go.RowKit
set_option linter.unusedVariables false

theorem js_first : (0 : Nat) ≤ 0 := Nat.le_refl 0

/-- What the model's DiskRead tells. -/
def ReadPost (r : Option (List Int)) (W : World) (e : Ending) (w' : World) : Prop :=
  ∃ (v : Value) (out : List Int) (b : Bool), e = .returned (.tuple #[v, .bool b]) ∧ ((b = true ∧ r = some out) ∨ (b = false ∧ r = none ∧ out = [])) ∧ LsAt w' v out ∧ Below W.heap.size W w'
theorem lit_ls (W : World) (sp : Addr) : LsAt W (.slice (some sp) 0 0) [] := (fresh_lit W 0 sp).ls

/-- The lists of files are short enough for any walk. -/
def Long (bs : List Bl) : Prop := ∀ b ∈ bs, b.s.length ≤ 2097152 ∧ b.f.length ≤ 2097152

theorem valid_lenJ {bs : List Bl} (h : diskV bs = true) : bs.length ≤ 3 := by
  have h2 := (disk_of h).2
  rw [h2]
  unfold ofF
  have e : ∀ o : Option Bl, o.toList.length ≤ 1 := by intro o; cases o <;> simp
  have := e (findB bs 1)
  have := e (findB bs 2)
  have := e (findB bs 3)
  simp only [List.length_append]
  omega
theorem valid_at {bs : List Bl} (h : diskV bs = true) {i : Nat} {x : Bl} (hx : bs[i]? = some x) : x.s.length + x.f.length ≤ 400 := ((blOk_iff _).1 (dvalid_low h x (List.mem_of_getElem? hx)).2).2.2.2

set_option maxHeartbeats 2000000 in
set_option maxRecDepth 100000 in
theorem specDiskRead_c (a : Option Addr) (len cap : Nat) (bs : List Bl) (n : Int) (hl : len ≤ 2000000) (hs : Long bs) (W : World) (hN : BlobsAt W a len bs) :
    Calls Try.prog 14 #[.slice a len cap, .int .i64 n] W (ReadPost (diskRead bs n) W) := by
  have HN := Lib.hid hN
  have HE := Lib.hid hN.1
  obtain ⟨q, hq⟩ : ∃ q, diskV bs = q := ⟨_, rfl⟩
  have HV := Lib.hid (show Calls Try.prog 10 #[.slice a len cap] W (BoolPost q W) by rw [← hq]; exact specDiskValid_c a len cap bs (by omega) hs W hN)
  have HF := Lib.hid (fun w (hb : Below W.heap.size W w) => l31Find_c a len cap bs n (by omega) w (hN.keep hb))
  have HQ := Lib.hid hq
  have hl' : (len : Int) ≤ 2000000 := by omega
  clear hN hs hq
  go_enter Try.func14, Try.ntmps14
  go_wp2_with fail
  refine HV.out.mono ?_
  rintro e W1 ⟨rfl, hb1⟩
  have HB1 := Lib.hid hb1
  clear hb1
  cases q with
  | false =>
    have HR := Lib.hid (show diskRead bs n = none by unfold diskRead; rw [HQ.out]; rfl)
    have HB2 := Lib.hid (below_al HB1.out (Nat.le_refl _) (.cells #[] 3))
    go_wp2
    go_ret2
    exact ⟨_, [], false, rfl, .inr ⟨rfl, HR.out, rfl⟩, lit_ls _ _, HB2.out⟩
  | true =>
    go_wp2_with fail
    refine (HF.out _ HB1.out).mono ?_
    rintro e W2 ⟨⟨i, x, rfl, -, hf, -⟩ | ⟨rfl, hf⟩, rfl⟩
    · have hi0 : (0 : Int) ≤ i := by omega
      have HFX := Lib.hid hf
      have hd0 : decide ((i : Int) < 0) = false := decide_eq_false (by omega)
      clear hf
      go_wp2_with fail
      refine (HF.out _ HB1.out).mono ?_
      rintro e W3 ⟨⟨j, y, rfl, hy, hf, -⟩ | ⟨rfl, hf⟩, rfl⟩
      · have hlt : j < len := by have := (List.getElem?_eq_some_iff.1 hy).1; have := HE.out; omega
        obtain ⟨b, off, z, a1, c1, a2, c2, rfl, hz, e0, e1, e2, l1, l2⟩ := (HN.out.keep HB1.out).at2 hlt
        rw [hy] at hz
        obtain rfl := Option.some.inj hz
        have hj0 : (0 : Int) ≤ j := by omega
        have hjl : (j : Int) < len := by omega
        have hok := valid_at HQ.out hy
        have HA := Lib.hid (l31All_c y.n a1 a2 c1 c2 y.s y.f (by omega) W3 l1 l2)
        have HR := Lib.hid (show diskRead bs n = some (y.s ++ y.f) by unfold diskRead; rw [if_pos HQ.out, hf]; rfl)
        generalize y.n = yn at e0 HA
        generalize hys : y.s.length = ys at e1 HA
        generalize hyf : y.f.length = yf at e2 HA
        generalize y.s ++ y.f = g at HA HR
        clear hy hz hlt hok l1 l2 hf hys hyf
        go_wp2_with fail
        refine HA.out.mono ?_
        rintro e W4 ⟨v, rfl, hv, hb4⟩
        have HV4 := Lib.hid hv
        have HB4 := Lib.hid (below_next HB1.out hb4)
        obtain ⟨av, cv, rfl, -⟩ := hv.out
        generalize g.length = gl at HV4 ⊢
        clear hv hb4 e0 e1 e2
        go_wp2
        go_ret2
        exact ⟨_, _, true, rfl, .inl ⟨rfl, HR.out⟩, HV4.out, HB4.out⟩
      · exact absurd (HFX.out.symm.trans hf) (by simp)
    · have HR := Lib.hid (show diskRead bs n = none by unfold diskRead; rw [if_pos HQ.out, hf]; rfl)
      have HB2 := Lib.hid (below_al HB1.out (Nat.le_refl _) (.cells #[] 3))
      clear hf
      go_wp2
      go_ret2
      exact ⟨_, [], false, rfl, .inr ⟨rfl, HR.out, rfl⟩, lit_ls _ _, HB2.out⟩

theorem blobs_post {out : List Bl} {W0 W W' : World} {r : Option (List Bl)} {sl : Value} {vs : List Value} (hr : r = some out) (h : OwnsB2 W' W.heap.size sl out vs) (hb : Below W0.heap.size W0 W') : DiskPost r W0 (.returned (.tuple #[sl, .bool true])) W' :=
  disk_made hr ⟨vs, h⟩ hb

set_option maxHeartbeats 4000000 in
set_option maxRecDepth 100000 in
theorem specDiskSync_c (a : Option Addr) (len cap : Nat) (bs : List Bl) (n : Int) (hl : len ≤ 2000000) (hs : Long bs) (W : World) (hN : BlobsAt W a len bs) :
    Calls Try.prog 24 #[.slice a len cap, .int .i64 n] W (DiskPost (diskSync bs n) W) := by
  have HN := Lib.hid hN
  have HE := Lib.hid hN.1
  have HS := Lib.hid hs
  have HL := Lib.hid hl
  obtain ⟨q, hq⟩ : ∃ q, diskV bs = q := ⟨_, rfl⟩
  have HV := Lib.hid (show Calls Try.prog 10 #[.slice a len cap] W (BoolPost q W) by rw [← hq]; exact specDiskValid_c a len cap bs (by omega) hs W hN)
  have HF := Lib.hid (fun w (hb : Below W.heap.size W w) => l31Find_c a len cap bs n (by omega) w (hN.keep hb))
  have HQ := Lib.hid hq
  have hl' : (len : Int) ≤ 2000000 := by omega
  clear hN hs hq hl
  go_enter Try.func24, Try.ntmps24
  go_wp2_with fail
  refine HV.out.mono ?_
  rintro e W1 ⟨rfl, hb1⟩
  have HB1 := Lib.hid hb1
  clear hb1
  cases q with
  | false =>
    have HR := Lib.hid (show diskSync bs n = none by unfold diskSync; rw [HQ.out]; rfl)
    have HB2 := Lib.hid (below_al HB1.out (Nat.le_refl _) (.cells #[] 48))
    go_wp2
    go_ret2
    exact disk_fail HR.out (Nat.zero_le _) (by simp) HB2.out
  | true =>
    go_wp2_with fail
    refine (HF.out _ HB1.out).mono ?_
    rintro e W2 ⟨⟨i, x, rfl, -, hf, -⟩ | ⟨rfl, hf⟩, rfl⟩
    · have hi0 : (0 : Int) ≤ i := by omega
      have HFX := Lib.hid hf
      have hd0 : decide ((i : Int) < 0) = false := decide_eq_false (by omega)
      clear hf
      go_wp2_with fail
      refine (HF.out _ HB1.out).mono ?_
      rintro e W3 ⟨⟨j, y, rfl, hy, hf, hyn⟩ | ⟨rfl, hf⟩, rfl⟩
      · have hlt : j < len := by have := (List.getElem?_eq_some_iff.1 hy).1; have := HE.out; omega
        obtain ⟨b, off, z, a1, c1, a2, c2, rfl, hz, e0, e1, e2, l1, l2⟩ := (HN.out.keep HB1.out).at2 hlt
        rw [hy] at hz
        obtain rfl := Option.some.inj hz
        have hj0 : (0 : Int) ≤ j := by omega
        have hjl : (j : Int) < len := by omega
        have hok := valid_at HQ.out hy
        have hbw := below_box W3 (.cells #[.int .i64 y.n, .slice a1 y.s.length c1, .slice a2 y.f.length c2] 48)
        have HA := Lib.hid (l31All_c y.n a1 a2 c1 c2 y.s y.f (by omega) _ (l1.keep hbw) (l2.keep hbw))
        have HBW := Lib.hid (below_next HB1.out hbw)
        have HR := Lib.hid (show diskSync bs n = some (withB bs ⟨n, y.s ++ y.f, []⟩) by unfold diskSync; rw [if_pos HQ.out, hf]; rfl)
        have HAL := Lib.hid (show (y.s ++ y.f).length ≤ 400 by rw [List.length_append]; exact hok)
        generalize y.n = yn at e0 HA HBW
        generalize hys : y.s.length = ys at e1 HA HBW
        generalize hyf : y.f.length = yf at e2 HA HBW
        generalize y.s ++ y.f = g at HA HR HAL
        clear hy hz hlt hok l1 l2 hf hys hyf hbw hyn
        go_wp2_with fail
        refine HA.out.mono ?_
        rintro e W4 ⟨v, rfl, hv, hb4⟩
        have HB4 := Lib.hid (below_next HBW.out hb4)
        have HB5 := Lib.hid (below_al HB4.out (Nat.le_refl _) (.cells #[] 3))
        have HV5 := Lib.hid (hv.keep (below_box W4 (.cells #[] 3)))
        obtain ⟨av, cv, rfl, -⟩ := hv.out
        have HW := Lib.hid (l31With_c (some ⟨b, off, none⟩) len cap bs n av (some ⟨W4.heap.size, 0, none⟩) cv 0 g [] HL.out HS.out (by have := HAL.out; omega) (by simp) _ (HN.out.keep HB5.out) HV5.out (lit_ls _ _))
        generalize g.length = gl at HV5 HW ⊢
        clear hv hb4 e0 e1 e2
        go_wp2_with fail
        refine HW.out.mono ?_
        rintro e W6 ⟨sl, vs, rfl, ho6, hb6⟩
        have HO6 := Lib.hid ho6
        have HB6 := Lib.hid (below_next HB5.out hb6)
        clear ho6 hb6
        go_wp2
        go_ret2
        exact blobs_post HR.out HO6.out HB6.out
      · exact absurd (HFX.out.symm.trans hf) (by simp)
    · have HR := Lib.hid (show diskSync bs n = none by unfold diskSync; rw [if_pos HQ.out, hf]; rfl)
      have HB2 := Lib.hid (below_al HB1.out (Nat.le_refl _) (.cells #[] 48))
      clear hf
      go_wp2
      go_ret2
      exact disk_fail HR.out (Nat.zero_le _) (by simp) HB2.out

set_option maxHeartbeats 4000000 in
set_option maxRecDepth 100000 in
theorem specDiskRename_c (a : Option Addr) (len cap : Nat) (bs : List Bl) (n c : Int) (hl : len ≤ 2000000) (hs : Long bs) (W : World) (hN : BlobsAt W a len bs) :
    Calls Try.prog 26 #[.slice a len cap, .int .i64 n, .int .i64 c] W (DiskPost (diskRename bs n c) W) := by
  have HN := Lib.hid hN
  have HE := Lib.hid hN.1
  have HS := Lib.hid hs
  have HL := Lib.hid hl
  obtain ⟨q, hq⟩ : ∃ q, diskV bs = q := ⟨_, rfl⟩
  have HV := Lib.hid (show Calls Try.prog 10 #[.slice a len cap] W (BoolPost q W) by rw [← hq]; exact specDiskValid_c a len cap bs (by omega) hs W hN)
  have HF := Lib.hid (fun w (hb : Below W.heap.size W w) => l31Find_c a len cap bs n (by omega) w (hN.keep hb))
  obtain ⟨p, hp⟩ : ∃ q, decide (1 ≤ c ∧ c ≤ 3) = q := ⟨_, rfl⟩
  have HI := Lib.hid (fun w => show Calls Try.prog 31 #[.int .i64 c, .int .i64 1, .int .i64 3] w (fun e w' => e = .returned (.bool p) ∧ w' = w) by rw [← hp]; exact l6In_c c 1 3 w)
  have HQ := Lib.hid hq
  have HPC := Lib.hid hp
  have hl' : (len : Int) ≤ 2000000 := by omega
  clear hN hs hq hl hp
  go_enter Try.func26, Try.ntmps26
  go_wp2_with fail
  refine HV.out.mono ?_
  rintro e W1 ⟨rfl, hb1⟩
  have HB1 := Lib.hid hb1
  clear hb1
  have HBL := Lib.hid (below_al HB1.out (Nat.le_refl _) (.cells #[] 48))
  cases q with
  | false =>
    have HR := Lib.hid (show diskRename bs n c = none by unfold diskRename; rw [HQ.out]; rfl)
    go_wp2
    go_ret2
    exact disk_fail HR.out (Nat.zero_le _) (by simp) HBL.out
  | true =>
    go_wp2_with fail
    refine (HF.out _ HB1.out).mono ?_
    rintro e W2 ⟨⟨i, x, rfl, -, hf, -⟩ | ⟨rfl, hf⟩, rfl⟩
    · have hi0 : (0 : Int) ≤ i := by omega
      have HFX := Lib.hid hf
      have hd0 : decide ((i : Int) < 0) = false := decide_eq_false (by omega)
      clear hf
      cases p with
      | false =>
        have HR := Lib.hid (show diskRename bs n c = none by unfold diskRename; rw [HPC.out]; simp)
        go_wp2_with fail
        refine (HI.out _).mono ?_
        rintro e W3 ⟨rfl, rfl⟩
        go_wp2
        go_ret2
        exact disk_fail HR.out (Nat.zero_le _) (by simp) HBL.out
      | true =>
        go_wp2_with fail
        refine (HI.out _).mono ?_
        rintro e W3 ⟨rfl, rfl⟩
        clear HBL
        go_wp2_with fail
        refine (HF.out _ HB1.out).mono ?_
        rintro e W3 ⟨⟨j, y, rfl, hy, hf, hyn⟩ | ⟨rfl, hf⟩, rfl⟩
        · have hlt : j < len := by have := (List.getElem?_eq_some_iff.1 hy).1; have := HE.out; omega
          obtain ⟨b, off, z, a1, c1, a2, c2, rfl, hz, e0, e1, e2, l1, l2⟩ := (HN.out.keep HB1.out).at2 hlt
          rw [hy] at hz
          obtain rfl := Option.some.inj hz
          have hj0 : (0 : Int) ≤ j := by omega
          have hjl : (j : Int) < len := by omega
          have hok := valid_at HQ.out hy
          have HC := Lib.hid (l31Copy_c y.n a1 a2 c1 c2 y.s y.f (by omega) (by omega) W3 l1 l2)
          have HR := Lib.hid (show diskRename bs n c = some (withB (withoutB bs n) ⟨c, y.s, y.f⟩) by unfold diskRename; rw [HQ.out, HPC.out, if_pos (show (true && true) = true from rfl), hf]; rfl)
          have HOK := Lib.hid hok
          generalize y.n = yn at e0 HC
          generalize hys : y.s.length = ys at e1 HC
          generalize hyf : y.f.length = yf at e2 HC
          clear hy hz hlt hok l1 l2 hf hys hyf hyn
          go_wp2_with fail
          refine HC.out.mono ?_
          rintro e W4 ⟨u, v, rfl, lu, lv, hb4⟩
          have HB4 := Lib.hid (below_next HB1.out hb4)
          have HLU := Lib.hid (And.intro lu lv)
          obtain ⟨au, cu, rfl, -⟩ := lu.out
          obtain ⟨av, cv, rfl, -⟩ := lv.out
          have hbx := below_box W4 (.cells #[.int .i64 c, .slice au y.s.length cu, .slice av y.f.length cv] 48)
          have HB5 := Lib.hid (below_next HB4.out hbx)
          have HX := Lib.hid (bbox_new W4 c (.slice au y.s.length cu) (.slice av y.f.length cv))
          have HL5 := Lib.hid (And.intro (HLU.out.1.keep hbx) (HLU.out.2.keep hbx))
          clear lu lv hb4 hbx e0 e1 e2
          go_upto_region 5 with (fail)
          generalize hX : W4.alloc (.cells #[.int .i64 c, .slice au y.s.length cu, .slice av y.f.length cv] 48) = X at HX HL5 HB5 ⊢
          obtain ⟨x0, x1, x2, -, -, -⟩ := HX.out.cells
          have HS0 := Lib.hid (show X.drew.cell? ⟨W4.heap.size, 0, none⟩ = some (.int .i64 c) ∧ X.drew.cell? ⟨W4.heap.size, 1, none⟩ = some (.slice au y.s.length cu) ∧ X.drew.cell? ⟨W4.heap.size, 2, none⟩ = some (.slice av y.f.length cv) from ⟨x0, x1, x2⟩)
          have HKP := Lib.hid (fun (u2 : World) (hb : Below X.heap.size X u2) => show u2.cell? ⟨W4.heap.size, 0, none⟩ = some (.int .i64 c) ∧ u2.cell? ⟨W4.heap.size, 1, none⟩ = some (.slice au y.s.length cu) ∧ u2.cell? ⟨W4.heap.size, 2, none⟩ = some (.slice av y.f.length cv) from ⟨cell_kept hb HS0.out.1, cell_kept hb HS0.out.2.1, cell_kept hb HS0.out.2.2⟩)
          have HWO := Lib.hid (l31Without_c (some ⟨b, off, none⟩) len cap bs n (by have := HL.out; omega) HS.out X.drew (HN.out.keep (HB5.out.trans ((Below.refl X.heap.size X).drew.mono HB5.out.size))))
          have HWI := Lib.hid (fun (ra : Option Addr) (rc : Nat) (w : World) (hb : Below X.heap.size X w) (hR : BlobsAt w ra (withoutB bs n).length (withoutB bs n)) => l31With_c ra (withoutB bs n).length rc (withoutB bs n) c au av cu cv y.s y.f (by have := withoutB_len bs n; have := HN.out.1; have := HL.out; omega) (fun b hb => HS.out b (List.mem_filter.1 hb).1) (by have := HOK.out; omega) (by have := HOK.out; omega) w hR (HL5.out.1.keep hb) (HL5.out.2.keep hb))
          clear hX x0 x1 x2
          go_region_held3 (fun w' => w'.cell? ⟨W4.heap.size, 0, none⟩ = some (.int .i64 c) ∧ w'.cell? ⟨W4.heap.size, 1, none⟩ = some (.slice au y.s.length cu) ∧ w'.cell? ⟨W4.heap.size, 2, none⟩ = some (.slice av y.f.length cv))
            (first | exact HS0.out | exact HKP.out _ HB6.out | exact HKP.out _ HB7.out)
            (first
              | (go_at_call 47; (with_reducible refine (HWO.out).mono ?_); rintro e W6 ⟨rv, vsR, rfl, hR, hb6⟩; have HB6 := Lib.hid (show Below X.heap.size X W6 from (Below.refl X.heap.size X).drew.trans hb6); have HRR := Lib.hid hR; obtain ⟨ra, rc, rfl, hBA, -⟩ := blobs_of hR.1 hR.2; have HBA := Lib.hid hBA; clear hR hb6 hBA)
              | (go_at_call 41; (with_reducible refine (HWI.out _ _ _ HB6.out HBA.out).mono ?_); rintro e W7 ⟨sl, vs, rfl, ho7, hb7⟩; have HB7 := Lib.hid (below_next HB6.out hb7); have HO7 := Lib.hid ho7; clear ho7 hb7))
          all_goals
            rename_i hS
            clear hS
            go_wp2
            go_ret2
            exact blobs_post HR.out HO7.out (HB5.out.trans (HB7.out.mono HB5.out.size))
        · exact absurd (HFX.out.symm.trans hf) (by simp)
    · have HR := Lib.hid (show diskRename bs n c = none by
        unfold diskRename
        rw [hf]
        by_cases h : (diskV bs && decide (1 ≤ c ∧ c ≤ 3)) = true
        · rw [if_pos h]; rfl
        · rw [if_neg h])
      clear hf
      go_wp2
      go_ret2
      exact disk_fail HR.out (Nat.zero_le _) (by simp) HBL.out

end Go.Proofs.Ytonbkmmddahlfaa
