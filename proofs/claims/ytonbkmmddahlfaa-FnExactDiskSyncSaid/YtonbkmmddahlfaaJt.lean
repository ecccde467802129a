/-
  WALKS: spec.DiskWrite.
-/
import Derived.Test.YtonbkmmddahlfaaJs
namespace Go.Proofs.Ytonbkmmddahlfaa
open Go.RowKit
set_option linter.unusedVariables false

theorem jt_first : (0 : Nat) ≤ 0 := Nat.le_refl 0

theorem wpList_append_lit {w : World} {ops : Array Oper} {rest : List Oper} {o : Oper} {a : Act} {Q : Exit → Act → World → Prop} (hgd : o.guard = none) (s x : Operand)
    (ho : o.op = .call { callee := .builtin .append, args := #[s, x], argTypes := #[29, 29] })
    (base : Nat) (sp : Addr) (hs : a.eval s = .slice (some sp) 0 0)
    (ad : Option Addr) (len cap : Nat) (zs : List Int) (hx : a.eval x = .slice ad len cap) (hi : LsAt w (.slice ad len cap) zs) (hlen : zs.length ≤ 2097152) (hb : base ≤ w.heap.size)
    (h : ∀ v3 w3, Fresh w3 base v3 zs → Below w.heap.size w w3 → wpList Try.prog ops Q rest (a.put o.dst v3) w3) : wpList Try.prog ops Q (o :: rest) a w :=
  wpList_plain hgd fun K hK => wp_append_lit s x ho base sp hs ad len cap zs hx hi hlen hb fun v3 w3 h1 h2 => hK _ _ (h v3 w3 h1 h2)

theorem BBox.put2 {W : World} {c : Nat} {n : Int} {u v : Value} (h : BBox W c n u v) (q : Value) : BBox (W.setCell ⟨c, 2, none⟩ q) c n u q := by
  unfold BBox at h ⊢
  simp [World.setCell, h, Array.getElem?_modify]
theorem BBox.kept1 {W : World} {c : Nat} {n : Int} {u v : Value} (h : BBox W c n u v) (o : Nat) (q : Value) : IntKept W (W.setCell ⟨c, o, none⟩ q) := by
  refine ⟨rfl, rfl, rfl, by simp [World.setCell], fun k cs hk hc => ?_⟩
  have hne : k ≠ c := by
    rintro rfl
    unfold BBox at h
    rw [h] at hc
    cases hc
  rw [Below.heap_setCell _ _ _ _ hne]
theorem writeB_ok {bs : List Bl} (h : diskV bs = true) (n : Int) : ((findB bs n).getD ⟨n, [], []⟩).s.length + ((findB bs n).getD ⟨n, [], []⟩).f.length ≤ 400 := by
  cases e : findB bs n with
  | none => simp
  | some b => exact ((blOk_iff _).1 ((disk_of h).1 n b e).2).2.2.2
theorem long_with {bs : List Bl} {b : Bl} (h : Long bs) (h1 : b.s.length ≤ 2097152 ∧ b.f.length ≤ 2097152) : Long (withB bs b) := by
  intro c hc
  have key : ∀ l : List Bl, c ∈ insB b l → c = b ∨ c ∈ l := by
    intro l
    induction l with
    | nil => intro h; simp [insB] at h; exact .inl h
    | cons d r ih =>
      intro h
      unfold insB at h
      split at h
      · rcases List.mem_cons.1 h with h | h
        · exact .inl h
        · exact .inr h
      · rcases List.mem_cons.1 h with h | h
        · exact .inr (by rw [h]; exact List.mem_cons_self ..)
        · rcases ih h with h | h
          · exact .inl h
          · exact .inr (List.mem_cons_of_mem _ h)
  rcases key _ hc with rfl | h2
  · exact h1
  · exact h c (List.mem_filter.1 h2).1

theorem ins_len (b : Bl) (l : List Bl) : (insB b l).length = l.length + 1 := by
  induction l with
  | nil => rfl
  | cons c r ih => unfold insB; split <;> simp [ih]
theorem with_short {bs : List Bl} {b : Bl} {len : Nat} (h : len ≤ 2000000) (hl : bs.length = len) : (withB bs b).length ≤ 2097152 := by
  unfold withB
  rw [ins_len]
  have := withoutB_len bs b.n
  omega

set_option maxHeartbeats 8000000 in
set_option maxRecDepth 100000 in
theorem specDiskWrite_c (a : Option Addr) (len cap : Nat) (bs : List Bl) (n : Int) (ab : Option Addr) (lb cb : Nat) (zs : List Int) (hl : len ≤ 2000000) (hs : Long bs) (hz : zs.length ≤ 2000000) (W : World) (hN : BlobsAt W a len bs) (hB : LsAt W (.slice ab lb cb) zs) :
    Calls Try.prog 20 #[.slice a len cap, .int .i64 n, .slice ab lb cb] W (DiskPost (diskWrite bs n zs) W) := by
  have HN := Lib.hid hN
  have HE := Lib.hid hN.1
  have HS := Lib.hid hs
  have HL := Lib.hid hl
  have HZ := Lib.hid hz
  obtain ⟨hlb, hbi, -⟩ := hB.ints
  obtain ⟨q, hq⟩ : ∃ q, diskV bs = q := ⟨_, rfl⟩
  have HV := Lib.hid (show Calls Try.prog 10 #[.slice a len cap] W (BoolPost q W) by rw [← hq]; exact specDiskValid_c a len cap bs (by omega) hs W hN)
  have HF := Lib.hid (fun w (hb : Below W.heap.size W w) => l31Find_c a len cap bs n (by omega) w (hN.keep hb))
  obtain ⟨p, hp⟩ : ∃ q, zs.all byteOk = q := ⟨_, rfl⟩
  have HI := Lib.hid (fun w (hb : Below W.heap.size W w) => show Calls Try.prog 32 #[.slice ab lb cb] w (fun e w' => e = .returned (.bool p) ∧ w' = w) by rw [← hp]; subst hlb; exact l4Bytes_c ab zs.length cb zs (by omega) w (hbi.keep hb))
  have HBY := Lib.hid (fun w (hb : Below W.heap.size W w) => hB.keep hb)
  have HQ := Lib.hid hq
  have HPC := Lib.hid hp
  have hl' : (len : Int) ≤ 2000000 := by omega
  clear hN hs hq hl hp hz hB hlb hbi
  go_enter Try.func20, Try.ntmps20
  go_wp2_with fail
  refine HV.out.mono ?_
  rintro e W1 ⟨rfl, hb1⟩
  have HB1 := Lib.hid hb1
  clear hb1
  have HBL := Lib.hid (below_al HB1.out (Nat.le_refl _) (.cells #[] 48))
  cases q with
  | false =>
    have HR := Lib.hid (show diskWrite bs n zs = none by unfold diskWrite; rw [HQ.out]; rfl)
    go_wp2
    go_ret2
    exact disk_fail HR.out (Nat.zero_le _) (by simp) HBL.out
  | true =>
    cases p with
    | false =>
      have HR := Lib.hid (show diskWrite bs n zs = none by unfold diskWrite; rw [HPC.out]; simp)
      go_wp2_with fail
      refine (HI.out _ HB1.out).mono ?_
      rintro e W3 ⟨rfl, rfl⟩
      go_wp2
      go_ret2
      exact disk_fail HR.out (Nat.zero_le _) (by simp) HBL.out
    | true =>
      go_wp2_with fail
      refine (HI.out _ HB1.out).mono ?_
      rintro e W3 ⟨rfl, rfl⟩
      clear HBL
      have hbx := below_box W3 (.cells #[.int .i64 n, .slice none 0 0, .slice none 0 0] 48)
      have HX := Lib.hid (bbox_new W3 n (.slice none 0 0) (.slice none 0 0))
      have HB2 := Lib.hid (below_next HB1.out hbx)
      have HSB := Lib.hid (show W.heap.size ≤ W3.heap.size from HB1.out.size)
      clear hbx
      go_wp2_with fail
      generalize W3.alloc (.cells #[.int .i64 n, .slice none 0 0, .slice none 0 0] 48) = X at HX HB2 ⊢
      refine (HF.out _ HB2.out).mono ?_
      rintro e X' ⟨⟨i, x, rfl, -, hf, -⟩ | ⟨rfl, hf⟩, rfl⟩
      · have hi0 : (0 : Int) ≤ i := by omega
        have HFX := Lib.hid hf
        have hd0 : decide ((0 : Int) ≤ i) = true := decide_eq_true hi0
        clear hf
        go_wp2_with fail
        refine (HF.out _ HB2.out).mono ?_
        rintro e X2 ⟨⟨j, y, rfl, hy, hf, hyn⟩ | ⟨rfl, hf⟩, rfl⟩
        · have hlt : j < len := by have := (List.getElem?_eq_some_iff.1 hy).1; have := HE.out; omega
          obtain ⟨b, off, z, a1, c1, a2, c2, rfl, hz, e0, e1, e2, l1, l2⟩ := (HN.out.keep HB2.out).at2 hlt
          rw [hy] at hz
          obtain rfl := Option.some.inj hz
          have hj0 : (0 : Int) ≤ j := by omega
          have hjl : (j : Int) < len := by omega
          have hok := valid_at HQ.out hy
          have HC := Lib.hid (l31Copy_c y.n a1 a2 c1 c2 y.s y.f (by omega) (by omega) X2 l1 l2)
          have HOK := Lib.hid hok
          have HFY := Lib.hid hf
          rw [hyn] at HC
          rw [hyn] at e0
          generalize hys : y.s.length = ys at e1 HC
          generalize hyf : y.f.length = yf at e2 HC
          clear hy hz hlt hok l1 l2 hf hys hyf hyn
          go_wp2_with fail
          refine HC.out.mono ?_
          rintro e W4 ⟨u, v, rfl, lu, lv, hb4⟩
          have HWB := Lib.hid (show writeB bs n zs = ⟨n, y.s, y.f ++ zs⟩ by unfold writeB; rw [HFY.out]; rfl)
          have HXL := Lib.hid (show y.s.length ≤ 400 ∧ y.f.length ≤ 400 by have := HOK.out; omega)
          have HX4 := Lib.hid (HX.out.keep hb4)
          have HBD := Lib.hid (below_next HB2.out hb4)
          have hk := HX4.out.kept3 n u v
          have HLY := Lib.hid (And.intro (lu.kept hk) (lv.kept hk))
          have HYX := Lib.hid (HX4.out.put n u v)
          have HBY0 := Lib.hid (below_set3 (o1 := 0) (o2 := 1) (o3 := 2) (p := .int .i64 n) (q := u) (r := v) HBD.out HSB.out)
          obtain ⟨s0, s1, s2, t0, t1, t2⟩ := HX4.out.cells
          obtain ⟨au, cu, rfl, -⟩ := lu.out
          obtain ⟨av, cv, rfl, -⟩ := lv.out
          generalize y.s = xs at HLY HYX HBY0 HXL HWB ⊢
          generalize y.f = xf at HLY HYX HBY0 HXL HWB ⊢
          clear lu lv hb4 hk e0 e1 e2 HC HOK HFY
          go_upto_region 6 with (fail)
          generalize ((W4.setCell ⟨W3.heap.size, 0, none⟩ (.int .i64 n)).setCell ⟨W3.heap.size, 1, none⟩ (.slice au xs.length cu)).setCell ⟨W3.heap.size, 2, none⟩ (.slice av xf.length cv) = Y at HLY HYX HBY0 ⊢
          clear s0 s1 s2 t0 t1 t2 HX4 HBD
          obtain ⟨g, hg⟩ : ∃ g, xf ++ zs = g := ⟨_, rfl⟩
          have HGG := Lib.hid hg
          have HGL := Lib.hid (show g.length ≤ 2000400 by rw [← hg, List.length_append]; have := HXL.out; have := HZ.out; omega)
          have HWR := Lib.hid (show writeB bs n zs = ⟨n, xs, g⟩ by rw [HWB.out, hg])
          clear hg
          have hyl := HYX.out.lt
          have hya := below_box Y (.cells #[] 3)
          have HYA := Lib.hid hya
          have HYL := Lib.hid hyl
          have hxa := HYX.out.keep hya
          obtain ⟨r0, r1, r2, -, -, -⟩ := hxa.cells
          have HLVA := Lib.hid (HLY.out.2.keep hya)
          clear hya hyl hxa
          go_upto_region 7 with (at_builtin; first
            | (refine wpList_append_onto rfl _ _ rfl Y.heap.size (.slice a3 xf.length c3) xf rfl HF3.out ab lb cb zs rfl (HBY.out _ HW3.out) (by have := HXL.out; have := HZ.out; omega) HB3.out.size ?_; intro v4 w4 hF4 hb4; rw [HGG.out] at hF4; have HB4 := Lib.hid (HB3.out.trans hb4); have HX4 := Lib.hid (HYX.out.keep HB4.out); have HF4 := Lib.hid hF4; obtain ⟨a4, c4, rfl⟩ := hF4.out; obtain ⟨s0, s1, s2, t0, t1, t2⟩ := HX4.out.cells; clear hF4 hb4)
            | (refine wpList_append_lit rfl _ _ rfl Y.heap.size _ rfl av xf.length cv xf rfl HLVA.out (by have := HXL.out; omega) HYA.out.size ?_; intro v3 w3 hF3 hb3; have HB3 := Lib.hid (below_next HYA.out hb3); have HW3 := Lib.hid (HBY0.out.trans (HB3.out.mono HBY0.out.size)); have HF3 := Lib.hid hF3; obtain ⟨a3, c3, rfl⟩ := hF3.out; clear hF3 hb3))
          have HX5 := Lib.hid (HX4.out.put2 (.slice a4 g.length c4))
          have hk5 := HX4.out.kept1 2 (.slice a4 g.length c4)
          have HB5 := Lib.hid (below_setCell (HBY0.out.trans (HB4.out.mono HBY0.out.size)) ⟨W3.heap.size, 2, none⟩ (.slice a4 g.length c4) HSB.out)
          have HL5 := Lib.hid (And.intro ((HLY.out.1.keep HB4.out).kept hk5) (HF4.out.ls.kept hk5))
          obtain ⟨m0, m1, m2, -, -, -⟩ := HX5.out.cells
          clear hk5 s0 s1 s2 t0 t1 t2 r0 r1 r2
          generalize w4.setCell ⟨W3.heap.size, 2, none⟩ (.slice a4 g.length c4) = w5 at HX5 HB5 HL5 m0 m1 m2 ⊢
          go_wp2_with fail
          refine (l31With_c _ len cap bs n au a4 cu c4 xs g HL.out HS.out (by have := HXL.out; omega) (by have := HGL.out; omega) _ (HN.out.keep HB5.out) HL5.out.1 HL5.out.2).mono ?_
          rintro e W6 ⟨sl, vs, rfl, ho6, hb6⟩
          have HO6 := Lib.hid ho6
          have HB6 := Lib.hid (below_next HB5.out hb6)
          obtain ⟨ra, rc, rfl, hBA, -⟩ := blobs_of ho6.1 ho6.2
          have HBA := Lib.hid hBA
          clear ho6 hb6 hBA m0 m1 m2
          obtain ⟨vd, hvd⟩ : ∃ q, diskV (withB bs ⟨n, xs, g⟩) = q := ⟨_, rfl⟩
          have HVD := Lib.hid hvd
          have HV6 := Lib.hid (show Calls Try.prog 10 #[.slice ra (withB bs ⟨n, xs, g⟩).length rc] W6 (BoolPost vd W6) by rw [← hvd]; exact specDiskValid_c ra _ rc _ (with_short HL.out HN.out.1) (long_with HS.out ⟨(show xs.length ≤ 2097152 by have := HXL.out; omega), (show g.length ≤ 2097152 by have := HGL.out; omega)⟩) W6 HBA.out)
          clear hvd
          generalize hwl : (withB bs ⟨n, xs, g⟩).length = wl at HV6 ⊢
          have HWL := Lib.hid hwl
          clear hwl
          go_wp2_with fail
          refine HV6.out.mono ?_
          rintro e W7 ⟨rfl, hb7⟩
          have HB7 := Lib.hid (below_next HB6.out hb7)
          have HO7 := Lib.hid (HO6.out.below hb7)
          clear hb7
          cases vd with
          | false =>
            have HR := Lib.hid (show diskWrite bs n zs = none by unfold diskWrite; rw [HWR.out, HVD.out]; simp)
            have HB8 := Lib.hid (below_al HB7.out (Nat.le_refl _) (.cells #[] 48))
            go_wp2
            go_ret2
            exact disk_fail HR.out (Nat.zero_le _) (by simp) HB8.out
          | true =>
            have HR := Lib.hid (show diskWrite bs n zs = some (withB bs ⟨n, xs, g⟩) by unfold diskWrite; rw [HWR.out, HVD.out, HQ.out, HPC.out]; simp)
            go_wp2
            go_ret2
            have hO := HO7.out
            rw [HWL.out] at hO
            exact blobs_post HR.out hO HB7.out
        · exact absurd (HFX.out.symm.trans hf) (by simp)
      · have HWB := Lib.hid (show writeB bs n zs = ⟨n, [], [] ++ zs⟩ by unfold writeB; rw [hf]; rfl)
        have HXL := Lib.hid (show ([] : List Int).length ≤ 400 ∧ ([] : List Int).length ≤ 400 by simp)
        have hd0 : decide ((0 : Int) ≤ -1) = false := by decide
        clear hf
        go_upto_region 6 with (fail)
        have HLY := Lib.hid (And.intro (ls_nil X') (ls_nil X'))
        have HYX := HX
        have HBY0 := HB2
        obtain ⟨g, hg⟩ : ∃ g, ([] : List Int) ++ zs = g := ⟨_, rfl⟩
        have HGG := Lib.hid hg
        have HGL := Lib.hid (show g.length ≤ 2000400 by rw [← hg, List.length_append]; have := HXL.out; have := HZ.out; omega)
        have HWR := Lib.hid (show writeB bs n zs = ⟨n, [], g⟩ by rw [HWB.out, hg])
        clear hg
        have hyl := HYX.out.lt
        have hya := below_box X' (.cells #[] 3)
        have HYA := Lib.hid hya
        have HYL := Lib.hid hyl
        have hxa := HYX.out.keep hya
        obtain ⟨r0, r1, r2, -, -, -⟩ := hxa.cells
        have HLVA := Lib.hid (HLY.out.2.keep hya)
        clear hya hyl hxa
        go_upto_region 7 with (at_builtin; first
          | (refine wpList_append_onto rfl _ _ rfl X'.heap.size (.slice a3 0 c3) [] rfl HF3.out ab lb cb zs rfl (HBY.out _ HW3.out) (by have := HXL.out; have := HZ.out; omega) HB3.out.size ?_; intro v4 w4 hF4 hb4; rw [HGG.out] at hF4; have HB4 := Lib.hid (HB3.out.trans hb4); have HX4 := Lib.hid (HYX.out.keep HB4.out); have HF4 := Lib.hid hF4; obtain ⟨a4, c4, rfl⟩ := hF4.out; obtain ⟨s0, s1, s2, t0, t1, t2⟩ := HX4.out.cells; clear hF4 hb4)
          | (refine wpList_append_lit rfl _ _ rfl X'.heap.size _ rfl none 0 0 [] rfl HLVA.out (by have := HXL.out; omega) HYA.out.size ?_; intro v3 w3 hF3 hb3; have HB3 := Lib.hid (below_next HYA.out hb3); have HW3 := Lib.hid (HBY0.out.trans (HB3.out.mono HBY0.out.size)); have HF3 := Lib.hid hF3; obtain ⟨a3, c3, rfl⟩ := hF3.out; clear hF3 hb3))
        have HX5 := Lib.hid (HX4.out.put2 (.slice a4 g.length c4))
        have hk5 := HX4.out.kept1 2 (.slice a4 g.length c4)
        have HB5 := Lib.hid (below_setCell (HBY0.out.trans (HB4.out.mono HBY0.out.size)) ⟨W3.heap.size, 2, none⟩ (.slice a4 g.length c4) HSB.out)
        have HL5 := Lib.hid (And.intro ((HLY.out.1.keep HB4.out).kept hk5) (HF4.out.ls.kept hk5))
        obtain ⟨m0, m1, m2, -, -, -⟩ := HX5.out.cells
        clear hk5 s0 s1 s2 t0 t1 t2 r0 r1 r2
        generalize w4.setCell ⟨W3.heap.size, 2, none⟩ (.slice a4 g.length c4) = w5 at HX5 HB5 HL5 m0 m1 m2 ⊢
        go_wp2_with fail
        refine (l31With_c _ len cap bs n none a4 0 c4 [] g HL.out HS.out (by have := HXL.out; omega) (by have := HGL.out; omega) _ (HN.out.keep HB5.out) HL5.out.1 HL5.out.2).mono ?_
        rintro e W6 ⟨sl, vs, rfl, ho6, hb6⟩
        have HO6 := Lib.hid ho6
        have HB6 := Lib.hid (below_next HB5.out hb6)
        obtain ⟨ra, rc, rfl, hBA, -⟩ := blobs_of ho6.1 ho6.2
        have HBA := Lib.hid hBA
        clear ho6 hb6 hBA m0 m1 m2
        obtain ⟨vd, hvd⟩ : ∃ q, diskV (withB bs ⟨n, [], g⟩) = q := ⟨_, rfl⟩
        have HVD := Lib.hid hvd
        have HV6 := Lib.hid (show Calls Try.prog 10 #[.slice ra (withB bs ⟨n, [], g⟩).length rc] W6 (BoolPost vd W6) by rw [← hvd]; exact specDiskValid_c ra _ rc _ (with_short HL.out HN.out.1) (long_with HS.out ⟨(show ([] : List Int).length ≤ 2097152 by have := HXL.out; omega), (show g.length ≤ 2097152 by have := HGL.out; omega)⟩) W6 HBA.out)
        clear hvd
        generalize hwl : (withB bs ⟨n, [], g⟩).length = wl at HV6 ⊢
        have HWL := Lib.hid hwl
        clear hwl
        go_wp2_with fail
        refine HV6.out.mono ?_
        rintro e W7 ⟨rfl, hb7⟩
        have HB7 := Lib.hid (below_next HB6.out hb7)
        have HO7 := Lib.hid (HO6.out.below hb7)
        clear hb7
        cases vd with
        | false =>
          have HR := Lib.hid (show diskWrite bs n zs = none by unfold diskWrite; rw [HWR.out, HVD.out]; simp)
          have HB8 := Lib.hid (below_al HB7.out (Nat.le_refl _) (.cells #[] 48))
          go_wp2
          go_ret2
          exact disk_fail HR.out (Nat.zero_le _) (by simp) HB8.out
        | true =>
          have HR := Lib.hid (show diskWrite bs n zs = some (withB bs ⟨n, [], g⟩) by unfold diskWrite; rw [HWR.out, HVD.out, HQ.out, HPC.out]; simp)
          go_wp2
          go_ret2
          have hO := HO7.out
          rw [HWL.out] at hO
          exact blobs_post HR.out hO HB7.out

end Go.Proofs.Ytonbkmmddahlfaa
