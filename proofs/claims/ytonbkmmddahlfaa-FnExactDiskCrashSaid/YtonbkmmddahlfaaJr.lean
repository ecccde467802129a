/-
  WALKS: spec.l31With.
-/
import Derived.Maps.AppendAt
import Derived.Test.YtonbkmmddahlfaaJq
namespace Go.Proofs.Ytonbkmmddahlfaa
open Go.RowKit
set_option linter.unusedVariables false

theorem jr_first : (0 : Nat) ≤ 0 := Nat.le_refl 0

/-- append(v, x) at a list of files, with word of where it lies. -/
theorem wpList_append_blob_at {w : World} {ops : Array Oper} {rest : List Oper} {o : Oper} {a : Act} {Q : Exit → Act → World → Prop} (hgd : o.guard = none) (s x : Operand)
    (ho : o.op = .call { callee := .builtin .append, args := #[s, x], argTypes := #[25, 25] })
    (base : Nat) (v : Value) (acc : List Bl) (vs : List Value) (hs : a.eval s = v) (hown : w.ownsRow base 48 3 v acc.length (flatBJ acc vs)) (hvl : vs.length = 2 * acc.length)
    (ad : Addr) (cap : Nat) (y : Bl) (p q : Value) (hx : a.eval x = .slice (some ad) 1 cap) (hc : ∀ j u, [Value.int .i64 y.n, p, q][j]? = some u → w.cell? (ad.add j) = some u) (hp : p.oneCell' = true) (hq : q.oneCell' = true) (hlen : acc.length ≤ 2097152) (hb : base ≤ w.heap.size)
    (h : ∀ v3 w3, w3.ownsRow base 48 3 v3 (acc ++ [y]).length (flatBJ (acc ++ [y]) (vs ++ [p, q])) → w.grownBy w3 v.ownBlock → (v3.ownBlock = v.ownBlock ∨ v3.ownBlock = some w.heap.size) → wpList Try.prog ops Q rest (a.put o.dst v3) w3) : wpList Try.prog ops Q (o :: rest) a w := by
  obtain ⟨i0, hi0, hz0, hz1, hz2⟩ := info_parts infoBlob
  refine wpList_append_own_at _ hgd s x 25 ho base 48 i0 (.agg #[.int .i64 0, .slice none 0 0, .slice none 0 0]) 3 56 Try.underlying25 hi0 hz0 hz1 hz2 rfl (by decide) v acc.length _ hs hown ad 1 cap [.int .i64 y.n, p, q] hx rfl hc (fun u hu => ?_) (by unfold maxLen; omega) (by omega) hb fun v' w' h1 h2 _ h4 => h v' w' ?_ h2 h4
  · simp at hu
    rcases hu with rfl | rfl | rfl
    · rfl
    · exact hp
    · exact hq
  · rw [flatB_append acc vs [y] [p, q] hvl, List.length_append]
    exact h1

/-! ## Putting a file into its place -/

def anyGt (b : Bl) (l : List Bl) : Bool := l.any (fun c => decide (b.n < c.n))
theorem ins_none {b : Bl} : ∀ {l : List Bl}, anyGt b l = false → insB b l = l ++ [b]
  | [], _ => rfl
  | c :: r, h => by
    unfold anyGt at h
    simp only [List.any_cons, Bool.or_eq_false_iff, decide_eq_false_iff_not] at h
    unfold insB
    rw [if_neg h.1, ins_none h.2]
    rfl
theorem ins_snoc {b c : Bl} : ∀ {l : List Bl}, anyGt b l = true → insB b (l ++ [c]) = insB b l ++ [c]
  | [], h => by simp [anyGt] at h
  | d :: r, h => by
    rw [List.cons_append]
    by_cases hd : b.n < d.n
    · simp [insB, hd]
    · have : anyGt b r = true := by
        unfold anyGt at h ⊢
        simpa [hd] using h
      simp only [insB, if_neg hd, ins_snoc this, List.cons_append]
theorem ins_here {b c : Bl} : ∀ {l : List Bl}, anyGt b l = false → b.n < c.n → insB b (l ++ [c]) = l ++ [b, c]
  | [], _, hc => by simp [insB, hc]
  | d :: r, h, hc => by
    unfold anyGt at h
    simp only [List.any_cons, Bool.or_eq_false_iff, decide_eq_false_iff_not] at h
    rw [List.cons_append]
    simp only [insB, if_neg h.1, ins_here h.2 hc, List.cons_append]
theorem gt_snoc (b c : Bl) (l : List Bl) : anyGt b (l ++ [c]) = (anyGt b l || decide (b.n < c.n)) := by
  unfold anyGt
  rw [List.any_append]
  simp
/-- What the loop has made of the first files. -/
def midB (b : Bl) (l : List Bl) : List Bl := if anyGt b l = true then insB b l else l
theorem mid_lenJ (b : Bl) (l : List Bl) : (midB b l).length ≤ l.length + 1 := by
  unfold midB
  by_cases h : anyGt b l = true
  · rw [if_pos h]
    clear h
    induction l with
    | nil => simp [insB]
    | cons c r ih => unfold insB; split <;> simp; omega
  · rw [if_neg h]; omega

def ApartB (o r : Value) : Prop := ∀ k, o.ownBlock = some k → r.ownBlock ≠ some k

def WithRel (b : Bl) (ub vb : Value) (R : List Bl) (rv : Value) (bse : Nat) (vsR : List Value) (W : World) (o dn k : Value) (wr : World) : Prop :=
  ∃ (i : Nat) (vs : List Value), k = .int .i64 i ∧ dn = .bool (anyGt b (R.take i)) ∧ i ≤ R.length ∧ Hid (OwnsB2 wr (W.heap.size + 1) o (midB b (R.take i)) vs) ∧ Hid (OwnsB2 wr bse rv R vsR) ∧ Hid (ApartB o rv) ∧ Hid (Below W.heap.size W wr) ∧ Hid (BBox wr W.heap.size b.n ub vb)

theorem other_grown {w w3 : World} {b1 b2 : Nat} {o rv : Value} {R bs : List Bl} {vsR vs : List Value} (hR : OwnsB2 w b1 rv R vsR) (hO : OwnsB2 w b2 o bs vs) (ha : ApartB o rv) (hg : w.grownBy w3 o.ownBlock) : OwnsB2 w3 b1 rv R vsR :=
  ⟨own_farT hR.1 hg (fun k e1 e2 => ha k e2 e1), hR.2.kept (IntKept.of_own hO.1 (by decide) hg)⟩
theorem apart_next {w : World} {b1 : Nat} {o v3 rv : Value} {R : List Bl} {vsR : List Value} (hR : OwnsB2 w b1 rv R vsR) (ha : ApartB o rv) (h : v3.ownBlock = o.ownBlock ∨ v3.ownBlock = some w.heap.size) : ApartB v3 rv := by
  intro k e1 e2
  rcases h with h | h
  · exact ha k (h.symm.trans e1) e2
  · have h2 := (hR.1.lt k e2).2
    rw [h] at e1
    cases e1
    omega

theorem BBox.grown {w w3 : World} {c : Nat} {n : Int} {u v o : Value} {bs : List Bl} {vs : List Value} (h : BBox w c n u v) (hO : OwnsB2 w (c + 1) o bs vs) (hg : w.grownBy w3 o.ownBlock) : BBox w3 c n u v := by
  refine (hg.block c h.lt (fun e => ?_)).trans h
  have := (hO.1.lt c e.symm).1
  omega
theorem below_grownB {W w w3 : World} {o : Value} {bs : List Bl} {vs : List Value} {n : Nat} (h : Below n W w) (hO : OwnsB2 w (n + 1) o bs vs) (hn : n ≤ W.heap.size) (hg : w.grownBy w3 o.ownBlock) : Below n W w3 :=
  h.grown hg (Nat.le_trans hn h.size) (fun k e => by have := (hO.1.lt k e).1; omega)

set_option maxHeartbeats 4000000 in
set_option maxRecDepth 100000 in
theorem l31With_c (a : Option Addr) (len cap : Nat) (bs : List Bl) (n : Int) (a1 a2 : Option Addr) (c1 c2 : Nat) (s f : List Int) (hl : len ≤ 2000000) (hs : ∀ b ∈ bs, b.s.length ≤ 2097152 ∧ b.f.length ≤ 2097152) (hss : s.length ≤ 2097152) (hff : f.length ≤ 2097152) (W : World) (hN : BlobsAt W a len bs) (h1 : LsAt W (.slice a1 s.length c1) s) (h2 : LsAt W (.slice a2 f.length c2) f) :
    Calls Try.prog 41 #[.slice a len cap, .agg #[.int .i64 n, .slice a1 s.length c1, .slice a2 f.length c2]] W (BlobsPost (withB bs ⟨n, s, f⟩) W) := by
  have hb := below_box W (.cells #[.int .i64 n, .slice a1 s.length c1, .slice a2 f.length c2] 48)
  have hb2 := below_next hb (below_box (W.alloc (.cells #[.int .i64 n, .slice a1 s.length c1, .slice a2 f.length c2] 48)) (.cells #[] 48))
  have HB := Lib.hid hb2
  have HX := Lib.hid ((bbox_new W n (.slice a1 s.length c1) (.slice a2 f.length c2)).keep (below_box _ (.cells #[] 48)))
  have HO := Lib.hid (show OwnsB2 ((W.alloc (.cells #[.int .i64 n, .slice a1 s.length c1, .slice a2 f.length c2] 48)).alloc (.cells #[] 48)) (W.heap.size + 1) (.slice (some ⟨W.heap.size + 1, 0, none⟩) 0 0) [] [] by
    have := ownsB2_lit (W.alloc (.cells #[.int .i64 n, .slice a1 s.length c1, .slice a2 f.length c2] 48)) (base := W.heap.size + 1) (by rw [World.size_alloc]; exact Nat.le_refl _)
    rwa [World.size_alloc] at this)
  have HW := Lib.hid (fun w (hw : Below W.heap.size W w) => l31Without_c a len cap bs n (by omega) hs w (hN.keep hw))
  have HC := Lib.hid (fun w (hw : Below W.heap.size W w) => l31Copy_c n a1 a2 c1 c2 s f hss hff w (h1.keep hw) (h2.keep hw))
  have HRL := Lib.hid (show (withoutB bs n).length ≤ 2000000 by have := withoutB_len bs n; have := hN.1; omega)
  generalize s.length = ls at HB HX HO HC ⊢
  generalize f.length = lf at HB HX HO HC ⊢
  clear hN hs hb hb2 h1 h2 hss hff hl
  go_enter Try.func41, Try.ntmps41
  go_wp2_with fail
  generalize (W.alloc (.cells #[.int .i64 n, .slice a1 ls c1, .slice a2 lf c2] 48)).alloc (.cells #[] 48) = X at HX HO HB ⊢
  refine (HW.out _ HB.out).mono ?_
  rintro e W1 ⟨rv, vsR, rfl, hR, hb1⟩
  have HR := Lib.hid hR
  have HB1 := Lib.hid (below_next HB.out hb1)
  have HO1 := Lib.hid (HO.out.below hb1)
  have HX1 := Lib.hid (HX.out.keep hb1)
  have HAP := Lib.hid (show ApartB (.slice (some ⟨W.heap.size + 1, 0, none⟩) 0 0) rv from fun k e1 e2 => by
    have h1 := (HO.out.1.lt k e1).2
    have h2 := (hR.1.lt k e2).1
    omega)
  obtain ⟨ra, rc, rfl, hBR, -⟩ := blobs_of hR.1 hR.2
  clear hR hb1 hBR
  generalize hRR : withoutB bs n = R at HR HAP HRL ⊢
  have HRR := Lib.hid hRR
  clear hRR
  obtain ⟨rl, hrl⟩ : ∃ x, R.length = x := ⟨_, rfl⟩
  have HRLE := Lib.hid hrl
  rw [hrl] at HAP HR ⊢
  have hrl' : (rl : Int) ≤ 2000000 := by have := HRL.out; omega
  clear hrl
  go_wp2
  go_loopw [5, 7, 8] (fun o dn k wr => WithRel ⟨n, s, f⟩ (.slice a1 ls c1) (.slice a2 lf c2) R (.slice ra rl rc) X.heap.size vsR W o dn k wr) (fun _ _ k _ => rl - (intOf k).toNat)
  case atStart => exact ⟨0, [], rfl, rfl, Nat.zero_le _, HO1.out, HR.out, HAP.out, HB1.out, HX1.out⟩
  case round =>
    obtain ⟨i, vs, rfl, rfl, hi, HOW, HRW, HAW, HBW, HXW⟩ := hrel
    obtain ⟨x0, x1, x2, -, -, -⟩ := HXW.out.cells
    obtain ⟨dn, hdn⟩ : ∃ q, anyGt ⟨n, s, f⟩ (R.take i) = q := ⟨_, rfl⟩
    have HDN := Lib.hid hdn
    rw [hdn]
    clear hdn
    by_cases hlt : i < rl
    · have hlt' : (i : Int) < rl := by omega
      have hi0 : (0 : Int) ≤ i := by omega
      have HLT := Lib.hid hlt
      obtain ⟨ra', rc', he, hBA, -⟩ := blobs_of HRW.out.1 HRW.out.2
      injection he with h1 h2 h3
      subst h1
      clear h2 h3
      obtain ⟨b, off, x, d1, e1, d2, e2, rfl, hx, y0, y1, y2, l1, l2⟩ := hBA.at2 (i := i) (by have := HRLE.out; omega)
      have HXX := Lib.hid hx
      have HL1 := Lib.hid (And.intro l1 l2)
      have HTK := Lib.hid (takeB_next hx)
      have HML := Lib.hid (show (midB ⟨n, s, f⟩ (R.take i)).length ≤ 2000002 by have := mid_lenJ ⟨n, s, f⟩ (R.take i); rw [List.length_take] at this; have := HRL.out; omega)
      generalize hxn : x.n = xn at y0
      generalize hxs : x.s.length = xs at y1 HL1
      generalize hxf : x.f.length = xf at y2 HL1
      have HXN := Lib.hid hxn
      clear hBA hx l1 l2 hxn hxs hxf hlt hi
      cases dn with
      | true =>
        have HMN := Lib.hid (show midB ⟨n, s, f⟩ (R.take i) ++ [x] = midB ⟨n, s, f⟩ (R.take (i + 1)) by
          unfold midB
          rw [HTK.out, gt_snoc, HDN.out, ins_snoc HDN.out]
          simp)
        have HGN := Lib.hid (show anyGt ⟨n, s, f⟩ (R.take (i + 1)) = true by rw [HTK.out, gt_snoc, HDN.out]; rfl)
        go_upto_region 7 with (fail)
        go_quiet (fail)
        have hq := drewN_below wr nq
        have HOQ := Lib.hid (HOW.out.below hq)
        have HRQ := Lib.hid (HRW.out.below hq)
        have HBQ := Lib.hid (HBW.out.trans (hq.mono HBW.out.size))
        have HXQ := Lib.hid (HXW.out.keep hq)
        have HLQ := Lib.hid (And.intro (HL1.out.1.keep hq) (HL1.out.2.keep hq))
        replace y0 := cell_kept hq y0
        replace y1 := cell_kept hq y1
        replace y2 := cell_kept hq y2
        clear hq x0 x1 x2
        generalize wr.drewN nq = wq at HOQ HRQ HBQ HXQ HLQ y0 y1 y2 ⊢
        have hbx := below_box wq (.cells #[.int .i64 xn, .slice d1 xs e1, .slice d2 xf e2] 48)
        have HO3 := Lib.hid (HOQ.out.below hbx)
        have HR3 := Lib.hid (HRQ.out.below hbx)
        have HX3 := Lib.hid (HXQ.out.keep hbx)
        have HL3 := Lib.hid (And.intro (HLQ.out.1.keep hbx) (HLQ.out.2.keep hbx))
        have HB3 := Lib.hid (HBQ.out.trans (hbx.mono HBQ.out.size))
        have HS3 := Lib.hid (show W.heap.size + 1 ≤ (wq.alloc (.cells #[.int .i64 xn, .slice d1 xs e1, .slice d2 xf e2] 48)).heap.size by have := HBQ.out.size; rw [World.size_alloc]; omega)
        clear hbx
        go_wp2_with (at_builtin; (refine wpList_append_blob_at rfl _ _ rfl (W.heap.size + 1) _ (midB ⟨n, s, f⟩ (R.take i)) vs rfl HO3.out.1 HO3.out.vlen ⟨wq.heap.size, 0, none⟩ 1 ⟨xn, x.s, x.f⟩ (.slice d1 xs e1) (.slice d2 xf e2) rfl (cell_three_newJ _ _ _ _ _) rfl rfl (by have := HML.out; omega) HS3.out ?_); intro v5 w5 ho5 hg5 hw5)
        have hxx : (⟨xn, x.s, x.f⟩ : Bl) = x := by rw [← HXN.out]
        rw [hxx] at ho5
        have hO5 := HO3.out.grown HL3.out.1 HL3.out.2 ho5 hg5
        have hR5 := other_grown HR3.out HO3.out HAW.out hg5
        have hA5 := apart_next HR3.out HAW.out hw5
        have hB5 := below_grownB HB3.out HO3.out (Nat.le_refl _) hg5
        have hX5 := HX3.out.grown HO3.out hg5
        rw [HMN.out] at hO5
        go_roundw
        case rel => exact ⟨i + 1, _, by go_num, by rw [HGN.out], by have := HLT.out; have := HRLE.out; omega, Lib.hid hO5, Lib.hid hR5, Lib.hid hA5, Lib.hid hB5, Lib.hid hX5⟩
        case measure => have := HLT.out; simp [intOf]; omega
      | false =>
        have HMI := Lib.hid (show midB ⟨n, s, f⟩ (R.take i) = R.take i by unfold midB; rw [HDN.out]; simp)
        by_cases hc : n < xn
        · have hcd : decide (n < xn) = true := decide_eq_true hc
          have HMN := Lib.hid (show (midB ⟨n, s, f⟩ (R.take i) ++ [⟨n, s, f⟩]) ++ [x] = midB ⟨n, s, f⟩ (R.take (i + 1)) by
            have hg : anyGt ⟨n, s, f⟩ (R.take i ++ [x]) = true := by rw [gt_snoc, HXN.out, hcd]; simp
            rw [HMI.out, HTK.out, List.append_assoc]
            unfold midB
            rw [if_pos hg, ins_here HDN.out (by rw [HXN.out]; exact hc)]
            rfl)
          have HGN := Lib.hid (show anyGt ⟨n, s, f⟩ (R.take (i + 1)) = true by rw [HTK.out, gt_snoc, HXN.out, hcd]; simp)
          go_upto_region 7 with (fail)
          go_quiet (fail)
          have hq := drewN_below wr nq
          have HOQ := Lib.hid (HOW.out.below hq)
          have HRQ := Lib.hid (HRW.out.below hq)
          have HBQ := Lib.hid (HBW.out.trans (hq.mono HBW.out.size))
          have HXQ := Lib.hid (HXW.out.keep hq)
          have HLQ := Lib.hid (And.intro (HL1.out.1.keep hq) (HL1.out.2.keep hq))
          replace y0 := cell_kept hq y0
          replace y1 := cell_kept hq y1
          replace y2 := cell_kept hq y2
          clear hq x0 x1 x2
          generalize wr.drewN nq = wq at HOQ HRQ HBQ HXQ HLQ y0 y1 y2 ⊢
          obtain ⟨x0, x1, x2, -, -, -⟩ := HXQ.out.cells
          go_wp2_with fail
          refine (HC.out _ HBQ.out).mono ?_
          rintro e W2 ⟨u, v, rfl, lu, lv, hb2⟩
          have HO2 := Lib.hid (HOQ.out.below hb2)
          have HR2 := Lib.hid (HRQ.out.below hb2)
          have HX2 := Lib.hid (HXQ.out.keep hb2)
          have HL2 := Lib.hid (And.intro (HLQ.out.1.keep hb2) (HLQ.out.2.keep hb2))
          have HB2 := Lib.hid (HBQ.out.trans (hb2.mono HBQ.out.size))
          have HLU := Lib.hid (And.intro lu lv)
          obtain ⟨au, cu, rfl, -⟩ := lu.out
          obtain ⟨av, cv, rfl, -⟩ := lv.out
          have z0 := cell_kept hb2 y0
          have z1 := cell_kept hb2 y1
          have z2 := cell_kept hb2 y2
          have hbx := below_box W2 (.cells #[.int .i64 n, .slice au s.length cu, .slice av f.length cv] 48)
          have HO3 := Lib.hid (HO2.out.below hbx)
          have HR3 := Lib.hid (HR2.out.below hbx)
          have HX3 := Lib.hid (HX2.out.keep hbx)
          have HL3 := Lib.hid (And.intro (HL2.out.1.keep hbx) (HL2.out.2.keep hbx))
          have HU3 := Lib.hid (And.intro (HLU.out.1.keep hbx) (HLU.out.2.keep hbx))
          have HB3 := Lib.hid (HB2.out.trans (hbx.mono HB2.out.size))
          have HS3 := Lib.hid (show W.heap.size + 1 ≤ (W2.alloc (.cells #[.int .i64 n, .slice au s.length cu, .slice av f.length cv] 48)).heap.size by have := HB2.out.size; rw [World.size_alloc]; omega)
          clear hbx lu lv hb2 x0 x1 x2 y0 y1 y2 z0 z1 z2
          go_upto_region 10 with (at_builtin; (refine wpList_append_blob_at rfl _ _ rfl (W.heap.size + 1) _ (midB ⟨n, s, f⟩ (R.take i)) vs rfl HO3.out.1 HO3.out.vlen ⟨W2.heap.size, 0, none⟩ 1 ⟨n, s, f⟩ (.slice au s.length cu) (.slice av f.length cv) rfl (cell_three_newJ _ _ _ _ _) rfl rfl (by have := HML.out; omega) HS3.out ?_); intro v4 w4 ho4 hg4 hw4)
          have HO4 := Lib.hid (HO3.out.grown HU3.out.1 HU3.out.2 ho4 hg4)
          have HR4 := Lib.hid (other_grown HR3.out HO3.out HAW.out hg4)
          have HA4 := Lib.hid (apart_next HR3.out HAW.out hw4)
          have HB4 := Lib.hid (below_grownB HB3.out HO3.out (Nat.le_refl _) hg4)
          have HX4 := Lib.hid (HX3.out.grown HO3.out hg4)
          clear ho4 hg4 hw4 HO3 HR3 HX3 HL3 HB3 HS3 HU3
          obtain ⟨ra', rc', he, hBA, -⟩ := blobs_of HR4.out.1 HR4.out.2
          injection he with h1 h2 h3
          subst h1
          clear h2 h3
          obtain ⟨b', off', x', d1, e1, d2, e2, he, hx, y0, y1, y2, l1, l2⟩ := hBA.at2 (i := i) (by have := HRLE.out; have := HLT.out; omega)
          injection he with h1
          injection h1 with h1 h2
          subst h1
          subst h2
          rw [HXX.out] at hx
          obtain rfl := Option.some.inj hx
          rw [HXN.out] at y0
          have HL4 := Lib.hid (And.intro l1 l2)
          generalize x.s.length = xs at y1 HL4
          generalize x.f.length = xf at y2 HL4
          clear hBA hx l1 l2
          have hbx := below_box w4 (.cells #[.int .i64 xn, .slice d1 xs e1, .slice d2 xf e2] 48)
          have HO3 := Lib.hid (HO4.out.below hbx)
          have HR3 := Lib.hid (HR4.out.below hbx)
          have HX3 := Lib.hid (HX4.out.keep hbx)
          have HL3 := Lib.hid (And.intro (HL4.out.1.keep hbx) (HL4.out.2.keep hbx))
          have HB3 := Lib.hid (HB4.out.trans (hbx.mono HB4.out.size))
          have HS3 := Lib.hid (show W.heap.size + 1 ≤ (w4.alloc (.cells #[.int .i64 xn, .slice d1 xs e1, .slice d2 xf e2] 48)).heap.size by have := HB4.out.size; rw [World.size_alloc]; omega)
          clear hbx
          go_wp2_with (at_builtin; (refine wpList_append_blob_at rfl _ _ rfl (W.heap.size + 1) v4 (midB ⟨n, s, f⟩ (R.take i) ++ [⟨n, s, f⟩]) (vs ++ [.slice au s.length cu, .slice av f.length cv]) rfl HO3.out.1 HO3.out.vlen ⟨w4.heap.size, 0, none⟩ 1 ⟨xn, x.s, x.f⟩ (.slice d1 xs e1) (.slice d2 xf e2) rfl (cell_three_newJ _ _ _ _ _) rfl rfl (by have h9 := HML.out; rw [List.length_append, List.length_singleton]; omega) HS3.out ?_); intro v5 w5 ho5 hg5 hw5)
          have hxx : (⟨xn, x.s, x.f⟩ : Bl) = x := by rw [← HXN.out]
          rw [hxx] at ho5
          have hO5 := HO3.out.grown HL3.out.1 HL3.out.2 ho5 hg5
          have hR5 := other_grown HR3.out HO3.out HA4.out hg5
          have hA5 := apart_next HR3.out HA4.out hw5
          have hB5 := below_grownB HB3.out HO3.out (Nat.le_refl _) hg5
          have hX5 := HX3.out.grown HO3.out hg5
          rw [HMN.out] at hO5
          go_roundw
          case rel => exact ⟨i + 1, _, by go_num, by rw [HGN.out], by have := HLT.out; have := HRLE.out; omega, Lib.hid hO5, Lib.hid hR5, Lib.hid hA5, Lib.hid hB5, Lib.hid hX5⟩
          case measure => have := HLT.out; simp [intOf]; omega
        · have hcd : decide (n < xn) = false := decide_eq_false hc
          have hc' : xn ≤ n := by omega
          have HMN := Lib.hid (show midB ⟨n, s, f⟩ (R.take i) ++ [x] = midB ⟨n, s, f⟩ (R.take (i + 1)) by
            have hg : anyGt ⟨n, s, f⟩ (R.take i ++ [x]) = false := by rw [gt_snoc, HXN.out, hcd, HDN.out]; rfl
            rw [HMI.out, HTK.out]
            unfold midB
            rw [if_neg (by rw [hg]; simp)])
          have HGN := Lib.hid (show anyGt ⟨n, s, f⟩ (R.take (i + 1)) = false by rw [HTK.out, gt_snoc, HXN.out, hcd, HDN.out]; rfl)
          clear hc
          go_upto_region 7 with (fail)
          go_quiet (fail)
          have hq := drewN_below wr nq
          have HOQ := Lib.hid (HOW.out.below hq)
          have HRQ := Lib.hid (HRW.out.below hq)
          have HBQ := Lib.hid (HBW.out.trans (hq.mono HBW.out.size))
          have HXQ := Lib.hid (HXW.out.keep hq)
          have HLQ := Lib.hid (And.intro (HL1.out.1.keep hq) (HL1.out.2.keep hq))
          replace y0 := cell_kept hq y0
          replace y1 := cell_kept hq y1
          replace y2 := cell_kept hq y2
          clear hq x0 x1 x2
          generalize wr.drewN nq = wq at HOQ HRQ HBQ HXQ HLQ y0 y1 y2 ⊢
          have hbx := below_box wq (.cells #[.int .i64 xn, .slice d1 xs e1, .slice d2 xf e2] 48)
          have HO3 := Lib.hid (HOQ.out.below hbx)
          have HR3 := Lib.hid (HRQ.out.below hbx)
          have HX3 := Lib.hid (HXQ.out.keep hbx)
          have HL3 := Lib.hid (And.intro (HLQ.out.1.keep hbx) (HLQ.out.2.keep hbx))
          have HB3 := Lib.hid (HBQ.out.trans (hbx.mono HBQ.out.size))
          have HS3 := Lib.hid (show W.heap.size + 1 ≤ (wq.alloc (.cells #[.int .i64 xn, .slice d1 xs e1, .slice d2 xf e2] 48)).heap.size by have := HBQ.out.size; rw [World.size_alloc]; omega)
          clear hbx
          go_wp2_with (at_builtin; (refine wpList_append_blob_at rfl _ _ rfl (W.heap.size + 1) _ (midB ⟨n, s, f⟩ (R.take i)) vs rfl HO3.out.1 HO3.out.vlen ⟨wq.heap.size, 0, none⟩ 1 ⟨xn, x.s, x.f⟩ (.slice d1 xs e1) (.slice d2 xf e2) rfl (cell_three_newJ _ _ _ _ _) rfl rfl (by have := HML.out; omega) HS3.out ?_); intro v5 w5 ho5 hg5 hw5)
          have hxx : (⟨xn, x.s, x.f⟩ : Bl) = x := by rw [← HXN.out]
          rw [hxx] at ho5
          have hO5 := HO3.out.grown HL3.out.1 HL3.out.2 ho5 hg5
          have hR5 := other_grown HR3.out HO3.out HAW.out hg5
          have hA5 := apart_next HR3.out HAW.out hw5
          have hB5 := below_grownB HB3.out HO3.out (Nat.le_refl _) hg5
          have hX5 := HX3.out.grown HO3.out hg5
          rw [HMN.out] at hO5
          go_roundw
          case rel => exact ⟨i + 1, _, by go_num, by rw [HGN.out], by have := HLT.out; have := HRLE.out; omega, Lib.hid hO5, Lib.hid hR5, Lib.hid hA5, Lib.hid hB5, Lib.hid hX5⟩
          case measure => have := HLT.out; simp [intOf]; omega
    · have hge : (rl : Int) ≤ i := by omega
      have htk : R.take i = R := List.take_of_length_le (by have := HRLE.out; omega)
      rw [htk] at HOW HDN
      have HWB := Lib.hid (show withB bs ⟨n, s, f⟩ = insB ⟨n, s, f⟩ R by unfold withB; rw [HRR.out])
      clear hlt hi htk
      cases dn with
      | true =>
        have HMD := Lib.hid (show midB ⟨n, s, f⟩ R = withB bs ⟨n, s, f⟩ by rw [HWB.out]; unfold midB; rw [if_pos HDN.out])
        have HO5 := Lib.hid (show OwnsB2 wr W.heap.size u5 (withB bs ⟨n, s, f⟩) vs by rw [← HMD.out]; exact ⟨own_mono1 HOW.out.1 (Nat.le_succ _), HOW.out.2⟩)
        go_wp2
        refine bodyPost_ret (v := u5) (by simp [results, Try.f41, go_sem]) rfl ⟨_, vs, rfl, HO5.out, HBW.out⟩
      | false =>
        have HMI := Lib.hid (show midB ⟨n, s, f⟩ R = R by unfold midB; rw [HDN.out]; simp)
        have HMD := Lib.hid (show midB ⟨n, s, f⟩ R ++ [⟨n, s, f⟩] = withB bs ⟨n, s, f⟩ by rw [HWB.out, HMI.out, ins_none HDN.out])
        go_wp2_with fail
        refine (HC.out _ HBW.out).mono ?_
        rintro e W2 ⟨u, v, rfl, lu, lv, hb2⟩
        have HO2 := Lib.hid (HOW.out.below hb2)
        have HB2 := Lib.hid (HBW.out.trans (hb2.mono HBW.out.size))
        have HLU := Lib.hid (And.intro lu lv)
        obtain ⟨au, cu, rfl, -⟩ := lu.out
        obtain ⟨av, cv, rfl, -⟩ := lv.out
        have hbx := below_box W2 (.cells #[.int .i64 n, .slice au s.length cu, .slice av f.length cv] 48)
        have HO3 := Lib.hid (HO2.out.below hbx)
        have HU3 := Lib.hid (And.intro (HLU.out.1.keep hbx) (HLU.out.2.keep hbx))
        have HB3 := Lib.hid (HB2.out.trans (hbx.mono HB2.out.size))
        have HS3 := Lib.hid (show W.heap.size + 1 ≤ (W2.alloc (.cells #[.int .i64 n, .slice au s.length cu, .slice av f.length cv] 48)).heap.size by have := HB2.out.size; rw [World.size_alloc]; omega)
        have HML := Lib.hid (show (midB ⟨n, s, f⟩ R).length ≤ 2097152 by rw [HMI.out]; have := HRL.out; omega)
        clear hbx lu lv hb2 x0 x1 x2
        go_wp2_with (at_builtin; (refine wpList_append_blob_at rfl _ _ rfl (W.heap.size + 1) _ (midB ⟨n, s, f⟩ R) vs rfl HO3.out.1 HO3.out.vlen ⟨W2.heap.size, 0, none⟩ 1 ⟨n, s, f⟩ (.slice au s.length cu) (.slice av f.length cv) rfl (cell_three_newJ _ _ _ _ _) rfl rfl HML.out HS3.out ?_); intro v4 w4 ho4 hg4 hw4)
        have hO4 := HO3.out.grown HU3.out.1 HU3.out.2 ho4 hg4
        have hB4 := below_grownB HB3.out HO3.out (Nat.le_refl _) hg4
        rw [HMD.out] at hO4
        refine bodyPost_ret (v := v4) (by simp [results, Try.f41, go_sem]) rfl ⟨_, _, rfl, ⟨own_mono1 hO4.1 (Nat.le_succ _), hO4.2⟩, hB4⟩

end Go.Proofs.Ytonbkmmddahlfaa
