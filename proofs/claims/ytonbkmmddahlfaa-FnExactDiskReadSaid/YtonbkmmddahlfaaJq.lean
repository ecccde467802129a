/-
  WALKS: spec.l31All, l31Without, l31With.
-/
import Derived.Test.YtonbkmmddahlfaaJp
namespace Go.Proofs.Ytonbkmmddahlfaa
open Go.RowKit
set_option linter.unusedVariables false

theorem jq_first : (0 : Nat) ≤ 0 := Nat.le_refl 0

/-- What l31All tells. -/
def AllPost (zs : List Int) (W : World) (e : Ending) (w' : World) : Prop := ∃ v, e = .returned v ∧ LsAt w' v zs ∧ Below W.heap.size W w'

set_option maxHeartbeats 4000000 in
set_option maxRecDepth 100000 in
theorem l31All_c (n : Int) (a1 a2 : Option Addr) (c1 c2 : Nat) (s f : List Int) (hs : s.length + f.length ≤ 2097152) (W : World) (h1 : LsAt W (.slice a1 s.length c1) s) (h2 : LsAt W (.slice a2 f.length c2) f) :
    Calls Try.prog 37 #[.agg #[.int .i64 n, .slice a1 s.length c1, .slice a2 f.length c2]] W (AllPost (s ++ f) W) := by
  have hb := below_box W (.cells #[.int .i64 n, .slice a1 s.length c1, .slice a2 f.length c2] 48)
  have HB := Lib.hid hb
  have HX := Lib.hid (bbox_new W n (.slice a1 s.length c1) (.slice a2 f.length c2))
  have HS := Lib.hid h1
  have HK := Lib.hid h2
  have HSS := Lib.hid hs
  obtain ⟨ls, hls⟩ : ∃ x, s.length = x := ⟨_, rfl⟩
  obtain ⟨lf, hlf⟩ : ∃ x, f.length = x := ⟨_, rfl⟩
  rw [hls] at HB HX HS ⊢
  rw [hlf] at HB HX HK ⊢
  clear h1 h2 hb hls hlf hs
  go_enter Try.func37, Try.ntmps37
  go_wp2
  generalize hX : W.alloc (.cells #[.int .i64 n, .slice a1 ls c1, .slice a2 lf c2] 48) = X at HX HB ⊢
  have HSX := Lib.hid (fun W' (hb : Below X.heap.size X W') => (HS.out.keep HB.out).keep hb)
  have HKX := Lib.hid (fun W' (hb : Below X.heap.size X W') => (HK.out.keep HB.out).keep hb)
  clear hX HS HK
  obtain ⟨x0, x1, x2, -, -, -⟩ := HX.out.cells
  have HS0 := Lib.hid (show X.cell? ⟨W.heap.size, 1, none⟩ = some (.slice a1 ls c1) ∧ X.cell? ⟨W.heap.size, 2, none⟩ = some (.slice a2 lf c2) from ⟨x1, x2⟩)
  have HKP := Lib.hid (fun (u2 : World) (hb : Below X.heap.size X u2) => show u2.cell? ⟨W.heap.size, 1, none⟩ = some (.slice a1 ls c1) ∧ u2.cell? ⟨W.heap.size, 2, none⟩ = some (.slice a2 lf c2) from ⟨cell_kept hb HS0.out.1, cell_kept hb HS0.out.2⟩)
  clear x0 x1 x2
  go_region_held3 (fun w' => w'.cell? ⟨W.heap.size, 1, none⟩ = some (.slice a1 ls c1) ∧ w'.cell? ⟨W.heap.size, 2, none⟩ = some (.slice a2 lf c2))
    (first | exact HKP.out _ (by (repeat (first | exact Below.refl _ _ | exact HB4.out | exact HB3.out | apply Below.drew | refine below_al ?_ (Nat.le_refl _) _))))
    (first
      | (rw [if_pos (by rfl)]; refine wp_append_lit _ _ rfl X.heap.size _ rfl a1 ls c1 s rfl (HSX.out _ (by (repeat (first | exact Below.refl _ _ | apply Below.drew | refine below_al ?_ (Nat.le_refl _) _)))) (by have := HSS.out; omega) (Below.size (w := X) (by (repeat (first | exact Below.refl X.heap.size _ | apply Below.drew | refine below_al ?_ (Nat.le_refl _) _)))) ?_; intro v3 w3 hF3 hb3; have HB3 := Lib.hid (below_next (show Below X.heap.size X _ by (repeat (first | exact Below.refl _ _ | apply Below.drew | refine below_al ?_ (Nat.le_refl _) _))) hb3); have HF3 := Lib.hid hF3; obtain ⟨a3, c3, rfl⟩ := hF3.out; clear hF3 hb3)
      | (rw [if_pos (by rfl)]; refine wp_append_onto _ _ rfl X.heap.size (.slice a3 s.length c3) s rfl (HF3.out) a2 lf c2 f rfl (HKX.out _ HB3.out) HSS.out HB3.out.size ?_; intro v4 w4 hF4 hb4; have HB4 := Lib.hid (HB3.out.trans hb4); have HF4 := Lib.hid hF4; obtain ⟨a4, c4, rfl⟩ := hF4.out; clear hF4 hb4))
  all_goals
    rename_i hS
    clear hS
    have hF := HF4.out.ls
    rw [List.length_append] at hF
    have HL := Lib.hid hF
    clear hF
    go_wp2
    refine bodyPost_ret (v := .slice a4 (s.length + f.length) c4) (by simp [results, Try.f37, go_sem]) rfl ⟨_, rfl, HL.out, HB.out.trans (HB4.out.mono HB.out.size)⟩

theorem withoutB_next {bs : List Bl} {i : Nat} {x : Bl} (h : bs[i]? = some x) (n : Int) : withoutB (bs.take (i + 1)) n = if x.n = n then withoutB (bs.take i) n else withoutB (bs.take i) n ++ [x] := by
  unfold withoutB
  rw [takeB_next h, List.filter_append]
  by_cases hx : x.n = n
  · rw [if_pos hx]; simp [hx]
  · rw [if_neg hx]; simp [hx]
theorem withoutB_len (bs : List Bl) (n : Int) : (withoutB bs n).length ≤ bs.length := List.length_filter_le _ _

theorem LsAll.lits {W : World} {vs : List Value} {zss : List (List Int)} {u v : Value} {s f : List Int} (h : LsAll W vs zss) (h1 : LsAt W u s) (h2 : LsAt W v f) : LsAll W (vs ++ [u, v]) (zss ++ [s, f]) := by
  have := (h.push h1).push h2
  rwa [List.append_assoc, List.append_assoc] at this

/-- A list of files that grows. -/
def OwnsB2 (W : World) (base : Nat) (sl : Value) (bs : List Bl) (vs : List Value) : Prop := W.ownsRow base 48 3 sl bs.length (flatBJ bs vs) ∧ LsAll W vs (listsB bs)
theorem OwnsB2.vlen {W : World} {base : Nat} {sl : Value} {bs : List Bl} {vs : List Value} (h : OwnsB2 W base sl bs vs) : vs.length = 2 * bs.length := by rw [h.2.1, listsB_len]
theorem OwnsB2.below {W W' : World} {base : Nat} {sl : Value} {bs : List Bl} {vs : List Value} (h : OwnsB2 W base sl bs vs) (hb : Below W.heap.size W W') : OwnsB2 W' base sl bs vs := ⟨own_below1 h.1 hb, h.2.kept (IntKept.of_below hb)⟩
theorem ownsB2_lit (W : World) {base : Nat} (hb : base ≤ W.heap.size) : OwnsB2 (W.alloc (.cells #[] 48)) base (.slice (some ⟨W.heap.size, 0, none⟩) 0 0) [] [] :=
  ⟨World.ownsRow_lit (e := 48) (size := 3) W #[] 0 hb (by simp [maxLen]) rfl, LsAll.nil _⟩
theorem OwnsB2.grown {W w3 : World} {base : Nat} {sl v3 : Value} {bs : List Bl} {vs : List Value} {x : Bl} {p q : Value} (h : OwnsB2 W base sl bs vs) (hp : LsAt W p x.s) (hq : LsAt W q x.f)
    (ho : w3.ownsRow base 48 3 v3 (bs ++ [x]).length (flatBJ (bs ++ [x]) (vs ++ [p, q]))) (hg : W.grownBy w3 sl.ownBlock) : OwnsB2 w3 base v3 (bs ++ [x]) (vs ++ [p, q]) := by
  have hk := IntKept.of_own h.1 (by decide) hg
  refine ⟨ho, ?_⟩
  rw [listsB_append]
  exact (h.2.kept hk).lits (hp.kept hk) (hq.kept hk)

def WithoutRel (bs : List Bl) (n : Int) (len : Nat) (W : World) (o k : Value) (wr : World) : Prop :=
  ∃ (i : Nat) (vs : List Value), k = .int .i64 i ∧ i ≤ len ∧ Hid (OwnsB2 wr W.heap.size o (withoutB (bs.take i) n) vs) ∧ Hid (Below W.heap.size W wr)

/-- What a function that makes a list of files tells. -/
def BlobsPost (out : List Bl) (W : World) (e : Ending) (w' : World) : Prop := ∃ sl vs, e = .returned sl ∧ OwnsB2 w' W.heap.size sl out vs ∧ Below W.heap.size W w'

set_option maxHeartbeats 2000000 in
set_option maxRecDepth 100000 in
theorem l31Without_c (a : Option Addr) (len cap : Nat) (bs : List Bl) (n : Int) (hl : len ≤ 2097152) (hs : ∀ b ∈ bs, b.s.length ≤ 2097152 ∧ b.f.length ≤ 2097152) (W : World) (hN : BlobsAt W a len bs) :
    Calls Try.prog 47 #[.slice a len cap, .int .i64 n] W (BlobsPost (withoutB bs n) W) := by
  have HN := Lib.hid hN
  have HE := Lib.hid hN.1
  have HS := Lib.hid hs
  have hl' : (len : Int) ≤ 2097152 := by omega
  have HL := Lib.hid hl
  clear hN hs
  go_enter Try.func47, Try.ntmps47
  go_wp2
  go_loopw [5, 6] (fun o k wr => WithoutRel bs n len W o k wr) (fun _ k _ => len - (intOf k).toNat)
  case atStart => exact ⟨0, [], rfl, Nat.zero_le _, ownsB2_lit W (Nat.le_refl _), below_box _ _⟩
  case round =>
    obtain ⟨i, vs, rfl, hi, HO, HB⟩ := hrel
    by_cases hlt : i < len
    · obtain ⟨b, off, x, a1, c1, a2, c2, rfl, hx, e0, e1, e2, l1, l2⟩ := (HN.out.keep HB.out).at2 hlt
      have hlt' : (i : Int) < len := by omega
      have hi0 : (0 : Int) ≤ i := by omega
      have HLT := Lib.hid hlt
      have HX := Lib.hid hx
      have HNX := Lib.hid (withoutB_next hx n)
      obtain ⟨hs1, hs2⟩ := HS.out x (List.mem_of_getElem? hx)
      have HC := Lib.hid (l31Copy_c x.n a1 a2 c1 c2 x.s x.f hs1 hs2 wr l1 l2)
      generalize hxn : x.n = xn at e0 HC HNX
      generalize hxs : x.s.length = xs at e1 HC
      generalize hxf : x.f.length = xf at e2 HC
      have HXN := Lib.hid hxn
      clear hx l1 l2 hs1 hs2 hlt hi hxn hxs hxf
      by_cases hc : xn = n
      · have hd : (xn != n) = false := by simp [hc]
        have HNE := Lib.hid (show withoutB (bs.take (i + 1)) n = withoutB (bs.take i) n by rw [HNX.out, if_pos hc])
        clear hc
        go_wp2
        go_roundw
        case rel => exact ⟨i + 1, vs, by go_num, HLT.out, by rw [HNE.out]; exact HO.out, HB⟩
        case measure => have := HLT.out; simp [intOf]; omega
      · have hd : (xn != n) = true := by simpa using hc
        have HNE := Lib.hid (show withoutB (bs.take (i + 1)) n = withoutB (bs.take i) n ++ [x] by rw [HNX.out, if_neg hc])
        clear hc
        go_wp2_with fail
        refine HC.out.mono ?_
        rintro e W2 ⟨u, v, rfl, lu, lv, hb2⟩
        have HO2 := Lib.hid (HO.out.below hb2)
        have HB2 := Lib.hid (below_next HB.out hb2)
        have HLU := Lib.hid (And.intro lu lv)
        obtain ⟨au, cu, rfl, -⟩ := lu.out
        obtain ⟨av, cv, rfl, -⟩ := lv.out
        have hbx := below_box W2 (.cells #[.int .i64 xn, .slice au x.s.length cu, .slice av x.f.length cv] 48)
        have HO3 := Lib.hid (HO2.out.below hbx)
        have HL3 := Lib.hid (And.intro (HLU.out.1.keep hbx) (HLU.out.2.keep hbx))
        have HB3 := Lib.hid (below_next HB2.out hbx)
        have hwl := withoutB_len (bs.take i) n
        have HWL := Lib.hid (show (withoutB (bs.take i) n).length ≤ 2097152 by rw [List.length_take] at hwl; have := HL.out; have := HE.out; omega)
        have hlt3 := HO3.out.1.lt
        clear lu lv hb2 hbx hwl e0 e1 e2
        go_wp2_with (at_builtin; (refine wpList_append_blob rfl _ _ rfl W.heap.size _ _ vs rfl HO3.out.1 HO3.out.vlen ⟨W2.heap.size, 0, none⟩ 1 ⟨xn, x.s, x.f⟩ (.slice au x.s.length cu) (.slice av x.f.length cv) rfl (cell_three_newJ _ _ _ _ _) rfl rfl HWL.out HB3.out.size ?_); intro v5 w5 ho5 hg5)
        have hB5 : Below W.heap.size W w5 := HB3.out.grown hg5 HB3.out.size (fun k e => (hlt3 k e).1)
        have hxx : (⟨xn, x.s, x.f⟩ : Bl) = x := by rw [← HXN.out]
        rw [hxx] at ho5
        have hO5 := HO3.out.grown HL3.out.1 HL3.out.2 ho5 hg5
        rw [← HNE.out] at hO5
        go_roundw
        case rel => exact ⟨i + 1, _, by go_num, HLT.out, Lib.hid hO5, hB5⟩
        case measure => have := HLT.out; simp [intOf]; omega
    · have hge : (len : Int) ≤ i := by omega
      have htk : bs.take i = bs := List.take_of_length_le (by have := HE.out; omega)
      rw [htk] at HO
      clear hlt hi htk
      go_wp2
      refine bodyPost_ret (v := u5) (by simp [results, Try.f47, go_sem]) rfl ⟨_, vs, rfl, HO.out, HB.out⟩

end Go.Proofs.Ytonbkmmddahlfaa
