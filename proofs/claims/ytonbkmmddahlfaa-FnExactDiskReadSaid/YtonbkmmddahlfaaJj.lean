/-
  WALKS: slices.Clone of numbers, nil or not; the program's shelf.list.
-/
import Derived.Test.YtonbkmmddahlfaaJi
namespace Go.Proofs.Ytonbkmmddahlfaa
open Go.RowKit
set_option linter.unusedVariables false

theorem jj_first : (0 : Nat) ≤ 0 := Nat.le_refl 0

set_option maxHeartbeats 1000000 in
set_option maxRecDepth 100000 in
/-- slices.Clone of a list of numbers. -/
theorem cloneN_cJ (a : Option Addr) (len c : Nat) (zs : List Int) (hl : len ≤ 2097152) (W : World) (h : LsAt W (.slice a len c) zs) :
    Calls Try.prog 77 #[.slice a len c] W fun e W' => OwnsInts W.heap.size zs e W' ∧ Below W.heap.size W W' := by
  obtain ⟨hlen, hi, hlc, hcm, hnil⟩ := h.ints
  subst hlen
  cases a with
  | none =>
    have h0 : zs.length = 0 := by
      obtain ⟨_, h0 | ⟨b, off, ha, _⟩⟩ := hi
      · exact h0
      · cases ha
    have hz : zs = [] := List.eq_nil_of_length_eq_zero h0
    subst hz
    rw [hnil rfl]
    have q23 : ∀ (w : World) (a : Option Addr) (n c n' c' : Nat), (binOp .eql 29 (.slice a n c) (.slice none n' c')).run Try.prog w = .ok (.bool a.isNone) w := fun w a n c n' c' => Lib.run_eql_slice_nil w _ _ a n c n' c' Try.underlying29
    clear h hi hlc hcm hnil h0
    go_enter Try.func77, Try.ntmps77
    go_wp2
    refine bodyPost_ret (v := .slice none 0 0) (by simp [results, Try.f77, go_sem]) rfl ⟨⟨_, rfl, World.ownsRow_nil _ _ _ _⟩, Below.refl _ _⟩
  | some ad =>
    by_cases h0 : zs.length = 0
    · have hz : zs = [] := List.eq_nil_of_length_eq_zero h0
      subst hz
      obtain ⟨i0, hi0, hz0, hz1, hz2⟩ := info_parts infoInt
      have q23 : ∀ (w : World) (a : Option Addr) (n c n' c' : Nat), (binOp .eql 29 (.slice a n c) (.slice none n' c')).run Try.prog w = .ok (.bool a.isNone) w := fun w a n c n' c' => Lib.run_eql_slice_nil w _ _ a n c n' c' Try.underlying29
      clear h hi hlc hcm hnil h0
      go_enter Try.func77, Try.ntmps77
      go_wp2_with (at_builtin; refine wpList_append_own _ rfl _ _ 29 rfl W.heap.size 3 i0 (.int .i64 0) 1 8 Try.underlying29 hi0 hz0 hz1 hz2 rfl (by decide) _ _ _ rfl (World.ownsRow_lit (e := 3) (size := 1) W #[] 0 (Nat.le_refl _) (by simp [maxLen]) rfl) ad 0 c [] rfl rfl (by intro j u hu; simp at hu) (by intro u hu; simp at hu) (by simp [maxLen]) (by omega) (by simp) ?_; intro v3 w3 ho3 hg3 hn3)
      have B3 : Below W.heap.size W w3 := (below_box W _).grown hg3 (by simp) (fun k e => by cases e; exact Nat.le_refl _)
      refine bodyPost_ret (v := v3) (by simp [results, Try.f77, go_sem]) rfl ⟨⟨v3, rfl, ?_⟩, B3⟩
      simpa [intsV] using ho3
    · obtain ⟨b, off, rfl⟩ : ∃ b off, ad = ⟨b, off, none⟩ := by
        obtain ⟨_, h1 | ⟨b, off, ha, _⟩⟩ := hi
        · exact absurd h1 h0
        · cases ha; exact ⟨b, off, rfl⟩
      exact clone_c b off zs.length c zs hl W hi

theorem Inner.grownB {W W' : World} {base b n : Nat} {vs ys : List Value} {bs : List (List Int)} {o : Value} (h : Inner W base vs bs) (ho : W.ownsRow b 48 3 o n ys) (hg : W.grownBy W' o.ownBlock) : Inner W' base vs bs :=
  ⟨h.1, fun i z v hz hv => own_farT (h.2.1 i z v hz hv) hg (own_types (h.2.1 i z v hz hv) ho (by decide)), h.2.2⟩
theorem Inner.down {W : World} {b c : Nat} {vs : List Value} {bs : List (List Int)} (h : Inner W c vs bs) (hbc : b ≤ c) : Inner W b vs bs := ⟨h.1, fun i z v hz hv => own_mono1 (h.2.1 i z v hz hv) hbc, h.2.2⟩

/-- The files that are there, among the first n places. -/
def liveL (fs : List Bl) (n : Nat) : List Bl := (fs.take n).filter (fun b => decide (0 < b.n))
theorem live_next {fs : List Bl} {n : Nat} {x : Bl} (h : fs[n]? = some x) : liveL fs (n + 1) = if 0 < x.n then liveL fs n ++ [x] else liveL fs n := by
  unfold liveL
  rw [takeB_next h, List.filter_append]
  by_cases hx : 0 < x.n
  · rw [if_pos hx]; simp [hx]
  · rw [if_neg hx]; simp [hx]
theorem live_len (fs : List Bl) (n : Nat) : (liveL fs n).length ≤ n := by
  unfold liveL
  exact Nat.le_trans (List.length_filter_le _ _) (by rw [List.length_take]; omega)

def ListRel (fs : List Bl) (W : World) (o k : Value) (wr : World) : Prop :=
  ∃ (n : Nat) (vs : List Value), k = .int .i64 n ∧ n ≤ 3 ∧ wr.ownsRow W.heap.size 48 3 o (liveL fs n).length (flatBJ (liveL fs n) vs) ∧ Hid (Inner wr W.heap.size vs (listsB (liveL fs n))) ∧ Hid (Below W.heap.size W wr)

/-- Files that the call has made, each list of its own. -/
def FilesPost (out : List Bl) (W : World) (e : Ending) (w' : World) : Prop :=
  ∃ sl vs, e = .returned sl ∧ w'.ownsRow W.heap.size 48 3 sl out.length (flatBJ out vs) ∧ Inner w' W.heap.size vs (listsB out) ∧ Below W.heap.size W w'

set_option maxHeartbeats 4000000 in
set_option maxRecDepth 100000 in
theorem list_c (d : Nat) (m : Int) (fs : List Bl) (hsz : ∀ b ∈ fs, b.s.length + b.f.length ≤ 2097152) (W : World) (h : ShelfAt W d m fs) :
    Calls Try.prog 67 #[.pointer (some ⟨d, 2, none⟩)] W (FilesPost (fs.filter (fun b => decide (0 < b.n))) W) := by
  obtain ⟨i0, hi0, hz0, hz1, hz2⟩ := info_parts infoBlob
  obtain ⟨vs0, hd⟩ := h
  have HD := Lib.hid hd
  have HSZ := Lib.hid hsz
  clear hd hsz
  go_enter Try.func67, Try.ntmps67
  go_wp2
  go_loopw [3, 5, 8] (fun o _ k wr => ListRel fs W o k wr) (fun _ _ k _ => 3 - (intOf k).toNat)
  case atStart => exact ⟨0, [], rfl, by omega, World.ownsRow_nil _ _ _ _, ⟨rfl, fun i z v hz => by simp [liveL, listsB] at hz, List.Pairwise.nil⟩, Below.refl _ _⟩
  case round =>
    obtain ⟨i, vs, rfl, hi, hown, HIN, HB⟩ := hrel
    have HO := Lib.hid hown
    clear hown
    by_cases hlt : i < 3
    · obtain ⟨x, hx⟩ : ∃ x, fs[i]? = some x := ⟨_, List.getElem?_eq_getElem (by have := HD.out.1; omega)⟩
      obtain ⟨a1, c1, a2, c2, e0, e1, e2, l1, l2, -, -⟩ := (HD.out.keep HB.out).cells hx
      have hlt' : (i : Int) < 3 := by omega
      have hi0' : (0 : Int) ≤ i := by omega
      have HLT := Lib.hid hlt
      have HLN := Lib.hid (live_next hx)
      have HXL := Lib.hid (HSZ.out x (List.mem_of_getElem? hx))
      have hb := below_box wr (.cells #[.int .i64 x.n, .slice a1 x.s.length c1, .slice a2 x.f.length c2] 48)
      have HBW := Lib.hid hb
      have HLS := Lib.hid (And.intro (l1.keep hb) (l2.keep hb))
      have HBX := Lib.hid (bbox_new wr x.n (.slice a1 x.s.length c1) (.slice a2 x.f.length c2))
      generalize hxn : x.n = xn at e0 HBW HLS HBX
      generalize hxs : x.s.length = xs at e1 HBW HLS HBX
      generalize hxf : x.f.length = xf at e2 HBW HLS HBX
      have HXE := Lib.hid (And.intro hxn (And.intro hxs hxf))
      clear hx l1 l2 hb hxn hxs hxf hlt hi
      by_cases hpos : 0 < xn
      · go_upto_region 6 with (fail)
        generalize wr.alloc (.cells #[.int .i64 xn, .slice a1 xs c1, .slice a2 xf c2] 48) = X at HBW HLS HBX ⊢
        have HNX := Lib.hid (show liveL fs (i + 1) = liveL fs i ++ [x] by rw [HLN.out, if_pos (by rw [HXE.out.1]; exact hpos)])
        have hll := live_len fs i
        have HLL := Lib.hid (show (liveL fs i).length ≤ 3 by omega)
        have HOX := Lib.hid (own_below1 HO.out HBW.out)
        have HIX := Lib.hid (HIN.out.below HBW.out)
        have HBB := Lib.hid (below_next HB.out HBW.out)
        have HBL := Lib.hid HO.out.lt
        obtain ⟨x0, x1, x2, -, -, -⟩ := HBX.out.cells
        have hxw : wr.heap.size < X.heap.size := HBX.out.lt
        have HXW := Lib.hid hxw
        have HC1 := Lib.hid (show Calls Try.prog 77 #[.slice a1 xs c1] X.drew (fun e W' => OwnsInts X.heap.size x.s e W' ∧ Below X.heap.size X W') from
          (cloneN_cJ a1 xs c1 x.s (by have := HXE.out.2.1; have := HXL.out; omega) X.drew HLS.out.1).mono fun e W' h => ⟨h.1, (Below.refl _ X).drew.trans h.2⟩)
        have HC2 := Lib.hid (fun W' (hb : Below X.heap.size X W') => cloneN_cJ a2 xf c2 x.f (by have := HXE.out.2.2; have := HXL.out; omega) W' (HLS.out.2.keep hb))
        have HS0 := Lib.hid (show X.drew.cell? ⟨wr.heap.size, 0, none⟩ = some (.int .i64 xn) ∧ X.drew.cell? ⟨wr.heap.size, 1, none⟩ = some (.slice a1 xs c1) ∧ X.drew.cell? ⟨wr.heap.size, 2, none⟩ = some (.slice a2 xf c2) from ⟨x0, x1, x2⟩)
        have HKP := Lib.hid (fun (u1 u2 : World) (h : u1.cell? ⟨wr.heap.size, 0, none⟩ = some (.int .i64 xn) ∧ u1.cell? ⟨wr.heap.size, 1, none⟩ = some (.slice a1 xs c1) ∧ u1.cell? ⟨wr.heap.size, 2, none⟩ = some (.slice a2 xf c2)) (hb : Below u1.heap.size u1 u2) => show u2.cell? ⟨wr.heap.size, 0, none⟩ = some (.int .i64 xn) ∧ u2.cell? ⟨wr.heap.size, 1, none⟩ = some (.slice a1 xs c1) ∧ u2.cell? ⟨wr.heap.size, 2, none⟩ = some (.slice a2 xf c2) from ⟨cell_kept hb h.1, cell_kept hb h.2.1, cell_kept hb h.2.2⟩)
        clear x0 x1 x2 e0 e1 e2 hll hxw
        go_region_held3 (fun w' => w'.cell? ⟨wr.heap.size, 0, none⟩ = some (.int .i64 xn) ∧ w'.cell? ⟨wr.heap.size, 1, none⟩ = some (.slice a1 xs c1) ∧ w'.cell? ⟨wr.heap.size, 2, none⟩ = some (.slice a2 xf c2))
          (first | exact HS0.out | exact HS6.out | exact HS7.out | exact HKP.out _ _ HS7.out (below_box _ _) | exact HS8.out)
          (first
            | (go_at_call 77; (with_reducible refine (HC1.out).mono ?_); rintro e W6 ⟨⟨s6, rfl, ho6⟩, hb6⟩; have HB6 := Lib.hid hb6; have HS6 := Lib.hid (HKP.out X _ HS0.out hb6); have HO6 := Lib.hid ho6; obtain ⟨a6, c6, rfl, -⟩ := ints_of_own ho6; clear ho6 hb6)
            | (go_at_call 77; (with_reducible refine (HC2.out _ HB6.out).mono ?_); rintro e W7 ⟨⟨s7, rfl, ho7⟩, hb7⟩; have HB7 := Lib.hid hb7; have HS7 := Lib.hid (HKP.out _ _ HS6.out hb7); have HO7 := Lib.hid ho7; obtain ⟨a7, c7, rfl, -⟩ := ints_of_own ho7; have HOA := Lib.hid (own_below1 HOX.out (below_next HB6.out hb7)); have HSZ7 := Lib.hid (Nat.le_trans (below_next HBB.out (below_next HB6.out hb7)).size (Nat.le_refl _)); clear ho7 hb7)
            | (rw [if_pos (by rfl)]; refine wp_append_own _ _ _ 25 rfl W.heap.size 48 i0 (.agg #[.int .i64 0, .slice none 0 0, .slice none 0 0]) 3 56 Try.underlying25 hi0 hz0 hz1 hz2 rfl (by decide) u3 (liveL fs i).length (flatBJ (liveL fs i) vs) rfl (HOA.out.alloc _) ⟨W7.heap.size, 0, none⟩ 1 1 [.int .i64 xn, .slice a6 x.s.length c6, .slice a7 x.f.length c7] rfl rfl (cell_three_newJ _ _ _ _ _) (by intro u hu; simp at hu; rcases hu with rfl | rfl | rfl <;> rfl) (by have := HLL.out; unfold maxLen; omega) (by have := HLL.out; omega) (by have := HSZ7.out; rw [World.size_alloc]; omega) ?_; intro v8 w8 ho8 hg8 hn8; have hne : some wr.heap.size ≠ u3.ownBlock := fun e => absurd ((HBL.out _ e.symm).2) (Nat.lt_irrefl _); have hq := HKP.out _ _ HS7.out (below_box W7 (.cells #[.int .i64 xn, .slice a6 x.s.length c6, .slice a7 x.f.length c7] 48)); have HS8 := Lib.hid (And.intro (hg8.cell hq.1 hne) (And.intro (hg8.cell hq.2.1 hne) (hg8.cell hq.2.2 hne))); have HG8 := Lib.hid hg8; have HO8 := Lib.hid ho8; clear hq hne hg8 ho8 hn8))
        rename_i hS
        clear hS
        obtain ⟨rfl, rfl, rfl⟩ := HXE.out
        have hvl : vs.length = 2 * (liveL fs i).length := by rw [HIX.out.1, listsB_len]
        have hb67 := below_next HB6.out HB7.out
        have hO6 : W7.ownsRow X.heap.size 3 1 (.slice a6 x.s.length c6) x.s.length (intsV x.s) := own_below1 HO6.out HB7.out
        have hd1 : ∀ u ∈ vs, ∀ k, u.ownBlock = some k → (Value.slice a6 x.s.length c6).ownBlock ≠ some k := fun u hu k e1 e2 => by
          have h1 := HIX.out.lt u hu k e1
          have h2 := (HO6.out.lt k e2).1
          omega
        have hI1 := (HIX.out.below hb67).push (own_mono1 hO6 (HBB.out.size)) hd1
        have hd2 : ∀ u ∈ vs ++ [.slice a6 x.s.length c6], ∀ k, u.ownBlock = some k → (Value.slice a7 x.f.length c7).ownBlock ≠ some k := fun u hu k e1 e2 => by
          have h2 := (HO7.out.lt k e2).1
          rcases List.mem_append.1 hu with hu | hu
          · have h1 := HIX.out.lt u hu k e1
            have h3 := HB6.out.size
            omega
          · rw [List.mem_singleton] at hu
            subst hu
            have h1 := (HO6.out.lt k e1).2
            omega
        have hI2 := hI1.push (own_mono1 HO7.out (Nat.le_trans HBB.out.size HB6.out.size)) hd2
        have hI3 := (hI2.below (below_box W7 (.cells #[.int .i64 x.n, .slice a6 x.s.length c6, .slice a7 x.f.length c7] 48))).grownB (HOA.out.alloc _) HG8.out
        rw [List.append_assoc, List.append_assoc, show listsB (liveL fs i) ++ ([x.s] ++ [x.f]) = listsB (liveL fs i ++ [x]) by rw [listsB_append]; rfl, ← HNX.out] at hI3
        have hO8 : w8.ownsRow W.heap.size 48 3 v8 (liveL fs (i + 1)).length (flatBJ (liveL fs (i + 1)) (vs ++ ([.slice a6 x.s.length c6] ++ [.slice a7 x.f.length c7]))) := by
          rw [HNX.out, flatB_append _ vs [x] _ hvl, List.length_append]
          exact HO8.out
        have hB8 : Below W.heap.size W w8 := ((below_next HBB.out hb67).alloc (below_next HBB.out hb67).size _).grown HG8.out (by have := (below_next HBB.out hb67).size; rw [World.size_alloc]; omega) (fun k e => (HBL.out k e).1)
        have HF := Lib.hid (And.intro hI3 (And.intro hO8 hB8))
        clear hI1 hI2 hI3 hO8 hB8 hO6 hd1 hd2 hb67 hvl
        go_wp2
        go_roundw
        case rel => exact ⟨i + 1, _, by go_num, HLT.out, HF.out.2.1, HF.out.1, HF.out.2.2⟩
        case measure => have := HLT.out; simp [intOf]; omega
      · have hneg : xn ≤ 0 := by omega
        have HNX := Lib.hid (show liveL fs (i + 1) = liveL fs i by rw [HLN.out, if_neg (by rw [HXE.out.1]; exact hpos)])
        clear hpos
        go_wp2
        go_roundw
        case rel => exact ⟨i + 1, vs, by go_num, HLT.out, by rw [HNX.out]; exact own_below1 HO.out HBW.out, by rw [HNX.out]; exact HIN.out.below HBW.out, below_next HB.out HBW.out⟩
        case measure => have := HLT.out; simp [intOf]; omega
    · have hge : (3 : Int) ≤ i := by omega
      have hie : i = 3 := by omega
      subst hie
      have HL3 := Lib.hid (show liveL fs 3 = fs.filter (fun b => decide (0 < b.n)) by unfold liveL; rw [List.take_of_length_le (by rw [HD.out.1]; exact Nat.le_refl _)])
      clear hlt hi
      go_wp2
      refine bodyPost_ret (v := u3) (by simp [results, Try.f67, go_sem]) rfl ⟨_, vs, rfl, ?_, ?_, HB.out⟩
      · rw [← HL3.out]; exact HO.out
      · rw [← HL3.out]; exact HIN.out

end Go.Proofs.Ytonbkmmddahlfaa
