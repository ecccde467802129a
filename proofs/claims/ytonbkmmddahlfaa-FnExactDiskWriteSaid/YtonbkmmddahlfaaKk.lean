/-
  THE HARNESS OF FILES: laws.markBlobS, heldBlobS.
-/
import Derived.Test.YtonbkmmddahlfaaKj
namespace Go.Proofs.Ytonbkmmddahlfaa
open Go.RowKit
set_option linter.unusedVariables false
set_option linter.unusedSimpArgs false

theorem kk_first : (0 : Nat) ≤ 0 := Nat.le_refl 0

/-- A file, all its numbers counted on from k. -/
def markF (k : Nat) (b : Bl) : Bl := ⟨(k : Int), markI (k + 1) b.s.length, markI (k + 1 + b.s.length) b.f.length⟩
def nextF (k : Nat) (b : Bl) : Nat := k + 1 + b.s.length + b.f.length
def markB : Nat → List Bl → List Bl
  | _, [] => []
  | k, b :: bs => markF k b :: markB (nextF k b) bs
def endB : Nat → List Bl → Nat
  | k, [] => k
  | k, b :: bs => endB (nextF k b) bs
theorem markB_length : ∀ (k : Nat) (bs : List Bl), (markB k bs).length = bs.length
  | _, [] => rfl
  | k, b :: bs => by show (markB _ bs).length + 1 = bs.length + 1; rw [markB_length]
theorem endB_eq : ∀ (k : Nat) (bs : List Bl), endB k bs = k + bs.length + totB bs
  | _, [] => by simp [endB, totB]
  | k, b :: bs => by
    show endB (nextF k b) bs = _
    rw [endB_eq]
    simp only [nextF, totB, List.length_cons]
    omega
theorem markB_push : ∀ (bs : List Bl) (k : Nat) (b : Bl), markB k (bs ++ [b]) = markB k bs ++ [markF (endB k bs) b] ∧ endB k (bs ++ [b]) = nextF (endB k bs) b
  | [], k, b => ⟨rfl, rfl⟩
  | c :: bs, k, b => by
    obtain ⟨h1, h2⟩ := markB_push bs (nextF k c) b
    exact ⟨by simp only [List.cons_append, markB]; rw [h1]; rfl, h2⟩
theorem markB_at : ∀ (bs : List Bl) (k i : Nat) (b : Bl), bs[i]? = some b → (markB k bs)[i]? = some (markF (endB k (bs.take i)) b)
  | [], _, _, _, h => by simp at h
  | c :: bs, k, 0, b, h => by simp at h; subst h; rfl
  | c :: bs, k, i + 1, b, h => by
    show (markB _ bs)[i]? = _
    rw [markB_at bs _ i b (by simpa using h)]
    rfl

/-- The files, the first i of them counted. -/
def curB (k : Nat) (bs : List Bl) (i : Nat) : List Bl := markB k (bs.take i) ++ bs.drop i
theorem curB_zero (k : Nat) (bs : List Bl) : curB k bs 0 = bs := rfl
theorem curB_all (k : Nat) (bs : List Bl) : curB k bs bs.length = markB k bs := by unfold curB; rw [List.take_of_length_le (Nat.le_refl _), List.drop_of_length_le (Nat.le_refl _), List.append_nil]
theorem curB_next {k i : Nat} {bs : List Bl} {b : Bl} (h : bs[i]? = some b) : ∃ pre post, curB k bs i = pre ++ b :: post ∧ curB k bs (i + 1) = pre ++ markF (endB k (bs.take i)) b :: post ∧ pre.length = i := by
  have hi := (List.getElem?_eq_some_iff.1 h).1
  refine ⟨markB k (bs.take i), bs.drop (i + 1), ?_, ?_, ?_⟩
  · unfold curB
    rw [List.drop_eq_getElem_cons hi, (List.getElem?_eq_some_iff.1 h).2]
  · unfold curB
    rw [List.take_add_one, h]
    show markB k (bs.take i ++ [b]) ++ _ = _
    rw [(markB_push (bs.take i) k b).1, List.append_assoc]
    rfl
  · rw [markB_length, List.length_take]
    omega

theorem flatB_split : ∀ (pre : List Bl) (vs : List Value) (b : Bl) (post : List Bl), vs.length = 2 * (pre ++ b :: post).length → ∃ us u v ws, vs = us ++ u :: v :: ws ∧ us.length = 2 * pre.length ∧ ws.length = 2 * post.length ∧
    ∀ c : Bl, flatBJ (pre ++ c :: post) vs = flatBJ pre us ++ .int .i64 c.n :: u :: v :: flatBJ post ws
  | [], vs, b, post, h => by
    match vs, h with
    | u :: v :: ws, h => exact ⟨[], u, v, ws, rfl, rfl, by simp at h; omega, fun c => rfl⟩
    | [u], h => simp at h; omega
    | [], h => simp at h
  | d :: pre, vs, b, post, h => by
    match vs, h with
    | x :: y :: vs, h =>
      obtain ⟨us, u, v, ws, h1, h2, h3, h4⟩ := flatB_split pre vs b post (by simp at h ⊢; omega)
      refine ⟨x :: y :: us, u, v, ws, by rw [h1]; rfl, by simp [h2]; omega, h3, fun c => ?_⟩
      show _ :: x :: y :: flatBJ (pre ++ c :: post) vs = _ :: x :: y :: flatBJ pre us ++ _
      rw [h4 c]
      rfl
    | [x], h => simp at h; omega
    | [], h => simp at h

/-- One list of a table is counted. -/
theorem Inner.mark {W W' : World} {base j : Nat} {vs : List Value} {zss : List (List Int)} {v : Value} {z' : List Int} (h : Inner W base vs zss) (hv : vs[j]? = some v) (hg : W.grownBy W' v.ownBlock) (ho : W'.ownsRow base 3 1 v z'.length (intsV z')) : Inner W' base vs (zss.set j z') := by
  have hj := (List.getElem?_eq_some_iff.1 hv).1
  refine ⟨by rw [List.length_set]; exact h.1, fun i z u hz hu => ?_, h.2.2⟩
  by_cases e : i = j
  · subst e
    rw [List.getElem?_set_self (by rw [← h.1]; exact hj)] at hz
    obtain rfl := Option.some.inj hz
    obtain rfl : v = u := Option.some.inj (hv.symm.trans hu)
    exact ho
  · rw [List.getElem?_set_ne (Ne.symm e)] at hz
    refine own_farT (h.2.1 i z u hz hu) hg (fun k e1 e2 => ?_)
    have hp := List.pairwise_iff_getElem.1 h.2.2
    have hi := (List.getElem?_eq_some_iff.1 hu)
    have hj' := (List.getElem?_eq_some_iff.1 hv)
    obtain ⟨hi1, hi2⟩ := hi
    obtain ⟨hj1, hj2⟩ := hj'
    rcases Nat.lt_or_gt_of_ne e with hlt | hgt
    · have := hp i j hi1 hj1 hlt k (by rw [hi2]; exact e1)
      rw [hj2] at this
      exact this e2
    · have := hp j i hj1 hi1 hgt k (by rw [hj2]; exact e2)
      rw [hi2] at this
      exact this e1

/-- Only blocks from lo on and below hi have turned. -/
structure Amid (lo hi : Nat) (W W' : World) : Prop where
  os : W'.os = W.os
  tape : W'.tape = W.tape
  out : W'.output = W.output
  size : W.heap.size ≤ W'.heap.size
  block : ∀ k, k < W.heap.size → (k < lo ∨ hi ≤ k) → W'.heap[k]? = W.heap[k]?
theorem Amid.refl (lo hi : Nat) (W : World) : Amid lo hi W W := ⟨rfl, rfl, rfl, Nat.le_refl _, fun _ _ _ => rfl⟩
theorem Amid.trans {lo hi : Nat} {A B C : World} (h : Amid lo hi A B) (k : Amid lo hi B C) : Amid lo hi A C :=
  ⟨k.os.trans h.os, k.tape.trans h.tape, k.out.trans h.out, Nat.le_trans h.size k.size, fun j hj hk => (k.block j (Nat.lt_of_lt_of_le hj h.size) hk).trans (h.block j hj hk)⟩
theorem Amid.grown {lo hi : Nat} {W W' : World} {row : Option Nat} (h : W.grownBy W' row) (hr : ∀ k, row = some k → lo ≤ k ∧ k < hi) : Amid lo hi W W' :=
  ⟨h.os, h.tape, h.output, h.size, fun k hk ho => h.block k hk (fun e => by have := hr k e.symm; omega)⟩
theorem Amid.below {lo hi : Nat} {W W' : World} (h : Amid lo hi W W') (hl : lo ≤ W.heap.size) : Below lo W W' := ⟨h.os, h.tape, h.out, h.size, fun k hk => h.block k (Nat.lt_of_lt_of_le hk hl) (.inl hk)⟩
theorem Amid.set {lo hi g j : Nat} {W W' : World} {u : Value} (h : Amid lo hi W W') (h1 : lo ≤ g) (h2 : g < hi) : Amid lo hi W (W'.setCell ⟨g, j, none⟩ u) :=
  ⟨h.os, h.tape, h.out, by simpa [World.setCell] using h.size, fun k hk hh => (heap_setCell_other W' ⟨g, j, none⟩ k u (by simp; omega)).trans (h.block k hk hh)⟩

theorem own_amid {lo hi base n size : Nat} {W W' : World} {e : TypeId} {v : Value} {xs : List Value} (h : W.ownsRow base e size v n xs) (hA : Amid lo hi W W') (hh : hi ≤ base) : W'.ownsRow base e size v n xs := by
  refine ⟨h.1, ?_⟩
  rcases h.2 with h0 | ⟨g', cap, cur, rfl, hb, hg, hr⟩
  · exact .inl h0
  · exact .inr ⟨g', cap, cur, rfl, hb, (hA.block g' (Array.getElem?_eq_some_iff.1 hg).1 (.inr (Nat.le_trans hh hb))).trans hg, hr⟩

/-- Between two rounds of markBlobS. -/
def MarkRelB (k0 lo hi : Nat) (g cap : Nat) (bs : List Bl) (vs : List Value) (W : World) (kv i : Value) (wr : World) : Prop :=
  ∃ n : Nat, i = .int .i64 n ∧ n ≤ bs.length ∧ kv = .int .i64 ((endB k0 (bs.take n) : Nat) : Int) ∧ Hid (wr.ownsRow lo 48 3 (.slice (some ⟨g, 0, none⟩) bs.length cap) bs.length (flatBJ (curB k0 bs n) vs)) ∧ Hid (Inner wr lo vs (listsB (curB k0 bs n))) ∧ Hid (Amid lo hi W wr)

theorem endB_take {k0 n : Nat} {bs : List Bl} {b : Bl} (h : bs[n]? = some b) : endB k0 (bs.take (n + 1)) = endB k0 (bs.take n) + 1 + b.s.length + b.f.length := by
  rw [List.take_add_one, h]
  show endB k0 (bs.take n ++ [b]) = _
  rw [(markB_push (bs.take n) k0 b).2]
  rfl
theorem endB_le {k0 n m : Nat} {bs : List Bl} (hb : ∀ b ∈ bs, b.s.length ≤ m ∧ b.f.length ≤ m) : endB k0 (bs.take n) ≤ k0 + n * (2 * m + 1) := by
  induction n with
  | zero => simp [endB]
  | succ n ih =>
    by_cases h : n < bs.length
    · rw [endB_take (List.getElem?_eq_getElem h)]
      have := hb _ (List.getElem_mem h)
      rw [Nat.succ_mul]
      omega
    · rw [List.take_of_length_le (by omega)]
      rw [List.take_of_length_le (by omega)] at ih
      rw [Nat.succ_mul]
      omega

theorem listsB_mid (pre : List Bl) (b : Bl) (post : List Bl) : listsB (pre ++ b :: post) = listsB pre ++ b.s :: b.f :: listsB post := by
  rw [listsB_append, listsB_cons]

set_option maxHeartbeats 4000000 in
set_option maxRecDepth 100000 in
theorem markBlobS_c (g cap k0 lo hi : Nat) (bs : List Bl) (vs : List Value) (hk : k0 ≤ 2000000) (hl : bs.length ≤ 2097152) (hs : ∀ b ∈ bs, b.s.length ≤ 2097152 ∧ b.f.length ≤ 2097152) (htot : totB bs ≤ 1000000000) (W : World) (h : DiskIn W lo (.slice (some ⟨g, 0, none⟩) bs.length cap) bs vs) (hg : lo ≤ g ∧ g < hi) (hv : ∀ u ∈ vs, ∀ k, u.ownBlock = some k → k < hi) :
    Calls Try.prog 17 #[.slice (some ⟨g, 0, none⟩) bs.length cap, .int .i64 k0] W fun e W' => e = .returned (.int .i64 ((endB k0 bs : Nat) : Int)) ∧ DiskIn W' lo (.slice (some ⟨g, 0, none⟩) bs.length cap) (markB k0 bs) vs ∧ Amid lo hi W W' := by
  have H1 := Lib.hid h.1
  have H2 := Lib.hid h.2
  have HS := Lib.hid hs
  have HG := Lib.hid hg
  have HV := Lib.hid hv
  have HVL := Lib.hid h.vlen
  have HKL := Lib.hid (And.intro hk (And.intro hl htot))
  have hl' : (bs.length : Int) ≤ 2097152 := by omega
  clear h hs hg hv hk hl htot
  go_enter Try.func17, Try.ntmps17
  go_wp2
  go_loopw [1, 5] (fun k i wr => MarkRelB k0 lo hi g cap bs vs W k i wr) (fun _ i _ => bs.length - (intOf i).toNat)
  case atStart => exact ⟨0, rfl, Nat.zero_le _, rfl, H1, H2, Amid.refl _ _ _⟩
  case round =>
    obtain ⟨n, rfl, hn, rfl, HR, HI, HA⟩ := hrel
    by_cases hlt : n < bs.length
    · obtain ⟨b, hb⟩ : ∃ b, bs[n]? = some b := ⟨_, List.getElem?_eq_getElem hlt⟩
      obtain ⟨pre, post, e1, e2, e3⟩ := curB_next (k := k0) hb
      have hlen : (pre ++ b :: post).length = bs.length := by
        rw [← e1]
        unfold curB
        rw [List.length_append, markB_length, List.length_take, List.length_drop]
        omega
      obtain ⟨us, u, v, ws, f1, f2, f3, f4⟩ := flatB_split pre vs b post (by rw [hlen]; exact HVL.out)
      obtain ⟨kk, hkk⟩ : ∃ kk, endB k0 (bs.take n) = kk := ⟨_, rfl⟩
      have hnx := endB_take (k0 := k0) hb
      rw [hkk] at e2 hnx
      have hsb := HS.out b (List.mem_of_getElem? hb)
      have hkb : kk ≤ 1100000000 := by
        have h1 := endB_eq k0 (bs.take n)
        rw [hkk, List.length_take] at h1
        have h2 : totB (bs.take n) ≤ totB bs := by
          have := totB_append (bs.take n) (bs.drop n)
          rw [List.take_append_drop] at this
          omega
        have := HKL.out
        omega
      rw [hkk]
      have hpl : (flatBJ pre us).length = n * 3 := by rw [flatB_lenK pre us f2, e3]
      obtain ⟨bn, bs', bf⟩ := b
      simp only at hsb hnx f4
      have HI0 : Hid (Inner wr lo (us ++ u :: v :: ws) (listsB pre ++ bs' :: bf :: listsB post)) := Lib.hid (by have := HI.out; rw [e1, listsB_mid, f1] at this; exact this)
      have hlp : (listsB pre).length = 2 * n := by rw [listsB_len, e3]
      have hu2 : (us ++ u :: v :: ws)[2 * n]? = some u := by rw [List.getElem?_append_right (by omega), f2, e3, Nat.sub_self]; rfl
      have hv2 : (us ++ u :: v :: ws)[2 * n + 1]? = some v := by rw [List.getElem?_append_right (by omega), f2, e3, show 2 * n + 1 - 2 * n = 1 by omega]; rfl
      have hzs : (listsB pre ++ bs' :: bf :: listsB post)[2 * n]? = some bs' := by rw [List.getElem?_append_right (by omega), hlp, Nat.sub_self]; rfl
      have hzf : (listsB pre ++ bs' :: bf :: listsB post)[2 * n + 1]? = some bf := by rw [List.getElem?_append_right (by omega), hlp, show 2 * n + 1 - 2 * n = 1 by omega]; rfl
      have HR0 : Hid (wr.ownsRow lo 48 3 (.slice (some ⟨g, 0, none⟩) bs.length cap) bs.length (flatBJ pre us ++ .int .i64 bn :: u :: v :: flatBJ post ws)) := Lib.hid (by have := HR.out; rw [e1, f4] at this; exact this)
      have hwu := HI0.out.2.1 _ _ _ hzs hu2
      have hwv := HI0.out.2.1 _ _ _ hzf hv2
      obtain ⟨x1, p1, rfl, -⟩ := ints_of_own hwu
      obtain ⟨x2, p2, rfl, -⟩ := ints_of_own hwv
      obtain ⟨ls, hls⟩ : ∃ ls, bs'.length = ls := ⟨_, rfl⟩
      obtain ⟨lf, hlf⟩ : ∃ lf, bf.length = lf := ⟨_, rfl⟩
      rw [hls] at hsb hnx HI0 HR0 hu2 hv2 f1 f4
      rw [hlf] at hsb hnx HI0 HR0 hu2 hv2 f1 f4
      have hlt' : (n : Int) < bs.length := by omega
      have hn3 : n * 3 + 2 < bs.length * 3 := by omega
      have d0 : wr.cell? ⟨g, n * 3, none⟩ = some (.int .i64 bn) := by rw [HR0.out.cellAt _ (by omega), List.getElem?_append_right (by omega), hpl, Nat.sub_self]; rfl
      have y0 := HR0.out.frozenAt (n * 3)
      have hst := HR0.out.stored (n * 3) (.int .i64 (kk : Int))
      rw [List.set_append_right _ _ (by omega), hpl, Nat.sub_self] at hst
      obtain ⟨hst1, hst2⟩ := hst
      replace hst2 : wr.grownBy (wr.setCell ⟨g, n * 3, none⟩ (.int .i64 (kk : Int))) (Value.slice (some ⟨g, 0, none⟩) bs.length cap).ownBlock := hst2
      have HR1 := Lib.hid hst1
      have HI1 := Lib.hid (show Inner (wr.setCell ⟨g, n * 3, none⟩ (.int .i64 (kk : Int))) lo _ _ from ⟨HI0.out.1, fun i z v hz hv => own_farT (HI0.out.2.1 i z v hz hv) hst2 (own_types (HI0.out.2.1 i z v hz hv) HR0.out (by decide)), HI0.out.2.2⟩)
      have HA1 := Lib.hid (HA.out.set (j := n * 3) (u := .int .i64 (kk : Int)) HG.out.1 HG.out.2)
      have d1 : (wr.setCell ⟨g, n * 3, none⟩ (.int .i64 (kk : Int))).cell? ⟨g, n * 3 + 1, none⟩ = some (.slice x1 ls p1) := by rw [HR1.out.cellAt _ (by omega), List.getElem?_append_right (by omega), hpl, show n * 3 + 1 - n * 3 = 1 by omega]; rfl
      have hu1 := HI1.out.2.1 _ _ _ hzs hu2
      rw [hls] at hu1
      have HM1 := Lib.hid (show Calls Try.prog 18 #[.slice x1 ls p1, .int .i64 ((kk : Int) + 1)] (wr.setCell ⟨g, n * 3, none⟩ (.int .i64 (kk : Int))) _ from markIntS_c (.slice x1 ls p1) lo ls (kk + 1) _ hsb.1 (by omega) _ hu1)
      have HF := Lib.hid (And.intro f1 (And.intro f2 f3))
      have HF4 := Lib.hid f4
      have HE := Lib.hid (And.intro e2 (And.intro e3 hlt))
      have HLL := Lib.hid (And.intro hls hlf)
      have HLP := Lib.hid (And.intro hlp hpl)
      have HNX := Lib.hid (And.intro hnx hkb)
      have HU2 := Lib.hid hu2
      have HV2 := Lib.hid hv2
      have HSB := Lib.hid hsb
      have hw1 : IntKind.i64.wrap ((kk : Int) + 1) = (kk : Int) + 1 := IntWalk.i64_in _ (by omega)
      have hw2 : IntKind.i64.wrap ((n : Int) + 1) = (n : Int) + 1 := IntWalk.i64_in _ (by omega)
      have HN3 := Lib.hid hn3
      clear hn hb e1 e2 e3 f1 f2 f3 f4 hkk hnx hsb hlp hpl hst1 hst2 hu1 hwu hwv hzs hzf hu2 hv2 hls hlf hlen hkb hlt HI HR HI0 HR0
      go_wp2_with fail
      refine HM1.out.mono ?_
      rintro e W2 ⟨rfl, hg2, ho2⟩
      have hue := HI1.out.2.1 (2 * n) _ _ (by rw [List.getElem?_append_right (by have := HLP.out.1; omega), HLP.out.1, Nat.sub_self]; rfl) HU2.out
      have HR2 := Lib.hid (own_farT HR1.out hg2 (own_types HR1.out hue (by decide)))
      have HA2 := Lib.hid (HA1.out.trans (Amid.grown hg2 (fun k e => ⟨(hue.lt k e).1, HV.out _ (by rw [HF.out.1]; exact List.mem_of_getElem? HU2.out) k e⟩)))
      have HI2 : Hid (Inner W2 lo (us ++ .slice x1 ls p1 :: .slice x2 lf p2 :: ws) (listsB pre ++ markI (kk + 1) ls :: bf :: listsB post)) := Lib.hid (by
        have := HI1.out.mark HU2.out hg2 (z' := markI (kk + 1) ls) (by rw [markI_len]; exact ho2)
        rw [List.set_append_right _ _ (by have := HLP.out.1; omega), HLP.out.1, Nat.sub_self] at this
        exact this)
      have d2 : W2.cell? ⟨g, n * 3 + 2, none⟩ = some (.slice x2 lf p2) := by rw [HR2.out.cellAt _ (by have := HN3.out; omega), List.getElem?_append_right (by have := HLP.out.2; omega), HLP.out.2, show n * 3 + 2 - n * 3 = 2 by omega]; rfl
      have hve := HI2.out.2.1 (2 * n + 1) bf _ (by rw [List.getElem?_append_right (by have := HLP.out.1; omega), HLP.out.1, show 2 * n + 1 - 2 * n = 1 by omega]; rfl) HV2.out
      rw [HLL.out.2] at hve
      have HM2 := Lib.hid (show Calls Try.prog 18 #[.slice x2 lf p2, .int .i64 ((kk : Int) + 1 + (ls : Int))] W2 _ from markIntS_c (.slice x2 lf p2) lo lf (kk + 1 + ls) _ HSB.out.2 (by have := HNX.out.2; have := HSB.out.1; omega) W2 hve)
      clear hg2 ho2 hue hve d0 d1 y0
      go_wp2_with fail
      refine HM2.out.mono ?_
      rintro e W3 ⟨rfl, hg3, ho3⟩
      have hve := HI2.out.2.1 (2 * n + 1) bf _ (by rw [List.getElem?_append_right (by have := HLP.out.1; omega), HLP.out.1, show 2 * n + 1 - 2 * n = 1 by omega]; rfl) HV2.out
      have HR3 := Lib.hid (own_farT HR2.out hg3 (own_types HR2.out hve (by decide)))
      have HA3 := Lib.hid (HA2.out.trans (Amid.grown hg3 (fun k e => ⟨(hve.lt k e).1, HV.out _ (by rw [HF.out.1]; exact List.mem_of_getElem? HV2.out) k e⟩)))
      have HI3 : Hid (Inner W3 lo (us ++ .slice x1 ls p1 :: .slice x2 lf p2 :: ws) (listsB pre ++ markI (kk + 1) ls :: markI (kk + 1 + ls) lf :: listsB post)) := Lib.hid (by
        have := HI2.out.mark HV2.out hg3 (z' := markI (kk + 1 + ls) lf) (by rw [markI_len]; exact ho3)
        rw [List.set_append_right _ _ (by have := HLP.out.1; omega), HLP.out.1, show 2 * n + 1 - 2 * n = 1 by omega] at this
        exact this)
      clear hg3 ho3 hve d2
      have hmk : markF kk ⟨bn, bs', bf⟩ = ⟨(kk : Int), markI (kk + 1) ls, markI (kk + 1 + ls) lf⟩ := by unfold markF; rw [HLL.out.1, HLL.out.2]
      go_wp2
      go_roundw
      case rel =>
        refine ⟨n + 1, by go_num, HE.out.2.2, by rw [HNX.out.1]; push_cast; rfl, Lib.hid ?_, Lib.hid ?_, HA3⟩
        · rw [HE.out.1, HF4.out, hmk]
          exact HR3.out
        · rw [HE.out.1, listsB_mid, hmk, HF.out.1]
          exact HI3.out
      case measure => have := HE.out.2.2; simp [intOf]; omega
    · have hnl : n = bs.length := by omega
      have hge : ¬ (n : Int) < bs.length := by omega
      subst hnl
      have HR2 : Hid (wr.ownsRow lo 48 3 (.slice (some ⟨g, 0, none⟩) bs.length cap) bs.length (flatBJ (markB k0 bs) vs)) := Lib.hid (by have := HR.out; rw [curB_all] at this; exact this)
      have HI2 : Hid (Inner wr lo vs (listsB (markB k0 bs))) := Lib.hid (by have := HI.out; rw [curB_all] at this; exact this)
      have HKE : Hid (endB k0 (bs.take bs.length) = endB k0 bs) := Lib.hid (by rw [List.take_of_length_le (Nat.le_refl _)])
      rw [HKE.out]
      clear hn hlt HR HI
      go_wp2
      go_ret
      exact ⟨rfl, ⟨by rw [markB_length]; exact HR2.out, HI2.out⟩, HA.out⟩

/-- Between two rounds of heldBlobS. -/
def HeldRelB (k0 : Nat) (bs : List Bl) (W : World) (kv i : Value) (wr : World) : Prop :=
  ∃ n : Nat, i = .int .i64 n ∧ n ≤ bs.length ∧ kv = .int .i64 ((endB k0 (bs.take n) : Nat) : Int) ∧ W = wr

set_option maxHeartbeats 4000000 in
set_option maxRecDepth 100000 in
theorem heldBlobS_c (a : Option Addr) (cap k0 : Nat) (bs : List Bl) (hk : k0 ≤ 2000000) (hl : bs.length ≤ 2097152) (hs : ∀ b ∈ bs, b.s.length ≤ 2097152 ∧ b.f.length ≤ 2097152) (htot : totB bs ≤ 1000000000) (W : World) (h : BlobsAt W a bs.length (markB k0 bs)) :
    Calls Try.prog 23 #[.slice a bs.length cap, .int .i64 k0] W fun e W' => e = .returned (.int .i64 ((endB k0 bs : Nat) : Int)) ∧ W' = W := by
  have HN := Lib.hid h
  have HS := Lib.hid hs
  have HKL := Lib.hid (And.intro hk (And.intro hl htot))
  have hl' : (bs.length : Int) ≤ 2097152 := by omega
  clear h hs hk hl htot
  go_enter Try.func23, Try.ntmps23
  go_wp2
  go_loopw [1, 5] (fun k i wr => HeldRelB k0 bs W k i wr) (fun _ i _ => bs.length - (intOf i).toNat)
  case atStart => exact ⟨0, rfl, Nat.zero_le _, rfl, rfl⟩
  case round =>
    obtain ⟨n, rfl, hn, rfl, rfl⟩ := hrel
    by_cases hlt : n < bs.length
    · obtain ⟨b, hb⟩ : ∃ b, bs[n]? = some b := ⟨_, List.getElem?_eq_getElem hlt⟩
      obtain ⟨bb, off, y, a1, c1, a2, c2, rfl, hy, x0, x1, x2, l1, l2⟩ := HN.out.at2 hlt
      rw [markB_at bs k0 n b hb] at hy
      obtain rfl := Option.some.inj hy
      obtain ⟨kk, hkk⟩ : ∃ kk, endB k0 (bs.take n) = kk := ⟨_, rfl⟩
      have hnx := endB_take (k0 := k0) hb
      rw [hkk] at x0 x1 x2 l1 l2 hnx ⊢
      have hsb := HS.out b (List.mem_of_getElem? hb)
      have hkb : kk ≤ 1100000000 := by
        have h1 := endB_eq k0 (bs.take n)
        rw [hkk, List.length_take] at h1
        have h2 : totB (bs.take n) ≤ totB bs := by
          have := totB_append (bs.take n) (bs.drop n)
          rw [List.take_append_drop] at this
          omega
        have := HKL.out
        omega
      obtain ⟨bn, bs', bf⟩ := b
      unfold markF at x0 x1 x2 l1 l2
      simp only [markI_len] at x0 x1 x2 l1 l2 hsb hnx
      obtain ⟨ls, hls⟩ : ∃ ls, bs'.length = ls := ⟨_, rfl⟩
      obtain ⟨lf, hlf⟩ : ∃ lf, bf.length = lf := ⟨_, rfl⟩
      rw [hls] at x1 l1 l2 hsb hnx
      rw [hlf] at x2 l2 hsb hnx
      have hlt' : (n : Int) < bs.length := by omega
      have hw1 : IntKind.i64.wrap ((kk : Int) + 1) = (kk : Int) + 1 := IntWalk.i64_in _ (by omega)
      have hw2 : IntKind.i64.wrap ((n : Int) + 1) = (n : Int) + 1 := IntWalk.i64_in _ (by omega)
      have hi1 : IntsAt W a1 ls (markI (kk + 1) ls) := by have := l1.ints.2.1; rw [markI_len] at this; exact this
      have hi2 : IntsAt W a2 lf (markI (kk + 1 + ls) lf) := by have := l2.ints.2.1; rw [markI_len] at this; exact this
      obtain ⟨k1, hk1⟩ : ∃ k1, k1 = (kk : Int) + 1 + (ls : Int) := ⟨_, rfl⟩
      obtain ⟨k2, hk2⟩ : ∃ k2, k2 = (kk : Int) + 1 + (ls : Int) + (lf : Int) := ⟨_, rfl⟩
      have HM1 := Lib.hid (show Calls Try.prog 19 #[.slice a1 ls c1, .int .i64 ((kk : Int) + 1)] W (fun e W' => e = .returned (.int .i64 k1) ∧ W' = W) from (heldIntS_c a1 ls c1 (kk + 1) hsb.1 (by omega) W hi1).mono (by rintro e W' ⟨rfl, rfl⟩; exact ⟨by rw [hk1]; push_cast; rfl, rfl⟩))
      have HM2 := Lib.hid (show Calls Try.prog 19 #[.slice a2 lf c2, .int .i64 k1] W (fun e W' => e = .returned (.int .i64 k2) ∧ W' = W) by
        rw [hk1]
        exact (show Calls Try.prog 19 #[.slice a2 lf c2, .int .i64 ((kk : Int) + 1 + (ls : Int))] W _ from heldIntS_c a2 lf c2 (kk + 1 + ls) hsb.2 (by omega) W hi2).mono (by rintro e W' ⟨rfl, rfl⟩; exact ⟨by rw [hk2]; push_cast; rfl, rfl⟩))
      have hkk2 : ((kk : Int) != kk) = false := by simp
      have hp1 : ¬ (k1 < 0) := by omega
      have hp2 : ¬ (k2 < 0) := by omega
      have hp1d : decide (k1 < 0) = false := decide_eq_false hp1
      have hp2d : decide (k2 < 0) = false := decide_eq_false hp2
      have HK2 := Lib.hid hk2
      clear hk1 hk2
      have HNX := Lib.hid hnx
      have HLT := Lib.hid hlt
      clear hn hb hkk hnx hsb hkb hls hlf hlt l1 l2 hi1 hi2 hy
      go_wp2_with fail
      refine HM1.out.mono ?_
      rintro e W2 ⟨rfl, rfl⟩
      go_wp2_with fail
      refine HM2.out.mono ?_
      rintro e W3 ⟨rfl, rfl⟩
      go_wp2
      go_roundw
      case rel => exact ⟨n + 1, by go_num, HLT.out, by rw [HNX.out, HK2.out]; push_cast; rfl, rfl⟩
      case measure => have := HLT.out; simp [intOf]; omega
    · have hnl : n = bs.length := by omega
      have hge : ¬ (n : Int) < bs.length := by omega
      subst hnl
      have HKE : Hid (endB k0 (bs.take bs.length) = endB k0 bs) := Lib.hid (by rw [List.take_of_length_le (Nat.le_refl _)])
      rw [HKE.out]
      clear hn hlt
      go_wp2
      go_ret
      exact ⟨rfl, rfl⟩

theorem Inner.amid {lo hi base : Nat} {W W' : World} {vs : List Value} {zss : List (List Int)} (h : Inner W base vs zss) (hA : Amid lo hi W W') (hh : hi ≤ base) : Inner W' base vs zss :=
  ⟨h.1, fun i z v hz hv => own_amid (h.2.1 i z v hz hv) hA hh, h.2.2⟩
theorem DiskIn.amid {lo hi base : Nat} {W W' : World} {sl : Value} {bs : List Bl} {vs : List Value} (h : DiskIn W base sl bs vs) (hA : Amid lo hi W W') (hh : hi ≤ base) : DiskIn W' base sl bs vs :=
  ⟨own_amid h.1 hA hh, h.2.amid hA hh⟩

theorem totB_le : ∀ {bs : List Bl} {m : Nat}, (∀ b ∈ bs, b.s.length ≤ m ∧ b.f.length ≤ m) → totB bs ≤ bs.length * (2 * m)
  | [], _, _ => by simp [totB]
  | b :: bs, m, h => by
    have h1 := h b (List.mem_cons_self ..)
    have h2 := totB_le (fun c hc => h c (List.mem_cons_of_mem _ hc))
    have e : (bs.length + 1) * (2 * m) = bs.length * (2 * m) + 2 * m := Nat.succ_mul _ _
    show (b.s.length + b.f.length) + totB bs ≤ (bs.length + 1) * (2 * m)
    rw [e]
    omega

set_option maxHeartbeats 1000000 in
set_option maxRecDepth 100000 in
theorem markBlobS_nil (k0 : Nat) (W : World) : Calls Try.prog 17 #[.slice none 0 0, .int .i64 k0] W fun e W' => e = .returned (.int .i64 k0) ∧ W' = W := by
  go_enter Try.func17, Try.ntmps17
  go_wp2
  go_loopw [1, 5] (fun k i wr => k = .int .i64 k0 ∧ i = .int .i64 0 ∧ W = wr) (fun _ _ _ => 0)
  case atStart => exact ⟨rfl, rfl, rfl⟩
  case round =>
    obtain ⟨rfl, rfl, rfl⟩ := hrel
    go_wp2
    go_ret
    exact ⟨rfl, rfl⟩

/-- markBlobS at whatever disk of one's own; W3: a world in which it was whole already. -/
theorem markBlobS_any (a : Option Addr) (cap k0 lo : Nat) (bs : List Bl) (vs : List Value) (hk : k0 ≤ 2000000) (hl : bs.length ≤ 2097152) (hs : ∀ b ∈ bs, b.s.length ≤ 2097152 ∧ b.f.length ≤ 2097152) (htot : totB bs ≤ 1000000000) (W3 W : World) (h3 : DiskIn W3 lo (.slice a bs.length cap) bs vs) (h : DiskIn W lo (.slice a bs.length cap) bs vs) :
    Calls Try.prog 17 #[.slice a bs.length cap, .int .i64 k0] W fun e W' => e = .returned (.int .i64 ((endB k0 bs : Nat) : Int)) ∧ DiskIn W' lo (.slice a bs.length cap) (markB k0 bs) vs ∧ Amid lo W3.heap.size W W' := by
  rcases own_casesT h.1 with ⟨e, h0⟩ | ⟨g, c, e⟩
  · have hb : bs = [] := List.eq_nil_of_length_eq_zero h0
    subst hb
    injection e with e1 _ e3
    subst e1 e3
    refine (markBlobS_nil k0 W).mono ?_
    rintro e W' ⟨rfl, rfl⟩
    exact ⟨rfl, h, Amid.refl _ _ _⟩
  · injection e with e1 _ e3
    subst e1 e3
    exact markBlobS_c g cap k0 lo W3.heap.size bs vs hk hl hs htot W h (h3.1.lt g rfl) (fun u hu k e => h3.2.lt u hu k e)

end Go.Proofs.Ytonbkmmddahlfaa
