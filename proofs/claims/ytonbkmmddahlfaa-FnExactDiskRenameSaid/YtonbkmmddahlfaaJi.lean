/-
  WALKS: the program's shelf, on: rename, crash, list.
-/
import Derived.Laws.CopyOwn
import Derived.Test.YtonbkmmddahlfaaJh
namespace Go.Proofs.Ytonbkmmddahlfaa
open Go.RowKit
set_option linter.unusedVariables false

theorem ji_first : (0 : Nat) ≤ 0 := Nat.le_refl 0

theorem DiskBlk.drew {W : World} {d : Nat} {m : Int} {fs : List Bl} {vs : List Value} (h : DiskBlk W d m fs vs) : DiskBlk W.drew d m fs vs := h

theorem rename_pl {F : Fs} (h : GoodF F) {k j : Nat} (hk : k < 3) (hj : j < 3) {x : Bl} (hx : (plcJ F)[k]? = some x) (hn : x.n = (k : Int) + 1) :
    ∃ F', GoodF F' ∧ ((plcJ F).set k zeroB).set j ⟨(j : Int) + 1, x.s, x.f⟩ = plcJ F' ∧ diskRename (ofF F) ((k : Int) + 1) ((j : Int) + 1) = some (ofF F') := by
  rw [plc_get F hk] at hx
  obtain rfl := Option.some.inj hx
  obtain ⟨b, hb⟩ := (pl_some h ((k : Int) + 1) (by omega)).1 hn
  have e : pl F ((k : Int) + 1) = b := by unfold pl; rw [hb]; rfl
  rw [e]
  refine ⟨_, rename_good h hb (c := (j : Int) + 1) (by omega), ?_, ?_⟩
  · have h1 := plc_set F hk none
    rw [show (none : Option Bl).getD zeroB = zeroB from rfl] at h1
    rw [h1]
    exact plc_set _ hj (some ⟨(j : Int) + 1, b.s, b.f⟩)
  · rw [rename_F h, if_pos (by omega), hb]
    rfl

set_option maxHeartbeats 2000000 in
set_option maxRecDepth 100000 in
theorem rename_c (d : Nat) (m : Int) (F : Fs) (hG : GoodF F) (n c : Int) (W : World) (h : ShelfAt W d m (plcJ F)) :
    Calls Try.prog 49 #[.pointer (some ⟨d, 2, none⟩), .int .i64 n, .int .i64 c] W (StepPost d m (diskRename (ofF F) n c) W) := by
  have HA := Lib.hid (at_cJ d m (plcJ F) n W h)
  have HG := Lib.hid hG
  obtain ⟨vs, hd⟩ := h
  have HD := Lib.hid hd
  have qn : ∀ (w : World) (a : Option Addr), (binOp .eql 79 (.pointer a) (.pointer none)).run Try.prog w = .ok (.bool a.isNone) w := fun w a => by cases a <;> rfl
  obtain ⟨q, hq⟩ : ∃ q, decide (1 ≤ c ∧ c ≤ 3) = q := ⟨_, rfl⟩
  have HI := Lib.hid (fun w => show Calls Try.prog 53 #[.int .i64 c] w (fun e w' => e = .returned (.bool q) ∧ w' = w) by rw [← hq]; exact isFileName_c c w)
  have HQ := Lib.hid hq
  clear hd hG hq
  go_enter Try.func49, Try.ntmps49
  go_wp2_with fail
  refine HA.out.mono ?_
  rintro e W1 ⟨⟨k, x, hk, rfl, hx, hn, rfl⟩ | ⟨hno, rfl⟩, rfl⟩
  · cases q with
    | false =>
      have HR := Lib.hid (show diskRename (ofF F) ((k : Int) + 1) c = none by rw [rename_F HG.out, if_neg (of_decide_eq_false HQ.out)])
      clear hx hn hk
      go_wp2_with fail
      refine (HI.out _).mono ?_
      rintro e W1 ⟨rfl, rfl⟩
      go_wp2
      go_ret
      exact step_no ⟨_, HD.out⟩ HR.out (Below.refl _ _)
    | true =>
      have hc := of_decide_eq_true HQ.out
      obtain ⟨j, rfl⟩ : ∃ j : Nat, c = (j : Int) + 1 := ⟨(c - 1).toNat, by omega⟩
      have hj : j < 3 := by omega
      have HGD := Lib.hid (rename_pl HG.out hk hj hx hn)
      obtain ⟨a1, c1, a2, c2, e0, e1, e2, l1, l2, -, -⟩ := HD.out.cells hx
      have HL := Lib.hid (And.intro l1 l2)
      have HK := Lib.hid (And.intro hk hj)
      have hw : IntKind.i64.wrap ((j : Int) + 1 - 1) = j := (IntWalk.i64_in _ (by omega)).trans (by omega)
      have hj0 : (0 : Int) ≤ j := by omega
      have hj3 : (j : Int) < 3 := by omega
      generalize hxn : x.n = xn at e0
      generalize hxs : x.s.length = xs at e1 HL
      generalize hxf : x.f.length = xf at e2 HL
      have HLT := Lib.hid HD.out.lt
      have f0 := HD.out.frozen (2 + k * 3)
      have f1 := HD.out.frozen (2 + k * 3 + 1)
      have f2 := HD.out.frozen (2 + k * 3 + 2)
      clear l1 l2 hx hn hk hxn hxs hxf hc hj
      go_wp2_with fail
      refine (HI.out _).mono ?_
      rintro e W2 ⟨rfl, rfl⟩
      have HB0 := Lib.hid (below_box W2 (.cells #[.int .i64 ((j : Int) + 1), .slice a1 xs c1, .slice a2 xf c2] 48))
      have HX0 := Lib.hid (bbox_new W2 ((j : Int) + 1) (.slice a1 xs c1) (.slice a2 xf c2))
      have g0 := cell_kept HB0.out e0
      have g1 := cell_kept HB0.out e1
      have g2 := cell_kept HB0.out e2
      have h0 := frozen_kept HB0.out e0 f0
      have h1 := frozen_kept HB0.out e0 f1
      have h2 := frozen_kept HB0.out e0 f2
      obtain ⟨r0, r1, r2, z0, z1, z2⟩ := HX0.out.cells
      go_upto_region 7 with (fail)
      have hD0 := HD.out.keep HB0.out
      have hne : W2.heap.size ≠ d := by have := HLT.out; omega
      have HD2 := Lib.hid (hD0.put HK.out.1 (y := zeroB) (ls_nil _) (ls_nil _))
      have HX2 := Lib.hid (HX0.out.far3 hne (2 + k * 3) (2 + k * 3 + 1) (2 + k * 3 + 2) (.int .i64 0) (.slice none 0 0) (.slice none 0 0))
      have HB2 := Lib.hid (below_set3 (o1 := 2 + k * 3) (o2 := 2 + k * 3 + 1) (o3 := 2 + k * 3 + 2) (p := .int .i64 0) (q := .slice none 0 0) (r := .slice none 0 0) (HB0.out.mono (Nat.le_of_lt HLT.out)) (Nat.le_refl d))
      have hkp := hD0.put_kept (2 + k * 3) (2 + k * 3 + 1) (2 + k * 3 + 2) (.int .i64 0) (.slice none 0 0) (.slice none 0 0)
      have HL2 := Lib.hid (And.intro ((HL.out.1.keep HB0.out).kept hkp) ((HL.out.2.keep HB0.out).kept hkp))
      clear g0 g1 g2 h0 h1 h2 r0 r1 r2 z0 z1 z2 e0 e1 e2 f0 f1 f2 hD0 hkp HX0 HB0
      simp only [zeroB] at HD2
      generalize (((W2.alloc (.cells #[.int .i64 ((j : Int) + 1), .slice a1 xs c1, .slice a2 xf c2] 48)).setCell ⟨d, 2 + k * 3, none⟩ (.int .i64 0)).setCell ⟨d, 2 + k * 3 + 1, none⟩ (.slice none 0 0)).setCell ⟨d, 2 + k * 3 + 2, none⟩ (.slice none 0 0) = X at HD2 HX2 HB2 HL2 ⊢
      obtain ⟨y, hy⟩ : ∃ y, ((plcJ F).set k ⟨0, [], []⟩)[j]? = some y := ⟨_, List.getElem?_eq_getElem (by rw [List.length_set]; exact HK.out.2)⟩
      obtain ⟨b1, d1, b2, d2, p0, p1, p2, -, -, -, -⟩ := HD2.out.cells hy
      have y0 := HD2.out.frozen (2 + j * 3)
      have y1 := HD2.out.frozen (2 + j * 3 + 1)
      have y2 := HD2.out.frozen (2 + j * 3 + 2)
      obtain ⟨r0, r1, r2, z0, z1, z2⟩ := HX2.out.cells
      clear hy
      go_region
      have HD3 := Lib.hid (HD2.out.put HK.out.2 (y := ⟨(j : Int) + 1, x.s, x.f⟩) HL2.out.1 HL2.out.2)
      have HB3 := Lib.hid (below_set3 (o1 := 2 + j * 3) (o2 := 2 + j * 3 + 1) (o3 := 2 + j * 3 + 2) (p := .int .i64 ((j : Int) + 1)) (q := .slice a1 xs c1) (r := .slice a2 xf c2) HB2.out (Nat.le_refl d))
      clear p0 p1 p2 y0 y1 y2 r0 r1 r2 z0 z1 z2
      go_wp2
      go_ret
      obtain ⟨F', q1, q2, q3⟩ := HGD.out
      exact step_yes ⟨_, HD3.out.drew⟩ q1 q2 q3 HB3.out.drew
  · have HR := Lib.hid (show diskRename (ofF F) n c = none by rw [rename_F HG.out, no_pl HG.out hno]; simp)
    clear hno
    go_wp2
    go_ret
    exact step_no ⟨_, HD.out⟩ HR.out (Below.refl _ _)

theorem keep_out (keep : List Int) : (!keep.any (outB 400)) = keep.all (fun k => decide (0 ≤ k ∧ k ≤ 400)) := by
  induction keep with
  | nil => rfl
  | cons z r ih =>
    rw [List.any_cons, List.all_cons, Bool.not_or, ih]
    congr 1
    unfold outB
    by_cases h1 : z < 0
    · rw [decide_eq_true h1, decide_eq_false (show ¬ (0 ≤ z ∧ z ≤ 400) by omega)]; rfl
    · by_cases h2 : 400 < z
      · rw [decide_eq_false h1, decide_eq_true h2, decide_eq_false (show ¬ (0 ≤ z ∧ z ≤ 400) by omega)]; rfl
      · rw [decide_eq_false h1, decide_eq_false h2, decide_eq_true (show 0 ≤ z ∧ z ≤ 400 by omega)]; rfl

/-- The files of a disk, the first i of which have been settled. -/
def mixF (keep : List Int) (F : Fs) (i : Nat) : Fs := fun k => if k ≤ (i : Int) then (F k).map (crashB keep) else F k
theorem mix_zero (keep : List Int) {F : Fs} (h : GoodF F) : mixF keep F 0 = F := by
  funext k
  unfold mixF
  by_cases hk : k ≤ (0 : Nat)
  · rw [if_pos hk, h.out (by omega)]; rfl
  · rw [if_neg hk]
theorem mix_end (keep : List Int) {F : Fs} (h : GoodF F) : mixF keep F 3 = fun k => (F k).map (crashB keep) := by
  funext k
  unfold mixF
  by_cases hk : k ≤ (3 : Nat)
  · rw [if_pos hk]
  · rw [if_neg hk, h.out (by omega)]; rfl
theorem pl_mix (keep : List Int) (F : Fs) (i : Nat) (k : Int) : pl (mixF keep F i) k = if k ≤ (i : Int) then (if (F k).isSome then crashB keep (pl F k) else zeroB) else pl F k := by
  unfold pl mixF
  by_cases hk : k ≤ (i : Int)
  · rw [if_pos hk, if_pos hk]; cases F k <;> rfl
  · rw [if_neg hk, if_neg hk]
theorem mix_next (keep : List Int) {F : Fs} (h : GoodF F) {i : Nat} (hi : i < 3) (most : Nat) (hm : most = keepK keep ((i : Int) + 1)) :
    ∃ x, (plcJ (mixF keep F i))[i]? = some x ∧ x.s.length + x.f.length ≤ 400 ∧ (plcJ (mixF keep F i)).set i ⟨x.n, x.s ++ x.f.take most, []⟩ = plcJ (mixF keep F (i + 1)) := by
  refine ⟨pl F ((i : Int) + 1), ?_, pl_ok h _, ?_⟩
  · rw [plc_get _ hi, pl_mix, if_neg (by omega)]
  · have key : (⟨(pl F ((i : Int) + 1)).n, (pl F ((i : Int) + 1)).s ++ (pl F ((i : Int) + 1)).f.take most, []⟩ : Bl) = ((F ((i : Int) + 1)).map (crashB keep)).getD zeroB := by
      unfold pl
      cases e : F ((i : Int) + 1) with
      | none => simp [zeroB]
      | some b => 
        simp only [Option.getD_some, Option.map_some]
        unfold crashB
        rw [(h _ b e).1, hm]
    rw [key, plc_set _ hi]
    congr 1
    funext k
    unfold updF mixF
    by_cases h1 : k = (i : Int) + 1
    · rw [if_pos h1, if_pos (by omega), h1]
    · rw [if_neg h1]
      by_cases h2 : k ≤ (i : Int)
      · rw [if_pos h2, if_pos (by omega)]
      · rw [if_neg h2, if_neg (by omega)]

theorem keepOk_out (keep : List Int) : keepOk keep = (!decide (3 < keep.length) && !keep.any (outB 400)) := by
  unfold keepOk
  rw [keep_out]
  congr 1
  by_cases h : keep.length ≤ 3
  · rw [decide_eq_true h, decide_eq_false (by omega)]; rfl
  · rw [decide_eq_false h, decide_eq_true (by omega)]; rfl
/-- How many bytes are kept of each file. -/
def mostL (keep : List Int) : List Int := keep ++ List.replicate (3 - keep.length) 0
theorem most_splice {keep : List Int} (h : keep.length ≤ 3) : splice [Value.int .i64 0, .int .i64 0, .int .i64 0] 0 (intsV keep) = intsV (mostL keep) := by
  match keep, h with
  | [], _ => rfl
  | [a], _ => rfl
  | [a, b], _ => rfl
  | [a, b, c], _ => rfl
theorem most_get {keep : List Int} (hk : keepOk keep = true) {i : Nat} (hi : i < 3) : (intsV (mostL keep))[i]? = some (.int .i64 (keepK keep ((i : Int) + 1))) ∧ keepK keep ((i : Int) + 1) ≤ 400 := by
  unfold keepOk at hk
  simp only [Bool.and_eq_true, decide_eq_true_eq] at hk
  obtain ⟨h1, h2⟩ := hk
  have e : ((i : Int) + 1 - 1).toNat = i := by omega
  unfold keepK
  rw [e]
  have hz : ∀ z ∈ keep, 0 ≤ z ∧ z ≤ 400 := fun z hz => by have := List.all_eq_true.1 h2 z hz; simpa using this
  have hl : (mostL keep)[i]? = some (keep.getD i 0) := by
    unfold mostL
    by_cases hlt : i < keep.length
    · rw [List.getElem?_append_left hlt, List.getD_eq_getElem?_getD, List.getElem?_eq_getElem hlt]; rfl
    · rw [List.getElem?_append_right (by omega), List.getD_eq_getElem?_getD, List.getElem?_eq_none (l := keep) (by omega), List.getElem?_replicate, if_pos (by omega)]
      rfl
  have hb : 0 ≤ keep.getD i 0 ∧ keep.getD i 0 ≤ 400 := by
    by_cases hlt : i < keep.length
    · rw [List.getD_eq_getElem?_getD, List.getElem?_eq_getElem hlt]
      exact hz _ (List.getElem_mem hlt)
    · rw [List.getD_eq_getElem?_getD, List.getElem?_eq_none (by omega)]
      exact ⟨Int.le_refl _, by decide⟩
  constructor
  · unfold intsV
    rw [List.getElem?_map, hl, Option.map_some]
    congr 2
    omega
  · omega

def CrashRel (keep : List Int) (F : Fs) (d : Nat) (m : Int) (W : World) (k : Value) (wr : World) : Prop :=
  ∃ n : Nat, k = .int .i64 n ∧ n ≤ 3 ∧ Hid (ShelfAt wr d m (plcJ (mixF keep F n))) ∧ Hid (wr.heap[W.heap.size]? = some (.cells (intsV (mostL keep)).toArray 85 (0, 0))) ∧ Hid (Below d W wr)

set_option maxHeartbeats 4000000 in
set_option maxRecDepth 100000 in
theorem crash_c (d : Nat) (m : Int) (F : Fs) (hG : GoodF F) (ak : Option Addr) (lk ck : Nat) (keep : List Int) (hl : lk ≤ 2097152) (W : World) (h : ShelfAt W d m (plcJ F)) (hN : IntsAt W ak lk keep) :
    Calls Try.prog 51 #[.pointer (some ⟨d, 2, none⟩), .slice ak lk ck] W (StepPost d m (diskCrash (ofF F) keep) W) := by
  have HE := Lib.hid hN.1
  have HN := Lib.hid hN
  have HG := Lib.hid hG
  have HS := Lib.hid h
  have HL := Lib.hid h.lt
  obtain ⟨q, hq⟩ : ∃ q, keep.any (outB 400) = q := ⟨_, rfl⟩
  have HC := Lib.hid (fun W' (hb : Below W.heap.size W W') => show Calls Try.prog 61 #[.slice ak lk ck, .func (.func 62) #[] #[]] W' (fun e w' => e = .returned (.bool q) ∧ w' = W') by rw [← hq]; exact containsFuncI_c ak lk ck keep _ _ hl W' (hN.keep hb) rule_keep)
  have HQ := Lib.hid hq
  have hl' : (lk : Int) ≤ 2097152 := by omega
  clear hN hG h hq
  by_cases h3 : 3 < lk
  · have h3' : (3 : Int) < lk := by omega
    have HR := Lib.hid (show diskCrash (ofF F) keep = none by rw [crash_F HG.out, if_neg]; rw [keepOk_out, HE.out, decide_eq_true h3]; simp)
    clear hl h3
    go_enter Try.func51, Try.ntmps51
    go_wp2
    go_ret
    exact step_no HS.out HR.out (Below.refl _ _)
  · have h3' : (lk : Int) ≤ 3 := by omega
    have H3 := Lib.hid (show lk ≤ 3 by omega)
    clear hl h3
    cases q with
    | true =>
      have HR := Lib.hid (show diskCrash (ofF F) keep = none by rw [crash_F HG.out, if_neg]; rw [keepOk_out, HQ.out]; simp)
      go_enter Try.func51, Try.ntmps51
      go_wp2_with fail
      refine (HC.out _ (Below.refl _ _)).mono ?_
      rintro e W1 ⟨rfl, rfl⟩
      go_wp2
      go_ret
      exact step_no HS.out HR.out (Below.refl _ _)
    | false =>
      have HKO := Lib.hid (show keepOk keep = true by rw [keepOk_out, HQ.out, decide_eq_false (by have := HE.out; have := H3.out; omega)]; rfl)
      go_enter Try.func51, Try.ntmps51
      go_wp2_with fail
      refine (HC.out _ (Below.refl _ _)).mono ?_
      rintro e W1 ⟨rfl, rfl⟩
      have HBX := Lib.hid (below_box W1 (.cells #[.int .i64 0, .int .i64 0, .int .i64 0] 85))
      have HLK := Lib.hid (show (intsV keep).length = Nat.min lk 3 by rw [intsV_length, HE.out]; have := H3.out; exact (Nat.min_eq_left this).symm)
      have HPO := Lib.hid (show 0 < (intsV keep).length → ∃ ad, ak = some ad ∧ ∀ j v, (intsV keep)[j]? = some v → (W1.alloc (.cells #[.int .i64 0, .int .i64 0, .int .i64 0] 85)).cell? (ad.add j) = some v by
        intro hpos
        obtain ⟨hz, h0 | ⟨b, off, ha, hc⟩⟩ := HN.out.keep HBX.out
        · rw [intsV_length] at hpos; omega
        · exact ⟨_, ha, ints_cells (by rw [← ha]; exact ⟨hz, .inr ⟨b, off, ha, hc⟩⟩)⟩)
      have HFT := Lib.hid (show 0 + (intsV keep).length ≤ [Value.int .i64 0, .int .i64 0, .int .i64 0].length by rw [intsV_length, HE.out]; have := H3.out; simp; omega)
      go_upto_region 4 with (fail)
      go_wp2_with (refine wpList_copy_splice rfl _ _ 29 29 rfl 3 Try.underlying29 (by kernel_rfl) _ _ _ _ _ _ rfl rfl W1.heap.size 0 [.int .i64 0, .int .i64 0, .int .i64 0] 85 (World.alloc_heap_new _ _) (intsV keep) HLK.out (fun h => ⟨rfl, HPO.out h⟩) HFT.out (intsV_cells _) W1.heap.size W1 HBX.out (Nat.le_refl _) ?_; intro W2 hrow hb2; rw [most_splice (by rw [HE.out]; exact H3.out)] at hrow; have HB2 := Lib.hid (hb2.mono (Nat.le_of_lt HL.out)); have HS2 := Lib.hid (HS.out.keep hb2); clear hb2)
      clear HLK HPO HFT HBX HC HN
      have HROW := Lib.hid hrow
      clear hrow
      go_loopw [6, 7, 20] (fun _ _ k wr => CrashRel keep F d m W1 k wr) (fun _ _ k _ => 3 - (intOf k).toNat)
      case atStart => exact ⟨0, rfl, by omega, Lib.hid (by rw [mix_zero keep HG.out]; exact HS2.out), HROW.out, HB2⟩
      case round =>
        obtain ⟨i, rfl, hi, HSR, HRW, HBR⟩ := hrel
        by_cases hlt : i < 3
        · obtain ⟨x, hx, hxl, hset⟩ := mix_next keep HG.out hlt (keepK keep ((i : Int) + 1)) rfl
          obtain ⟨hmg, hmb⟩ := most_get HKO.out hlt
          obtain ⟨vs, hd⟩ := HSR.out
          obtain ⟨a1, c1, a2, c2, e0, e1, e2, l1, l2, -, -⟩ := hd.cells hx
          have hlt' : (i : Int) < 3 := by omega
          have hi0 : (0 : Int) ≤ i := by omega
          have HLT := Lib.hid hlt
          have HD := Lib.hid hd
          have HX := Lib.hid (And.intro hxl hset)
          have HLS := Lib.hid (And.intro l1 l2)
          generalize hmo : keepK keep ((i : Int) + 1) = mo at hmg hmb HX
          have HMG := Lib.hid (And.intro hmg hmb)
          clear hx hxl hset hmg hmb hd l1 l2 hmo hlt hi
          go_wp2_with fail
          generalize hxn : x.n = xn at e0
          generalize hxs : x.s.length = xs at e1 HLS
          generalize hxf : x.f.length = xf at e2 HLS
          have HXE := Lib.hid (And.intro hxn (And.intro hxs hxf))
          have HS0 := Lib.hid (show wr.drew.cell? ⟨d, 2 + i * 3, none⟩ = some (.int .i64 xn) ∧ wr.drew.cell? ⟨d, 2 + i * 3 + 1, none⟩ = some (.slice a1 xs c1) ∧ wr.drew.cell? ⟨d, 2 + i * 3 + 2, none⟩ = some (.slice a2 xf c2) from ⟨e0, e1, e2⟩)
          have HSA := Lib.hid (fun o => show (wr.alloc o).drew.cell? ⟨d, 2 + i * 3, none⟩ = some (.int .i64 xn) ∧ (wr.alloc o).drew.cell? ⟨d, 2 + i * 3 + 1, none⟩ = some (.slice a1 xs c1) ∧ (wr.alloc o).drew.cell? ⟨d, 2 + i * 3 + 2, none⟩ = some (.slice a2 xf c2) from ⟨cell_kept (below_box wr o).drew e0, cell_kept (below_box wr o).drew e1, cell_kept (below_box wr o).drew e2⟩)
          clear hxn hxs hxf e0 e1 e2
          go_region_held3 (fun w' => w'.cell? ⟨d, 2 + i * 3, none⟩ = some (.int .i64 xn) ∧ w'.cell? ⟨d, 2 + i * 3 + 1, none⟩ = some (.slice a1 xs c1) ∧ w'.cell? ⟨d, 2 + i * 3 + 2, none⟩ = some (.slice a2 xf c2))
            (first | exact HS0.out | exact HSA.out _)
            (fail)
          rename_i hS
          clear hS
          have HX7 := Lib.hid ((bbox_new wr xn (.slice a1 xs c1) (.slice a2 xf c2)))
          have HBW := Lib.hid ((below_box wr (.cells #[.int .i64 xn, .slice a1 xs c1, .slice a2 xf c2] 48)).drew)
          have hrw : ((wr.alloc (.cells #[.int .i64 xn, .slice a1 xs c1, .slice a2 xf c2] 48)).drew).heap[W1.heap.size]? = some (.cells (intsV (mostL keep)).toArray 85 (0, 0)) := (HBW.out.block _ ((Array.getElem?_eq_some_iff.1 HRW.out).1)).trans HRW.out
          have hrl : W1.heap.size < wr.heap.size := (Array.getElem?_eq_some_iff.1 HRW.out).1
          have HDX := Lib.hid (HD.out.keep HBW.out)
          have HL1 := Lib.hid (And.intro (HLS.out.1.keep HBW.out) (HLS.out.2.keep HBW.out))
          have HBX := Lib.hid (HBR.out.trans (HBW.out.mono (Nat.le_of_lt HD.out.lt)))
          have hbx : BBox ((wr.alloc (.cells #[.int .i64 xn, .slice a1 xs c1, .slice a2 xf c2] 48)).drew) wr.heap.size xn (.slice a1 xs c1) (.slice a2 xf c2) := HX7.out
          generalize (wr.alloc (.cells #[.int .i64 xn, .slice a1 xs c1, .slice a2 xf c2] 48)).drew = X at hrw HDX HL1 HBX hbx ⊢
          clear HX7 HBW HS0 HSA
          have HRX := Lib.hid hrw
          have hm0 := blk_cell (o := i) (l := intsV (mostL keep)) hrw HMG.out.1
          obtain ⟨x0, x1, x2, -, -, -⟩ := hbx.cells
          have HS0 := Lib.hid (show X.drew.cell? ⟨wr.heap.size, 0, none⟩ = some (.int .i64 xn) ∧ X.drew.cell? ⟨wr.heap.size, 1, none⟩ = some (.slice a1 xs c1) ∧ X.drew.cell? ⟨wr.heap.size, 2, none⟩ = some (.slice a2 xf c2) ∧ X.drew.cell? ⟨W1.heap.size, i, none⟩ = some (.int .i64 mo) from ⟨x0, x1, x2, hm0⟩)
          have hdw : wr.heap.size ≠ d := by have := HD.out.lt; omega
          have hdb : W1.heap.size ≠ d := by have := HL.out; omega
          have HNE := Lib.hid (And.intro hdw hdb)
          have HCX := Lib.hid (show Calls Try.prog 60 #[.agg #[.int .i64 xn, .slice a1 xs c1, .slice a2 xf c2], .int .i64 mo] X.drew (FilePost ⟨xn, x.s ++ x.f.take mo, []⟩ X.drew) by
            obtain ⟨rfl, rfl, rfl⟩ := HXE.out
            exact settled_c x.n a1 a2 c1 c2 x.s x.f mo (by have := HX.out.1; omega) (by have := HMG.out.2; omega) X.drew (HL1.out.1) (HL1.out.2))
          clear hrw hm0 x0 x1 x2 hbx hdw hdb hrl
          go_upto_region 8 with (fail)
          go_region_held3 (fun w' => w'.cell? ⟨wr.heap.size, 0, none⟩ = some (.int .i64 xn) ∧ w'.cell? ⟨wr.heap.size, 1, none⟩ = some (.slice a1 xs c1) ∧ w'.cell? ⟨wr.heap.size, 2, none⟩ = some (.slice a2 xf c2) ∧ w'.cell? ⟨W1.heap.size, i, none⟩ = some (.int .i64 mo))
            (first | exact HS0.out | exact HS7.out | exact HS8.out _ _ _)
            (first | (go_at_call 60; (with_reducible refine (HCX.out).mono ?_); rintro e W7 ⟨u7, v7, rfl, lu, lv, hb7⟩; have HS7 := Lib.hid (show W7.cell? ⟨wr.heap.size, 0, none⟩ = some (.int .i64 xn) ∧ W7.cell? ⟨wr.heap.size, 1, none⟩ = some (.slice a1 xs c1) ∧ W7.cell? ⟨wr.heap.size, 2, none⟩ = some (.slice a2 xf c2) ∧ W7.cell? ⟨W1.heap.size, i, none⟩ = some (.int .i64 mo) from ⟨cell_kept hb7 HS0.out.1, cell_kept hb7 HS0.out.2.1, cell_kept hb7 HS0.out.2.2.1, cell_kept hb7 HS0.out.2.2.2⟩); have HS8 := Lib.hid (fun p q r => show (((W7.setCell ⟨d, 2 + i * 3, none⟩ p).setCell ⟨d, 2 + i * 3 + 1, none⟩ q).setCell ⟨d, 2 + i * 3 + 2, none⟩ r).cell? ⟨wr.heap.size, 0, none⟩ = some (.int .i64 xn) ∧ (((W7.setCell ⟨d, 2 + i * 3, none⟩ p).setCell ⟨d, 2 + i * 3 + 1, none⟩ q).setCell ⟨d, 2 + i * 3 + 2, none⟩ r).cell? ⟨wr.heap.size, 1, none⟩ = some (.slice a1 xs c1) ∧ (((W7.setCell ⟨d, 2 + i * 3, none⟩ p).setCell ⟨d, 2 + i * 3 + 1, none⟩ q).setCell ⟨d, 2 + i * 3 + 2, none⟩ r).cell? ⟨wr.heap.size, 2, none⟩ = some (.slice a2 xf c2) ∧ (((W7.setCell ⟨d, 2 + i * 3, none⟩ p).setCell ⟨d, 2 + i * 3 + 1, none⟩ q).setCell ⟨d, 2 + i * 3 + 2, none⟩ r).cell? ⟨W1.heap.size, i, none⟩ = some (.int .i64 mo) from ⟨far3 HNE.out.1 HS7.out.1, far3 HNE.out.1 HS7.out.2.1, far3 HNE.out.1 HS7.out.2.2.1, far3 HNE.out.2 HS7.out.2.2.2⟩); have HD7 := Lib.hid (HDX.out.drew.keep hb7); have HB7 := Lib.hid (HBX.out.trans ((Below.refl d X).drew.trans (hb7.mono (Nat.le_of_lt HDX.out.lt)))); have HR7 := Lib.hid ((hb7.block _ ((Array.getElem?_eq_some_iff.1 HRX.out).1)).trans HRX.out); obtain ⟨yy, hyy⟩ : ∃ y, (plcJ (mixF keep F i))[i]? = some y := ⟨_, List.getElem?_eq_getElem HLT.out⟩; obtain ⟨b1, d1, b2, d2, p0, p1, p2, -, -, -, -⟩ := HD7.out.cells hyy; have y0 := HD7.out.frozen (2 + i * 3); have y1 := HD7.out.frozen (2 + i * 3 + 1); have y2 := HD7.out.frozen (2 + i * 3 + 2); have HLU := Lib.hid (And.intro lu lv); obtain ⟨au, cu, rfl, -⟩ := lu.out; obtain ⟨av, cv, rfl, -⟩ := lv.out; clear lu lv hb7 hyy))
          rename_i hS
          clear hS
          have hlu := HLU.out.1
          have hlv := HLU.out.2
          rw [show (x.s ++ x.f.take mo).length = x.s.length + min mo x.f.length by rw [List.length_append, List.length_take]] at hlu
          simp only [List.length_nil] at hlv
          have HD8 := Lib.hid (HD7.out.put HLT.out (y := ⟨xn, x.s ++ x.f.take mo, []⟩) hlu hlv)
          have HB8 := Lib.hid (below_set3 (o1 := 2 + i * 3) (o2 := 2 + i * 3 + 1) (o3 := 2 + i * 3 + 2) (p := .int .i64 xn) (q := .slice au (x.s.length + min mo x.f.length) cu) (r := .slice av 0 cv) HB7.out (Nat.le_refl d))
          have HR8 := Lib.hid (show (((W7.setCell ⟨d, 2 + i * 3, none⟩ (.int .i64 xn)).setCell ⟨d, 2 + i * 3 + 1, none⟩ (.slice au (x.s.length + min mo x.f.length) cu)).setCell ⟨d, 2 + i * 3 + 2, none⟩ (.slice av 0 cv)).heap[W1.heap.size]? = some (.cells (intsV (mostL keep)).toArray 85 (0, 0)) by
            rw [Below.heap_setCell _ _ _ _ HNE.out.2, Below.heap_setCell _ _ _ _ HNE.out.2, Below.heap_setCell _ _ _ _ HNE.out.2]; exact HR7.out)
          clear hlu hlv p0 p1 p2 y0 y1 y2
          obtain ⟨rfl, -, -⟩ := HXE.out
          have hset := HX.out.2
          generalize (((W7.setCell ⟨d, 2 + i * 3, none⟩ (.int .i64 x.n)).setCell ⟨d, 2 + i * 3 + 1, none⟩ (.slice au (x.s.length + min mo x.f.length) cu)).setCell ⟨d, 2 + i * 3 + 2, none⟩ (.slice av 0 cv)) = W8 at HD8 HB8 HR8 ⊢
          have HD9 := Lib.hid (show ShelfAt W8 d m (plcJ (mixF keep F (i + 1))) by rw [← hset]; exact ⟨_, HD8.out⟩)
          clear hset
          go_wp2
          go_roundw
          case rel => exact ⟨i + 1, by go_num, HLT.out, HD9, HR8, HB8⟩
          case measure => have := HLT.out; simp [intOf]; omega
        · have hge : (3 : Int) ≤ i := by omega
          have hie : i = 3 := by omega
          subst hie
          have HSF := Lib.hid HSR.out
          have HR := Lib.hid (show diskCrash (ofF F) keep = some (ofF (mixF keep F 3)) by rw [crash_F HG.out, if_pos HKO.out, mix_end keep HG.out])
          have HGO := Lib.hid (show GoodF (mixF keep F 3) by rw [mix_end keep HG.out]; exact crash_good HG.out keep)
          clear hlt hi
          go_wp2
          go_ret
          exact step_yes HSF.out HGO.out rfl HR.out HBR.out

end Go.Proofs.Ytonbkmmddahlfaa
