/-
  WALKS: the program's DiskValid, diskFrom; disk.read, disk.change behind their mutex.
-/
import Derived.Defers
import Derived.Test.YtonbkmmddahlfaaJj
import Derived.Test.YtonbkmmddahlfaaJm
namespace Go.Proofs.Ytonbkmmddahlfaa
open Go.RowKit Go.MuLone
set_option linter.unusedVariables false

theorem jk_first : (0 : Nat) ≤ 0 := Nat.le_refl 0

/-- The lists of files are of modest length. -/
def ShortB (m : Nat) (bs : List Bl) : Prop := ∀ b ∈ bs, b.s.length ≤ m ∧ b.f.length ≤ m
theorem ShortB.at {m : Nat} {bs : List Bl} (h : ShortB m bs) {i : Nat} {b : Bl} (hb : bs[i]? = some b) : b.s.length ≤ m ∧ b.f.length ≤ m := h b (List.mem_of_getElem? hb)
theorem shortB_ok {bs : List Bl} (h : diskV bs = true) : ShortB 400 bs := fun b hb => by
  have := ((blOk_iff _).1 (dvalid_low h b hb).2).2.2.2
  omega

theorem drop_next {bs : List Bl} {i : Nat} {x : Bl} (h : bs[i]? = some x) : bs.drop i = x :: bs.drop (i + 1) := by
  obtain ⟨h1, h2⟩ := List.getElem?_eq_some_iff.1 h
  rw [List.drop_eq_getElem_cons h1, h2]

theorem dvalid_cons (l : Int) (b : Bl) (r : List Bl) : dvalid l (b :: r) = (blOk b && (decide (l < b.n) && dvalid b.n r)) := rfl

def ValidRelJ (bs : List Bl) (len : Nat) (W : World) (l k : Value) (wr : World) : Prop :=
  ∃ (n : Nat) (z : Int), l = .int .i64 z ∧ k = .int .i64 n ∧ n ≤ len ∧ Hid (diskV bs = dvalid z (bs.drop n)) ∧ Hid (Below W.heap.size W wr)

set_option maxHeartbeats 2000000 in
set_option maxRecDepth 100000 in
theorem implDiskValid_c (a : Option Addr) (len cap : Nat) (bs : List Bl) (hl : len ≤ 2097152) (hs : ShortB 2000000 bs) (W : World) (hN : BlobsAt W a len bs) :
    Calls Try.prog 12 #[.slice a len cap] W (BoolPost (diskV bs) W) := by
  have HN := Lib.hid hN
  have HE := Lib.hid hN.1
  have HS := Lib.hid hs
  have hl' : (len : Int) ≤ 2097152 := by omega
  clear hN hs
  go_enter Try.func12, Try.ntmps12
  go_wp2
  go_loopw [3, 5, 8] (fun l _ k wr => ValidRelJ bs len W l k wr) (fun _ _ k _ => len - (intOf k).toNat)
  case atStart => exact ⟨0, 0, rfl, rfl, Nat.zero_le _, rfl, Below.refl _ _⟩
  case round =>
    obtain ⟨i, z, rfl, rfl, hi, HV, HB⟩ := hrel
    by_cases hlt : i < len
    · obtain ⟨b, off, x, a1, c1, a2, c2, rfl, hx, e0, e1, e2, l1, l2⟩ := (HN.out.keep HB.out).at2 hlt
      have hlt' : (i : Int) < len := by omega
      have HLT := Lib.hid hlt
      obtain ⟨hs1, hs2⟩ := HS.out.at hx
      have HB1 := Lib.hid (below_next HB.out (below_box wr (.cells #[.int .i64 x.n, .slice a1 x.s.length c1, .slice a2 x.f.length c2] 48)))
      have hbw := below_box wr (.cells #[.int .i64 x.n, .slice a1 x.s.length c1, .slice a2 x.f.length c2] 48)
      obtain ⟨q, hq⟩ : ∃ q, blOk x = q := ⟨_, rfl⟩
      have HF := Lib.hid (show Calls Try.prog 34 #[.agg #[.int .i64 x.n, .slice a1 x.s.length c1, .slice a2 x.f.length c2]] (wr.alloc (.cells #[.int .i64 x.n, .slice a1 x.s.length c1, .slice a2 x.f.length c2] 48)) (BoolPost q (wr.alloc (.cells #[.int .i64 x.n, .slice a1 x.s.length c1, .slice a2 x.f.length c2] 48))) by
        rw [← hq]
        exact isFile_c x.n a1 a2 c1 c2 x.s x.f (by omega) (by omega) _ (l1.keep hbw).ints.2.1 (l2.keep hbw).ints.2.1)
      have HBX := Lib.hid (bbox_new wr x.n (.slice a1 x.s.length c1) (.slice a2 x.f.length c2))
      have HD := Lib.hid (show dvalid z (bs.drop i) = (q && (decide (z < x.n) && dvalid x.n (bs.drop (i + 1)))) by rw [drop_next hx, dvalid_cons, hq])
      generalize x.n = xn at e0 HB1 HF HBX HD
      generalize x.s.length = xs at e1 HB1 HF HBX
      generalize x.f.length = xf at e2 HB1 HF HBX
      clear hx l1 l2 hs1 hs2 hbw hq hlt hi
      by_cases hc : xn ≤ z
      · have HR := Lib.hid (show diskV bs = false by rw [HV.out, HD.out, decide_eq_false (show ¬ z < xn by omega)]; cases q <;> rfl)
        have hd : decide (xn ≤ z) = true := decide_eq_true hc
        go_wp2
        go_ret
        exact ⟨retb HR.out.symm, HB1.out⟩
      · have hd : decide (xn ≤ z) = false := decide_eq_false hc
        have hc' : z < xn := by omega
        have HZ := Lib.hid hc'
        clear hc
        go_wp2_with fail
        refine HF.out.mono ?_
        rintro e W3 ⟨rfl, hb3⟩
        have HB3 := Lib.hid (below_next HB1.out hb3)
        obtain ⟨x0, x1, x2, -, -, -⟩ := (HBX.out.keep hb3).cells
        clear hb3 e0 e1 e2
        cases q with
        | false =>
          have HR := Lib.hid (show diskV bs = false by rw [HV.out, HD.out]; rfl)
          go_wp2
          go_ret
          exact ⟨retb HR.out.symm, HB3.out⟩
        | true =>
          have HV2 := Lib.hid (show diskV bs = dvalid xn (bs.drop (i + 1)) by rw [HV.out, HD.out, decide_eq_true HZ.out]; rfl)
          go_wp2
          go_roundw
          case rel => exact ⟨i + 1, xn, rfl, by go_num, HLT.out, HV2.out, HB3⟩
          case measure => have := HLT.out; simp [intOf]; omega
    · have hge : (len : Int) ≤ i := by omega
      have HR := Lib.hid (show diskV bs = true by rw [HV.out, List.drop_eq_nil_of_le (by have := HE.out; omega)]; rfl)
      clear hlt hi
      go_wp2
      go_ret
      exact ⟨retb HR.out.symm, HB.out⟩

/-- What diskFrom tells. -/
def FromPostJ (bs : List Bl) (W : World) (e : Ending) (w' : World) : Prop :=
  ((diskV bs = true ∧ ∃ d, e = .returned (.tuple #[.pointer (some ⟨d, 0, none⟩), .bool true]) ∧ W.heap.size ≤ d ∧ ShelfAt w' d 0 (plcJ (findB bs))) ∨
    (diskV bs = false ∧ e = .returned (.tuple #[.pointer none, .bool false]))) ∧ Below W.heap.size W w'

def FillRel (bs : List Bl) (len d : Nat) (W : World) (k : Value) (wr : World) : Prop :=
  ∃ n : Nat, k = .int .i64 n ∧ n ≤ len ∧ Hid (ShelfAt wr d 0 (plcJ (findB (bs.take n)))) ∧ Hid (Below W.heap.size W wr)

set_option maxHeartbeats 4000000 in
set_option maxRecDepth 100000 in
theorem diskFrom_c (a : Option Addr) (len cap : Nat) (bs : List Bl) (hl : len ≤ 2097152) (hs : ShortB 2000000 bs) (W : World) (hN : BlobsAt W a len bs) :
    Calls Try.prog 38 #[.slice a len cap] W (FromPostJ bs W) := by
  have HN := Lib.hid hN
  have HE := Lib.hid hN.1
  obtain ⟨q, hq⟩ : ∃ q, diskV bs = q := ⟨_, rfl⟩
  have HV := Lib.hid (show Calls Try.prog 12 #[.slice a len cap] W (BoolPost q W) by rw [← hq]; exact implDiskValid_c a len cap bs hl hs W hN)
  have HQ := Lib.hid hq
  have hl' : (len : Int) ≤ 2097152 := by omega
  clear hN hs hq
  go_enter Try.func38, Try.ntmps38
  go_wp2_with fail
  refine HV.out.mono ?_
  rintro e W1 ⟨rfl, hb1⟩
  have HB1 := Lib.hid hb1
  clear hb1
  cases q with
  | false =>
    go_wp2
    go_ret2
    exact ⟨.inr ⟨HQ.out, rfl⟩, HB1.out⟩
  | true =>
    have HS1 := Lib.hid (shelf_new W1)
    have HB2 := Lib.hid (below_next HB1.out (below_box W1 (.cells #[.int .i32 0, .int .u32 0, .int .i64 0, .slice none 0 0, .slice none 0 0, .int .i64 0, .slice none 0 0, .slice none 0 0, .int .i64 0, .slice none 0 0, .slice none 0 0] 78)))
    have HDW := Lib.hid HB1.out.size
    go_wp2
    go_loopw [6, 12] (fun _ k wr => FillRel bs len W1.heap.size W k wr) (fun _ k _ => len - (intOf k).toNat)
    case atStart => exact ⟨0, rfl, Nat.zero_le _, ⟨_, HS1.out⟩, HB2⟩
    case round =>
      obtain ⟨i, rfl, hi, HSH, HB⟩ := hrel
      by_cases hlt : i < len
      · obtain ⟨b, off, x, a1, c1, a2, c2, rfl, hx, e0, e1, e2, l1, l2⟩ := (HN.out.keep HB.out).at2 hlt
        have hlt' : (i : Int) < len := by omega
        have HLT := Lib.hid hlt
        obtain ⟨k, hk, hxk, hpl⟩ := plc_take HQ.out hx
        obtain ⟨vs, hd⟩ := HSH.out
        have hbw := below_box wr (.cells #[.int .i64 x.n, .slice a1 x.s.length c1, .slice a2 x.f.length c2] 48)
        have hdx := hd.keep hbw
        obtain ⟨y, hy⟩ : ∃ y, (plcJ (findB (bs.take i)))[k]? = some y := ⟨_, List.getElem?_eq_getElem hk⟩
        obtain ⟨b1, d1, b2, d2, p0, p1, p2, -, -, -, -⟩ := hdx.cells hy
        have y0 := hdx.frozen (2 + k * 3)
        have y1 := hdx.frozen (2 + k * 3 + 1)
        have y2 := hdx.frozen (2 + k * 3 + 2)
        have HD2 := Lib.hid (hdx.put hk (y := x) (l1.keep hbw) (l2.keep hbw))
        have HB3 := Lib.hid (below_set3 (d := W1.heap.size) (o1 := 2 + k * 3) (o2 := 2 + k * 3 + 1) (o3 := 2 + k * 3 + 2) (p := .int .i64 x.n) (q := .slice a1 x.s.length c1) (r := .slice a2 x.f.length c2) (below_next HB.out hbw) HDW.out)
        have HPL := Lib.hid hpl
        have hk0 : (0 : Int) ≤ k := by omega
        have hk3 : (k : Int) < 3 := by omega
        have hw : IntKind.i64.wrap (x.n - 1) = k := (IntWalk.i64_in _ (by omega)).trans (by omega)
        clear hx hk hxk hpl hd hbw hdx hy l1 l2 hlt hi
        go_wp2
        go_roundw
        case rel => exact ⟨i + 1, by go_num, HLT.out, by rw [HPL.out]; exact ⟨_, HD2.out⟩, HB3⟩
        case measure => have := HLT.out; simp [intOf]; omega
      · have hge : (len : Int) ≤ i := by omega
        have htk : bs.take i = bs := List.take_of_length_le (by have := HE.out; omega)
        rw [htk] at HSH
        clear hlt hi htk
        go_wp2
        go_ret2
        exact ⟨.inl ⟨HQ.out, _, rfl, HDW.out, HSH.out⟩, HB.out⟩

/-! ## Behind the mutex -/

/-- A list of numbers or a failure; all that is below n stands. -/
def FPostN (n : Nat) (r : Option (List Int)) (W : World) (e : Ending) (w' : World) : Prop :=
  ∃ (sl : Value) (out : List Int) (b : Bool), e = .returned (.tuple #[sl, .bool b]) ∧ ((b = true ∧ r = some out) ∨ (b = false ∧ r = none ∧ out = [])) ∧ w'.ownsRow n 3 1 sl out.length (intsV out) ∧ Below n W w'
/-- Files or a failure; all that is below n stands. -/
def DiskPostN (n : Nat) (r : Option (List Bl)) (W : World) (e : Ending) (w' : World) : Prop :=
  ∃ (sl : Value) (vs : List Value) (out : List Bl) (b : Bool), e = .returned (.tuple #[sl, .bool b]) ∧ ((b = true ∧ r = some out) ∨ (b = false ∧ r = none ∧ out = [])) ∧ w'.ownsRow n 48 3 sl out.length (flatBJ out vs) ∧ Inner w' n vs (listsB out) ∧ Below n W w'

theorem own_block {W W' : World} {d b : Nat} {e : TypeId} {size n : Nat} {v : Value} {xs : List Value} (h : W.ownsRow b e size v n xs) (hg : W.grownBy W' (some d)) (hb : d < b) : W'.ownsRow b e size v n xs := by
  refine h.kept hg ?_
  cases hv : v.ownBlock with
  | none => exact .inl rfl
  | some k =>
    right
    intro e
    have := (h.lt k hv).1
    cases e
    omega
theorem inner_block {W W' : World} {d b : Nat} {vs : List Value} {zss : List (List Int)} (h : Inner W b vs zss) (hg : W.grownBy W' (some d)) (hb : d < b) : Inner W' b vs zss :=
  ⟨h.1, fun i z v hz hv => own_block (h.2.1 i z v hz hv) hg hb, h.2.2⟩

set_option maxHeartbeats 4000000 in
set_option maxRecDepth 100000 in
theorem read_c (d : Nat) (F : Fs) (hG : GoodF F) (n : Int) (W : World) (h : ShelfAt W d 0 (plcJ F)) :
    Calls Try.prog 39 #[.pointer (some ⟨d, 0, none⟩), .int .i64 n] W (FPostN d ((F n).map allB) W) := by
  obtain ⟨vs, hd⟩ := h
  have m0 := hd.mutex
  have f0 := hd.frozen 0
  have HD1 := Lib.hid (hd.lock 1)
  have HA := Lib.hid (at_cJ d 1 (plcJ F) n _ ⟨vs, hd.lock 1⟩)
  have HG := Lib.hid hG
  have HB1 := Lib.hid (below_setCell (Below.refl d W) ⟨d, 0, none⟩ (.int .i32 1) (Nat.le_refl _))
  have qn : ∀ (w : World) (a : Option Addr), (binOp .eql 79 (.pointer a) (.pointer none)).run Try.prog w = .ok (.bool a.isNone) w := fun w a => by cases a <;> rfl
  clear hG hd
  go_enter_defers Try.func39, Try.ntmps39
  go_wp2_with (go_at_call 55; refine (lock_free muLib ⟨d, 0, none⟩ _ m0 f0).mono ?_; rintro e w' ⟨rfl, rfl⟩)
  generalize W.setCell ⟨d, 0, none⟩ (.int .i32 1) = X at HD1 HA HB1 ⊢
  clear m0 f0
  refine HA.out.mono ?_
  rintro e W1 ⟨⟨k, x, hk, rfl, hx, hn, rfl⟩ | ⟨hno, rfl⟩, rfl⟩
  · have hFn : F ((k : Int) + 1) = some x := (sync_pl HG.out hk hx hn).2.2.2
    have hok := ((blOk_iff _).1 (HG.out _ x hFn).2).2.2.2
    have HR := Lib.hid (show (F ((k : Int) + 1)).map allB = some (x.s ++ x.f) by rw [hFn]; rfl)
    obtain ⟨a1, c1, a2, c2, e0, e1, e2, l1, l2, -, -⟩ := HD1.out.cells hx
    have HLS := Lib.hid (And.intro l1 l2)
    have HSZ := Lib.hid (show x.s.length + x.f.length ≤ 2097152 by omega)
    generalize hxs : x.s.length = xs at e1 HLS
    generalize hxf : x.f.length = xf at e2 HLS
    clear hx hk hn hFn hok l1 l2 e0 hxs hxf
    go_upto_region 6 with (fail)
    have HS0 := Lib.hid (show W1.drew.cell? ⟨d, 2 + k * 3 + 1, none⟩ = some (.slice a1 xs c1) ∧ W1.drew.cell? ⟨d, 2 + k * 3 + 2, none⟩ = some (.slice a2 xf c2) from ⟨e1, e2⟩)
    have hb := (below_box W1 (.cells #[.slice a1 xs c1, .slice a2 xf c2] 29)).drew
    have HBX := Lib.hid hb
    have HSA := Lib.hid (show (W1.alloc (.cells #[.slice a1 xs c1, .slice a2 xf c2] 29)).drew.cell? ⟨d, 2 + k * 3 + 1, none⟩ = some (.slice a1 xs c1) ∧ (W1.alloc (.cells #[.slice a1 xs c1, .slice a2 xf c2] 29)).drew.cell? ⟨d, 2 + k * 3 + 2, none⟩ = some (.slice a2 xf c2) from ⟨cell_kept hb e1, cell_kept hb e2⟩)
    have HC := Lib.hid (concat2_c W1.heap.size 2 (.slice a1 xs c1) (.slice a2 xf c2) x.s x.f HSZ.out (W1.alloc (.cells #[.slice a1 xs c1, .slice a2 xf c2] 29)).drew (two_newJ W1 _ _ _) (HLS.out.1.keep hb) (HLS.out.2.keep hb))
    clear e1 e2 hb
    go_region_held3 (fun w' => w'.cell? ⟨d, 2 + k * 3 + 1, none⟩ = some (.slice a1 xs c1) ∧ w'.cell? ⟨d, 2 + k * 3 + 2, none⟩ = some (.slice a2 xf c2))
      (first | exact HS0.out | exact HSA.out | exact HS7.out)
      (first | (go_at_call 58; (with_reducible refine (HC.out).mono ?_); rintro e W7 ⟨⟨s7, rfl, ho7⟩, hb7⟩; have HS7 := Lib.hid (show W7.cell? ⟨d, 2 + k * 3 + 1, none⟩ = some (.slice a1 xs c1) ∧ W7.cell? ⟨d, 2 + k * 3 + 2, none⟩ = some (.slice a2 xf c2) from ⟨cell_kept hb7 HSA.out.1, cell_kept hb7 HSA.out.2⟩); have HB7 := Lib.hid (below_next HBX.out hb7); have HO7 := Lib.hid ho7; obtain ⟨a7, c7, rfl, -⟩ := ints_of_own ho7; clear ho7 hb7))
    rename_i hS
    clear hS
    have hD7 := HD1.out.keep HB7.out
    have hl7 : (x.s ++ x.f).length = x.s.length + x.f.length := List.length_append
    have HO8 := Lib.hid (own_block (own_mono1 HO7.out (show d + 1 ≤ _ from Nat.le_trans HD1.out.lt HBX.out.size)) (grownBy_setCell_at W7 d 0 (.int .i32 0)) (Nat.lt_succ_self d))
    have HB8 := Lib.hid (below_setCell (HB1.out.trans (HB7.out.mono (Nat.le_of_lt HD1.out.lt))) ⟨d, 0, none⟩ (.int .i32 0) (Nat.le_refl d))
    go_wp2
    refine leaves_cons (f := 56) (args := #[.pointer (some ⟨d, 0, none⟩)]) (by simp) (by simp [go_sem]) ?_
    refine (unlock_deferred muLib ⟨d, 0, none⟩ .returning _ hD7.mutex (hD7.frozen 0)).mono ?_
    rintro e u' w'' ⟨rfl, rfl, rfl⟩
    refine ⟨_, results_tmp2 rfl _ _ _, .slice a7 (x.s.length + x.f.length) c7, x.s ++ x.f, true, rfl, .inl ⟨rfl, HR.out⟩, ?_, HB8.out⟩
    have h8 := HO8.out
    rw [hl7] at h8 ⊢
    exact own_mono1 h8 (Nat.le_succ d)
  · have HR := Lib.hid (show (F n).map allB = none by rw [no_pl HG.out hno]; rfl)
    clear hno
    have HB8 := Lib.hid (below_setCell HB1.out ⟨d, 0, none⟩ (.int .i32 0) (Nat.le_refl d))
    go_wp2
    refine leaves_cons (f := 56) (args := #[.pointer (some ⟨d, 0, none⟩)]) (by simp) (by simp [go_sem]) ?_
    refine (unlock_deferred muLib ⟨d, 0, none⟩ .returning _ HD1.out.mutex (HD1.out.frozen 0)).mono ?_
    rintro e u' w'' ⟨rfl, rfl, rfl⟩
    exact ⟨_, results_tmp2 rfl _ _ _, .slice none 0 0, [], false, rfl, .inr ⟨rfl, HR.out, rfl⟩, World.ownsRow_nil _ _ _ _, HB8.out⟩

/-- A step in memory: a function value that does r to each disk that is made from here on. -/
def StepAt (W0 : World) (v : Value) (r : List Bl → Option (List Bl)) : Prop :=
  ∃ (g : Nat) (lb : Array Value), v = .func (.func g) #[] lb ∧ (∀ args w', (callFunc g args).run Try.prog w' = .ok (.enter g args) w') ∧
    ∀ (d : Nat) (F : Fs) (W : World), GoodF F → W0.heap.size ≤ d → Below W0.heap.size W0 W → ShelfAt W d 1 (plcJ F) → Calls Try.prog g (#[.pointer (some ⟨d, 2, none⟩)] ++ lb) W (StepPost d 1 (r (ofF F)) W)

set_option maxHeartbeats 4000000 in
set_option maxRecDepth 100000 in
theorem change_c (d : Nat) (F : Fs) (hG : GoodF F) (v : Value) (r : List Bl → Option (List Bl)) (W0 W : World) (h : ShelfAt W d 0 (plcJ F)) (hv : StepAt W0 v r) (hb : Below W0.heap.size W0 W) (hd0 : W0.heap.size ≤ d) :
    Calls Try.prog 59 #[.pointer (some ⟨d, 0, none⟩), v] W (DiskPostN d (r (ofF F)) W) := by
  obtain ⟨vs, hd⟩ := h
  have m0 := hd.mutex
  have f0 := hd.frozen 0
  obtain ⟨g, lb, rfl, eg, hP⟩ := hv
  have HST := Lib.hid (hP d F _ hG hd0 (below_setCell hb ⟨d, 0, none⟩ (.int .i32 1) hd0) ⟨vs, hd.lock 1⟩)
  have HD1 := Lib.hid (hd.lock 1)
  have HG := Lib.hid hG
  have HB1 := Lib.hid (below_setCell (Below.refl d W) ⟨d, 0, none⟩ (.int .i32 1) (Nat.le_refl _))
  clear hG hd hP hb
  go_enter_defers Try.func59, Try.ntmps59
  go_wp2_with (first
    | (go_at_call 55; refine (lock_free muLib ⟨d, 0, none⟩ _ m0 f0).mono ?_; rintro e w' ⟨rfl, rfl⟩)
    | (go_at_fn g; refine (HST.out).mono ?_; rintro e W1 ⟨ok, fs, rfl, hsh, hok, hb2⟩; have HSH := Lib.hid hsh; have HOK := Lib.hid hok; have HB2 := Lib.hid (HB1.out.trans hb2); clear hsh hok hb2; cases ok))
  · obtain ⟨ws, hw⟩ := HSH.out
    have HR := Lib.hid (show r (ofF F) = none by
      rcases HOK.out with ⟨h, _⟩ | ⟨_, h⟩
      · cases h
      · exact h)
    have HB8 := Lib.hid (below_setCell HB2.out ⟨d, 0, none⟩ (.int .i32 0) (Nat.le_refl d))
    refine leaves_cons (f := 56) (args := #[.pointer (some ⟨d, 0, none⟩)]) (by simp) (by simp [go_sem]) ?_
    refine (unlock_deferred muLib ⟨d, 0, none⟩ .returning _ hw.mutex (hw.frozen 0)).mono ?_
    rintro e u' w'' ⟨rfl, rfl, rfl⟩
    exact ⟨_, results_tmp2 rfl _ _ _, .slice none 0 0, [], [], false, rfl, .inr ⟨rfl, HR.out, rfl⟩, World.ownsRow_nil _ _ _ _, ⟨rfl, fun i z v hz => by simp [listsB] at hz, List.Pairwise.nil⟩, HB8.out⟩
  · obtain ⟨F', hg', hf', hr'⟩ : ∃ F', GoodF F' ∧ fs = plcJ F' ∧ r (ofF F) = some (ofF F') := by
      rcases HOK.out with ⟨_, h⟩ | ⟨h, _⟩
      · exact h
      · cases h
    subst hf'
    have hpl := plc_list hg'
    have HL := list_c d 1 (plcJ F') (fun b hb => by
      obtain ⟨i, hi⟩ := List.getElem?_of_mem hb
      have h3 := (List.getElem?_eq_some_iff.1 hi).1
      rw [plc_get F' h3] at hi
      obtain rfl := Option.some.inj hi
      have := pl_ok hg' ((i : Int) + 1)
      omega) W1 HSH.out
    rw [hpl] at HL
    refine HL.mono ?_
    rintro e W3 ⟨sl, ws, rfl, ho, hin, hb3⟩
    obtain ⟨us, hu⟩ := HSH.out
    have hu3 := hu.keep hb3
    have hle : d + 1 ≤ W1.heap.size := hu.lt
    have hgb := grownBy_setCell_at W3 d 0 (.int .i32 0)
    have HO8 := Lib.hid (own_mono1 (own_block (own_mono1 ho hle) hgb (Nat.lt_succ_self d)) (Nat.le_succ d))
    have HI8 := Lib.hid ((inner_block (hin.down hle) hgb (Nat.lt_succ_self d)).down (Nat.le_succ d))
    have HB8 := Lib.hid (below_setCell (HB2.out.trans (hb3.mono (Nat.le_of_lt hle))) ⟨d, 0, none⟩ (.int .i32 0) (Nat.le_refl d))
    have HR := Lib.hid hr'
    clear hgb ho hin hb3 hr' hpl HL
    go_wp2
    refine leaves_cons (f := 56) (args := #[.pointer (some ⟨d, 0, none⟩)]) (by simp) (by simp [go_sem]) ?_
    refine (unlock_deferred muLib ⟨d, 0, none⟩ .returning _ hu3.mutex (hu3.frozen 0)).mono ?_
    rintro e u' w'' ⟨rfl, rfl, rfl⟩
    exact ⟨_, results_tmp2 rfl _ _ _, sl, ws, ofF F', true, rfl, .inl ⟨rfl, HR.out⟩, HO8.out, HI8.out, HB8.out⟩

end Go.Proofs.Ytonbkmmddahlfaa
