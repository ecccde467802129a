/-
  WALKS: spec.FramesScan.
-/
import Derived.Deep.QuietTactic
import Derived.BigQuiet
import Derived.Test.YtdlkofgapjdeaaaFc
namespace Go.Proofs.Ytdlkofgapjdeaaa
open Go.RowKit
set_option linter.unusedVariables false

theorem infoInts : (Try.prog.info? 23).map (fun i => (i.zero, i.size, i.bytes)) = some (some (.slice none 0 0), 1, 24) := by kernel_rfl

/-- The lists in a table that the call has made: each owned, no two in one block. -/
def Inner (W : World) (base : Nat) (vs : List Value) (bs : List (List Int)) : Prop :=
  vs.length = bs.length ∧ (∀ (i : Nat) (z : List Int) (v : Value), bs[i]? = some z → vs[i]? = some v → W.ownsRow base 3 1 v z.length (intsV z)) ∧ vs.Pairwise (fun u v => ∀ k, u.ownBlock = some k → v.ownBlock ≠ some k)

theorem Inner.below {W W' : World} {base : Nat} {vs : List Value} {bs : List (List Int)} (h : Inner W base vs bs) (hb : Below W.heap.size W W') : Inner W' base vs bs :=
  ⟨h.1, fun i z v hz hv => own_below1 (h.2.1 i z v hz hv) hb, h.2.2⟩

/-- Two owned lists of different element types lie in different blocks. -/
theorem own_types {W : World} {b b' : Nat} {e e' : TypeId} {s s' n n' : Nat} {u v : Value} {xs ys : List Value} (h : W.ownsRow b e s u n xs) (h' : W.ownsRow b' e' s' v n' ys) (he : e ≠ e') : ∀ k, u.ownBlock = some k → v.ownBlock ≠ some k := by
  intro k h1 h2
  rcases h.2 with ⟨rfl, _⟩ | ⟨g, cap, cur, rfl, _, hg, _⟩
  · cases h1
  · rcases h'.2 with ⟨rfl, _⟩ | ⟨g', cap', cur', rfl, _, hg', _⟩
    · cases h2
    · have e1 : g = k := by simpa [Value.ownBlock] using h1
      have e2 : g' = k := by simpa [Value.ownBlock] using h2
      subst e1; subst e2
      rw [hg] at hg'
      cases hg'
      exact he rfl

theorem own_farT {W W' : World} {b : Nat} {e : TypeId} {size n : Nat} {v : Value} {xs : List Value} (h : W.ownsRow b e size v n xs) {row : Value} (hg : W.grownBy W' row.ownBlock) (hd : ∀ k, v.ownBlock = some k → row.ownBlock ≠ some k) : W'.ownsRow b e size v n xs := by
  refine h.kept hg ?_
  cases hv : v.ownBlock with
  | none => exact .inl rfl
  | some k => right; exact fun e => hd k hv e.symm

theorem Inner.grown {W W' : World} {base b n : Nat} {vs ys : List Value} {bs : List (List Int)} {o : Value} (h : Inner W base vs bs) (ho : W.ownsRow b 23 1 o n ys) (hg : W.grownBy W' o.ownBlock) : Inner W' base vs bs :=
  ⟨h.1, fun i z v hz hv => own_farT (h.2.1 i z v hz hv) hg (own_types (h.2.1 i z v hz hv) ho (by decide)), h.2.2⟩

theorem Inner.push {W : World} {base : Nat} {vs : List Value} {bs : List (List Int)} {v : Value} {z : List Int} (h : Inner W base vs bs) (hv : W.ownsRow base 3 1 v z.length (intsV z)) (hd : ∀ u ∈ vs, ∀ k, u.ownBlock = some k → v.ownBlock ≠ some k) : Inner W base (vs ++ [v]) (bs ++ [z]) := by
  obtain ⟨h1, h2, h3⟩ := h
  refine ⟨by simp [h1], fun i z' v' hz hv' => ?_, List.pairwise_append.2 ⟨h3, List.pairwise_singleton _ _, fun u hu w hw => by rw [List.mem_singleton.1 hw]; exact hd u hu⟩⟩
  by_cases hi : i < bs.length
  · rw [List.getElem?_append_left hi] at hz
    rw [List.getElem?_append_left (by omega)] at hv'
    exact h2 i z' v' hz hv'
  · have e1 : i = bs.length := by
      have := (List.getElem?_eq_some_iff.1 hz).1
      simp at this; omega
    subst e1
    rw [List.getElem?_append_right (Nat.le_refl _)] at hz
    rw [← h1, List.getElem?_append_right (Nat.le_refl _)] at hv'
    simp at hz hv'
    subst hz; subst hv'
    exact hv

/-- Every block of the lists in a table stands below the heap's end. -/
theorem Inner.lt {W : World} {base : Nat} {vs : List Value} {bs : List (List Int)} (h : Inner W base vs bs) : ∀ u ∈ vs, ∀ k, u.ownBlock = some k → k < W.heap.size := by
  intro u hu k hk
  obtain ⟨i, hi⟩ := List.getElem?_of_mem hu
  have hl := (List.getElem?_eq_some_iff.1 hi).1
  obtain ⟨z, hz⟩ : ∃ z, bs[i]? = some z := ⟨_, List.getElem?_eq_getElem (by have := h.1; omega)⟩
  exact ((h.2.1 i z u hz hi).lt k hk).2

/-- What a scan returns. -/
def ScanPost (r : List (List Int) × Nat) (W : World) (e : Ending) (w' : World) : Prop :=
  ∃ (sl : Value) (vs : List Value), e = .returned (.tuple #[sl, .int .i64 r.2]) ∧ w'.ownsRow W.heap.size 23 1 sl r.1.length vs ∧ Inner w' W.heap.size vs r.1 ∧ Below W.heap.size W w'

def ScanRel (zs : List Int) (W : World) (o p : Value) (wr : World) : Prop :=
  ∃ (n : Nat) (acc : List (List Int)) (vs : List Value), p = .int .i64 n ∧ n ≤ zs.length ∧ Hid (acc.length ≤ n) ∧ Hid (scanL zs = (acc ++ (scanL (zs.drop n)).1, n + (scanL (zs.drop n)).2)) ∧
    wr.ownsRow W.heap.size 23 1 o acc.length vs ∧ Hid (Inner wr W.heap.size vs acc) ∧ Hid (Below W.heap.size W wr)

theorem scan_end {zs : List Int} {n : Nat} {acc : List (List Int)} {vs : List Value} {W wr : World} {o : Value} (hs : scanL zs = (acc ++ (scanL (zs.drop n)).1, n + (scanL (zs.drop n)).2)) (he : scanL (zs.drop n) = ([], 0))
    (ho : wr.ownsRow W.heap.size 23 1 o acc.length vs) (hi : Inner wr W.heap.size vs acc) (hb : Below W.heap.size W wr) : ScanPost (scanL zs) W (.returned (.tuple #[o, .int .i64 n])) wr := by
  rw [he] at hs
  simp only [List.append_nil, Nat.add_zero] at hs
  rw [hs]
  exact ⟨o, vs, rfl, ho, hi, hb⟩

theorem drewN_below (W : World) (n : Nat) : Below W.heap.size W (W.drewN n) := by
  have e := (drewN_cell W n ⟨0, 0, none⟩).2.2
  exact ⟨rfl, rfl, rfl, by rw [e]; exact Nat.le_refl _, fun j _ => by rw [e]⟩

theorem drop_cons {zs : List Int} {n : Nat} {z : Int} (h : zs[n]? = some z) : zs.drop n = z :: zs.drop (n + 1) := by
  obtain ⟨h1, h2⟩ := List.getElem?_eq_some_iff.1 h
  rw [List.drop_eq_getElem_cons h1, h2]

theorem scan_stop {zs : List Int} {n : Nat} {z : Int} (h : zs[n]? = some z) (hh : headOk z (zs.drop (n + 1)) = false) : scanL (zs.drop n) = ([], 0) := by
  rw [drop_cons h, scanL_cons, if_neg (by rw [hh]; simp)]

theorem scan_go {zs : List Int} {n m : Nat} (h : zs[n]? = some (m : Int)) (hh : headOk (m : Int) (zs.drop (n + 1)) = true) {acc : List (List Int)} (hs : scanL zs = (acc ++ (scanL (zs.drop n)).1, n + (scanL (zs.drop n)).2)) :
    scanL zs = ((acc ++ [(zs.drop (n + 1)).take m]) ++ (scanL (zs.drop (n + m + 2))).1, (n + m + 2) + (scanL (zs.drop (n + m + 2))).2) := by
  rw [drop_cons h, scanL_cons, if_pos hh] at hs
  have e1 : (m : Int).toNat = m := by omega
  rw [e1, List.drop_drop, show n + 1 + (m + 1) = n + m + 2 by omega] at hs
  rw [hs]
  simp
  omega

set_option maxHeartbeats 4000000 in
set_option maxRecDepth 100000 in
theorem specFramesScan_c (a : Option Addr) (len cap : Nat) (zs : List Int) (hl : len ≤ 2097152) (hlc : len ≤ cap) (hcm : cap ≤ maxLen) (W : World) (hN : IntsAt W a len zs) :
    Calls Try.prog 28 #[.slice a len cap] W (ScanPost (scanL zs) W) := by
  obtain ⟨i0, hi, hz0, hz1, hz2⟩ := info_parts infoInt
  obtain ⟨j0, ji, jz0, jz1, jz2⟩ := info_parts infoInts
  have HE := Lib.hid hN.1
  have HN := Lib.hid hN
  have HI := Lib.hid (fun n w => l6In_c n 1 16 w)
  have hl' : (len : Int) ≤ 2097152 := by omega
  have hlc' : (len : Int) ≤ cap := by omega
  have hcm' : cap ≤ 9223372036854775807 := Nat.le_trans hcm (by unfold maxLen; omega)
  have HLC := Lib.hid (And.intro hlc hcm)
  clear hN hlc hcm
  go_enter Try.func28, Try.ntmps28
  go_wp2
  go_loopw [4, 5] (fun o p wr => ScanRel zs W o p wr) (fun _ p _ => len - (intOf p).toNat)
  case atStart =>
    exact ⟨0, [], [], rfl, by omega, by simp [Hid], by simp [Hid], World.ownsRow_lit (e := 23) (size := 1) W #[] 0 (Nat.le_refl _) (by simp [maxLen]) rfl, ⟨rfl, fun i z v hz => by simp at hz, List.Pairwise.nil⟩, below_box _ _⟩
  case round =>
    obtain ⟨p, acc, vs, rfl, hp, HAL, HSC, hown, HIN, HB⟩ := hrel
    by_cases hlt : p < len
    · obtain ⟨b, off, z, rfl, hz, c0⟩ := (HN.out.keep HB.out).at hlt
      have hlt' : (p : Int) < len := by omega
      have hpl : (p : Int) ≤ 2097152 := by omega
      have HLT := Lib.hid hlt
      obtain ⟨q, hq⟩ : ∃ q, decide ((1 : Int) ≤ z ∧ z ≤ 16) = q := ⟨_, rfl⟩
      have HIZ := Lib.hid (show Calls Try.prog 46 #[.int .i64 z, .int .i64 1, .int .i64 16] wr (fun e w' => e = .returned (.bool q) ∧ w' = wr) by rw [← hq]; exact HI.out z wr)
      cases q with
      | false =>
        have hst := Lib.hid (scan_stop hz (by unfold headOk; rw [hq]; rfl))
        clear hlt hp hz hq
        go_wp2_with fail
        refine HIZ.out.mono ?_
        rintro e w' ⟨rfl, rfl⟩
        go_wp2
        refine bodyPost_ret (v := .tuple #[u4, .int .i64 p]) (by simp [results, Try.f28, go_sem]) rfl (scan_end HSC.out hst.out hown HIN.out HB.out)
      | true =>
        simp only [decide_eq_true_eq] at hq
        obtain ⟨m, rfl⟩ : ∃ m : Nat, z = m := ⟨z.toNat, by omega⟩
        have hm1 : (1 : Int) ≤ m := hq.1
        have hm16 : (m : Int) ≤ 16 := hq.2
        by_cases hrm : p + m + 1 < len
        · have hrm' : (p : Int) + m + 1 < len := by omega
          have HRM := Lib.hid hrm
          have hblt : b < wr.heap.size := World.block_lt_of_cell? wr _ c0
          have hrl : (zs.drop (p + 1)).length = len - (p + 1) := by rw [List.length_drop, HE.out]
          have hbl : ((zs.drop (p + 1)).take m).length = m := by rw [List.length_take, hrl]; omega
          obtain ⟨bd, hbd⟩ : ∃ bd, bd = (zs.drop (p + 1)).take m := ⟨_, rfl⟩
          rw [← hbd] at hbl
          have hcells : ∀ W', Below wr.heap.size wr W' → ∀ j u, (intsV bd)[j]? = some u → W'.cell? ((⟨b, off + (p + 1), none⟩ : Addr).add j) = some u := by
            intro W' hb' j u hj
            rw [add_off]
            unfold intsV at hj
            rw [List.getElem?_map, hbd, List.getElem?_take] at hj
            obtain ⟨y, hy, rfl⟩ := Option.map_eq_some_iff.1 hj
            split at hy
            · rw [List.getElem?_drop] at hy
              obtain ⟨_, h0 | ⟨b', off', ha, hc⟩⟩ := (HN.out.keep HB.out).keep hb'
              · omega
              · simp at ha
                obtain ⟨rfl, rfl⟩ := ha
                have := hc _ y hy
                rw [show off + (p + 1) + j = off + (p + 1 + j) by omega]; exact this
            · cases hy
          obtain ⟨x, hx⟩ : ∃ x, zs[p + m + 1]? = some x := ⟨_, List.getElem?_eq_getElem (by have := HE.out; omega)⟩
          have hxr : (zs.drop (p + 1))[m]? = some x := by rw [List.getElem?_drop, show p + 1 + m = p + m + 1 by omega]; exact hx
          have HCX := Lib.hid (fun W' (hb' : Below wr.heap.size wr W') => show W'.cell? ⟨b, off + (p + m + 1), none⟩ = some (.int .i64 x) by
            obtain ⟨_, h0 | ⟨b', off', ha, hc⟩⟩ := (HN.out.keep HB.out).keep hb'
            · omega
            · simp at ha
              obtain ⟨rfl, rfl⟩ := ha
              exact hc _ x hx)
          have HH := Lib.hid (show headOk (m : Int) (zs.drop (p + 1)) = (bodyOk bd && decide (x = sumB bd)) by
            unfold headOk
            have e1 : (m : Int).toNat = m := by omega
            rw [e1, hxr, ← hbd, decide_eq_true (show (1 : Int) ≤ m ∧ (m : Int) ≤ 16 from ⟨hm1, hm16⟩), decide_eq_true (show m + 1 ≤ (zs.drop (p + 1)).length by rw [hrl]; omega)]
            simp)
          have HZ := Lib.hid hz
          have HBD := Lib.hid hbd
          have HCL := Lib.hid hcells
          have k1 : (p : Int) + 1 ≤ (p : Int) + 1 + m := by omega
          have k2 : (p : Int) + 1 + m ≤ cap := by omega
          have k3 : (0 : Int) ≤ (p : Int) + 1 := by omega
          have HOW := Lib.hid hown
          clear hlt hp hz hq hrm hrl hbd hcells hx hxr hown
          go_upto_region 4 with (refine HIZ.out.mono ?_; rintro e w' ⟨rfl, rfl⟩)
          have k5 : (m : Int) ≤ 16 := hm16
          have HBLT := Lib.hid hblt
          have HBL2 := Lib.hid hbl
          go_upto_region 5 with (at_builtin; (refine wpList_append_own _ rfl _ _ 23 rfl w'.heap.size 3 i0 (.int .i64 0) 1 8 Try.underlying23 hi hz0 hz1 hz2 rfl (by decide) _ _ _ rfl (World.ownsRow_lit (e := 3) (size := 1) w' #[] 0 (Nat.le_refl _) (by simp [maxLen]) rfl) ⟨b, off + (p + 1), none⟩ (p + 1 + m - (p + 1)) (cap - (p + 1)) (intsV bd) rfl (by rw [intsV_length]; have := HBL2.out; omega) (HCL.out _ (below_box _ _)) (intsV_cells _) (by unfold maxLen; omega) (by omega) (by simp) ?_); intro v3 w3 ho3 hg3 hn3)
          have B3 : Below w'.heap.size w' w3 := (below_box w' _).grown hg3 (by simp) (fun k e => by cases e; exact Nat.le_refl _)
          have hown3 : w3.ownsRow w'.heap.size 3 1 v3 bd.length (intsV bd) := by
            rw [HBL2.out, show m = 0 + (p + 1 + m - (p + 1)) by omega]; exact ho3
          obtain ⟨a3, c3, rfl, hi3⟩ := ints_of_own hown3
          rw [HBL2.out]
          have HO3 := Lib.hid hown3
          have HB3 := Lib.hid B3
          have hbls : (m : Nat) ≤ 16 := by omega
          obtain ⟨pb, hpb⟩ : ∃ pb, bodyOk bd = pb := ⟨_, rfl⟩
          have HQB := Lib.hid (fun n => show Calls Try.prog 40 #[.slice a3 m c3] (w3.drewN n) (fun e W' => e = .returned (.bool pb) ∧ W' = w3.drewN n) by
            rw [← hpb, ← HBL2.out]; exact l4Body_c a3 bd.length c3 bd (by have := HBL2.out; omega) (w3.drewN n) (hi3.keep (drewN_below w3 n)))
          have cx := HCX.out w3 B3
          rw [show off + (p + m + 1) = off + (p + 1 + m) by omega] at cx
          have HOT := Lib.hid (own_below1 HOW.out B3)
          have HIT := Lib.hid (HIN.out.below B3)
          have HBT := Lib.hid (below_next HB.out B3)
          have HPB := Lib.hid hpb
          have kb : ((p : Int) + 1 + m) < len := by omega
          have kc : (0 : Int) ≤ (p : Int) + 1 + m := by omega
          have hbl3 : b < w3.heap.size := by have := B3.size; have := HBLT.out; omega
          clear ho3 hg3 hn3 hown3 hpb hblt hbl c0 B3
          cases pb with
          | false =>
            have hst := Lib.hid (scan_stop HZ.out (by rw [HH.out, show bodyOk bd = false from HPB.out]; rfl))
            clear hi3
            go_quiet (first | (go_at_call 40; refine Calls.quiet_of_same (HQB.out _)))
            go_wp2
            refine bodyPost_ret (v := .tuple #[u4, .int .i64 p]) (by simp [results, Try.f28, go_sem]) rfl (scan_end HSC.out hst.out (own_below1 HOT.out (drewN_below w3 nq)) (HIT.out.below (drewN_below w3 nq)) (below_next HBT.out (drewN_below w3 nq)))
          | true =>
            have hby : bd.all byteOk = true := by have := HPB.out; unfold bodyOk at this; simp only [Bool.and_eq_true] at this; exact this.1
            obtain ⟨sm, hsm⟩ : ∃ sm, sumB bd = sm := ⟨_, rfl⟩
            have HQS := Lib.hid (fun n => show Calls Try.prog 41 #[.slice a3 m c3] (w3.drewN n) (fun e W' => e = .returned (.int .i64 sm) ∧ W' = w3.drewN n) by
              rw [← hsm, ← HBL2.out]; exact l4Sum_q a3 bd.length c3 bd (by have := HBL2.out; omega) hby (w3.drewN n) (hi3.keep (drewN_below w3 n)))
            have HSM := Lib.hid hsm
            clear hi3 hby hsm
            by_cases hxs : sm = x
            · have hxb : (sm == x) = true := by rw [hxs]; simp
              have hxn : (sm != x) = false := by rw [hxs]; simp
              have hgo := Lib.hid (scan_go HZ.out (by rw [HH.out, show bodyOk bd = true from HPB.out, HSM.out, hxs]; simp) HSC.out)
              clear hxs
              go_quiet (first | (go_at_call 40; refine Calls.quiet_of_same (HQB.out _)) | (go_at_call 41; refine Calls.quiet_of_same (HQS.out _)))
              have HOq := Lib.hid (own_below1 HOT.out (drewN_below w3 nq))
              have HIq := Lib.hid (HIT.out.below (drewN_below w3 nq))
              have HBq := Lib.hid (below_next HBT.out (drewN_below w3 nq))
              have HO3q := Lib.hid (own_below1 HO3.out (drewN_below w3 nq))
              have HVD := Lib.hid (show ∀ u ∈ vs, ∀ k, u.ownBlock = some k → (Value.slice a3 bd.length c3).ownBlock ≠ some k from fun u hu k e1 e2 => by
                have h1 := HIN.out.lt u hu k e1
                have h2 := (HO3.out.lt k e2).1
                omega)
              generalize w3.drewN nq = w6 at HOq HIq HBq HO3q ⊢
              have hlt6 := HOq.out.lt
              rw [HBL2.out] at HO3q HVD
              go_wp2_with (at_builtin; refine wpList_append_own _ rfl _ _ 29 rfl W.heap.size 23 j0 (.slice none 0 0) 1 24 Try.underlying29 ji jz0 jz1 jz2 rfl (by decide) _ _ _ rfl (HOq.out.alloc _) ⟨w6.heap.size, 0, none⟩ 1 1 [.slice a3 m c3] rfl rfl (cell_int_new _ _ _) (fun y hy => by simp at hy; subst hy; rfl) (by have := HAL.out; have := HLT.out; unfold maxLen; omega) (by have := HAL.out; have := HLT.out; omega) (by have := HBq.out.size; simp; omega) ?_; intro v7 w7 ho7 hg7 hn7)
              have B7 : Below W.heap.size W w7 := (HBq.out.alloc HBq.out.size _).grown hg7 (by have := HBq.out.size; simp; omega) (fun g e => (hlt6 g e).1)
              have hI7 := ((HIq.out.below (below_box _ _)).grown (HOq.out.alloc _) hg7)
              have hO37 : w7.ownsRow w'.heap.size 3 1 (.slice a3 m c3) bd.length (intsV bd) := own_farT (own_below1 (by have h9 := HO3q.out; rw [HBL2.out]; exact h9) (below_box w6 _)) hg7 (own_types (by have := HO3q.out; exact this) HOq.out (by decide))
              go_roundw
              case rel =>
                refine ⟨p + m + 2, acc ++ [bd], vs ++ [.slice a3 m c3], by rw [show ((p + m + 2 : Nat) : Int) = (p : Int) + m + 2 by omega], by have := HE.out; have := HRM.out; omega, by have h5 := HAL.out; show (acc ++ [bd]).length ≤ _; simp; omega, by rw [HBD.out]; exact hgo.out, by rw [List.length_append]; exact ho7, ?_, B7⟩
                exact hI7.push (own_mono1 hO37 HB.out.size) HVD.out
              case measure => have := HLT.out; simp [intOf]; omega
            · have hxb : (sm == x) = false := by simpa using hxs
              have hxn : (sm != x) = true := by simpa using hxs
              have hst := Lib.hid (scan_stop HZ.out (by rw [HH.out, HSM.out, decide_eq_false (fun e => hxs e.symm)]; simp))
              clear hxs
              go_quiet (first | (go_at_call 40; refine Calls.quiet_of_same (HQB.out _)) | (go_at_call 41; refine Calls.quiet_of_same (HQS.out _)))
              go_wp2
              refine bodyPost_ret (v := .tuple #[u4, .int .i64 p]) (by simp [results, Try.f28, go_sem]) rfl (scan_end HSC.out hst.out (own_below1 HOT.out (drewN_below w3 nq)) (HIT.out.below (drewN_below w3 nq)) (below_next HBT.out (drewN_below w3 nq)))
        · have hge : (len : Int) ≤ (p : Int) + m + 1 := by omega
          have hst := Lib.hid (scan_stop hz (by
            rw [Bool.eq_false_iff]; intro hc
            have := ((headOk_iff _ _).1 hc).2.1
            rw [List.length_drop, HE.out] at this; omega))
          clear hlt hp hz hq hrm
          go_wp2_with fail
          refine HIZ.out.mono ?_
          rintro e w' ⟨rfl, rfl⟩
          go_wp2
          refine bodyPost_ret (v := .tuple #[u4, .int .i64 p]) (by simp [results, Try.f28, go_sem]) rfl (scan_end HSC.out hst.out hown HIN.out HB.out)
    · have hge : (len : Int) ≤ p := by omega
      have hst := Lib.hid (show scanL (zs.drop p) = ([], 0) by rw [List.drop_eq_nil_of_le (by have := HE.out; omega)]; rfl)
      clear hlt hp
      go_wp2
      refine bodyPost_ret (v := .tuple #[u4, .int .i64 p]) (by simp [results, Try.f28, go_sem]) rfl (scan_end HSC.out hst.out hown HIN.out HB.out)

end Go.Proofs.Ytdlkofgapjdeaaa
