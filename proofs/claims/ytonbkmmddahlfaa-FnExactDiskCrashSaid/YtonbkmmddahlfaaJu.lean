/-
  WALKS: spec.DiskCrash.
-/
import Derived.Test.YtonbkmmddahlfaaJt
namespace Go.Proofs.Ytonbkmmddahlfaa
open Go.RowKit
set_option linter.unusedVariables false

theorem ju_first : (0 : Nat) ≤ 0 := Nat.le_refl 0

def KeepRel (keep : List Int) (lk : Nat) (W : World) (k : Value) (wr : World) : Prop :=
  ∃ n : Nat, k = .int .i64 n ∧ n ≤ lk ∧ Hid ((keep.take n).all (fun k => decide (0 ≤ k ∧ k ≤ 400)) = true) ∧ W = wr
def CrashRelM (keep : List Int) (bs : List Bl) (len : Nat) (W : World) (o k : Value) (wr : World) : Prop :=
  ∃ (i : Nat) (vs : List Value), k = .int .i64 i ∧ i ≤ len ∧ Hid (OwnsB2 wr W.heap.size o ((bs.take i).map (crashB keep)) vs) ∧ Hid (Below W.heap.size W wr)

theorem keep_at {keep : List Int} (h : keep.all (fun k => decide (0 ≤ k ∧ k ≤ 400)) = true) {n : Int} (hn : 1 ≤ n) {z : Int} (hz : keep[(n - 1).toNat]? = some z) : z = (keepK keep n : Int) ∧ keepK keep n ≤ 400 := by
  have hzz : 0 ≤ z ∧ z ≤ 400 := by have := List.all_eq_true.1 h z (List.mem_of_getElem? hz); simpa using this
  unfold keepK
  rw [List.getD_eq_getElem?_getD, hz]
  simp only [Option.getD_some]
  omega
theorem keep_noneJ {keep : List Int} {n : Int} (hn : (keep.length : Int) < n) : keepK keep n = 0 := by
  unfold keepK
  rw [List.getD_eq_getElem?_getD, List.getElem?_eq_none (by omega)]
  rfl

theorem cell_three_at {g : Nat} (w : World) (x y z : Value) (t : TypeId) (hg : w.heap.size = g) : ∀ j r, [x, y, z][j]? = some r → (w.alloc (.cells #[x, y, z] t)).cell? ((⟨g, 0, none⟩ : Addr).add j) = some r := by
  subst hg
  exact cell_three_newJ w x y z t
theorem crash_push {cur w8 : World} {base : Nat} {sl v8 p q : Value} {acc : List Bl} {vs : List Value} {n : Int} {g : List Int} (h : OwnsB2 cur base sl acc vs) (hp : LsAt cur p g) (hq : LsAt cur q [])
    (ho : w8.ownsRow base 48 3 v8 (acc.length + 1) (flatBJ acc vs ++ [.int .i64 n, p, q])) (hg : cur.grownBy w8 sl.ownBlock) : OwnsB2 w8 base v8 (acc ++ [⟨n, g, []⟩]) (vs ++ [p, q]) := by
  refine h.grown (x := ⟨n, g, []⟩) hp hq ?_ hg
  rw [flatB_append acc vs [⟨n, g, []⟩] [p, q] h.vlen, List.length_append]
  exact ho
theorem crash_below {W Y cur w8 : World} {sl : Value} {acc : List Bl} {vs : List Value} (h : Below W.heap.size W Y) (hy : Below Y.heap.size Y cur) (hO : OwnsB2 Y W.heap.size sl acc vs) (hg : cur.grownBy w8 sl.ownBlock) : Below W.heap.size W w8 :=
  (h.trans (hy.mono h.size)).grown hg (Nat.le_trans h.size hy.size) (fun k e => (hO.1.lt k e).1)

set_option maxHeartbeats 8000000 in
set_option maxRecDepth 100000 in
theorem specDiskCrash_c (a : Option Addr) (len cap : Nat) (bs : List Bl) (ak : Option Addr) (lk ck : Nat) (keep : List Int) (hl : len ≤ 2000000) (hs : Long bs) (hk : lk ≤ 2097152) (W : World) (hN : BlobsAt W a len bs) (hK : IntsAt W ak lk keep) :
    Calls Try.prog 28 #[.slice a len cap, .slice ak lk ck] W (DiskPost (diskCrash bs keep) W) := by
  obtain ⟨i0, hi0', hz0, hz1, hz2⟩ := info_parts infoBlob
  have HN := Lib.hid hN
  have HE := Lib.hid hN.1
  have HS := Lib.hid hs
  have HKA := Lib.hid hK
  have HKE := Lib.hid hK.1
  obtain ⟨q, hq⟩ : ∃ q, diskV bs = q := ⟨_, rfl⟩
  have HV := Lib.hid (show Calls Try.prog 10 #[.slice a len cap] W (BoolPost q W) by rw [← hq]; exact specDiskValid_c a len cap bs (by omega) hs W hN)
  have HI := Lib.hid (fun z w => l6In_c z 0 400 w)
  have HQ := Lib.hid hq
  have hl' : (len : Int) ≤ 2000000 := by omega
  have hk' : (lk : Int) ≤ 2097152 := by omega
  clear hN hs hq hl hK hk
  go_enter Try.func28, Try.ntmps28
  go_wp2_with fail
  refine HV.out.mono ?_
  rintro e W1 ⟨rfl, hb1⟩
  have HB1 := Lib.hid hb1
  clear hb1
  have HBL := Lib.hid (below_al HB1.out (Nat.le_refl _) (.cells #[] 48))
  cases q with
  | false =>
    have HR := Lib.hid (show diskCrash bs keep = none by unfold diskCrash; rw [HQ.out]; rfl)
    go_wp2
    go_ret2
    exact disk_fail HR.out (Nat.zero_le _) (by simp) HBL.out
  | true =>
    by_cases h3 : 3 < lk
    · have h3' : (3 : Int) < lk := by omega
      have HR := Lib.hid (show diskCrash bs keep = none by unfold diskCrash keepOk; rw [HKE.out, decide_eq_false (show ¬ lk ≤ 3 by omega)]; simp)
      clear h3
      go_wp2
      go_ret2
      exact disk_fail HR.out (Nat.zero_le _) (by simp) HBL.out
    · have h3' : (lk : Int) ≤ 3 := by omega
      have H3 := Lib.hid (show lk ≤ 3 by omega)
      have h3d : decide ((3 : Int) < lk) = false := decide_eq_false (by omega)
      clear h3
      have HKB := Lib.hid (HKA.out.keep HB1.out)
      go_wp2
      go_loopw [6] (fun k wr => KeepRel keep lk W1 k wr) (fun k _ => lk - (intOf k).toNat)
      case atStart => exact ⟨0, rfl, Nat.zero_le _, by simp [Hid], rfl⟩
      case round =>
        obtain ⟨i, rfl, hi, HA, rfl⟩ := hrel
        by_cases hlt : i < lk
        · obtain ⟨b, off, z, rfl, hz, c0⟩ := HKB.out.at hlt
          have hlt' : (i : Int) < lk := by omega
          have hi0 : (0 : Int) ≤ i := by omega
          have HLT := Lib.hid hlt
          obtain ⟨p, hp⟩ : ∃ p, decide ((0 : Int) ≤ z ∧ z ≤ 400) = p := ⟨_, rfl⟩
          have HIZ := Lib.hid (fun w => show Calls Try.prog 31 #[.int .i64 z, .int .i64 0, .int .i64 400] w (fun e w' => e = .returned (.bool p) ∧ w' = w) by rw [← hp]; exact HI.out z w)
          have HTK := Lib.hid (show (keep.take (i + 1)).all (fun k => decide (0 ≤ k ∧ k ≤ 400)) = ((keep.take i).all (fun k => decide (0 ≤ k ∧ k ≤ 400)) && p) by rw [List.take_add_one, hz, ← hp]; simp [List.all_append])
          have HZM := Lib.hid (And.intro hz hp)
          clear hz hp hlt hi
          go_wp2_with fail
          refine (HIZ.out _).mono ?_
          rintro e W2 ⟨rfl, rfl⟩
          cases p with
          | false =>
            have HR := Lib.hid (show diskCrash bs keep = none by
              unfold diskCrash keepOk
              rw [show keep.all (fun k => decide (0 ≤ k ∧ k ≤ 400)) = false by
                rw [Bool.eq_false_iff]
                intro h
                have h1 := List.all_eq_true.1 h z (List.mem_of_getElem? HZM.out.1)
                rw [HZM.out.2] at h1
                cases h1]
              simp)
            go_wp2
            go_ret2
            exact disk_fail HR.out (Nat.zero_le _) (by simp) HBL.out
          | true =>
            go_wp2
            go_roundw
            case rel => exact ⟨i + 1, by go_num, HLT.out, Lib.hid (by rw [HTK.out, show (keep.take i).all (fun k => decide (0 ≤ k ∧ k ≤ 400)) = true from HA.out]; rfl), rfl⟩
            case measure => have := HLT.out; simp [intOf]; omega
        · have hge : (lk : Int) ≤ i := by omega
          have htk : keep.take i = keep := List.take_of_length_le (by have := HKE.out; omega)
          rw [htk] at HA
          have HKO := Lib.hid (show keepOk keep = true by unfold keepOk; rw [HKE.out, decide_eq_true H3.out, HA.out]; rfl)
          have HR := Lib.hid (show diskCrash bs keep = some (bs.map (crashB keep)) by unfold diskCrash; rw [HQ.out, HKO.out]; rfl)
          have hlen : len ≤ 3 := by have := valid_lenJ HQ.out; have := HE.out; omega
          have HLN := Lib.hid hlen
          have HOS := Lib.hid (ownsB2_lit W1 (base := W.heap.size) HB1.out.size)
          clear hlt hi htk hlen
          go_wp2
          generalize decide (i < lk) = dg
          go_loopw [7, 8, 9] (fun o k _ w2 => CrashRelM keep bs len W o k w2) (fun _ k _ _ => len - (intOf k).toNat)
          case atStart => exact ⟨0, [], rfl, Nat.zero_le _, HOS.out, HBL.out⟩
          case round =>
            obtain ⟨i, vs, rfl, hi, HO, HB⟩ := hrel
            by_cases hlt : i < len
            · obtain ⟨b, off, x, a1, c1, a2, c2, rfl, hx, e0w, e1w, e2w, l1w, l2w⟩ := HN.out.at2 hlt
              have hbW : b < W.heap.size := World.block_lt_of_cell? W ⟨b, off + i * 3, none⟩ e0w
              have HBLT := Lib.hid hbW
              have e0 := cell_kept HB.out e0w
              have e1 := cell_kept HB.out e1w
              have e2 := cell_kept HB.out e2w
              have hok := valid_at HQ.out hx
              have hxn3 := ((blOk_iff _).1 (dvalid_low HQ.out x (List.mem_of_getElem? hx)).2).1
              have hlt' : (i : Int) < len := by omega
              have hi0 : (0 : Int) ≤ i := by omega
              have HLT := Lib.hid hlt
              have HNX := Lib.hid (show (bs.take (i + 1)).map (crashB keep) = (bs.take i).map (crashB keep) ++ [crashB keep x] by rw [takeB_next hx, List.map_append]; rfl)
              have HLL := Lib.hid (show ((bs.take i).map (crashB keep)).length ≤ 3 by rw [List.length_map, List.length_take]; have := HLN.out; have := HE.out; omega)
              have hl1 := l1w.keep HB.out
              have hl2 := l2w.keep HB.out
              obtain ⟨-, -, hfc, hfm, -⟩ := hl2.ints
              have hfm' : c2 ≤ 9223372036854775807 := Nat.le_trans hfm (by unfold maxLen; omega)
              obtain ⟨m, hm⟩ : ∃ m, min (keepK keep x.n) x.f.length = m := ⟨_, rfl⟩
              have hml : m ≤ x.f.length := by omega
              have hlt2 := hl2.take hml
              obtain ⟨tk, htk⟩ : ∃ t, x.f.take m = t := ⟨_, rfl⟩
              rw [htk] at hlt2
              have htl : tk.length = m := by rw [← htk, List.length_take]; omega
              obtain ⟨g, hg⟩ : ∃ g, x.s ++ tk = g := ⟨_, rfl⟩
              have HGG := Lib.hid hg
              have HCR := Lib.hid (show crashB keep x = ⟨x.n, g, []⟩ by unfold crashB; rw [← hg, ← htk, ← hm, take_min])
              have HXL := Lib.hid (show x.s.length ≤ 400 ∧ x.s.length + tk.length ≤ 400 by omega)
              have HL1 := Lib.hid (And.intro hl1 trivial)
              have HLT2 := Lib.hid hlt2
              have hmc : (m : Int) ≤ c2 := by omega
              have hm0 : (0 : Int) ≤ m := by omega
              have HKEEP := Lib.hid (show keep.all (fun k => decide (0 ≤ k ∧ k ≤ 400)) = true by have := HKO.out; unfold keepOk at this; simp only [Bool.and_eq_true] at this; exact this.2)
              have HKC := Lib.hid (HKA.out.keep HB.out)
              have HMM := Lib.hid hm
              generalize hxn : x.n = xn at e0 HCR hxn3 HMM
              generalize hxs : x.s.length = xs at e1 HL1
              generalize hxf : x.f.length = xf at e2 HMM hfc
              have HXE := Lib.hid (And.intro hxs hxf)
              have hfc' : (xf : Int) ≤ c2 := by omega
              clear e0w e1w e2w l1w l2w hbW hx hok hl1 hl2 hm hml htk htl hg hxn hxs hxf hfm hfc hlt2 hlt hi
              by_cases hle : xn ≤ lk
              · obtain ⟨j, rfl⟩ : ∃ j : Nat, xn = (j : Int) + 1 := ⟨(xn - 1).toNat, by omega⟩
                have hjl : j < lk := by omega
                obtain ⟨bk, ofk, z, rfl, hz, z0⟩ := HKC.out.at hjl
                obtain ⟨hzk, hz4⟩ := keep_at HKEEP.out (n := (j : Int) + 1) (by omega) (by rw [show ((j : Int) + 1 - 1).toNat = j by omega]; exact hz)
                have hmin : min z (xf : Int) = m := by rw [hzk, ← HMM.out]; omega
                have hw : IntKind.i64.wrap ((j : Int) + 1 - 1) = j := (IntWalk.i64_in _ (by omega)).trans (by omega)
                have hj0 : (0 : Int) ≤ j := by omega
                have hjl' : (j : Int) < lk := by omega
                have hd : decide ((j : Int) + 1 ≤ lk) = true := decide_eq_true hle
                clear hz hzk hz4 hjl hxn3
                go_upto_region 14 with (fail)
                go_quiet (fail)
                have hq := drewN_below wr nq
                have HOQ := Lib.hid (HO.out.below hq)
                have HBQ := Lib.hid (HB.out.trans (hq.mono HB.out.size))
                replace e0 := cell_kept hq e0
                replace e1 := cell_kept hq e1
                replace e2 := cell_kept hq e2
                replace HL1 := Lib.hid (And.intro (HL1.out.1.keep hq) trivial)
                replace HLT2 := Lib.hid (HLT2.out.keep hq)
                clear hq z0
                generalize wr.drewN nq = Y at HOQ HBQ e0 e1 e2 HL1 HLT2 ⊢
                have HSX := Lib.hid (fun W' (hb : Below Y.heap.size Y W') => HL1.out.1.keep hb)
                have HKX := Lib.hid (fun W' (hb : Below Y.heap.size Y W') => HLT2.out.keep hb)
                have HS0 := Lib.hid (show Y.cell? ⟨b, off + i * 3, none⟩ = some (.int .i64 ((j : Int) + 1)) ∧ Y.cell? ⟨b, off + i * 3 + 1, none⟩ = some (.slice a1 xs c1) ∧ Y.cell? ⟨b, off + i * 3 + 2, none⟩ = some (.slice a2 xf c2) from ⟨e0, e1, e2⟩)
                have HKP := Lib.hid (fun (u2 : World) (hb : Below Y.heap.size Y u2) => show u2.cell? ⟨b, off + i * 3, none⟩ = some (.int .i64 ((j : Int) + 1)) ∧ u2.cell? ⟨b, off + i * 3 + 1, none⟩ = some (.slice a1 xs c1) ∧ u2.cell? ⟨b, off + i * 3 + 2, none⟩ = some (.slice a2 xf c2) from ⟨cell_kept hb HS0.out.1, cell_kept hb HS0.out.2.1, cell_kept hb HS0.out.2.2⟩)
                go_upto_region 15 with (fail)
                clear e0 e1 e2
                go_region_held3 (fun w' => w'.cell? ⟨b, off + i * 3, none⟩ = some (.int .i64 ((j : Int) + 1)) ∧ w'.cell? ⟨b, off + i * 3 + 1, none⟩ = some (.slice a1 xs c1) ∧ w'.cell? ⟨b, off + i * 3 + 2, none⟩ = some (.slice a2 xf c2))
                  (first | exact HS8.out | exact HKP.out _ (by (repeat (first | exact Below.refl _ _ | exact HB4.out | exact HB3.out | apply Below.drew | refine below_al ?_ (Nat.le_refl _) _))))
                  (first
                    | (rw [if_pos (by rfl)]; refine wp_append_lit _ _ rfl Y.heap.size _ rfl a1 xs c1 x.s rfl (HSX.out _ (by (repeat (first | exact Below.refl _ _ | apply Below.drew | refine below_al ?_ (Nat.le_refl _) _)))) (by have := HXL.out.1; omega) (Below.size (w := Y) (by (repeat (first | exact Below.refl Y.heap.size _ | apply Below.drew | refine below_al ?_ (Nat.le_refl _) _)))) ?_; intro v3 w3 hF3 hb3; have HB3 := Lib.hid (below_next (show Below Y.heap.size Y _ by (repeat (first | exact Below.refl _ _ | apply Below.drew | refine below_al ?_ (Nat.le_refl _) _))) hb3); have HF3 := Lib.hid hF3; obtain ⟨a3, c3, rfl⟩ := hF3.out; clear hF3 hb3)
                    | (rw [if_pos (by rfl)]; refine wp_append_onto _ _ rfl Y.heap.size (.slice a3 x.s.length c3) x.s rfl (HF3.out.below (show Below w3.heap.size w3 _ by (repeat (first | exact Below.refl _ _ | apply Below.drew | refine below_al ?_ (Nat.le_refl _) _)))) a2 m c2 tk rfl (HKX.out _ (by (repeat (first | exact Below.refl _ _ | exact HB3.out | apply Below.drew | refine below_al ?_ (Nat.le_refl _) _)))) (by have := HXL.out.2; omega) (Below.size (w := Y) (by (repeat (first | exact Below.refl Y.heap.size _ | exact HB3.out | apply Below.drew | refine below_al ?_ (Nat.le_refl _) _)))) ?_; intro v4 w4 hF4 hb4; rw [HGG.out] at hF4; have HB4 := Lib.hid ((show Below Y.heap.size Y _ by (repeat (first | exact Below.refl _ _ | exact HB3.out | apply Below.drew | refine below_al ?_ (Nat.le_refl _) _))).trans hb4); have HF4 := Lib.hid hF4; obtain ⟨a4, c4, rfl⟩ := hF4.out; clear hF4 hb4)
                    | (rw [if_pos (by rfl)]; refine wp_append_own _ _ _ 25 rfl W.heap.size 48 i0 (.agg #[.int .i64 0, .slice none 0 0, .slice none 0 0]) 3 56 Try.underlying25 hi0' hz0 hz1 hz2 rfl (by decide) u7 ((bs.take i).map (crashB keep)).length (flatBJ ((bs.take i).map (crashB keep)) vs) rfl (own_below1 HOQ.out.1 (by (repeat (first | exact Below.refl _ _ | exact HB4.out | apply Below.drew | refine below_al ?_ (Nat.le_refl _) _)))) ⟨_, 0, none⟩ 1 1 [_, _, _] rfl rfl (cell_three_at _ _ _ _ _ (by simp)) (by intro u hu; simp at hu; rcases hu with rfl | rfl | rfl <;> rfl) (by have := HLL.out; unfold maxLen; omega) (by have := HLL.out; omega) (Nat.le_trans (Nat.le_trans HBQ.out.size (Nat.le_refl _)) (Below.size (B := Y.heap.size) (by (repeat (first | exact Below.refl _ _ | exact HB4.out | apply Below.drew | refine below_al ?_ (Nat.le_refl _) _))))) ?_; intro v8 w8 ho8 hg8 hn8; have HO8 := Lib.hid (show ∃ vs', OwnsB2 w8 W.heap.size v8 (((bs.take i).map (crashB keep)) ++ [⟨((j : Int) + 1), g, []⟩]) vs' from ⟨_, crash_push (HOQ.out.below (by (repeat (first | exact Below.refl _ _ | exact HB4.out | apply Below.drew | refine below_al ?_ (Nat.le_refl _) _)))) (HF4.out.ls.keep (show Below w4.heap.size w4 _ from (by (repeat (first | exact Below.refl _ _ | apply Below.drew | refine below_al ?_ (Nat.le_refl _) _))))) (lit_ls _ _) ho8 hg8⟩); have hne : some b ≠ u7.ownBlock := fun e => absurd ((HOQ.out.1.lt _ e.symm).1) (Nat.not_le_of_lt HBLT.out); have hq8 := (fun u (hg : u.grownBy w8 u7.ownBlock) (hu : Below Y.heap.size Y u) => HKP.out u hu) _ hg8 (by (repeat (first | exact Below.refl _ _ | exact HB4.out | apply Below.drew | refine below_al ?_ (Nat.le_refl _) _))); have HS8 := Lib.hid (And.intro (hg8.cell hq8.1 hne) (And.intro (hg8.cell hq8.2.1 hne) (hg8.cell hq8.2.2 hne))); have HB8 := Lib.hid (crash_below HBQ.out (show Below Y.heap.size Y _ from (by (repeat (first | exact Below.refl _ _ | exact HB4.out | apply Below.drew | refine below_al ?_ (Nat.le_refl _) _)))) HOQ.out hg8); clear hq8 hne ho8 hg8 hn8))
                all_goals
                  rename_i hS
                  clear hS
                  obtain ⟨vs', hvs⟩ := HO8.out
                  rw [← HCR.out, ← HNX.out] at hvs
                  have HO9 := Lib.hid hvs
                  clear hvs
                  go_wp2
                  (try go_big_round)
                  exact ⟨⟨i + 1, vs', by go_num, HLT.out, HO9, HB8⟩, by have := HLT.out; simp [intOf]; omega⟩
              · have hd : decide (xn ≤ lk) = false := decide_eq_false hle
                have hle' : (lk : Int) < xn := by omega
                obtain rfl : m = 0 := by rw [← HMM.out, keep_noneJ (by rw [HKE.out]; omega)]; exact Nat.zero_min _
                have HOQ := HO
                have HBQ := HB
                clear hle hxn3
                have HSX := Lib.hid (fun W' (hb : Below wr.heap.size wr W') => HL1.out.1.keep hb)
                have HKX := Lib.hid (fun W' (hb : Below wr.heap.size wr W') => HLT2.out.keep hb)
                have HS0 := Lib.hid (show wr.cell? ⟨b, off + i * 3, none⟩ = some (.int .i64 xn) ∧ wr.cell? ⟨b, off + i * 3 + 1, none⟩ = some (.slice a1 xs c1) ∧ wr.cell? ⟨b, off + i * 3 + 2, none⟩ = some (.slice a2 xf c2) from ⟨e0, e1, e2⟩)
                have HKP := Lib.hid (fun (u2 : World) (hb : Below wr.heap.size wr u2) => show u2.cell? ⟨b, off + i * 3, none⟩ = some (.int .i64 xn) ∧ u2.cell? ⟨b, off + i * 3 + 1, none⟩ = some (.slice a1 xs c1) ∧ u2.cell? ⟨b, off + i * 3 + 2, none⟩ = some (.slice a2 xf c2) from ⟨cell_kept hb HS0.out.1, cell_kept hb HS0.out.2.1, cell_kept hb HS0.out.2.2⟩)
                go_upto_region 15 with (fail)
                clear e0 e1 e2
                go_region_held3 (fun w' => w'.cell? ⟨b, off + i * 3, none⟩ = some (.int .i64 xn) ∧ w'.cell? ⟨b, off + i * 3 + 1, none⟩ = some (.slice a1 xs c1) ∧ w'.cell? ⟨b, off + i * 3 + 2, none⟩ = some (.slice a2 xf c2))
                  (first | exact HS8.out | exact HKP.out _ (by (repeat (first | exact Below.refl _ _ | exact HB4.out | exact HB3.out | apply Below.drew | refine below_al ?_ (Nat.le_refl _) _))))
                  (first
                    | (rw [if_pos (by rfl)]; refine wp_append_lit _ _ rfl wr.heap.size _ rfl a1 xs c1 x.s rfl (HSX.out _ (by (repeat (first | exact Below.refl _ _ | apply Below.drew | refine below_al ?_ (Nat.le_refl _) _)))) (by have := HXL.out.1; omega) (Below.size (w := wr) (by (repeat (first | exact Below.refl wr.heap.size _ | apply Below.drew | refine below_al ?_ (Nat.le_refl _) _)))) ?_; intro v3 w3 hF3 hb3; have HB3 := Lib.hid (below_next (show Below wr.heap.size wr _ by (repeat (first | exact Below.refl _ _ | apply Below.drew | refine below_al ?_ (Nat.le_refl _) _))) hb3); have HF3 := Lib.hid hF3; obtain ⟨a3, c3, rfl⟩ := hF3.out; clear hF3 hb3)
                    | (rw [if_pos (by rfl)]; refine wp_append_onto _ _ rfl wr.heap.size (.slice a3 x.s.length c3) x.s rfl (HF3.out.below (show Below w3.heap.size w3 _ by (repeat (first | exact Below.refl _ _ | apply Below.drew | refine below_al ?_ (Nat.le_refl _) _)))) a2 0 c2 tk rfl (HKX.out _ (by (repeat (first | exact Below.refl _ _ | exact HB3.out | apply Below.drew | refine below_al ?_ (Nat.le_refl _) _)))) (by have := HXL.out.2; omega) (Below.size (w := wr) (by (repeat (first | exact Below.refl wr.heap.size _ | exact HB3.out | apply Below.drew | refine below_al ?_ (Nat.le_refl _) _)))) ?_; intro v4 w4 hF4 hb4; rw [HGG.out] at hF4; have HB4 := Lib.hid ((show Below wr.heap.size wr _ by (repeat (first | exact Below.refl _ _ | exact HB3.out | apply Below.drew | refine below_al ?_ (Nat.le_refl _) _))).trans hb4); have HF4 := Lib.hid hF4; obtain ⟨a4, c4, rfl⟩ := hF4.out; clear hF4 hb4)
                    | (rw [if_pos (by rfl)]; refine wp_append_own _ _ _ 25 rfl W.heap.size 48 i0 (.agg #[.int .i64 0, .slice none 0 0, .slice none 0 0]) 3 56 Try.underlying25 hi0' hz0 hz1 hz2 rfl (by decide) u7 ((bs.take i).map (crashB keep)).length (flatBJ ((bs.take i).map (crashB keep)) vs) rfl (own_below1 HOQ.out.1 (by (repeat (first | exact Below.refl _ _ | exact HB4.out | apply Below.drew | refine below_al ?_ (Nat.le_refl _) _)))) ⟨_, 0, none⟩ 1 1 [_, _, _] rfl rfl (cell_three_at _ _ _ _ _ (by simp)) (by intro u hu; simp at hu; rcases hu with rfl | rfl | rfl <;> rfl) (by have := HLL.out; unfold maxLen; omega) (by have := HLL.out; omega) (Nat.le_trans (Nat.le_trans HBQ.out.size (Nat.le_refl _)) (Below.size (B := wr.heap.size) (by (repeat (first | exact Below.refl _ _ | exact HB4.out | apply Below.drew | refine below_al ?_ (Nat.le_refl _) _))))) ?_; intro v8 w8 ho8 hg8 hn8; have HO8 := Lib.hid (show ∃ vs', OwnsB2 w8 W.heap.size v8 (((bs.take i).map (crashB keep)) ++ [⟨xn, g, []⟩]) vs' from ⟨_, crash_push (HOQ.out.below (by (repeat (first | exact Below.refl _ _ | exact HB4.out | apply Below.drew | refine below_al ?_ (Nat.le_refl _) _)))) (HF4.out.ls.keep (show Below w4.heap.size w4 _ from (by (repeat (first | exact Below.refl _ _ | apply Below.drew | refine below_al ?_ (Nat.le_refl _) _))))) (lit_ls _ _) ho8 hg8⟩); have hne : some b ≠ u7.ownBlock := fun e => absurd ((HOQ.out.1.lt _ e.symm).1) (Nat.not_le_of_lt HBLT.out); have hq8 := (fun u (hg : u.grownBy w8 u7.ownBlock) (hu : Below wr.heap.size wr u) => HKP.out u hu) _ hg8 (by (repeat (first | exact Below.refl _ _ | exact HB4.out | apply Below.drew | refine below_al ?_ (Nat.le_refl _) _))); have HS8 := Lib.hid (And.intro (hg8.cell hq8.1 hne) (And.intro (hg8.cell hq8.2.1 hne) (hg8.cell hq8.2.2 hne))); have HB8 := Lib.hid (crash_below HBQ.out (show Below wr.heap.size wr _ from (by (repeat (first | exact Below.refl _ _ | exact HB4.out | apply Below.drew | refine below_al ?_ (Nat.le_refl _) _)))) HOQ.out hg8); clear hq8 hne ho8 hg8 hn8))
                all_goals
                  rename_i hS
                  clear hS
                  obtain ⟨vs', hvs⟩ := HO8.out
                  rw [← HCR.out, ← HNX.out] at hvs
                  have HO9 := Lib.hid hvs
                  clear hvs
                  go_wp2
                  (try go_big_round)
                  exact ⟨⟨i + 1, vs', by go_num, HLT.out, HO9, HB8⟩, by have := HLT.out; simp [intOf]; omega⟩
            · have hge : (len : Int) ≤ i := by omega
              have htk : bs.take i = bs := List.take_of_length_le (by have := HE.out; omega)
              rw [htk] at HO
              clear hlt hi htk
              go_wp2
              go_ret2
              exact blobs_post HR.out HO.out HB.out

end Go.Proofs.Ytonbkmmddahlfaa
