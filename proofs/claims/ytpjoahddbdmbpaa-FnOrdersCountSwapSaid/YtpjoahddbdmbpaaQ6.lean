/-
  Texts of this proof, one behind the other: Op, Ro, Lp, Lt, La, Li, Ld, Cg, Lb, Lf, Lk, Fm, Fa, Oq.
-/
import Derived.Laws.Concat
import Derived.Laws.Cover1
import Derived.Deep.Cut
import Derived.Maps.AppendAt
import Derived.OwnWalk
import Derived.Laws.OwnMore
import Derived.Laws.AppendOwnNone
import Derived.Test.YtpjoahddbdmbpaaQ3
import Derived.Test.YtpjoahddbdmbpaaOr
import Derived.Test.YtpjoahddbdmbpaaPv
import Derived.Test.YtpjoahddbdmbpaaRk
import Derived.Test.YtpjoahddbdmbpaaTt
import Derived.Test.YtpjoahddbdmbpaaQ4
import Derived.Test.YtpjoahddbdmbpaaCkq
import Derived.Test.YtpjoahddbdmbpaaQ9
import Derived.Test.YtpjoahddbdmbpaaLg
import Derived.Test.YtpjoahddbdmbpaaQ2
import Derived.Test.YtpjoahddbdmbpaaBn
import Derived.Test.YtpjoahddbdmbpaaBq
import Derived.Test.YtpjoahddbdmbpaaQ10
/-
  WALKS: orders of the model: spec.l15Must, MustPrecede, l15Once, l15Fits, OrderFits.
-/
namespace Go.Proofs.Ytpjoahddbdmbpaa
open Go.RowKit
set_option linter.unusedVariables false

set_option maxHeartbeats 2000000 in
set_option maxRecDepth 100000 in
theorem specMust_c (c d : Cmd) (W : World) : Calls Try.prog 40 #[cmdV c, cmdV d] W (BoolPost (mustC c d) W) := by
  obtain ⟨u, hu⟩ : ∃ u, l1uB d.p c.p = u := ⟨_, rfl⟩
  obtain ⟨v, hv⟩ : ∃ v, l1uB c.p d.p = v := ⟨_, rfl⟩
  obtain ⟨x, hx⟩ : ∃ x, (d.fk == 1) = x := ⟨_, rfl⟩
  obtain ⟨y, hy⟩ : ∃ y, (c.tk == 1) = y := ⟨_, rfl⟩
  have HU := Lib.hid (fun w => show Calls Try.prog 65 #[.string d.p, .string c.p] w (fun e w' => e = .returned (.bool u) ∧ w = w') by rw [← hu]; exact l1Under_c d.p c.p w)
  have HV := Lib.hid (fun w => show Calls Try.prog 65 #[.string c.p, .string d.p] w (fun e w' => e = .returned (.bool v) ∧ w = w') by rw [← hv]; exact l1Under_c c.p d.p w)
  have HR := Lib.hid (show mustC c d = ((u && x) || (v && y)) by unfold mustC; rw [hu, hv, hx, hy])
  have HT := Lib.hid (twoC_new W c d)
  have HB := Lib.hid (below_next (below_box W (.cells #[.string c.p, .int .i64 c.fk, .int .i64 c.fv, .int .i64 c.tk, .int .i64 c.tv] 26)) (below_box _ (.cells #[.string d.p, .int .i64 d.fk, .int .i64 d.fv, .int .i64 d.tk, .int .i64 d.tv] 26)))
  clear hu hv
  obtain ⟨p, fk, fv, tk, tv⟩ := c
  obtain ⟨p', fk', fv', tk', tv'⟩ := d
  unfold cmdV
  simp only at HU HV HT HB HR hx hy ⊢
  obtain ⟨a0, a1, a2, a3, a4, b0, b1, b2, b3, b4⟩ := HT.out
  simp only at a0 a1 a2 a3 a4 b0 b1 b2 b3 b4
  go_enter Try.func40, Try.ntmps40
  go_wp2_with fail
  refine (HU.out _).mono ?_
  rintro e W1 ⟨rfl, rfl⟩
  cases u with
  | true =>
    cases x with
    | true =>
      have hx1 := hx
      go_wp2
      go_ret
      exact ⟨ret_bool (by rw [HR.out]; rfl), HB.out⟩
    | false =>
      go_wp2_with fail
      refine (HV.out _).mono ?_
      rintro e W1 ⟨rfl, rfl⟩
      cases v with
      | true =>
        go_wp2
        go_ret
        exact ⟨ret_bool (by rw [HR.out, ← hy]; rfl), HB.out⟩
      | false =>
        go_wp2
        go_ret
        exact ⟨ret_bool (by rw [HR.out]; rfl), HB.out⟩
  | false =>
    go_wp2_with fail
    refine (HV.out _).mono ?_
    rintro e W1 ⟨rfl, rfl⟩
    cases v with
    | true =>
      go_wp2
      go_ret
      exact ⟨ret_bool (by rw [HR.out, ← hy]; rfl), HB.out⟩
    | false =>
      go_wp2
      go_ret
      exact ⟨ret_bool (by rw [HR.out]; rfl), HB.out⟩

set_option maxHeartbeats 2000000 in
set_option maxRecDepth 100000 in
theorem specMustPrecede_c (c d : Cmd) (hc : c.p.size ≤ 2097152) (hd : d.p.size ≤ 2097152) (W : World) : Calls Try.prog 16 #[cmdV c, cmdV d] W (BoolPost (mustP c d) W) := by
  obtain ⟨u, hu⟩ : ∃ u, validC c = u := ⟨_, rfl⟩
  obtain ⟨v, hv⟩ : ∃ v, validC d = v := ⟨_, rfl⟩
  have HC := Lib.hid (fun w => show Calls Try.prog 18 #[cmdV c] w (BoolPost u w) by rw [← hu]; exact specCmdValid_c c hc w)
  have HD := Lib.hid (fun w => show Calls Try.prog 18 #[cmdV d] w (BoolPost v w) by rw [← hv]; exact specCmdValid_c d hd w)
  have HM := Lib.hid (fun w => specMust_c c d w)
  have HR := Lib.hid (show mustP c d = (u && v && mustC c d) by unfold mustP; rw [hu, hv])
  have HT := Lib.hid (twoC_new W c d)
  have HB := Lib.hid (below_next (below_box W (.cells #[.string c.p, .int .i64 c.fk, .int .i64 c.fv, .int .i64 c.tk, .int .i64 c.tv] 26)) (below_box _ (.cells #[.string d.p, .int .i64 d.fk, .int .i64 d.fv, .int .i64 d.tk, .int .i64 d.tv] 26)))
  clear hu hv hc hd
  obtain ⟨m, hm⟩ : ∃ m, mustC c d = m := ⟨_, rfl⟩
  rw [hm] at HR HM
  clear hm
  obtain ⟨p, fk, fv, tk, tv⟩ := c
  obtain ⟨p', fk', fv', tk', tv'⟩ := d
  unfold cmdV at HC HD HM ⊢
  simp only at HC HD HM HT HB HR ⊢
  obtain ⟨a0, a1, a2, a3, a4, b0, b1, b2, b3, b4⟩ := HT.out
  simp only at a0 a1 a2 a3 a4 b0 b1 b2 b3 b4
  have T0 := HT
  have B0 := HB
  go_enter Try.func16, Try.ntmps16
  go_wp2_with fail
  refine (HC.out _).mono ?_
  rintro e W1 ⟨rfl, hb1⟩
  have T1 := Lib.hid (T0.out.keep hb1)
  have B1 := Lib.hid (below_next B0.out hb1)
  clear a0 a1 a2 a3 a4 b0 b1 b2 b3 b4 hb1
  obtain ⟨a0, a1, a2, a3, a4, b0, b1, b2, b3, b4⟩ := T1.out
  cases u with
  | false =>
    go_wp2
    go_ret
    exact ⟨ret_bool (by rw [HR.out]; rfl), B1.out⟩
  | true =>
    go_wp2_with fail
    refine (HD.out _).mono ?_
    rintro e W2 ⟨rfl, hb2⟩
    have T2 := Lib.hid (T1.out.keep hb2)
    have B2 := Lib.hid (below_next B1.out hb2)
    clear a0 a1 a2 a3 a4 b0 b1 b2 b3 b4 hb2
    obtain ⟨a0, a1, a2, a3, a4, b0, b1, b2, b3, b4⟩ := T2.out
    cases v with
    | false =>
      go_wp2
      go_ret
      exact ⟨ret_bool (by rw [HR.out]; rfl), B2.out⟩
    | true =>
      go_wp2_with fail
      refine (HM.out _).mono ?_
      rintro e W3 ⟨rfl, hb3⟩
      have B3 := Lib.hid (below_next B2.out hb3)
      clear a0 a1 a2 a3 a4 b0 b1 b2 b3 b4 hb3
      go_wp2
      go_ret
      exact ⟨ret_bool (by rw [HR.out]; rfl), B3.out⟩

theorem once_no {cs : List Cmd} {j : Nat} {d : Cmd} (hd : cs[j]? = some d) (h : firstK cs j d.p = false) : onceV cs = false := by
  unfold onceV
  rw [Bool.and_eq_false_iff]
  left
  rw [decide_eq_false_iff_not, nodup_idx]
  intro hh
  rw [hh j d hd] at h
  cases h
theorem once_all {cs : List Cmd} (h : ∀ (j : Nat) (d : Cmd), cs[j]? = some d → firstK cs j d.p = true) : onceV cs = validL cs := by
  unfold onceV
  rw [decide_eq_true (nodup_idx.2 h)]
  rfl

set_option maxHeartbeats 2000000 in
set_option maxRecDepth 100000 in
theorem specOnce_c (a : Option Addr) (len cap : Nat) (cs : List Cmd) (hl : len ≤ 2097152) (hs : ShortC 2097152 cs) (W : World) (hN : CmdsAt W a len cs) :
    Calls Try.prog 55 #[.slice a len cap] W (BoolPost (onceV cs) W) := by
  have HLV := Lib.hid (fun W' (hb : Below W.heap.size W W') => specLogValid_c a len cap cs (by omega) hs W' (hN.keep hb))
  have HF := Lib.hid (fun W' (hb : Below W.heap.size W W') n c (hc : cs[n]? = some c) => specFirst_c a len cap cs n c hc (by omega) W' (hN.keep hb))
  have HN := Lib.hid hN
  have HE := Lib.hid hN.1
  have hl' : (len : Int) ≤ 2097152 := by omega
  clear hN hs
  go_enter Try.func55, Try.ntmps55
  go_wp2
  go_loopw [3] (fun i wr => ∃ n : Nat, i = .int .i64 n ∧ n ≤ len ∧ Hid (∀ (j : Nat) (d : Cmd), j < n → cs[j]? = some d → firstK cs j d.p = true) ∧ Hid (Below W.heap.size W wr)) (fun i _ => len - (intOf i).toNat)
  case atStart => exact ⟨0, rfl, Nat.zero_le _, Lib.hid (fun j d h => absurd h (by omega)), Below.refl _ _⟩
  case round =>
    obtain ⟨n, rfl, hn, HP, HB⟩ := hrel
    by_cases hlt : n < len
    · have hlt' : (n : Int) < len := by omega
      have hw1 : IntKind.i64.wrap ((n : Int) + 1) = (n : Int) + 1 := IntWalk.i64_in _ (by omega)
      have HLT := Lib.hid hlt
      obtain ⟨b, off, d, -, hd, -⟩ := HN.out.node hlt
      obtain ⟨ff, hff⟩ : ∃ ff, firstK cs n d.p = ff := ⟨_, rfl⟩
      have HFI := Lib.hid (fun W' (hb : Below W.heap.size W W') => show Calls Try.prog 75 #[.slice a len cap, .int .i64 n] W' (BoolPost ff W') by rw [← hff]; exact HF.out W' hb n d hd)
      have HD := Lib.hid (And.intro hd hff)
      clear hn hlt hd hff
      go_wp2_with fail
      refine (HFI.out _ HB.out).mono ?_
      rintro e W2 ⟨rfl, hb2⟩
      have HB2 := Lib.hid (below_next HB.out hb2)
      clear hb2
      cases ff with
      | false =>
        have HX := Lib.hid (once_no HD.out.1 HD.out.2)
        go_wp2
        go_ret
        exact ⟨ret_bool HX.out.symm, HB2.out⟩
      | true =>
        go_wp2
        go_roundw
        case rel =>
          refine ⟨n + 1, by go_num, by have := HLT.out; omega, Lib.hid (fun j x hj hx => ?_), HB2⟩
          by_cases hjn : j < n
          · exact HP.out j x hjn hx
          · obtain rfl : j = n := by omega
            rw [HD.out.1] at hx
            obtain rfl := Option.some.inj hx
            exact HD.out.2
        case measure => have := HLT.out; simp [intOf]; omega
    · have hge : (len : Int) ≤ n := by omega
      have HX := Lib.hid (once_all (cs := cs) (fun j d hd => HP.out j d (by have := (List.getElem?_eq_some_iff.1 hd).1; have := HE.out; omega) hd))
      obtain ⟨vl, hvl⟩ : ∃ vl, validL cs = vl := ⟨_, rfl⟩
      have HV := Lib.hid (show Calls Try.prog 76 #[.slice a len cap] wr (BoolPost vl wr) by rw [← hvl]; exact HLV.out wr HB.out)
      rw [hvl] at HX
      clear hn hlt hvl
      go_wp2_with fail
      refine HV.out.mono ?_
      rintro e W2 ⟨rfl, hb2⟩
      have HB2 := Lib.hid (below_next HB.out hb2)
      clear hb2
      go_wp2
      go_ret
      exact ⟨ret_bool HX.out.symm, HB2.out⟩

/-! ### l15Fits -/
theorem get_atK {cs : List Cmd} {k : Nat} {c : Cmd} (h : cs[k]? = some c) : atK cs k = c := by
  have hk := (List.getElem?_eq_some_iff.1 h).1
  rw [atK_get hk] at h
  exact Option.some.inj h

theorem fits_no {cs : List Cmd} {i k : Nat} {c d : Cmd} (hc : cs[i]? = some c) (hd : cs[k]? = some d) (hk : k < i) (h : mustC c d = true) : fitsB cs = false := by
  rw [Bool.eq_false_iff]
  intro hf
  have hi := (List.getElem?_eq_some_iff.1 hc).1
  have hk' := (List.getElem?_eq_some_iff.1 hd).1
  have := List.pairwise_iff_getElem.1 ((fitsB_iff cs).1 hf) k i hk' hi hk
  rw [List.getElem?_eq_getElem hi] at hc
  rw [List.getElem?_eq_getElem hk'] at hd
  rw [Option.some.inj hc, Option.some.inj hd, h] at this
  cases this

theorem fits_all {cs : List Cmd} (h : ∀ i k, i < cs.length → k < i → mustC (atK cs i) (atK cs k) = false) : fitsB cs = true := by
  rw [fitsB_iff, FitsO, List.pairwise_iff_getElem]
  intro k i hk hi hlt
  have e1 := atK_get (zs := cs) hk
  have e2 := atK_get (zs := cs) hi
  rw [List.getElem?_eq_getElem hk] at e1
  rw [List.getElem?_eq_getElem hi] at e2
  rw [Option.some.inj e1, Option.some.inj e2]
  exact h i k hi hlt

def FitRel (cs : List Cmd) (W : World) (i : Value) (wr : World) : Prop :=
  ∃ n : Nat, i = .int .i64 n ∧ n ≤ cs.length ∧ Hid (∀ i k, i < n → k < i → mustC (atK cs i) (atK cs k) = false) ∧ Hid (Below W.heap.size W wr)
def FitIn (cs : List Cmd) (W : World) (n : Nat) (k : Value) (wr : World) : Prop :=
  ∃ m : Nat, k = .int .i64 m ∧ m ≤ n ∧ Hid (∀ k, k < m → mustC (atK cs n) (atK cs k) = false) ∧ Hid (Below W.heap.size W wr)

set_option maxHeartbeats 4000000 in
set_option maxRecDepth 100000 in
theorem specFits_c (a : Option Addr) (len cap : Nat) (cs : List Cmd) (hl : len ≤ 2097152) (W : World) (hN : CmdsAt W a len cs) :
    Calls Try.prog 50 #[.slice a len cap] W (BoolPost (fitsB cs) W) := by
  have HMU := Lib.hid (fun c d w => specMust_c c d w)
  have HN := Lib.hid hN
  have HE := Lib.hid hN.1
  have hl' : (len : Int) ≤ 2097152 := by omega
  clear hN
  go_enter Try.func50, Try.ntmps50
  go_wp2
  go_loopw [3, 4] (fun i _ wr => FitRel cs W i wr) (fun i _ _ => len - (intOf i).toNat)
  case atStart => exact ⟨0, rfl, Nat.zero_le _, Lib.hid (fun i k h => absurd h (by omega)), Below.refl _ _⟩
  case round =>
    obtain ⟨n, rfl, hn, HP, HB⟩ := hrel
    by_cases hlt : n < len
    · have hlt' : (n : Int) < len := by omega
      have hw1 : IntKind.i64.wrap ((n : Int) + 1) = (n : Int) + 1 := IntWalk.i64_in _ (by omega)
      have HLT := Lib.hid (show n < len ∧ n < cs.length by have := HE.out; omega)
      clear hn hlt
      go_wp2_with fail
      go_loopw [4] (fun k wr => FitIn cs W n k wr) (fun k _ => n - (intOf k).toNat)
      case atStart => exact ⟨0, rfl, Nat.zero_le _, Lib.hid (fun k h => absurd h (by omega)), HB⟩
      case round =>
        obtain ⟨m, rfl, hm, HQ, HBI⟩ := hrel
        by_cases hmt : m < n
        · have hmt' : (m : Int) < n := by omega
          have hml : (m : Int) < len := by omega
          have hwm : IntKind.i64.wrap ((m : Int) + 1) = (m : Int) + 1 := IntWalk.i64_in _ (by omega)
          have HMT := Lib.hid hmt
          obtain ⟨b, off, c, rfl, hc, d0, d1, d2, d3, d4⟩ := (HN.out.keep HBI.out).node (i := n) HLT.out.1
          obtain ⟨b', off', d, hbb, hd, e0, e1, e2, e3, e4⟩ := (HN.out.keep HBI.out).node (i := m) (by have := HLT.out.1; omega)
          cases hbb
          obtain ⟨mm, hmm⟩ : ∃ mm, mustC c d = mm := ⟨_, rfl⟩
          have HMC := Lib.hid (fun w => show Calls Try.prog 40 #[cmdV c, cmdV d] w (BoolPost mm w) by rw [← hmm]; exact HMU.out c d w)
          have HD := Lib.hid (And.intro hc (And.intro hd hmm))
          obtain ⟨p, fk, fv, tk, tv⟩ := c
          obtain ⟨q, fk', fv', tk', tv'⟩ := d
          unfold cmdV at HMC
          simp only at d0 d1 d2 d3 d4 e0 e1 e2 e3 e4 HMC
          clear hm hmt hc hd hmm
          have HS0 := Lib.hid (show wr.drew.cell? ⟨b, off + n * 5, none⟩ = some (.string p) ∧ wr.drew.cell? ⟨b, off + n * 5 + 1, none⟩ = some (.int .i64 fk) ∧ wr.drew.cell? ⟨b, off + n * 5 + 2, none⟩ = some (.int .i64 fv) ∧ wr.drew.cell? ⟨b, off + n * 5 + 3, none⟩ = some (.int .i64 tk) ∧ wr.drew.cell? ⟨b, off + n * 5 + 4, none⟩ = some (.int .i64 tv) ∧ wr.drew.cell? ⟨b, off + m * 5, none⟩ = some (.string q) ∧ wr.drew.cell? ⟨b, off + m * 5 + 1, none⟩ = some (.int .i64 fk') ∧ wr.drew.cell? ⟨b, off + m * 5 + 2, none⟩ = some (.int .i64 fv') ∧ wr.drew.cell? ⟨b, off + m * 5 + 3, none⟩ = some (.int .i64 tk') ∧ wr.drew.cell? ⟨b, off + m * 5 + 4, none⟩ = some (.int .i64 tv') ∧ Below W.heap.size W wr.drew from ⟨d0, d1, d2, d3, d4, e0, e1, e2, e3, e4, HBI.out.drew⟩)
          have HKP := Lib.hid (fun (u1 u2 : World) (h : u1.cell? ⟨b, off + n * 5, none⟩ = some (.string p) ∧ u1.cell? ⟨b, off + n * 5 + 1, none⟩ = some (.int .i64 fk) ∧ u1.cell? ⟨b, off + n * 5 + 2, none⟩ = some (.int .i64 fv) ∧ u1.cell? ⟨b, off + n * 5 + 3, none⟩ = some (.int .i64 tk) ∧ u1.cell? ⟨b, off + n * 5 + 4, none⟩ = some (.int .i64 tv) ∧ u1.cell? ⟨b, off + m * 5, none⟩ = some (.string q) ∧ u1.cell? ⟨b, off + m * 5 + 1, none⟩ = some (.int .i64 fk') ∧ u1.cell? ⟨b, off + m * 5 + 2, none⟩ = some (.int .i64 fv') ∧ u1.cell? ⟨b, off + m * 5 + 3, none⟩ = some (.int .i64 tk') ∧ u1.cell? ⟨b, off + m * 5 + 4, none⟩ = some (.int .i64 tv') ∧ Below W.heap.size W u1) (hb : Below u1.heap.size u1 u2) => show u2.cell? ⟨b, off + n * 5, none⟩ = some (.string p) ∧ u2.cell? ⟨b, off + n * 5 + 1, none⟩ = some (.int .i64 fk) ∧ u2.cell? ⟨b, off + n * 5 + 2, none⟩ = some (.int .i64 fv) ∧ u2.cell? ⟨b, off + n * 5 + 3, none⟩ = some (.int .i64 tk) ∧ u2.cell? ⟨b, off + n * 5 + 4, none⟩ = some (.int .i64 tv) ∧ u2.cell? ⟨b, off + m * 5, none⟩ = some (.string q) ∧ u2.cell? ⟨b, off + m * 5 + 1, none⟩ = some (.int .i64 fk') ∧ u2.cell? ⟨b, off + m * 5 + 2, none⟩ = some (.int .i64 fv') ∧ u2.cell? ⟨b, off + m * 5 + 3, none⟩ = some (.int .i64 tk') ∧ u2.cell? ⟨b, off + m * 5 + 4, none⟩ = some (.int .i64 tv') ∧ Below W.heap.size W u2 from ⟨cell_kept hb h.1, cell_kept hb h.2.1, cell_kept hb h.2.2.1, cell_kept hb h.2.2.2.1, cell_kept hb h.2.2.2.2.1, cell_kept hb h.2.2.2.2.2.1, cell_kept hb h.2.2.2.2.2.2.1, cell_kept hb h.2.2.2.2.2.2.2.1, cell_kept hb h.2.2.2.2.2.2.2.2.1, cell_kept hb h.2.2.2.2.2.2.2.2.2.1, below_next h.2.2.2.2.2.2.2.2.2.2 hb⟩)
          clear d0 d1 d2 d3 d4 e0 e1 e2 e3 e4
          go_upto_region 7 with (fail)
          go_region_held3 (fun w' => w'.cell? ⟨b, off + n * 5, none⟩ = some (.string p) ∧ w'.cell? ⟨b, off + n * 5 + 1, none⟩ = some (.int .i64 fk) ∧ w'.cell? ⟨b, off + n * 5 + 2, none⟩ = some (.int .i64 fv) ∧ w'.cell? ⟨b, off + n * 5 + 3, none⟩ = some (.int .i64 tk) ∧ w'.cell? ⟨b, off + n * 5 + 4, none⟩ = some (.int .i64 tv) ∧ w'.cell? ⟨b, off + m * 5, none⟩ = some (.string q) ∧ w'.cell? ⟨b, off + m * 5 + 1, none⟩ = some (.int .i64 fk') ∧ w'.cell? ⟨b, off + m * 5 + 2, none⟩ = some (.int .i64 fv') ∧ w'.cell? ⟨b, off + m * 5 + 3, none⟩ = some (.int .i64 tk') ∧ w'.cell? ⟨b, off + m * 5 + 4, none⟩ = some (.int .i64 tv') ∧ Below W.heap.size W w')
            (first | exact HS0.out | exact HKP.out _ _ HS0.out hb7)
            (first | (go_at_call 40; (with_reducible refine (HMC.out _).mono ?_); rintro e W7 ⟨rfl, hb7⟩))
          rename_i hS
          have HB7 := Lib.hid hS.2.2.2.2.2.2.2.2.2.2
          clear hS
          cases mm with
          | true =>
            have HX := Lib.hid (fits_no HD.out.1 HD.out.2.1 HMT.out HD.out.2.2)
            go_wp2
            go_ret
            exact ⟨ret_bool HX.out.symm, HB7.out⟩
          | false =>
            go_wp2
            go_roundw
            case rel =>
              refine ⟨m + 1, by go_num, HMT.out, Lib.hid (fun k hk => ?_), HB7⟩
              by_cases h : k < m
              · exact HQ.out k h
              · obtain rfl : k = m := by omega
                rw [get_atK HD.out.1, get_atK HD.out.2.1]
                exact HD.out.2.2
            case measure => have := HMT.out; simp [intOf]; omega
        · have hge : (n : Int) ≤ m := by omega
          have hmn : m = n := by omega
          subst hmn
          clear hm hmt
          go_wp2
          go_roundw
          case rel =>
            refine ⟨m + 1, by go_num, by have := HLT.out.2; omega, Lib.hid (fun i k hi hk => ?_), HBI⟩
            by_cases h : i < m
            · exact HP.out i k h hk
            · obtain rfl : i = m := by omega
              exact HQ.out k hk
          case measure => have := HLT.out; simp [intOf]; omega
    · have hge : (len : Int) ≤ n := by omega
      have HX := Lib.hid (fits_all (cs := cs) (fun i k hi hk => HP.out i k (by have := HE.out; omega) hk))
      clear hn hlt
      go_wp2
      go_ret
      exact ⟨ret_bool HX.out.symm, HB.out⟩

set_option maxHeartbeats 2000000 in
set_option maxRecDepth 100000 in
theorem specOrderFits_c (a : Option Addr) (len cap : Nat) (cs : List Cmd) (hl : len ≤ 2097152) (hs : ShortC 2097152 cs) (W : World) (hN : CmdsAt W a len cs) :
    Calls Try.prog 24 #[.slice a len cap] W (BoolPost (orderV cs) W) := by
  obtain ⟨u, hu⟩ : ∃ u, onceV cs = u := ⟨_, rfl⟩
  obtain ⟨v, hv⟩ : ∃ v, fitsB cs = v := ⟨_, rfl⟩
  have HO := Lib.hid (show Calls Try.prog 55 #[.slice a len cap] W (BoolPost u W) by rw [← hu]; exact specOnce_c a len cap cs hl hs W hN)
  have HF := Lib.hid (fun W' (hb : Below W.heap.size W W') => show Calls Try.prog 50 #[.slice a len cap] W' (BoolPost v W') by rw [← hv]; exact specFits_c a len cap cs hl W' (hN.keep hb))
  have HR := Lib.hid (show orderV cs = (u && v) by unfold orderV; rw [hu, hv])
  clear hN hs hu hv
  go_enter Try.func24, Try.ntmps24
  go_wp2_with fail
  refine HO.out.mono ?_
  rintro e W1 ⟨rfl, hb1⟩
  have B1 := Lib.hid hb1
  clear hb1
  cases u with
  | false =>
    go_wp2
    go_ret
    exact ⟨ret_bool HR.out.symm, B1.out⟩
  | true =>
    go_wp2_with fail
    refine (HF.out _ B1.out).mono ?_
    rintro e W2 ⟨rfl, hb2⟩
    have B2 := Lib.hid (below_next B1.out hb2)
    clear hb2
    go_wp2
    go_ret
    exact ⟨ret_bool (by rw [HR.out]; rfl), B2.out⟩

end Go.Proofs.Ytpjoahddbdmbpaa

/-
  WALKS: the reader's 'of' (a text out of a list). For any seat.
-/
namespace Go.Proofs.Ytpjoahddbdmbpaa
open Go.RowKit
set_option linter.unusedVariables false

/-- One of the texts of a list, the reader one place on. -/
def OfPost (N0 B p : Nat) (xs : List ByteArray) (W : World) (e : Ending) (W' : World) : Prop :=
  ∃ x ∈ xs, e = .returned (.string x) ∧ RdAt N0 W' B (p + 1) ∧ W.grownBy W' (some B)

set_option maxHeartbeats 1000000 in
theorem of_c (N0 B p L c : Nat) (xs : List ByteArray) (hx : 1 ≤ xs.length) (hx2 : xs.length ≤ 1000) (hLB : L ≠ B) (W : World) (hp : p < 30000) (hR : RdAt N0 W B p)
    (hc : ∀ j x, xs[j]? = some x → W.cell? ⟨L, j, none⟩ = some (.string x)) :
    Calls Try.prog 81 #[.pointer (some ⟨B, 0, none⟩), .slice (some ⟨L, 0, none⟩) xs.length c] W (OfPost N0 B p xs W) := by
  have HP := Lib.hid (fun W hR => pick_c N0 B p xs.length (by omega) (by omega) W hp hR)
  have HC := Lib.hid hc
  clear hc
  go_enter Try.func81, Try.ntmps81
  go_wp2_with fail
  refine (HP.out W hR).mono ?_
  rintro e W1 ⟨r, rfl, h0, h1, hR1, hg⟩
  obtain ⟨k, rfl⟩ := Int.eq_ofNat_of_zero_le h0
  have hk : k < xs.length := by omega
  obtain ⟨x, hxk⟩ : ∃ x, xs[k]? = some x := ⟨xs[k], List.getElem?_eq_getElem hk⟩
  have hcell : W1.cell? ⟨L, k, none⟩ = some (.string x) := hg.cell (HC.out k x hxk) (by simpa using hLB)
  have HX := Lib.hid hxk
  clear hxk h0 h1 hR
  go_wp2
  go_ret
  exact ⟨x, List.mem_of_getElem? HX.out, rfl, hR1, hg⟩

/-- 'of' at a list that is written out on the spot. -/
theorem of_lit (N0 B p : Nat) (xs : List ByteArray) (n : Nat) (hn : xs.length = n) (hx : 1 ≤ n) (hx2 : n ≤ 1000) (W : World) (hp : p < 30000) (hR : RdAt N0 W B p) (cs : Array Value) (hcs : cs = (xs.map Value.string).toArray) :
    Calls Try.prog 81 #[.pointer (some ⟨B, 0, none⟩), .slice (some ⟨W.heap.size, 0, none⟩) n n] (W.alloc (.cells cs 9)) (OfPost N0 B p xs W) := by
  have hg : W.grownBy (W.alloc (.cells cs 9)) none := World.grownBy_alloc W _ none
  subst hn
  refine (of_c N0 B p W.heap.size xs.length xs hx hx2 (by have := hR.lt; omega) _ hp (hR.keep (Below.refl W.heap.size W |>.alloc (Nat.le_refl _) _)) ?_).mono ?_
  · intro j x hj
    subst hcs
    rw [World.cell?_alloc_new]
    simp [hj]
  · rintro e W' ⟨x, hx, he, hR', hg'⟩
    exact ⟨x, hx, he, hR', grownBy_trans (grownBy_none hg _) hg'⟩

/-- A text of modest length; the reader some places on. -/
def StrPost (N0 B p d m : Nat) (W : World) (e : Ending) (W' : World) : Prop :=
  ∃ (s : ByteArray) (q : Nat), e = .returned (.string s) ∧ s.size ≤ m ∧ q ≤ p + d ∧ RdAt N0 W' B q ∧ W.grownBy W' (some B)

end Go.Proofs.Ytpjoahddbdmbpaa

/-
  WALKS: paths that are drawn (spec.l91Path). For any seat.
-/
namespace Go.Proofs.Ytpjoahddbdmbpaa
open Go.RowKit
set_option linter.unusedVariables false

def oddTexts : List ByteArray := [⟨#[]⟩, ⟨#[47]⟩, ⟨#[97]⟩, ⟨#[47, 101]⟩, ⟨#[47, 97, 47]⟩, ⟨#[47, 47, 97]⟩, ⟨#[47, 97, 47, 98, 47, 99, 47, 100, 47, 97]⟩, ⟨#[47, 97, 98]⟩]
def letterTexts : List ByteArray := [⟨#[97]⟩, ⟨#[98]⟩, ⟨#[97]⟩, ⟨#[98]⟩, ⟨#[99]⟩, ⟨#[100]⟩]

def PathRel (N0 B p : Nat) (n : Int) (W : World) (out i : Value) (wr : World) : Prop :=
  ∃ (k : Nat) (s : ByteArray), i = .int .i64 k ∧ k ≤ 4 ∧ (k : Int) ≤ 1 + n ∧ out = .string s ∧ s.size = 2 * k ∧ RdAt N0 wr B (p + 3 + k) ∧ W.grownBy wr (some B)

set_option maxHeartbeats 1000000 in
set_option maxRecDepth 100000 in
theorem l91Path_c (N0 B p : Nat) (W : World) (hp : p < 29000) (hR : RdAt N0 W B p) :
    Calls Try.prog 62 #[.pointer (some ⟨B, 0, none⟩)] W (StrPost N0 B p 7 64 W) := by
  have HP1 := Lib.hid (fun W hR => pick_c N0 B p 24 (by omega) (by omega) W (by omega) hR)
  go_enter Try.func62, Try.ntmps62
  go_wp2_with fail
  refine (HP1.out W hR).mono ?_
  rintro e W1 ⟨r, rfl, h0, h1, hR1, hg1⟩
  by_cases hr : r = 0
  · subst hr
    clear h0 h1 hR
    have HO := Lib.hid (of_lit N0 B (p + 1) oddTexts 8 rfl (by omega) (by omega) W1 (by omega) hR1 _ rfl)
    simp only [oddTexts, List.map_cons, List.map_nil] at HO
    go_wp2_with fail
    refine HO.out.mono ?_
    rintro e W2 ⟨x, hx, rfl, hR2, hg2⟩
    go_wp2
    go_ret
    refine ⟨x, p + 1 + 1, rfl, ?_, by omega, hR2, grownBy_trans hg1 hg2⟩
    simp at hx
    rcases hx with rfl | rfl | rfl | rfl | rfl | rfl | rfl | rfl <;> decide
  · have hr' : (r == 0) = false := by simpa using hr
    have HP2 := Lib.hid (fun W hR => pick_c N0 B (p + 1) 4 (by omega) (by omega) W (by omega) hR)
    have HP3 := Lib.hid (fun W hR => pick_c N0 B (p + 1 + 1) 2 (by omega) (by omega) W (by omega) hR)
    clear h0 h1 hR hr
    go_wp2_with fail
    refine (HP2.out W1 hR1).mono ?_
    rintro e W2 ⟨a, rfl, a0, a1, hR2, hg2⟩
    go_wp2_with fail
    refine (HP3.out W2 hR2).mono ?_
    rintro e W3 ⟨b, rfl, b0, b1, hR3, hg3⟩
    have hg : W.grownBy W3 (some B) := grownBy_trans hg1 (grownBy_trans hg2 hg3)
    have hn : IntKind.i64.wrap (a * b) = a * b := by
      have hb : b = 0 ∨ b = 1 := by omega
      rcases hb with rfl | rfl
      · simp [IntKind.wrap_i64]
      · rw [Int.mul_one]; exact IntWalk.i64_in _ (by omega)
    have hab : 0 ≤ a * b ∧ a * b ≤ 3 := by
      have hb : b = 0 ∨ b = 1 := by omega
      rcases hb with rfl | rfl <;> omega
    obtain ⟨hab0, hab3⟩ := hab
    clear hg1 hg2 hg3 hR1 hR2 a0 a1 b0 b1 hr'
    go_wp2
    go_loopw [4, 5] (fun out i wr => PathRel N0 B p (a * b) W out i wr) (fun _ i _ => (1 + a * b - intOf i).toNat)
    case atStart => exact ⟨0, ⟨#[]⟩, rfl, by omega, by omega, rfl, rfl, hR3, hg⟩
    case round =>
      obtain ⟨k, s, rfl, hk4, hkn, rfl, hs, hRk, hgk⟩ := hrel
      by_cases hlt : (k : Int) < 1 + a * b
      · have hk3 : k ≤ 3 := by omega
        have HO := Lib.hid (of_lit N0 B (p + 3 + k) letterTexts 6 rfl (by omega) (by omega) wr (by omega) hRk _ rfl)
        simp only [letterTexts, List.map_cons, List.map_nil] at HO
        have HS := Lib.hid hs
        have hs8 : s.size ≤ 8 := by omega
        clear hs
        go_wp2_with fail
        refine HO.out.mono ?_
        rintro e W5 ⟨x, hx, rfl, hR5, hg5⟩
        have hx1 : x.size = 1 := by
          simp at hx
          rcases hx with rfl | rfl | rfl | rfl | rfl | rfl <;> rfl
        have HX := Lib.hid hx1
        have hx8 : x.size ≤ 1 := by omega
        clear hx hx1
        go_wp2
        refine ⟨⟨k + 1, s ++ ⟨#[47]⟩ ++ x, by go_num, by omega, by omega, rfl, ?_, hR5, grownBy_trans hgk hg5⟩, ?_⟩
        · rw [ByteArray.size_append, ByteArray.size_append, HS.out, HX.out]
          show 2 * k + 1 + 1 = _
          omega
        · simp [intOf]; omega
      · have hk : (1 : Int) + a * b ≤ k := by omega
        have HS := Lib.hid hs
        clear hs hlt
        go_wp2
        go_ret
        refine ⟨s, p + 3 + k, rfl, by have := HS.out; omega, by omega, hRk, hgk⟩

end Go.Proofs.Ytpjoahddbdmbpaa

/-
  WALKS: trees that are drawn (spec.l91Tree).
-/
namespace Go.Proofs.Ytpjoahddbdmbpaa
open Go.RowKit
set_option linter.unusedVariables false

/-- A drawn list of nodes, of the call's own. -/
def TreeDraw (N0 B p m c d : Nat) (W : World) (ok : List Nd → Prop) (e : Ending) (W' : World) : Prop :=
  ∃ (sl : Value) (out : List Nd) (q : Nat), e = .returned sl ∧ W'.ownsRow W.heap.size 103 3 sl out.length (flatN out) ∧ ok out ∧ out.length ≤ c ∧ Short m out ∧ q ≤ p + d ∧ RdAt N0 W' B q ∧ W.grownBy W' (some B)

def TreeRel (N0 B p : Nat) (n : Int) (W : World) (o i : Value) (wr : World) : Prop :=
  ∃ (acc : List Nd) (j q : Nat), i = .int .i64 j ∧ (j : Int) ≤ n ∧ wr.ownsRow W.heap.size 103 3 o acc.length (flatN acc) ∧ Hid (validT acc = true) ∧ Hid (Short 64 acc) ∧ Hid (q ≤ p + 11 * j) ∧ RdAt N0 wr B q ∧ Hid (W.grownBy wr (some B))

set_option maxHeartbeats 2000000 in
set_option maxRecDepth 100000 in
theorem l91Tree_c (N0 B p : Nat) (n : Int) (hn0 : 0 ≤ n) (hn : n ≤ 60) (W : World) (hp : p < 20000) (hR : RdAt N0 W B p) :
    Calls Try.prog 37 #[.pointer (some ⟨B, 0, none⟩), .int .i64 n] W (TreeDraw N0 B p 64 10 660 W (fun out => validT out = true)) := by
  have HLT := Lib.hid hR.lt
  have HP := Lib.hid (fun q W hq hR => l91Path_c N0 B q W hq hR)
  have HC := Lib.hid (fun q W hq hR => l91Content_c N0 B q W hq hR)
  have HPP := Lib.hid hp
  have HN := Lib.hid hn
  go_enter Try.func37, Try.ntmps37
  go_wp2
  go_loopw [5, 6, 7, 8] (fun o i _ _ wr => TreeRel N0 B p n W o i wr) (fun _ i _ _ _ => (n - intOf i).toNat)
  case atStart => exact ⟨[], 0, p, rfl, hn0, World.ownsRow_lit (e := 103) (size := 3) W #[] 0 (Nat.le_refl _) (by simp [maxLen]) rfl, (by show validT [] = true; rfl), (by intro x hx; cases hx), (by show p ≤ _; omega), hR.alloc _, grownBy_new _ _ _⟩
  case round =>
    obtain ⟨acc, j, q, rfl, hj, hrow, HV, HS, HQ, hRq, HG⟩ := hrel
    by_cases hlt : (j : Int) < n
    · have HJ := Lib.hid hlt
      clear hj hR
      go_wp2_with fail
      refine (HP.out q _ (by have h5 := HQ.out; have h6 := HPP.out; have h7 := HN.out; omega) hRq).mono ?_; rintro e W2 ⟨s, q2, rfl, hs, hq2, hR2, hg2⟩
      have hrow2 := own_reader hrow HLT.out hg2
      have HS2 := Lib.hid (And.intro hs hq2)
      clear hs hq2 hrow hRq
      go_wp2_with fail
      refine (HC.out q2 _ (by have h5 := HQ.out; have h6 := HPP.out; have h7 := HN.out; have h8 := HS2.out.2; omega) hR2).mono ?_; rintro e W3 ⟨k, v, q3, rfl, -, -, -, -, hq3, hR3, hg3⟩
      have hrow3 := own_reader hrow2 HLT.out hg3
      have HQ3 := Lib.hid hq3
      have HG3 := Lib.hid (grownBy_trans HG.out (grownBy_trans hg2 hg3))
      obtain ⟨ao, co, rfl, hNo⟩ := nodes_of_own hrow3
      have hlen := ((validT_iff acc).1 HV.out).2.2
      have HTP := Lib.hid (specTreePut_c ao acc.length co acc s k v (by omega) (fun n hn => by have := HS.out n hn; omega) (by have := HS2.out.1; omega) W3 hNo)
      clear hq3 hrow2 hR2 hg2 hg3 hNo hlen
      go_wp2_with fail
      refine HTP.out.mono ?_; rintro e W4 ⟨sl, out, b, rfl, hb, hown, hb4⟩
      have HR4 := Lib.hid (hR3.keep hb4)
      have HG4 := Lib.hid (grownBy_below HG3.out hb4)
      cases b with
      | true =>
        have hr : treePut acc s k v = some out := by
          rcases hb with ⟨-, h⟩ | ⟨h, -⟩
          · exact h
          · cases h
        obtain ⟨-, -, -, h5, h6⟩ := treePut_some hr
        have HV4 : Hid (validT out = true) := h6
        have HS4 : Hid (Short 64 out) := by show Short 64 out; rw [h5]; exact short_put HS.out HS2.out.1
        have hown4 := own_mono hown HG3.out.size
        clear hb hr h5 h6 hown hb4 hrow3 hR3
        go_wp2
        go_roundw
        case rel => exact ⟨out, j + 1, q3, by go_num, by have := HJ.out; omega, hown4, HV4, HS4, (by show q3 ≤ _; have h5 := HQ.out; have h6 := HQ3.out; have h7 := HS2.out.2; omega), HR4.out, HG4⟩
        case measure => have := HJ.out; simp [intOf]; omega
      | false =>
        have hown4 := own_below hrow3 hb4
        clear hb hown hb4 hrow3 hR3
        go_wp2
        go_roundw
        case rel => exact ⟨acc, j + 1, q3, by go_num, by have := HJ.out; omega, hown4, HV, HS, (by show q3 ≤ _; have h5 := HQ.out; have h6 := HQ3.out; have h7 := HS2.out.2; omega), HR4.out, HG4⟩
        case measure => have := HJ.out; simp [intOf]; omega
    · have hge : n ≤ (j : Int) := by omega
      have HJ := Lib.hid hj
      clear hj hR
      go_wp2
      go_ret
      exact ⟨_, acc, q, rfl, hrow, HV.out, ((validT_iff acc).1 HV.out).2.2, HS.out, by have h5 := HQ.out; have h6 := HJ.out; have h7 := HN.out; omega, hRq, HG.out⟩

end Go.Proofs.Ytpjoahddbdmbpaa

/-
  WALKS: trees that are drawn, seldom invalid ones (spec.l91Any).
-/
namespace Go.Proofs.Ytpjoahddbdmbpaa
open Go.RowKit
set_option linter.unusedVariables false

theorem flatN_set : ∀ (ns : List Nd) (i : Nat) (n : Nd) (k v : Int), ns[i]? = some n → ((flatN ns).set (i * 3 + 1) (.int .i64 k)).set (i * 3 + 2) (.int .i64 v) = flatN (ns.set i ⟨n.p, k, v⟩)
  | [], i, n, k, v, h => by simp at h
  | m :: r, 0, n, k, v, h => by
    simp at h
    subst h
    rfl
  | m :: r, i + 1, n, k, v, h => by
    have ih := flatN_set r i n k v (by simpa using h)
    have e : ∀ (x : Nd) (t : List Nd), flatN (x :: t) = .string x.p :: .int .i64 x.k :: .int .i64 x.v :: flatN t := fun _ _ => rfl
    rw [List.set_cons_succ, e m r, e m (r.set i _), ← ih, show (i + 1) * 3 + 1 = (i * 3 + 1) + 3 by omega, show (i + 1) * 3 + 2 = (i * 3 + 2) + 3 by omega]
    rfl

theorem own_set {W : World} {base : Nat} {e : TypeId} {g cap : Nat} {ns : List Nd} {i : Nat} {n : Nd} (h : W.ownsRow base e 3 (.slice (some ⟨g, 0, none⟩) ns.length cap) ns.length (flatN ns)) (hn : ns[i]? = some n) (k v : Int) :
    ((W.setCell ⟨g, i * 3 + 1, none⟩ (.int .i64 k)).setCell ⟨g, i * 3 + 1 + 1, none⟩ (.int .i64 v)).ownsRow base e 3 (.slice (some ⟨g, 0, none⟩) ns.length cap) (ns.set i ⟨n.p, k, v⟩).length (flatN (ns.set i ⟨n.p, k, v⟩)) := by
  have := ((h.stored (i * 3 + 1) (.int .i64 k)).1.stored (i * 3 + 2) (.int .i64 v)).1
  rw [flatN_set ns i n k v hn] at this
  rw [List.length_set]
  exact this

theorem own_slice {W : World} {base : Nat} {e : TypeId} {v : Value} {ns : List Nd} (h : W.ownsRow base e 3 v ns.length (flatN ns)) (h0 : 0 < ns.length) : ∃ g cap, v = .slice (some ⟨g, 0, none⟩) ns.length cap ∧ base ≤ g ∧ g < W.heap.size := by
  rcases h.2 with ⟨_, h1⟩ | ⟨g, cap, cur, rfl, h1, h2, _⟩
  · omega
  · exact ⟨g, cap, rfl, h1, by rw [Array.getElem?_eq_some_iff] at h2; exact h2.1⟩

theorem short_set {m : Nat} {ns : List Nd} {i : Nat} {n : Nd} {k v : Int} (h : Short m ns) (hn : ns[i]? = some n) : Short m (ns.set i ⟨n.p, k, v⟩) := by
  intro x hx
  rcases List.mem_or_eq_of_mem_set hx with h1 | rfl
  · exact h x h1
  · exact h n (List.mem_of_getElem? hn)

end Go.Proofs.Ytpjoahddbdmbpaa

/-
  WALKS: spec.l91In: a path of a drawn tree, or any path.
-/
namespace Go.Proofs.Ytpjoahddbdmbpaa
open Go.RowKit
set_option linter.unusedVariables false

def twoLetters : List ByteArray := [⟨#[97]⟩, ⟨#[98]⟩]

set_option maxHeartbeats 2000000 in
set_option maxRecDepth 100000 in
theorem l91In_c (N0 B p base : Nat) (sl : Value) (ns : List Nd) (hlen : ns.length ≤ 1000) (hs : Short 64 ns) (hb : B < base) (W : World) (hown : W.ownsRow base 103 3 sl ns.length (flatN ns)) (hp : p < 20000) (hR : RdAt N0 W B p) :
    Calls Try.prog 66 #[.pointer (some ⟨B, 0, none⟩), sl] W (StrPost N0 B p 8 66 W) := by
  have HPath := Lib.hid (fun q W hq hR => l91Path_c N0 B q W hq hR)
  have HPK := Lib.hid (fun q n h0 h1 W hq hR => pick_c N0 B q n h0 h1 W hq hR)
  have HPP := Lib.hid hp
  have HS := Lib.hid hs
  have HB := Lib.hid hb
  have HLN := Lib.hid hlen
  clear hp hs hb hlen
  by_cases h0 : ns.length = 0
  · obtain ⟨a, cap, rfl, -⟩ := nodes_of_own hown
    have h0' : (ns.length : Int) = 0 := by omega
    clear h0 hown
    go_enter Try.func66, Try.ntmps66
    go_wp2_with fail
    refine (HPath.out p _ (by have := HPP.out; omega) hR).mono ?_; rintro e W1 ⟨s, q, rfl, hs, hq, hR1, hg1⟩
    have HX := Lib.hid (And.intro hs hq)
    clear hs hq hR
    go_wp2
    go_ret
    exact ⟨s, q, rfl, by have := HX.out.1; omega, by have := HX.out.2; omega, hR1, hg1⟩
  · obtain ⟨g, cap, rfl, hgb, hgw⟩ := own_slice hown (by omega)
    have hl1 : (0 : Int) < ns.length := by omega
    have HL0 := Lib.hid (show 0 < ns.length by omega)
    clear h0 hgb hgw
    go_enter Try.func66, Try.ntmps66
    go_wp2_with fail
    refine (HPK.out p 4 (by omega) (by omega) _ (by have := HPP.out; omega) hR).mono ?_; rintro e W1 ⟨r, rfl, r0, r1, hR1, hg1⟩
    have hown1 := own_reader hown HB.out hg1
    have HG1 := Lib.hid hg1
    clear hown hR hg1
    by_cases hr : 0 < r
    · have hr' : decide (0 < r) = true := decide_eq_true hr
      clear r0 r1
      go_wp2_with fail
      refine (HPK.out (p + 1) ns.length (by have := HL0.out; omega) (by have := HLN.out; omega) _ (by have := HPP.out; omega) hR1).mono ?_; rintro e W2 ⟨k', rfl, k0, k1, hR2, hg2⟩
      obtain ⟨k, rfl⟩ := Int.eq_ofNat_of_zero_le k0
      have HK := Lib.hid (show k < ns.length by omega)
      have HO2 := Lib.hid (own_reader hown1 HB.out hg2)
      have HG2 := Lib.hid (grownBy_trans HG1.out hg2)
      obtain ⟨x, hx⟩ : ∃ x, ns[k]? = some x := ⟨_, List.getElem?_eq_getElem HK.out⟩
      have hsz : x.p.size ≤ 64 := HS.out x (List.mem_of_getElem? hx)
      have c0 : W2.cell? ⟨g, k * 3, none⟩ = some (.string x.p) := by rw [HO2.out.cellAt _ (by have := HK.out; omega)]; exact (flatN_get ns k x hx).1
      have hkl : (k : Int) < ns.length := by have := HK.out; omega
      generalize x.p = s at hsz c0
      clear k0 k1 hown1 hR1 hg2 hx
      go_wp2_with fail
      refine (HPK.out (p + 1 + 1) 4 (by omega) (by omega) _ (by have := HPP.out; omega) hR2).mono ?_; rintro e W3 ⟨t, rfl, t0, t1, hR3, hg3⟩
      have HG3 := Lib.hid (grownBy_trans HG2.out hg3)
      have HSZ := Lib.hid hsz
      clear c0 hR2 hg3 hkl
      by_cases ht : t = 0
      · subst ht
        clear t0 t1
        have HO := Lib.hid (of_lit N0 B (p + 1 + 1 + 1) twoLetters 2 rfl (by omega) (by omega) W3 (by have := HPP.out; omega) hR3 _ rfl)
        simp only [twoLetters, List.map_cons, List.map_nil] at HO
        go_wp2_with fail
        refine HO.out.mono ?_; rintro e W4 ⟨y, hy, rfl, hR4, hg4⟩
        have hy1 : y.size ≤ 1 := by
          simp at hy
          rcases hy with rfl | rfl <;> decide
        clear hy hR3
        go_wp2
        go_ret
        exact ⟨_, p + 1 + 1 + 1 + 1, rfl, by rw [ByteArray.size_append, ByteArray.size_append]; show s.size + 1 + _ ≤ 66; omega, by omega, hR4, grownBy_trans HG3.out hg4⟩
      · have ht' : (t == 0) = false := beq_eq_false_iff_ne.2 ht
        clear t0 t1 ht
        go_wp2
        go_ret
        exact ⟨_, p + 1 + 1 + 1, rfl, by omega, by omega, hR3, HG3.out⟩
    · have hr' : decide (0 < r) = false := decide_eq_false hr
      clear r0 r1
      go_wp2_with fail
      refine (HPath.out (p + 1) _ (by have := HPP.out; omega) hR1).mono ?_; rintro e W2 ⟨s, q, rfl, hs, hq, hR2, hg2⟩
      have HX := Lib.hid (And.intro hs hq)
      clear hs hq hR1
      go_wp2
      go_ret
      exact ⟨s, q, rfl, by have := HX.out.1; omega, by have := HX.out.2; omega, hR2, grownBy_trans HG1.out hg2⟩

end Go.Proofs.Ytpjoahddbdmbpaa

/-
  WALKS: spec.DrawTreeValid, DrawTreeGet, DrawTreePut, DrawTreeUnder.
-/
namespace Go.Proofs.Ytpjoahddbdmbpaa
open Go.RowKit
set_option linter.unusedVariables false

/-- A drawn list of nodes, in memory of the call's own. -/
def Drawn (W W' : World) (sl : Value) (ns : List Nd) : Prop :=
  W'.ownsRow W.heap.size 103 3 sl ns.length (flatN ns) ∧ ns.length ≤ 11 ∧ Short 64 ns ∧ Below W.heap.size W W'

def ListPost (W : World) (e : Ending) (W' : World) : Prop := ∃ sl ns, e = .returned sl ∧ Drawn W W' sl ns
def ListPathPost (W : World) (e : Ending) (W' : World) : Prop := ∃ sl ns s, e = .returned (.tuple #[sl, .string s]) ∧ s.size ≤ 66 ∧ Drawn W W' sl ns
def ListPutPost (W : World) (e : Ending) (W' : World) : Prop := ∃ sl ns s, ∃ k v : Int, e = .returned (.tuple #[sl, .string s, con k v]) ∧ s.size ≤ 66 ∧ Drawn W W' sl ns

theorem triple_results (fn : Func) (hf : fn.results = #[.tmp 2, .tmp 3, .cell 4 24]) (W : World) (n : Nat) (k v : Int) (sl x : Value) (tmps : Array Value) (h2 : tmps[2]? = some sl) (h3 : tmps[3]? = some x) (ht : tmps[4]? = some (.pointer (some ⟨n, 0, none⟩)))
    (h : W.cell? ⟨n, 0, none⟩ = some (.int .i64 k) ∧ W.cell? ⟨n, 1, none⟩ = some (.int .i64 v)) : (results fn tmps).run Try.prog W = .ok (.tuple #[sl, x, con k v]) W := by
  obtain ⟨c0, c1⟩ := h
  simp [results, hf, go_sem, h2, h3, ht, c0, c1]

theorem own_setOther {W : World} {base : Nat} {e : TypeId} {size n : Nat} {v : Value} {xs : List Value} (h : W.ownsRow base e size v n xs) (a : Addr) (u : Value) (ha : a.block < base) : (W.setCell a u).ownsRow base e size v n xs := by
  refine h.kept (row := some a.block) ⟨rfl, rfl, rfl, by simp [World.setCell], fun k _ hk => Below.heap_setCell _ _ _ _ (fun e => hk (by rw [e]))⟩ ?_
  cases hv : v.ownBlock with
  | none => exact .inl rfl
  | some k =>
    right
    have := (h.lt k hv).1
    simp; omega

/-- END OF PUT -/
theorem drewN_heap (W : World) (n : Nat) : (W.drewN n).heap = W.heap := (drewN_cell W n ⟨0, 0, none⟩).2.2
theorem drawn_drewN {W W' : World} {sl : Value} {ns : List Nd} (h : Drawn W W' sl ns) (n : Nat) : Drawn W (W'.drewN n) sl ns := by
  obtain ⟨h1, h2, h3, h4⟩ := h
  have hb : Below W'.heap.size W' (W'.drewN n) := ⟨rfl, rfl, rfl, by rw [drewN_heap]; exact Nat.le_refl _, fun k _ => by rw [drewN_heap]⟩
  exact ⟨own_below h1 hb, h2, h3, below_next h4 hb⟩

end Go.Proofs.Ytpjoahddbdmbpaa

/-
  WALKS: commands that are drawn: spec.l91Command, DrawCommandValid, DrawCommandUndo, DrawCommandText, DrawCommandApply, DrawCommandParse.
-/
namespace Go.Proofs.Ytpjoahddbdmbpaa
open Go.RowKit
set_option linter.unusedVariables false

/-- A drawn command: its path is short; the reader some places on. -/
def CmdDraw (N0 B p : Nat) (W : World) (e : Ending) (W' : World) : Prop :=
  ∃ (c : Cmd) (q : Nat), e = .returned (cmdV c) ∧ c.p.size ≤ 66 ∧ q ≤ p + 17 ∧ RdAt N0 W' B q ∧ W.grownBy W' (some B)

theorem cmd_draw {N0 B p q : Nat} {W W' : World} {t : ByteArray} {fk fv tk tv : Int} (hs : t.size ≤ 66) (hq : q ≤ p + 17) (hR : RdAt N0 W' B q) (hg : W.grownBy W' (some B)) (hL : N0 ≤ W.heap.size) :
    CmdDraw N0 B p W (.returned (cmdV ⟨t, fk, fv, tk, tv⟩)) (((((W'.setCell ⟨W.heap.size, 0, none⟩ (.string t)).setCell ⟨W.heap.size, 1, none⟩ (.int .i64 fk)).setCell ⟨W.heap.size, 2, none⟩ (.int .i64 fv)).setCell ⟨W.heap.size, 3, none⟩ (.int .i64 tk)).setCell ⟨W.heap.size, 4, none⟩ (.int .i64 tv)) :=
  ⟨⟨t, fk, fv, tk, tv⟩, q, rfl, hs, hq, ((((hR.setNew _ _ hL).setNew _ _ hL).setNew _ _ hL).setNew _ _ hL).setNew _ _ hL,
    grownBy_setCell_new (grownBy_setCell_new (grownBy_setCell_new (grownBy_setCell_new (grownBy_setCell_new hg _ _ (Nat.le_refl _)) _ _ (Nat.le_refl _)) _ _ (Nat.le_refl _)) _ _ (Nat.le_refl _)) _ _ (Nat.le_refl _)⟩

set_option maxHeartbeats 2000000 in
set_option maxRecDepth 100000 in
theorem l91Command_c (N0 B p base : Nat) (sl : Value) (ns : List Nd) (hlen : ns.length ≤ 11) (hs : Short 64 ns) (hb : B < base) (W : World) (hown : W.ownsRow base 103 3 sl ns.length (flatN ns)) (hp : p < 19000) (hR : RdAt N0 W B p) :
    Calls Try.prog 41 #[.pointer (some ⟨B, 0, none⟩), sl] W (CmdDraw N0 B p W) := by
  have HI := Lib.hid (fun W' h1 h2 => l91In_c N0 B p base sl ns (by omega) hs hb W' h1 (by omega) h2)
  have HC := Lib.hid (fun q W1 hq hR => l91Content_c N0 B q W1 hq hR)
  have HPK := Lib.hid (fun q n h0 h1 W hq hR => pick_c N0 B q n h0 h1 W hq hR)
  have HLT := Lib.hid hR.lt
  have HLE := Lib.hid hR.le
  have HO := Lib.hid hown
  have HR := Lib.hid hR
  have HB := Lib.hid hb
  have HP := Lib.hid hp
  obtain ⟨a, cap, rfl, hN⟩ := nodes_of_own hown
  have HN := Lib.hid hN
  have HG := Lib.hid (fun x W' (h : NodesAt W' a ns.length ns) => l3Get_c a ns.length cap ns x (by omega) W' h)
  clear hR hown hs hb hp hN hlen
  go_enter Try.func41, Try.ntmps41
  go_wp2_with fail
  refine (HI.out _ (own_below HO.out (below_box W _)) (HR.out.alloc _)).mono ?_
  rintro e W1 ⟨s, q1, rfl, hs1, hq1, hR1, hg1⟩
  have T1 := Lib.hid (five_grown hg1 HLT.out)
  have G1 := Lib.hid (grownBy_trans (grownBy_new W _ (some B)) hg1)
  have Q1 := Lib.hid (And.intro hs1 hq1)
  have HR1 := Lib.hid hR1
  clear hs1 hq1 hR1 hg1
  go_wp2_with fail
  refine (HC.out q1 _ (by have := HP.out; have := Q1.out.2; omega) HR1.out).mono ?_
  rintro e W2 ⟨k, v, q2, rfl, -, -, -, -, hq2, hR2, hg2⟩
  have T2 := Lib.hid (T1.out.keep hg2 (by have := HLT.out; omega))
  have G2 := Lib.hid (grownBy_trans G1.out hg2)
  have Q2 := Lib.hid hq2
  have HR2 := Lib.hid hR2
  have O2 := Lib.hid (own_reader HO.out HB.out G2.out)
  clear hq2 hR2 hg2 T1 G1 HR1
  go_wp2_with fail
  obtain ⟨⟨gk, gv⟩, hg⟩ : ∃ g, getT ns s = g := ⟨_, rfl⟩
  obtain ⟨a', cap', ee, hN2⟩ := nodes_of_own O2.out
  cases ee
  have HG2 := Lib.hid (show Calls Try.prog 67 #[.slice a ns.length cap, .string s] (W2.alloc (.cells #[.string s, .int .i64 0, .int .i64 0, .int .i64 k, .int .i64 v] 26)) (ConRet gk gv (W2.alloc (.cells #[.string s, .int .i64 0, .int .i64 0, .int .i64 k, .int .i64 v] 26))) by
    have := HG.out s _ (hN2.keep (below_box W2 (.cells #[.string s, .int .i64 0, .int .i64 0, .int .i64 k, .int .i64 v] 26)))
    rw [hg] at this
    exact this)
  clear hg hN2
  refine HG2.out.mono ?_
  rintro e W3 ⟨rfl, hb3⟩
  have F3 := Lib.hid ((five_new W2 _ _ _ _ _ _).below hb3)
  have T3 := Lib.hid ((T2.out.alloc _).below hb3)
  have G3 := Lib.hid (grownBy_below (grownBy_trans G2.out (grownBy_new W2 _ (some B))) hb3)
  have R3 := Lib.hid ((HR2.out.alloc _).keep hb3)
  have HZ := Lib.hid (And.intro HR2.out.le HR2.out.lt)
  have HW := Lib.hid (show W.heap.size < W2.heap.size from T2.out.2.2.2.2.2.2.2.2.2.2)
  clear hb3 HG2 T2 G2 O2 HR2
  obtain ⟨c0, c1, c2, c3, c4, f0, f1, f2, f3, f4, -⟩ := F3.out
  unfold con
  go_wp2_with fail
  refine (HPK.out q2 12 (by omega) (by omega) _ (by have := HP.out; have := Q1.out.2; have := Q2.out; omega) ((R3.out.setNew _ _ (by exact HZ.out.1)).setNew _ _ (by exact HZ.out.1))).mono ?_
  rintro e W4 ⟨r, rfl, r0, -, hR4, hg4⟩
  have F4 := Lib.hid ((F3.out.set1 (x := .int .i64 gk)).set2 (x := .int .i64 gv) |>.keep hg4 (by have := HZ.out.2; omega))
  have T4 := Lib.hid (((T3.out.setOther (x := ⟨W2.heap.size, 1, none⟩) (v := .int .i64 gk) (by have := HW.out; simp; omega)).setOther (x := ⟨W2.heap.size, 2, none⟩) (v := .int .i64 gv) (by have := HW.out; simp; omega)).keep hg4 (by have := HLT.out; omega))
  have G4 := Lib.hid (grownBy_trans (grownBy_setCell_new (grownBy_setCell_new G3.out ⟨W2.heap.size, 1, none⟩ (.int .i64 gk) (by have := HW.out; simp; omega)) ⟨W2.heap.size, 2, none⟩ (.int .i64 gv) (by have := HW.out; simp; omega)) hg4)
  have R4 := Lib.hid hR4
  clear hR4 hg4 F3 T3 G3 R3 c0 c1 c2 c3 c4 f0 f1 f2 f3 f4
  by_cases hr : r = 0
  · subst hr
    clear r0
    go_wp2_with fail
    refine (HC.out _ _ (by have := HP.out; have := Q1.out.2; have := Q2.out; omega) R4.out).mono ?_
    rintro e W5 ⟨k5, v5, q5, rfl, -, -, -, -, hq5, hR5, hg5⟩
    have F5 := Lib.hid (F4.out.keep hg5 (by have := HZ.out.2; omega))
    have T5 := Lib.hid (T4.out.keep hg5 (by have := HLT.out; omega))
    have G5 := Lib.hid (grownBy_trans G4.out hg5)
    have F6 := Lib.hid ((F5.out.set1 (x := .int .i64 k5)).set2 (x := .int .i64 v5))
    have T6 := Lib.hid ((T5.out.setOther (x := ⟨W2.heap.size, 1, none⟩) (v := .int .i64 k5) (by have := HW.out; simp; omega)).setOther (x := ⟨W2.heap.size, 2, none⟩) (v := .int .i64 v5) (by have := HW.out; simp; omega))
    have G6 := Lib.hid (grownBy_setCell_new (grownBy_setCell_new G5.out ⟨W2.heap.size, 1, none⟩ (.int .i64 k5) (by have := HW.out; simp; omega)) ⟨W2.heap.size, 2, none⟩ (.int .i64 v5) (by have := HW.out; simp; omega))
    have R6 := Lib.hid ((hR5.setNew ⟨W2.heap.size, 1, none⟩ (.int .i64 k5) (by exact HZ.out.1)).setNew ⟨W2.heap.size, 2, none⟩ (.int .i64 v5) (by exact HZ.out.1))
    have HQ5 := Lib.hid hq5
    obtain ⟨c0, c1, c2, c3, c4, f0, f1, f2, f3, f4, -⟩ := F5.out
    clear hq5 hR5 hg5
    unfold con
    go_upto_region 5 with (fail)
    clear c0 c1 c2 c3 c4 f0 f1 f2 f3 f4
    generalize (W5.setCell ⟨W2.heap.size, 1, none⟩ (.int .i64 k5)).setCell ⟨W2.heap.size, 2, none⟩ (.int .i64 v5) = W6 at F6 T6 G6 R6 ⊢
    obtain ⟨c0, c1, c2, c3, c4, -⟩ := F6.out
    obtain ⟨t0, t1, t2, t3, t4, f0, f1, f2, f3, f4, -⟩ := T6.out
    go_wp2
    exact bodyPost_ret (cmd_results _ rfl _ W.heap.size ⟨s, k5, v5, k, v⟩ _ rfl T6.out.setAll) rfl (cmd_draw Q1.out.1 (by have := Q1.out.2; have := Q2.out; have := HQ5.out; omega) R6.out G6.out (HLE.out))
  · have hb0 : (r == 0) = false := beq_eq_false_iff_ne.2 hr
    clear r0 hr
    obtain ⟨c0, c1, c2, c3, c4, -⟩ := F4.out
    obtain ⟨t0, t1, t2, t3, t4, f0, f1, f2, f3, f4, -⟩ := T4.out
    go_wp2
    exact bodyPost_ret (cmd_results _ rfl _ W.heap.size ⟨s, gk, gv, k, v⟩ _ rfl T4.out.setAll) rfl (cmd_draw Q1.out.1 (by have := Q1.out.2; have := Q2.out; omega) R4.out G4.out (HLE.out))

end Go.Proofs.Ytpjoahddbdmbpaa

/-
  WALKS: logs that are drawn: spec.l91Log.
-/
namespace Go.Proofs.Ytpjoahddbdmbpaa
open Go.RowKit
set_option linter.unusedVariables false

/-- A drawn list of commands, of the call's own. -/
def LogDraw (N0 B p c d : Nat) (W : World) (e : Ending) (W' : World) : Prop :=
  ∃ (sl : Value) (out : List Cmd) (q : Nat), e = .returned sl ∧ W'.ownsRow W.heap.size 26 5 sl out.length (flatC out) ∧ out.length ≤ c ∧ ShortC 66 out ∧ q ≤ p + d ∧ RdAt N0 W' B q ∧ W.grownBy W' (some B)

theorem push_reader {N0 B q : Nat} {W w5 w6 : World} {v : Value} (hv : ∀ k, v.ownBlock = some k → W.heap.size ≤ k) (hle : N0 ≤ W.heap.size) (hR : RdAt N0 w5 B q) (hg : w5.grownBy w6 v.ownBlock) : RdAt N0 w6 B q :=
  hR.kept ⟨hg.os, hg.tape, hg.output, hg.size, fun b hb => hg.block b (Nat.lt_of_lt_of_le hb hR.le) (fun e => by have := hv b e.symm; omega)⟩

theorem push_grown {B : Nat} {W w5 w6 : World} {v : Value} (hv : ∀ k, v.ownBlock = some k → W.heap.size ≤ k) (hG : W.grownBy w5 (some B)) (hg : w5.grownBy w6 v.ownBlock) : W.grownBy w6 (some B) :=
  ⟨hg.os.trans hG.os, hg.tape.trans hG.tape, hg.output.trans hG.output, Nat.le_trans hG.size hg.size, fun b hb hne => (hg.block b (Nat.lt_of_lt_of_le hb hG.size) (fun e => by have := hv b e.symm; omega)).trans (hG.block b hb hne)⟩

theorem apply_short64 {ns out : List Nd} {c : Cmd} (h : applyC ns c = (out, true)) (hs : Short 64 ns) : Short 64 out ∧ out.length ≤ 10 := by
  obtain ⟨_, h2, _, h4⟩ := applyC_some h
  obtain ⟨_, _, _, h5, h6⟩ := treePut_some h4
  have hp := pathB_size ((validC_iff c).1 h2).1
  refine ⟨?_, ((validT_iff out).1 h6).2.2⟩
  rw [h5]
  exact short_put hs (by omega)

theorem shortC_push {m : Nat} {cs : List Cmd} {c : Cmd} (h : ShortC m cs) (hc : c.p.size ≤ m) : ShortC m (cs ++ [c]) := by
  intro x hx
  rcases List.mem_append.1 hx with hx | hx
  · exact h x hx
  · rw [List.mem_singleton.1 hx]; exact hc

def LogRel (N0 B p base : Nat) (n : Int) (W : World) (o tv i : Value) (wr : World) : Prop :=
  ∃ (acc : List Cmd) (t : List Nd) (j q : Nat), i = .int .i64 j ∧ (j : Int) ≤ n ∧ acc.length ≤ 20 ∧ wr.ownsRow W.heap.size 26 5 o acc.length (flatC acc) ∧ wr.ownsRow base 103 3 tv t.length (flatN t) ∧ Hid (t.length ≤ 11) ∧ Hid (Short 64 t) ∧ Hid (ShortC 66 acc) ∧ Hid (q ≤ p + 17 * j) ∧ RdAt N0 wr B q ∧ Hid (W.grownBy wr (some B))

set_option maxHeartbeats 4000000 in
set_option maxRecDepth 100000 in
theorem l91Log_c (N0 B p base : Nat) (sl : Value) (ns : List Nd) (n : Int) (hn0 : 0 ≤ n) (hn : n ≤ 60) (hlen : ns.length ≤ 11) (hs : Short 64 ns) (hb : B < base) (W : World) (hbW : base ≤ W.heap.size) (hown : W.ownsRow base 103 3 sl ns.length (flatN ns)) (hp : p < 15000) (hR : RdAt N0 W B p) :
    Calls Try.prog 38 #[.pointer (some ⟨B, 0, none⟩), sl, .int .i64 n] W (LogDraw N0 B p 20 1020 W) := by
  have HLT := Lib.hid hR.lt
  have HLE := Lib.hid hR.le
  have HC := Lib.hid (fun q tv t (h1 : t.length ≤ 11) (h2 : Short 64 t) W' h3 hq hR => l91Command_c N0 B q base tv t h1 h2 hb W' h3 hq hR)
  have HPP := Lib.hid hp
  have HN := Lib.hid hn
  have HB := Lib.hid hb
  have HBW := Lib.hid hbW
  have HL := Lib.hid hlen
  have HS := Lib.hid hs
  have HO := Lib.hid hown
  have HRD := Lib.hid hR
  clear hp hb hbW hlen hs hown hR
  go_enter Try.func38, Try.ntmps38
  go_wp2
  go_loopw [7, 8, 9, 10, 11, 12] (fun o tv i _ _ _ wr => LogRel N0 B p base n W o tv i wr) (fun _ _ i _ _ _ _ => (n - intOf i).toNat)
  case atStart => exact ⟨[], ns, 0, p, rfl, hn0, by simp, World.ownsRow_lit (e := 26) (size := 5) W #[] 0 (Nat.le_refl _) (by simp [maxLen]) rfl, HO.out.alloc _, HL, HS, (by intro x hx; cases hx), (by show p ≤ _; omega), HRD.out.alloc _, grownBy_new _ _ _⟩
  case round =>
    obtain ⟨acc, t, j, q, rfl, hj, hal, hrow, htree, HTL, HTS, HAS, HQ, hRq, HG⟩ := hrel
    by_cases hlt : (j : Int) < n
    · by_cases hfull : acc.length < 20
      · have HJ := Lib.hid hlt
        have HF := Lib.hid hfull
        have hfl : (acc.length : Int) < 20 := by omega
        have HROW := Lib.hid hrow
        have HTR := Lib.hid htree
        have HRQ := Lib.hid hRq
        obtain ⟨ao, co, rfl, -⟩ := cmds_of_own hrow
        have HVB := Lib.hid (fun k (e : (Value.slice ao acc.length co).ownBlock = some k) => (hrow.lt k e).1)
        clear hj hal hrow htree hRq hfull
        go_wp2_with fail
        refine (HC.out q _ t HTL.out HTS.out _ HTR.out (by have h5 := HQ.out; have h6 := HPP.out; have h7 := HN.out; have h8 := HJ.out; omega) HRQ.out).mono ?_
        rintro e W2 ⟨c, q2, rfl, hc66, hq2, hR2, hg2⟩
        have HROW2 := Lib.hid (own_reader HROW.out HLT.out hg2)
        have HTR2 := Lib.hid (own_reader HTR.out HB.out hg2)
        have HG2 := Lib.hid (grownBy_trans HG.out hg2)
        have HR2 := Lib.hid hR2
        have HQ2 := Lib.hid (And.intro hc66 hq2)
        obtain ⟨ta, tc, rfl, htn⟩ := nodes_of_own HTR2.out
        obtain ⟨⟨out, ok⟩, hr⟩ : ∃ r, applyC t c = r := ⟨_, rfl⟩
        have HA := Lib.hid (fun W' (hb : Below W2.heap.size W2 W') => show Calls Try.prog 64 #[.slice ta t.length tc, cmdV c] W' (fun e w' => ∃ sl, e = .returned (.tuple #[sl, .bool ok]) ∧ w'.ownsRow W'.heap.size 103 3 sl out.length (flatN out) ∧ Below W'.heap.size W' w') by
          have := specCmdApply_c ta t.length tc t c (by have := HTL.out; omega) (fun n hn => by have := HTS.out n hn; omega) (by omega) W' (htn.keep hb)
          rw [hr] at this; exact this)
        have HRR := Lib.hid hr
        obtain ⟨p', fk, fv, tk, tv⟩ := c
        unfold cmdV at HA ⊢
        simp only at HA HQ2
        clear hc66 hq2 hR2 hg2 htn hr
        go_wp2_with fail
        refine (HA.out _ (below_box _ _)).mono ?_
        rintro e W3 ⟨sl3, rfl, ho3, hb3⟩
        have F3 := Lib.hid ((five_new W2 (.string p') (.int .i64 fk) (.int .i64 fv) (.int .i64 tk) (.int .i64 tv) 26).below hb3)
        have hbb := below_next (below_box W2 (.cells #[.string p', .int .i64 fk, .int .i64 fv, .int .i64 tk, .int .i64 tv] 26)) hb3
        have HROW3 := Lib.hid (own_below HROW2.out hbb)
        have HTR3 := Lib.hid (own_below HTR2.out hbb)
        have HG3 := Lib.hid (grownBy_below HG2.out hbb)
        have HR3 := Lib.hid (HR2.out.keep hbb)
        have HO3 := Lib.hid (own_mono ho3 (show base ≤ (W2.alloc (.cells #[.string p', .int .i64 fk, .int .i64 fv, .int .i64 tk, .int .i64 tv] 26)).heap.size by have h1 := HBW.out; have h2 := HG2.out.size; simp; omega))
        clear ho3 hb3 hbb
        cases ok with
        | false =>
          go_wp2
          go_roundw
          case rel => exact ⟨acc, t, j + 1, q2, by go_num, by have := HJ.out; omega, by have := HF.out; omega, HROW3.out, HTR3.out, HTL, HTS, HAS, (by show q2 ≤ _; have h5 := HQ.out; have h6 := HQ2.out.2; omega), HR3.out, HG3⟩
          case measure => have := HJ.out; simp [intOf]; omega
        | true =>
          have HSS := Lib.hid (apply_short64 HRR.out HTS.out)
          obtain ⟨c0, c1, c2, c3, c4, -⟩ := F3.out
          go_wp2_with (at_builtin; refine wpList_append_cmds rfl _ _ rfl W.heap.size _ acc rfl (HROW3.out.alloc _) _ _ _ [⟨p', fk, fv, tk, tv⟩] rfl (cmds_lit W3 ⟨p', fk, fv, tk, tv⟩) (by have := HF.out; simp; omega) (by have := HG3.out.size; simp; omega) ?_; intro v4 w4 ho4 hg4)
          have hg4' := grownBy_trans (grownBy_new W3 (.cells #[.string p', .int .i64 fk, .int .i64 fv, .int .i64 tk, .int .i64 tv] 26) _) hg4
          have HR4 := Lib.hid (push_reader HVB.out HLE.out HR3.out hg4')
          have HG4 := Lib.hid (push_grown HVB.out HG3.out hg4')
          have HT4 := Lib.hid (apart_type HO3.out HROW3.out (by decide) hg4')
          clear hg4 hg4' c0 c1 c2 c3 c4
          go_roundw
          case rel => exact ⟨acc ++ [⟨p', fk, fv, tk, tv⟩], out, j + 1, q2, by go_num, by have := HJ.out; omega, by have := HF.out; simp; omega, ho4, HT4.out, (by show out.length ≤ 11; have := HSS.out.2; omega), HSS.out.1, shortC_push HAS.out HQ2.out.1, (by show q2 ≤ _; have h5 := HQ.out; have h6 := HQ2.out.2; omega), HR4.out, HG4⟩
          case measure => have := HJ.out; simp [intOf]; omega
      · have hge : (20 : Int) ≤ acc.length := by omega
        have HJ := Lib.hid hj
        obtain ⟨ao, co, rfl, -⟩ := cmds_of_own hrow
        clear hj hfull
        go_wp2
        go_ret
        exact ⟨_, acc, q, rfl, hrow, hal, HAS.out, by have h5 := HQ.out; have h6 := HJ.out; have h7 := HN.out; omega, hRq, HG.out⟩
    · have hge : n ≤ (j : Int) := by omega
      have HJ := Lib.hid hj
      obtain ⟨ao, co, rfl, -⟩ := cmds_of_own hrow
      clear hj hlt
      go_wp2
      go_ret
      exact ⟨_, acc, q, rfl, hrow, hal, HAS.out, by have h5 := HQ.out; have h6 := HJ.out; have h7 := HN.out; omega, hRq, HG.out⟩

end Go.Proofs.Ytpjoahddbdmbpaa

/-
  WALKS: logs that are drawn, seldom broken ones (spec.l91Broken); spec.DrawLogValid, DrawLogUndo, DrawLogApply, DrawLogFits.
-/
namespace Go.Proofs.Ytpjoahddbdmbpaa
open Go.RowKit
set_option linter.unusedVariables false

theorem flatC_cons (c : Cmd) (t : List Cmd) : flatC (c :: t) = .string c.p :: .int .i64 c.fk :: .int .i64 c.fv :: .int .i64 c.tk :: .int .i64 c.tv :: flatC t := rfl

theorem flatC_setTo : ∀ (cs : List Cmd) (i : Nat) (c : Cmd) (k v : Int), cs[i]? = some c → ((flatC cs).set (i * 5 + 3) (.int .i64 k)).set (i * 5 + 4) (.int .i64 v) = flatC (cs.set i ⟨c.p, c.fk, c.fv, k, v⟩)
  | [], i, c, k, v, h => by simp at h
  | m :: r, 0, c, k, v, h => by
    simp at h
    subst h
    rfl
  | m :: r, i + 1, c, k, v, h => by
    have ih := flatC_setTo r i c k v (by simpa using h)
    rw [List.set_cons_succ, flatC_cons m r, flatC_cons m (r.set i _), ← ih, show (i + 1) * 5 + 3 = (i * 5 + 3) + 5 by omega, show (i + 1) * 5 + 4 = (i * 5 + 4) + 5 by omega]
    rfl

theorem flatC_setPath : ∀ (cs : List Cmd) (i : Nat) (c : Cmd) (s : ByteArray), cs[i]? = some c → (flatC cs).set (i * 5) (.string s) = flatC (cs.set i ⟨s, c.fk, c.fv, c.tk, c.tv⟩)
  | [], i, c, s, h => by simp at h
  | m :: r, 0, c, s, h => by
    simp at h
    subst h
    rfl
  | m :: r, i + 1, c, s, h => by
    have ih := flatC_setPath r i c s (by simpa using h)
    rw [List.set_cons_succ, flatC_cons m r, flatC_cons m (r.set i _), ← ih, show (i + 1) * 5 = i * 5 + 5 by omega]
    rfl

theorem own_setTo {W : World} {base : Nat} {e : TypeId} {g cap : Nat} {cs : List Cmd} {i : Nat} {c : Cmd} (h : W.ownsRow base e 5 (.slice (some ⟨g, 0, none⟩) cs.length cap) cs.length (flatC cs)) (hn : cs[i]? = some c) (k v : Int) :
    ((W.setCell ⟨g, i * 5 + 3, none⟩ (.int .i64 k)).setCell ⟨g, i * 5 + 3 + 1, none⟩ (.int .i64 v)).ownsRow base e 5 (.slice (some ⟨g, 0, none⟩) cs.length cap) (cs.set i ⟨c.p, c.fk, c.fv, k, v⟩).length (flatC (cs.set i ⟨c.p, c.fk, c.fv, k, v⟩)) := by
  have := ((h.stored (i * 5 + 3) (.int .i64 k)).1.stored (i * 5 + 4) (.int .i64 v)).1
  rw [flatC_setTo cs i c k v hn] at this
  rw [List.length_set]
  exact this

theorem own_setPath {W : World} {base : Nat} {e : TypeId} {g cap : Nat} {cs : List Cmd} {i : Nat} {c : Cmd} (h : W.ownsRow base e 5 (.slice (some ⟨g, 0, none⟩) cs.length cap) cs.length (flatC cs)) (hn : cs[i]? = some c) (s : ByteArray) :
    (W.setCell ⟨g, i * 5, none⟩ (.string s)).ownsRow base e 5 (.slice (some ⟨g, 0, none⟩) cs.length cap) (cs.set i ⟨s, c.fk, c.fv, c.tk, c.tv⟩).length (flatC (cs.set i ⟨s, c.fk, c.fv, c.tk, c.tv⟩)) := by
  have := (h.stored (i * 5) (.string s)).1
  rw [flatC_setPath cs i c s hn] at this
  rw [List.length_set]
  exact this

theorem flatC_take (cs : List Cmd) (k : Nat) : (flatC cs).take (k * 5) = flatC (cs.take k) := by
  induction cs generalizing k with
  | nil => simp [flatC]
  | cons c r ih =>
    cases k with
    | zero => rfl
    | succ k =>
      rw [List.take_succ_cons, flatC_cons, flatC_cons, show (k + 1) * 5 = k * 5 + 5 by omega, ← ih k]
      rfl

/-- The first commands of a list of the call's own. -/
theorem own_takeC {W : World} {base : Nat} {e : TypeId} {g cap : Nat} {cs : List Cmd} (h : W.ownsRow base e 5 (.slice (some ⟨g, 0, none⟩) cs.length cap) cs.length (flatC cs)) (k : Nat) (hk : k ≤ cs.length) : W.ownsRow base e 5 (.slice (some ⟨g, 0, none⟩) k cap) (cs.take k).length (flatC (cs.take k)) := by
  have hl : (cs.take k).length = k := by rw [List.length_take]; omega
  rw [hl]
  obtain ⟨h1, h2⟩ := h
  refine ⟨by rw [flatC_length, hl], .inr ?_⟩
  rcases h2 with ⟨h3, _⟩ | ⟨g', cap', cur, h3, h4, h5, h6, h7, h8, h9⟩
  · cases h3
  · cases h3
    refine ⟨g, cap, cur, rfl, h4, h5, by omega, h7, h8, ?_⟩
    rw [← flatC_take, ← h9, List.take_take]
    congr 1
    omega

theorem own_sliceC {W : World} {base : Nat} {e : TypeId} {v : Value} {cs : List Cmd} (h : W.ownsRow base e 5 v cs.length (flatC cs)) (h0 : 0 < cs.length) : ∃ g cap, v = .slice (some ⟨g, 0, none⟩) cs.length cap ∧ base ≤ g ∧ cs.length ≤ cap ∧ cap ≤ maxLen := by
  rcases h.2 with ⟨_, h1⟩ | ⟨g, cap, cur, rfl, h1, h2, h3, h4, _⟩
  · omega
  · exact ⟨g, cap, rfl, h1, h3, h4⟩

/-- The last commands of a list of the call's own. -/
theorem own_tailC {W : World} {base : Nat} {e : TypeId} {g cap : Nat} {cs : List Cmd} (h : W.ownsRow base e 5 (.slice (some ⟨g, 0, none⟩) cs.length cap) cs.length (flatC cs)) (m : Nat) (hm : m ≤ cs.length) (o : Nat) (ho : o = m * 5 ∨ cs.length = m) : CmdsAt W (some ⟨g, o, none⟩) (cs.length - m) (cs.drop m) := by
  refine ⟨by rw [List.length_drop], ?_⟩
  rcases ho with rfl | ho
  · have := (cmds_own h).part m cs.length hm (Nat.le_refl _)
    rw [Nat.zero_add, show (cs.drop m).take (cs.length - m) = cs.drop m from List.take_of_length_le (by rw [List.length_drop]; exact Nat.le_refl _)] at this
    exact this.2
  · left; omega

theorem shortC_set {m : Nat} {cs : List Cmd} {i : Nat} {d : Cmd} (h : ShortC m cs) (hd : d.p.size ≤ m) : ShortC m (cs.set i d) := by
  intro x hx
  rcases List.mem_or_eq_of_mem_set hx with h1 | rfl
  · exact h x h1
  · exact hd

theorem shortC_part {m : Nat} {cs ds : List Cmd} (h : ShortC m cs) (hs : ∀ x ∈ ds, x ∈ cs) : ShortC m ds := fun x hx => h x (hs x hx)

def brokenPaths : List ByteArray := [⟨#[]⟩, ⟨#[47]⟩, ⟨#[47, 120]⟩]

end Go.Proofs.Ytpjoahddbdmbpaa

/-
  WALKS: drawn logs, out of the code: spec.DrawLogValid, DrawLogUndo, DrawLogApply, DrawLogFits.
-/
namespace Go.Proofs.Ytpjoahddbdmbpaa
open Go.RowKit
set_option linter.unusedVariables false

/-- A drawn log, out of the code. -/
def LogsPost (W : World) (e : Ending) (W' : World) : Prop :=
  ∃ (sl : Value) (cs : List Cmd), e = .returned sl ∧ W'.ownsRow W.heap.size 26 5 sl cs.length (flatC cs) ∧ cs.length ≤ 21 ∧ ShortC 66 cs ∧ Below W.heap.size W W'

/-- A drawn tree and a drawn log. -/
def TreeLogPost (W : World) (e : Ending) (W' : World) : Prop :=
  ∃ (sl : Value) (ns : List Nd) (v : Value) (cs : List Cmd), e = .returned (.tuple #[sl, v]) ∧ Drawn W W' sl ns ∧ W'.ownsRow W.heap.size 26 5 v cs.length (flatC cs) ∧ cs.length ≤ 21 ∧ ShortC 66 cs

end Go.Proofs.Ytpjoahddbdmbpaa

/-
  PLAIN MATHEMATICS OF FRAMES: bodies, their sums, frames, and what a scan finds.
-/
namespace Go.Proofs.Ytpjoahddbdmbpaa

def byteOk (x : Int) : Bool := decide (0 ≤ x ∧ x ≤ 255)
def bodyOk (b : List Int) : Bool := b.all byteOk && decide (1 ≤ b.length ∧ b.length ≤ 16)
def sumStep (n x : Int) : Int := (31 * n + x) % 251
def sumB (b : List Int) : Int := b.foldl sumStep 7
def bodySum (b : List Int) : Int := if bodyOk b = true then sumB b else -1
def frame (b : List Int) : List Int := (b.length : Int) :: (b ++ [sumB b])
def frameOf (b : List Int) : List Int := if bodyOk b = true then frame b else []
def framesL (bs : List (List Int)) : List Int := bs.flatMap frame
def framesOf (bs : List (List Int)) : Option (List Int) := if (bs.all bodyOk && decide (bs.length ≤ 40)) = true then some (framesL bs) else none

theorem frame_length (b : List Int) : (frame b).length = b.length + 2 := by simp [frame]
theorem framesL_append (a b : List (List Int)) : framesL (a ++ b) = framesL a ++ framesL b := by unfold framesL; rw [List.flatMap_append]
theorem framesL_cons (b : List Int) (bs : List (List Int)) : framesL (b :: bs) = frame b ++ framesL bs := rfl
theorem framesL_one (b : List Int) : framesL [b] = frame b := by simp [framesL]

theorem bodyOk_len {b : List Int} (h : bodyOk b = true) : 1 ≤ b.length ∧ b.length ≤ 16 := by
  unfold bodyOk at h
  simp only [Bool.and_eq_true, decide_eq_true_eq] at h
  exact h.2
theorem bodyOk_byte {b : List Int} (h : bodyOk b = true) {x : Int} (hx : x ∈ b) : 0 ≤ x ∧ x ≤ 255 := by
  unfold bodyOk at h
  simp only [Bool.and_eq_true, List.all_eq_true] at h
  have := h.1 x hx
  unfold byteOk at this
  simpa using this

theorem sumStep_range (n x : Int) : 0 ≤ sumStep n x ∧ sumStep n x ≤ 250 := by unfold sumStep; omega
theorem foldl_range : ∀ (b : List Int) (n : Int), 0 ≤ n → n ≤ 250 → 0 ≤ b.foldl sumStep n ∧ b.foldl sumStep n ≤ 250
  | [], _, h1, h2 => ⟨h1, h2⟩
  | x :: r, n, _, _ => by
    obtain ⟨a, b⟩ := sumStep_range n x
    exact foldl_range r _ a b
theorem sumB_range (b : List Int) : 0 ≤ sumB b ∧ sumB b ≤ 250 := foldl_range b 7 (by omega) (by omega)

theorem foldl_inj : ∀ (b : List Int) (n m : Int), 0 ≤ n → n ≤ 250 → 0 ≤ m → m ≤ 250 → n ≠ m → b.foldl sumStep n ≠ b.foldl sumStep m
  | [], _, _, _, _, _, _, h => h
  | x :: r, n, m, h1, h2, h3, h4, h => by
    obtain ⟨a, b⟩ := sumStep_range n x
    obtain ⟨c, d⟩ := sumStep_range m x
    refine foldl_inj r _ _ a b c d ?_
    unfold sumStep
    omega

/-- A changed byte changes the sum. -/
theorem sum_changed {b : List Int} {k : Nat} {x y : Int} (hk : b[k]? = some x) (hxy : y = x + 1 ∨ y = x - 1) : sumB (b.set k y) ≠ sumB b := by
  have hl := (List.getElem?_eq_some_iff.1 hk).1
  have hx := (List.getElem?_eq_some_iff.1 hk).2
  have e1 : b = b.take k ++ x :: b.drop (k + 1) := by
    rw [← hx, List.getElem_cons_drop, List.take_append_drop]
  have e2 : b.set k y = b.take k ++ y :: b.drop (k + 1) := List.set_eq_take_append_cons_drop.trans (if_pos hl)
  rw [e2]
  conv => rhs; rw [e1]
  unfold sumB
  rw [List.foldl_append, List.foldl_append, List.foldl_cons, List.foldl_cons]
  obtain ⟨a, b'⟩ := foldl_range (b.take k) 7 (by omega) (by omega)
  generalize (b.take k).foldl sumStep 7 = n at a b'
  obtain ⟨p, q⟩ := sumStep_range n y
  obtain ⟨r, s⟩ := sumStep_range n x
  refine foldl_inj _ _ _ p q r s ?_
  unfold sumStep
  omega

/-! ## Scanning -/

/-- A whole frame at the beginning: its body. -/
def headOk (n : Int) (rest : List Int) : Bool :=
  decide (1 ≤ n ∧ n ≤ 16) && (decide (n.toNat + 1 ≤ rest.length) && (bodyOk (rest.take n.toNat) && decide (rest[n.toNat]? = some (sumB (rest.take n.toNat)))))

def scanF : Nat → List Int → List (List Int) × Nat
  | 0, _ => ([], 0)
  | _ + 1, [] => ([], 0)
  | f + 1, n :: rest => if headOk n rest = true then ((rest.take n.toNat) :: (scanF f (rest.drop (n.toNat + 1))).1, n.toNat + 2 + (scanF f (rest.drop (n.toNat + 1))).2) else ([], 0)

def scanL (l : List Int) : List (List Int) × Nat := scanF l.length l

theorem headOk_iff (n : Int) (rest : List Int) : headOk n rest = true ↔ (1 ≤ n ∧ n ≤ 16) ∧ n.toNat + 1 ≤ rest.length ∧ bodyOk (rest.take n.toNat) = true ∧ rest[n.toNat]? = some (sumB (rest.take n.toNat)) := by
  unfold headOk
  simp only [Bool.and_eq_true, decide_eq_true_eq]

theorem scanF_more : ∀ (f g : Nat) (l : List Int), l.length ≤ f → l.length ≤ g → scanF f l = scanF g l
  | 0, 0, _, _, _ => rfl
  | 0, g + 1, [], _, _ => rfl
  | f + 1, 0, [], _, _ => rfl
  | f + 1, g + 1, [], _, _ => rfl
  | f + 1, g + 1, n :: rest, h1, h2 => by
    unfold scanF
    have : scanF f (rest.drop (n.toNat + 1)) = scanF g (rest.drop (n.toNat + 1)) := scanF_more f g _ (by rw [List.length_drop]; simp at h1; omega) (by rw [List.length_drop]; simp at h2; omega)
    rw [this]

theorem scanL_cons (n : Int) (rest : List Int) : scanL (n :: rest) = if headOk n rest = true then ((rest.take n.toNat) :: (scanL (rest.drop (n.toNat + 1))).1, n.toNat + 2 + (scanL (rest.drop (n.toNat + 1))).2) else ([], 0) := by
  unfold scanL
  show scanF (rest.length + 1) (n :: rest) = _
  conv => lhs; unfold scanF
  rw [scanF_more rest.length (rest.drop (n.toNat + 1)).length _ (by rw [List.length_drop]; omega) (Nat.le_refl _)]

theorem scanL_nil : scanL [] = ([], 0) := rfl

theorem head_frame {b : List Int} (h : bodyOk b = true) (rest : List Int) : headOk (b.length : Int) (b ++ [sumB b] ++ rest) = true := by
  rw [headOk_iff]
  have hl := bodyOk_len h
  have e : (b.length : Int).toNat = b.length := by omega
  rw [e]
  have ht : (b ++ [sumB b] ++ rest).take b.length = b := by rw [List.append_assoc, List.take_left']; rfl
  refine ⟨by omega, by simp, by rw [ht]; exact h, ?_⟩
  rw [ht, List.append_assoc, List.getElem?_append_right (Nat.le_refl _)]
  simp

theorem scan_frame {b : List Int} (h : bodyOk b = true) (rest : List Int) : scanL (frame b ++ rest) = (b :: (scanL rest).1, b.length + 2 + (scanL rest).2) := by
  unfold frame
  rw [List.cons_append, scanL_cons, if_pos (head_frame h rest)]
  have e : (b.length : Int).toNat = b.length := by omega
  rw [e]
  have ht : (b ++ [sumB b] ++ rest).take b.length = b := by rw [List.append_assoc, List.take_left']; rfl
  have hd : (b ++ [sumB b] ++ rest).drop (b.length + 1) = rest := by
    rw [List.drop_left']; simp
  rw [ht, hd]

/-- What was framed is found. -/
theorem scan_frames : ∀ {bs : List (List Int)}, bs.all bodyOk = true → ∀ rest, scanL (framesL bs ++ rest) = (bs ++ (scanL rest).1, (framesL bs).length + (scanL rest).2)
  | [], _, rest => by simp [framesL]
  | b :: bs, h, rest => by
    simp only [List.all_cons, Bool.and_eq_true] at h
    rw [framesL_cons, List.append_assoc, scan_frame h.1, scan_frames h.2]
    simp [frame_length]
    omega

theorem scan_all {bs : List (List Int)} (h : bs.all bodyOk = true) : scanL (framesL bs) = (bs, (framesL bs).length) := by
  have := scan_frames h []
  rw [List.append_nil, scanL_nil] at this
  simpa using this

/-- A frame that lacks its last number is none. -/
theorem scan_torn {b : List Int} (h : bodyOk b = true) : scanL (frame b).dropLast = ([], 0) := by
  unfold frame
  have hl := bodyOk_len h
  have : ((b.length : Int) :: (b ++ [sumB b])).dropLast = (b.length : Int) :: b := by
    rw [← List.cons_append, List.dropLast_concat]
  rw [this, scanL_cons, if_neg]
  rw [headOk_iff]
  rintro ⟨_, h2, _⟩
  have e : (b.length : Int).toNat = b.length := by omega
  omega

theorem scan_torn_all {bs : List (List Int)} {b : List Int} (h : (bs ++ [b]).all bodyOk = true) : scanL (framesL (bs ++ [b])).dropLast = (bs, (framesL bs).length) := by
  simp only [List.all_append, Bool.and_eq_true, List.all_cons, List.all_nil, and_true] at h
  rw [framesL_append, framesL_one, List.dropLast_append_of_ne_nil (by simp [frame]), scan_frames h.1, scan_torn h.2]
  simp

/-- What is found was framed. -/
theorem scan_sound : ∀ (l : List Int), (scanL l).1.all bodyOk = true ∧ framesL (scanL l).1 = l.take (scanL l).2 ∧ (scanL l).2 ≤ l.length := by
  intro l
  generalize hn : l.length = m
  induction m using Nat.strongRecOn generalizing l with
  | ind m ih =>
    match l with
    | [] => exact ⟨rfl, rfl, by simp [scanL_nil]⟩
    | n :: rest =>
      rw [scanL_cons]
      by_cases h : headOk n rest = true
      · rw [if_pos h]
        obtain ⟨h1, h2, h3, h4⟩ := (headOk_iff _ _).1 h
        obtain ⟨i1, i2, i3⟩ := ih (rest.drop (n.toNat + 1)).length (by rw [List.length_drop]; simp at hn; omega) _ rfl
        have hdl : (rest.drop (n.toNat + 1)).length = rest.length - (n.toNat + 1) := List.length_drop
        have htl : (rest.take n.toNat).length = n.toNat := by rw [List.length_take]; omega
        have hfr : frame (rest.take n.toNat) = n :: rest.take (n.toNat + 1) := by
          unfold frame
          rw [htl, List.take_add_one, h4, show ((n.toNat : Nat) : Int) = n by omega]
          rfl
        refine ⟨by simp only [List.all_cons, Bool.and_eq_true]; exact ⟨h3, i1⟩, ?_, ?_⟩
        · show framesL (_ :: _) = _
          rw [framesL_cons, i2, hfr]
          show n :: (rest.take (n.toNat + 1) ++ _) = _
          have ej : n.toNat + 2 + (scanL (rest.drop (n.toNat + 1))).2 = (n.toNat + 1 + (scanL (rest.drop (n.toNat + 1))).2) + 1 := by omega
          rw [ej, List.take_succ_cons]
          congr 1
          generalize (scanL (rest.drop (n.toNat + 1))).2 = j
          exact (List.take_add (l := rest) (i := n.toNat + 1) (j := j)).symm
        · show n.toNat + 2 + _ ≤ m
          simp at hn
          omega
      · rw [if_neg h]
        exact ⟨rfl, rfl, Nat.zero_le _⟩

/-- Good frames stay good. -/
theorem scan_more (l : List Int) {b : List Int} (h : bodyOk b = true) : scanL (l.take (scanL l).2 ++ frame b) = ((scanL l).1 ++ [b], (scanL l).2 + b.length + 2) := by
  obtain ⟨h1, h2, h3⟩ := scan_sound l
  have hl : (framesL (scanL l).1).length = (scanL l).2 := by rw [h2, List.length_take]; omega
  rw [← h2, ← framesL_one b, ← framesL_append, scan_all (by rw [List.all_append, h1]; simp [h]), framesL_append, List.length_append, hl, framesL_one, frame_length]
  rfl

/-- A part of the numbers has a part of the bodies. -/
theorem scan_part : ∀ (l : List Int) (k : Nat), (scanL (l.take k)).2 ≤ k ∧ (scanL (l.take k)).2 ≤ (scanL l).2 ∧ (scanL (l.take k)).1 <+: (scanL l).1 := by
  intro l
  generalize hn : l.length = m
  induction m using Nat.strongRecOn generalizing l with
  | ind m ih =>
    intro k
    have hk : (scanL (l.take k)).2 ≤ k := Nat.le_trans (scan_sound (l.take k)).2.2 (by rw [List.length_take]; omega)
    refine ⟨hk, ?_⟩
    clear hk
    match l, k with
    | [], k => simp [scanL_nil]
    | n :: rest, 0 => simp [scanL_nil]
    | n :: rest, k + 1 =>
      rw [List.take_succ_cons, scanL_cons]
      by_cases h : headOk n (rest.take k) = true
      · obtain ⟨h1, h2, h3, h4⟩ := (headOk_iff _ _).1 h
        rw [List.length_take] at h2
        have e1 : (rest.take k).take n.toNat = rest.take n.toNat := by rw [List.take_take, Nat.min_eq_left (by omega)]
        have e2 : (rest.take k).drop (n.toNat + 1) = (rest.drop (n.toNat + 1)).take (k - (n.toNat + 1)) := by rw [List.drop_take]
        have e3 : (rest.take k)[n.toNat]? = rest[n.toNat]? := by rw [List.getElem?_take, if_pos (by omega)]
        have h' : headOk n rest = true := (headOk_iff _ _).2 ⟨h1, by omega, by rw [← e1]; exact h3, by rw [← e3, ← e1]; exact h4⟩
        rw [if_pos h, scanL_cons n rest, if_pos h', e1, e2]
        obtain ⟨_, i2, i3⟩ := ih (rest.drop (n.toNat + 1)).length (by rw [List.length_drop]; simp at hn; omega) _ rfl (k - (n.toNat + 1))
        refine ⟨by show _ + _ ≤ _ + _; omega, ?_⟩
        obtain ⟨t, ht⟩ := i3
        exact ⟨t, by show (_ :: _) ++ t = _ :: _; rw [List.cons_append, ht]⟩
      · rw [if_neg h]
        exact ⟨Nat.zero_le _, List.nil_prefix⟩

theorem framesOf_some {bs : List (List Int)} {out : List Int} (h : framesOf bs = some out) : bs.all bodyOk = true ∧ bs.length ≤ 40 ∧ out = framesL bs := by
  unfold framesOf at h
  split at h
  · rename_i hc
    simp only [Bool.and_eq_true, decide_eq_true_eq] at hc
    exact ⟨hc.1, hc.2, (Option.some.inj h).symm⟩
  · cases h

theorem framesOf_take {bs : List (List Int)} {out : List Int} (h : framesOf bs = some out) (k : Nat) : framesOf (bs.take k) = some (framesL (bs.take k)) ∧ framesOf (bs.drop k) = some (framesL (bs.drop k)) ∧ framesL (bs.take k) ++ framesL (bs.drop k) = out := by
  obtain ⟨h1, h2, h3⟩ := framesOf_some h
  have ha : ∀ c : List (List Int), (∀ x ∈ c, x ∈ bs) → c.all bodyOk = true := fun c hc => List.all_eq_true.2 fun x hx => List.all_eq_true.1 h1 x (hc x hx)
  refine ⟨?_, ?_, ?_⟩
  · unfold framesOf
    rw [ha _ (fun x hx => List.mem_of_mem_take hx), decide_eq_true (by rw [List.length_take]; omega)]; rfl
  · unfold framesOf
    rw [ha _ (fun x hx => List.mem_of_mem_drop hx), decide_eq_true (by rw [List.length_drop]; omega)]; rfl
  · rw [← framesL_append, List.take_append_drop, h3]

end Go.Proofs.Ytpjoahddbdmbpaa

/-
  WALKS: lists of numbers; spec.l6In, l4Bytes, l4Body, l4Sum, BodySum.
-/
namespace Go.Proofs.Ytpjoahddbdmbpaa
open Go.RowKit
set_option linter.unusedVariables false

/-- A list of numbers, wherever it lies. -/
def IntsAt (W : World) (a : Option Addr) (len : Nat) (zs : List Int) : Prop :=
  zs.length = len ∧ (len = 0 ∨ ∃ b off, a = some ⟨b, off, none⟩ ∧ ∀ i z, zs[i]? = some z → W.cell? ⟨b, off + i, none⟩ = some (.int .i64 z))

theorem IntsAt.keep {W W' : World} {a : Option Addr} {len : Nat} {zs : List Int} (h : IntsAt W a len zs) (hb : Below W.heap.size W W') : IntsAt W' a len zs := by
  obtain ⟨h1, h0 | ⟨b, off, ha, hc⟩⟩ := h
  · exact ⟨h1, .inl h0⟩
  · exact ⟨h1, .inr ⟨b, off, ha, fun i x hx => cell_kept hb (hc i x hx)⟩⟩

theorem IntsAt.at {W : World} {a : Option Addr} {len : Nat} {zs : List Int} (h : IntsAt W a len zs) {i : Nat} (hi : i < len) :
    ∃ b off z, a = some ⟨b, off, none⟩ ∧ zs[i]? = some z ∧ W.cell? ⟨b, off + i, none⟩ = some (.int .i64 z) := by
  obtain ⟨h1, h0 | ⟨b, off, ha, hc⟩⟩ := h
  · omega
  · obtain ⟨x, hx⟩ : ∃ x, zs[i]? = some x := ⟨_, List.getElem?_eq_getElem (by omega)⟩
    exact ⟨b, off, x, ha, hx, hc i x hx⟩

def intsV (zs : List Int) : List Value := zs.map (Value.int .i64)

theorem ints_of_own {W : World} {base : Nat} {e : TypeId} {v : Value} {zs : List Int} (h : W.ownsRow base e 1 v zs.length (intsV zs)) :
    ∃ a cap, v = .slice a zs.length cap ∧ IntsAt W a zs.length zs := by
  rcases h.2 with ⟨rfl, h0⟩ | ⟨g, cap, cur, rfl, h1, h2, h3, h4, h5, h6⟩
  · exact ⟨none, 0, by rw [h0], rfl, .inl h0⟩
  · refine ⟨some ⟨g, 0, none⟩, cap, rfl, rfl, .inr ⟨g, 0, rfl, fun i x hx => ?_⟩⟩
    have hi := (List.getElem?_eq_some_iff.1 hx).1
    rw [Nat.zero_add, h.cellAt i (by omega)]
    unfold intsV
    rw [List.getElem?_map, hx]; rfl

theorem retb {a b : Bool} (h : a = b) : Ending.returned (.bool a) = .returned (.bool b) := by rw [h]

set_option maxHeartbeats 400000 in
theorem l6In_c (n lo hi : Int) (w : World) : Calls Try.prog 49 #[.int .i64 n, .int .i64 lo, .int .i64 hi] w fun e w' => e = .returned (.bool (decide (lo ≤ n ∧ n ≤ hi))) ∧ w' = w := by
  by_cases h1 : lo ≤ n
  · by_cases h2 : n ≤ hi
    · have hr := Lib.hid (show true = decide (lo ≤ n ∧ n ≤ hi) from (decide_eq_true ⟨h1, h2⟩).symm)
      have d1 : decide (lo ≤ n) = true := decide_eq_true h1
      have d2 : decide (n ≤ hi) = true := decide_eq_true h2
      go_enter Try.func49, Try.ntmps49
      go_wp2
      go_ret
      exact ⟨retb hr.out, rfl⟩
    · have hr := Lib.hid (show false = decide (lo ≤ n ∧ n ≤ hi) from (decide_eq_false (fun h => h2 h.2)).symm)
      have d1 : decide (lo ≤ n) = true := decide_eq_true h1
      have d2 : decide (n ≤ hi) = false := decide_eq_false h2
      have h2' : hi < n := by omega
      clear h2
      go_enter Try.func49, Try.ntmps49
      go_wp2
      go_ret
      exact ⟨retb hr.out, rfl⟩
  · have hr := Lib.hid (show false = decide (lo ≤ n ∧ n ≤ hi) from (decide_eq_false (fun h => h1 h.1)).symm)
    have d1 : decide (lo ≤ n) = false := decide_eq_false h1
    have h1' : n < lo := by omega
    clear h1
    go_enter Try.func49, Try.ntmps49
    go_wp2
    go_ret
    exact ⟨retb hr.out, rfl⟩

def BytesRel (zs : List Int) (W : World) (i : Value) (wr : World) : Prop := ∃ n : Nat, i = .int .i64 n ∧ n ≤ zs.length ∧ Hid ((zs.take n).all byteOk = true) ∧ wr = W

theorem take_all {zs : List Int} {i : Nat} {z : Int} (h : zs[i]? = some z) : (zs.take (i + 1)).all byteOk = ((zs.take i).all byteOk && byteOk z) := by
  rw [List.take_add_one, h]
  simp [List.all_append]

theorem all_take_false {zs : List Int} {i : Nat} (h : (zs.take i).all byteOk = false) : zs.all byteOk = false := by
  rw [Bool.eq_false_iff] at h ⊢
  intro hc
  exact h (List.all_eq_true.2 fun x hx => List.all_eq_true.1 hc x (List.mem_of_mem_take hx))

def SumRel (zs : List Int) (W : World) (n i : Value) (wr : World) : Prop := ∃ k : Nat, i = .int .i64 k ∧ k ≤ zs.length ∧ n = .int .i64 (sumB (zs.take k)) ∧ wr = W

theorem sumB_next {zs : List Int} {i : Nat} {z : Int} (h : zs[i]? = some z) : sumB (zs.take (i + 1)) = (31 * sumB (zs.take i) + z) % 251 := by
  unfold sumB
  rw [List.take_add_one, h, List.foldl_append]
  rfl

end Go.Proofs.Ytpjoahddbdmbpaa

/-
  WALKS: orders of the model, counted: spec.OrderSwap, l15Free, l15Count, OrdersCount.
-/
namespace Go.Proofs.Ytpjoahddbdmbpaa
open Go.RowKit
set_option linter.unusedVariables false

theorem infoBool : (Try.prog.info? 4).map (fun i => (i.zero, i.size, i.bytes)) = some (some (.bool false), 1, 1) := by kernel_rfl
def boolsV (us : List Bool) : List Value := us.map Value.bool
theorem boolsV_length (us : List Bool) : (boolsV us).length = us.length := by unfold boolsV; rw [List.length_map]
theorem boolsV_get {us : List Bool} {i : Nat} {u : Bool} (h : us[i]? = some u) : (boolsV us)[i]? = some (.bool u) := by unfold boolsV; rw [List.getElem?_map, h]; rfl
theorem boolsV_cells (us : List Bool) : ∀ u ∈ boolsV us, u.oneCell' = true := by
  intro u hu
  obtain ⟨z, _, rfl⟩ := List.mem_map.1 hu
  rfl
theorem boolsV_set (us : List Bool) (k : Nat) (b : Bool) : (boolsV us).set k (.bool b) = boolsV (us.set k b) := by unfold boolsV; rw [List.map_set]
theorem boolsV_rep (n : Nat) : List.replicate n (Value.bool false) = boolsV (List.replicate n false) := by unfold boolsV; rw [List.map_replicate]

/-- A list of marks, wherever it lies. -/
def BoolsAt (W : World) (g o : Nat) (us : List Bool) : Prop := ∀ i u, us[i]? = some u → W.cell? ⟨g, o + i, none⟩ = some (.bool u)
theorem BoolsAt.keep {W W' : World} {g o : Nat} {us : List Bool} (h : BoolsAt W g o us) (hb : Below W.heap.size W W') : BoolsAt W' g o us := fun i u hu => cell_kept hb (h i u hu)
theorem bools_of_own {W : World} {base : Nat} {e : TypeId} {g n cap : Nat} {us : List Bool} (h : W.ownsRow base e 1 (.slice (some ⟨g, 0, none⟩) n cap) n (boolsV us)) (hn : n = us.length) : BoolsAt W g 0 us := by
  intro i u hu
  have hi := (List.getElem?_eq_some_iff.1 hu).1
  rw [Nat.zero_add, h.cellAt i (by omega)]
  exact boolsV_get hu
theorem getD_get {us : List Bool} {i : Nat} (h : i < us.length) : us[i]? = some (us.getD i false) := by
  rw [List.getElem?_eq_getElem h, List.getD_eq_getElem?_getD, List.getElem?_eq_getElem h]
  rfl

/-! ### OrderSwap -/
theorem below_five {W w : World} {g o : Nat} (c : Cmd) (h : Below W.heap.size W w) (hg : W.heap.size ≤ g) : Below W.heap.size W (set5 w g o c) := h.grown (grown_set5 w g o c) h.size (fun k e => by cases e; exact hg)

theorem swap_not {cs : List Cmd} {k : Int} (h : orderV cs = false ∨ ¬ (0 ≤ k ∧ k + 2 ≤ cs.length)) : orderSwap cs k = ([], false) := by
  unfold orderSwap
  rw [if_neg]
  rintro ⟨h1, h2⟩
  rcases h with h | h
  · rw [h] at h1; cases h1
  · exact h h2
theorem swap_is {cs : List Cmd} {n : Nat} {v : Bool} (h : orderV cs = true) (hn : n + 1 < cs.length) (hv : fitsB (swapK cs n (n + 1)) = v) : orderSwap cs n = if v = true then (swapK cs n (n + 1), true) else ([], false) := by
  unfold orderSwap
  rw [if_pos ⟨h, by omega, by omega⟩, Int.toNat_natCast, hv]

set_option maxHeartbeats 4000000 in
set_option maxRecDepth 100000 in
theorem specOrderSwap_c (a : Option Addr) (len cap : Nat) (cs : List Cmd) (k : Int) (hl : len ≤ 2097152) (hs : ShortC 2097152 cs) (W : World) (hN : CmdsAt W a len cs) :
    Calls Try.prog 21 #[.slice a len cap, .int .i64 k] W (MovePost (orderSwap cs k) W) := by
  obtain ⟨u, hu⟩ : ∃ u, orderV cs = u := ⟨_, rfl⟩
  have HO := Lib.hid (show Calls Try.prog 24 #[.slice a len cap] W (BoolPost u W) by rw [← hu]; exact specOrderFits_c a len cap cs hl hs W hN)
  have HF := Lib.hid (fun x (l q : Nat) xs (h : l ≤ 2097152) W' hn => specFits_c x l q xs h W' hn)
  have HN := Lib.hid hN
  have HE := Lib.hid hN.1
  have hl' : (len : Int) ≤ 2097152 := by omega
  have hw2 : IntKind.i64.wrap ((len : Int) - 2) = (len : Int) - 2 := IntWalk.i64_in _ (by omega)
  clear hN hs
  cases u with
  | false =>
    have HR := Lib.hid (swap_not (k := k) (.inl hu))
    clear hu
    go_enter Try.func21, Try.ntmps21
    go_wp2_with fail
    refine HO.out.mono ?_
    rintro e W1 ⟨rfl, hb1⟩
    have B1 := Lib.hid hb1
    clear hb1
    go_wp2
    go_ret2
    exact move_none HR.out B1.out
  | true =>
    by_cases hk : 0 ≤ k ∧ k + 2 ≤ cs.length
    · obtain ⟨n, rfl⟩ := Int.eq_ofNat_of_zero_le hk.1
      have hd : decide ((0 : Int) ≤ n ∧ (n : Int) ≤ (len : Int) - 2) = true := decide_eq_true ⟨by omega, by have := HE.out; omega⟩
      have HI := Lib.hid (fun w => show Calls Try.prog 49 #[.int .i64 n, .int .i64 0, .int .i64 ((len : Int) - 2)] w (fun e w' => e = .returned (.bool true) ∧ w' = w) by rw [← hd]; exact l6In_c n 0 ((len : Int) - 2) w)
      have HK := Lib.hid (show n + 1 < cs.length ∧ n + 1 < len by have := HE.out; omega)
      have hkl : (n : Int) < len := by have := HK.out.2; omega
      have hkl2 : (n : Int) + 1 < len := by have := HK.out.2; omega
      have hk0 : (0 : Int) ≤ n := by omega
      have hk1 : (0 : Int) ≤ (n : Int) + 1 := by omega
      have ht1 : ((n : Int) + 1).toNat = n + 1 := by omega
      have hw1 : IntKind.i64.wrap ((n : Int) + 1) = (n : Int) + 1 := IntWalk.i64_in _ (by omega)
      obtain ⟨v, hv⟩ : ∃ v, fitsB (swapK cs n (n + 1)) = v := ⟨_, rfl⟩
      have HR := Lib.hid (swap_is hu HK.out.1 hv)
      have HV := Lib.hid hv
      clear hu hk hd hv
      go_enter Try.func21, Try.ntmps21
      go_wp2_with fail
      refine HO.out.mono ?_
      rintro e W1 ⟨rfl, hb1⟩
      have B1 := Lib.hid hb1
      clear hb1
      go_wp2_with fail
      refine (HI.out _).mono ?_
      rintro e W2 ⟨rfl, rfl⟩
      go_upto_region 4 with (at_builtin; refine wpList_append_cmds rfl _ _ rfl W.heap.size _ [] rfl (World.ownsRow_lit (e := 26) (size := 5) _ #[] 0 B1.out.size (by simp [maxLen]) rfl) _ _ _ cs rfl (HN.out.keep (below_next B1.out (below_box _ _))) (by have := HE.out; simp; omega) (by have := B1.out.size; simp; omega) ?_; intro v3 W3 ho3 hg3; have B3 := Lib.hid ((below_next B1.out (below_box _ _)).grown hg3 (by have := B1.out.size; simp; omega) (fun k e => by cases e; exact B1.out.size)))
      rw [List.nil_append] at ho3
      obtain ⟨g, c3, rfl, hgb, hlc, hcm⟩ := own_sliceC ho3 (by have := HK.out; omega)
      have HG := Lib.hid hgb
      have HO3 := Lib.hid ho3
      have hel : (cs.length : Int) = len := by have := HE.out; omega
      obtain ⟨b, off, cj, rfl, hcj, d0, d1, d2, d3, d4⟩ := (HN.out.keep B3.out).node (i := n + 1) HK.out.2
      obtain ⟨c0, c1, c2, c3', c4⟩ := hp_cells ho3 (i := n) (by have := HK.out.1; omega) rfl
      have f0 := fun o => row_frozen ho3 o
      have hr1 := own_set5 ho3 (i := n) (by have := HK.out.1; omega) cj
      obtain ⟨x0, x1, x2, x3, x4⟩ := hp_cells hr1 (i := n + 1) (by rw [List.length_set]; exact HK.out.1) (by rw [List.length_set])
      obtain ⟨cx, hcx⟩ : ∃ c, atK (cs.set n cj) (n + 1) = c := ⟨_, rfl⟩
      rw [hcx] at x0 x1 x2 x3 x4
      obtain ⟨b', off', ci, hbb, hci, e0, e1, e2, e3, e4⟩ := (HN.out.keep (below_five (o := n * 5) cj B3.out hgb)).node (i := n) (by have := HK.out.2; omega)
      cases hbb
      have HSW := Lib.hid (own_swap5 ho3 (i := n) (j := n + 1) (by have := HK.out.1; omega) HK.out.1)
      have BSW := Lib.hid (below_five (o := (n + 1) * 5) ci (below_five (o := n * 5) cj B3.out hgb) hgb)
      rw [get_atK hcj, get_atK hci] at HSW
      unfold set5 at x0 x1 x2 x3 x4 e0 e1 e2 e3 e4 HSW BSW
      have hgl := World.block_lt_of_cell? W3 _ c0
      obtain ⟨xs, hxs⟩ : ∃ xs, swapK cs n (n + 1) = xs := ⟨_, rfl⟩
      have hxl : xs.length = cs.length := by rw [← hxs]; exact swapK_length _ _ _
      rw [hxs] at HR HV HSW
      have HXL := Lib.hid hxl
      have hlc2 : (cs.length : Int) ≤ c3 := by omega
      have HFX := Lib.hid (fun x (q : Nat) W' (hn : CmdsAt W' x cs.length xs) => show Calls Try.prog 50 #[.slice x cs.length q] W' (BoolPost v W') by rw [← HV.out]; exact HF.out x cs.length q xs (by have := HE.out; omega) W' hn)
      clear hcj hci hcx hr1 ho3 hg3 hxs hgb hlc hxl
      go_wp2_with fail
      refine (HFX.out _ _ _ ?_).mono ?_
      · have h := HSW.out
        rw [← HXL.out] at h
        have h2 := cmds_own h
        rw [HXL.out] at h2
        exact h2
      rintro e W5 ⟨rfl, hb5⟩
      have B5 := Lib.hid (below_next BSW.out hb5)
      have HO5 := Lib.hid (own_below HSW.out hb5)
      clear hb5 c0 c1 c2 c3' c4 d0 d1 d2 d3 d4 e0 e1 e2 e3 e4 x0 x1 x2 x3 x4 f0 hgl
      cases v with
      | false =>
        rw [if_neg (by decide)] at HR
        go_wp2
        go_ret2
        exact move_none HR.out B5.out
      | true =>
        rw [if_pos rfl] at HR
        go_wp2
        go_ret2
        exact move_end HR.out (by rw [HXL.out]; exact HO5.out) B5.out
    · have HR := Lib.hid (swap_not (cs := cs) (k := k) (.inr hk))
      have hd : decide ((0 : Int) ≤ k ∧ k ≤ (len : Int) - 2) = false := decide_eq_false (fun h => hk ⟨h.1, by have := HE.out; omega⟩)
      have HI := Lib.hid (fun w => show Calls Try.prog 49 #[.int .i64 k, .int .i64 0, .int .i64 ((len : Int) - 2)] w (fun e w' => e = .returned (.bool false) ∧ w' = w) by rw [← hd]; exact l6In_c k 0 ((len : Int) - 2) w)
      clear hu hk hd
      go_enter Try.func21, Try.ntmps21
      go_wp2_with fail
      refine HO.out.mono ?_
      rintro e W1 ⟨rfl, hb1⟩
      have B1 := Lib.hid hb1
      clear hb1
      go_wp2_with fail
      refine (HI.out _).mono ?_
      rintro e W2 ⟨rfl, rfl⟩
      go_wp2
      go_ret2
      exact move_none HR.out B1.out

/-! ### l15Free -/
theorem free_no {cs : List Cmd} {us : List Bool} {i k : Nat} {c d : Cmd} (hc : atK cs i = c) (hi : i < cs.length) (hu : us.getD i false = false) (hm : mustC c d = true) (hd : atK cs k = d) : freeK cs us k = false := by
  unfold freeK
  rw [Bool.and_eq_false_iff]
  left
  rw [Bool.eq_false_iff]
  intro h
  have := List.all_eq_true.1 h i (List.mem_range.2 hi)
  rw [hu, hc, hd, hm] at this
  cases this
theorem free_all {cs : List Cmd} {us : List Bool} {k : Nat} (h : ∀ i, i < cs.length → (us.getD i false || !mustC (atK cs i) (atK cs k)) = true) : freeK cs us k = !us.getD k false := by
  unfold freeK
  rw [show (List.range cs.length).all (fun i => us.getD i false || !mustC (atK cs i) (atK cs k)) = true from List.all_eq_true.2 (fun i hi => h i (List.mem_range.1 hi))]
  rfl

set_option maxHeartbeats 4000000 in
set_option maxRecDepth 100000 in
theorem specFree_c (a : Option Addr) (len cap : Nat) (cs : List Cmd) (g o ucap : Nat) (us : List Bool) (at_ : Nat) (hl : len ≤ 2097152) (hul : us.length = len) (hat : at_ < len) (W : World) (hN : CmdsAt W a len cs) (hU : BoolsAt W g o us) :
    Calls Try.prog 77 #[.slice a len cap, .slice (some ⟨g, o, none⟩) len ucap, .int .i64 at_] W (BoolPost (freeK cs us at_) W) := by
  have HMU := Lib.hid (fun c d w => specMust_c c d w)
  have HN := Lib.hid hN
  have HE := Lib.hid hN.1
  have HU := Lib.hid hU
  have HUL := Lib.hid hul
  have HAT := Lib.hid hat
  have hl' : (len : Int) ≤ 2097152 := by omega
  have hat' : (at_ : Int) < len := by omega
  have hat0 : (0 : Int) ≤ at_ := by omega
  clear hN hU hul hat
  go_enter Try.func77, Try.ntmps77
  go_wp2
  go_loopw [7] (fun i wr => ∃ n : Nat, i = .int .i64 n ∧ n ≤ len ∧ Hid (∀ i, i < n → (us.getD i false || !mustC (atK cs i) (atK cs at_)) = true) ∧ Hid (Below W.heap.size W wr)) (fun i _ => len - (intOf i).toNat)
  case atStart => exact ⟨0, rfl, Nat.zero_le _, Lib.hid (fun i h => absurd h (by omega)), Below.refl _ _⟩
  case round =>
    obtain ⟨n, rfl, hn, HP, HB⟩ := hrel
    by_cases hlt : n < len
    · have hlt' : (n : Int) < len := by omega
      have hw1 : IntKind.i64.wrap ((n : Int) + 1) = (n : Int) + 1 := IntWalk.i64_in _ (by omega)
      have HLT := Lib.hid (show n < len ∧ n < cs.length by have := HE.out; omega)
      have u0 := HU.out.keep HB.out n _ (getD_get (by have := HUL.out; omega))
      obtain ⟨uu, huu⟩ : ∃ uu, us.getD n false = uu := ⟨_, rfl⟩
      rw [huu] at u0
      have HU0 := Lib.hid huu
      obtain ⟨b, off, c, rfl, hc, d0, d1, d2, d3, d4⟩ := (HN.out.keep HB.out).node (i := n) HLT.out.1
      obtain ⟨b', off', d, hbb, hd, e0, e1, e2, e3, e4⟩ := (HN.out.keep HB.out).node (i := at_) HAT.out
      cases hbb
      obtain ⟨mm, hmm⟩ : ∃ mm, mustC c d = mm := ⟨_, rfl⟩
      have HMC := Lib.hid (fun w => show Calls Try.prog 40 #[cmdV c, cmdV d] w (BoolPost mm w) by rw [← hmm]; exact HMU.out c d w)
      have HD := Lib.hid (And.intro (get_atK hc) (And.intro (get_atK hd) hmm))
      obtain ⟨p, fk, fv, tk, tv⟩ := c
      obtain ⟨q, fk', fv', tk', tv'⟩ := d
      unfold cmdV at HMC
      simp only at d0 d1 d2 d3 d4 e0 e1 e2 e3 e4 HMC
      clear hn hlt hc hd hmm huu
      cases uu with
      | true =>
        have HB2 : Hid (Below W.heap.size W wr.drew) := HB.out.drew
        go_upto_region 4 with (fail)
        go_region
        all_goals go_wp2
        all_goals go_roundw
        case rel =>
          refine ⟨n + 1, by go_num, HLT.out.1, Lib.hid (fun i hi => ?_), HB2⟩
          by_cases h : i < n
          · exact HP.out i h
          · obtain rfl : i = n := by omega
            rw [HU0.out]
            rfl
        case measure => have := HLT.out.1; simp [intOf]; omega
      | false =>
        have HS0 := Lib.hid (show wr.drew.cell? ⟨g, o + n, none⟩ = some (.bool false) ∧ wr.drew.cell? ⟨b, off + n * 5, none⟩ = some (.string p) ∧ wr.drew.cell? ⟨b, off + n * 5 + 1, none⟩ = some (.int .i64 fk) ∧ wr.drew.cell? ⟨b, off + n * 5 + 2, none⟩ = some (.int .i64 fv) ∧ wr.drew.cell? ⟨b, off + n * 5 + 3, none⟩ = some (.int .i64 tk) ∧ wr.drew.cell? ⟨b, off + n * 5 + 4, none⟩ = some (.int .i64 tv) ∧ wr.drew.cell? ⟨b, off + at_ * 5, none⟩ = some (.string q) ∧ wr.drew.cell? ⟨b, off + at_ * 5 + 1, none⟩ = some (.int .i64 fk') ∧ wr.drew.cell? ⟨b, off + at_ * 5 + 2, none⟩ = some (.int .i64 fv') ∧ wr.drew.cell? ⟨b, off + at_ * 5 + 3, none⟩ = some (.int .i64 tk') ∧ wr.drew.cell? ⟨b, off + at_ * 5 + 4, none⟩ = some (.int .i64 tv') ∧ Below W.heap.size W wr.drew from ⟨u0, d0, d1, d2, d3, d4, e0, e1, e2, e3, e4, HB.out.drew⟩)
        have HKP := Lib.hid (fun (u1 u2 : World) (h : u1.cell? ⟨g, o + n, none⟩ = some (.bool false) ∧ u1.cell? ⟨b, off + n * 5, none⟩ = some (.string p) ∧ u1.cell? ⟨b, off + n * 5 + 1, none⟩ = some (.int .i64 fk) ∧ u1.cell? ⟨b, off + n * 5 + 2, none⟩ = some (.int .i64 fv) ∧ u1.cell? ⟨b, off + n * 5 + 3, none⟩ = some (.int .i64 tk) ∧ u1.cell? ⟨b, off + n * 5 + 4, none⟩ = some (.int .i64 tv) ∧ u1.cell? ⟨b, off + at_ * 5, none⟩ = some (.string q) ∧ u1.cell? ⟨b, off + at_ * 5 + 1, none⟩ = some (.int .i64 fk') ∧ u1.cell? ⟨b, off + at_ * 5 + 2, none⟩ = some (.int .i64 fv') ∧ u1.cell? ⟨b, off + at_ * 5 + 3, none⟩ = some (.int .i64 tk') ∧ u1.cell? ⟨b, off + at_ * 5 + 4, none⟩ = some (.int .i64 tv') ∧ Below W.heap.size W u1) (hb : Below u1.heap.size u1 u2) => show u2.cell? ⟨g, o + n, none⟩ = some (.bool false) ∧ u2.cell? ⟨b, off + n * 5, none⟩ = some (.string p) ∧ u2.cell? ⟨b, off + n * 5 + 1, none⟩ = some (.int .i64 fk) ∧ u2.cell? ⟨b, off + n * 5 + 2, none⟩ = some (.int .i64 fv) ∧ u2.cell? ⟨b, off + n * 5 + 3, none⟩ = some (.int .i64 tk) ∧ u2.cell? ⟨b, off + n * 5 + 4, none⟩ = some (.int .i64 tv) ∧ u2.cell? ⟨b, off + at_ * 5, none⟩ = some (.string q) ∧ u2.cell? ⟨b, off + at_ * 5 + 1, none⟩ = some (.int .i64 fk') ∧ u2.cell? ⟨b, off + at_ * 5 + 2, none⟩ = some (.int .i64 fv') ∧ u2.cell? ⟨b, off + at_ * 5 + 3, none⟩ = some (.int .i64 tk') ∧ u2.cell? ⟨b, off + at_ * 5 + 4, none⟩ = some (.int .i64 tv') ∧ Below W.heap.size W u2 from ⟨cell_kept hb h.1, cell_kept hb h.2.1, cell_kept hb h.2.2.1, cell_kept hb h.2.2.2.1, cell_kept hb h.2.2.2.2.1, cell_kept hb h.2.2.2.2.2.1, cell_kept hb h.2.2.2.2.2.2.1, cell_kept hb h.2.2.2.2.2.2.2.1, cell_kept hb h.2.2.2.2.2.2.2.2.1, cell_kept hb h.2.2.2.2.2.2.2.2.2.1, cell_kept hb h.2.2.2.2.2.2.2.2.2.2.1, below_next h.2.2.2.2.2.2.2.2.2.2.2 hb⟩)
        clear u0 d0 d1 d2 d3 d4 e0 e1 e2 e3 e4
        go_upto_region 4 with (fail)
        go_region_held3 (fun w' => w'.cell? ⟨g, o + n, none⟩ = some (.bool false) ∧ w'.cell? ⟨b, off + n * 5, none⟩ = some (.string p) ∧ w'.cell? ⟨b, off + n * 5 + 1, none⟩ = some (.int .i64 fk) ∧ w'.cell? ⟨b, off + n * 5 + 2, none⟩ = some (.int .i64 fv) ∧ w'.cell? ⟨b, off + n * 5 + 3, none⟩ = some (.int .i64 tk) ∧ w'.cell? ⟨b, off + n * 5 + 4, none⟩ = some (.int .i64 tv) ∧ w'.cell? ⟨b, off + at_ * 5, none⟩ = some (.string q) ∧ w'.cell? ⟨b, off + at_ * 5 + 1, none⟩ = some (.int .i64 fk') ∧ w'.cell? ⟨b, off + at_ * 5 + 2, none⟩ = some (.int .i64 fv') ∧ w'.cell? ⟨b, off + at_ * 5 + 3, none⟩ = some (.int .i64 tk') ∧ w'.cell? ⟨b, off + at_ * 5 + 4, none⟩ = some (.int .i64 tv') ∧ Below W.heap.size W w')
          (first | exact HS0.out | exact HKP.out _ _ HS0.out hb7)
          (first | (go_at_call 40; (with_reducible refine (HMC.out _).mono ?_); rintro e W7 ⟨rfl, hb7⟩))
        rename_i hS
        have HB7 := Lib.hid hS.2.2.2.2.2.2.2.2.2.2.2
        clear hS
        cases mm with
        | true =>
          have HX := Lib.hid (free_no (us := us) (i := n) (k := at_) HD.out.1 HLT.out.2 HU0.out HD.out.2.2 HD.out.2.1)
          go_wp2
          go_ret
          exact ⟨ret_bool HX.out.symm, HB7.out⟩
        | false =>
          go_wp2
          go_roundw
          case rel =>
            refine ⟨n + 1, by go_num, HLT.out.1, Lib.hid (fun i hi => ?_), HB7⟩
            by_cases h : i < n
            · exact HP.out i h
            · obtain rfl : i = n := by omega
              rw [HD.out.1, HD.out.2.1, HD.out.2.2]
              simp
          case measure => have := HLT.out.1; simp [intOf]; omega
    · have hge : (len : Int) ≤ n := by omega
      have HX := Lib.hid (free_all (cs := cs) (us := us) (k := at_) (fun i hi => HP.out i (by have := HE.out; omega)))
      have u0 := HU.out.keep HB.out at_ _ (getD_get (by have := HUL.out; have := HAT.out; omega))
      obtain ⟨uu, huu⟩ : ∃ uu, us.getD at_ false = uu := ⟨_, rfl⟩
      rw [huu] at u0 HX
      clear hn hlt huu
      go_wp2
      go_ret
      exact ⟨ret_bool HX.out.symm, HB.out⟩

/-! ### l15Count, OrdersCount -/
def CountPost (n : Int) (W : World) (e : Ending) (w' : World) : Prop := e = .returned (.int .i64 n) ∧ Below W.heap.size W w'

/-- The orders that begin with one of the first commands. -/
def partK (cs : List Cmd) (us : List Bool) (left j : Nat) : Nat := ((List.range j).map (fun k => if freeK cs us k = true then countK cs (us.set k true) left else 0)).sum
theorem part_next (cs : List Cmd) (us : List Bool) (left j : Nat) : partK cs us left (j + 1) = partK cs us left j + (if freeK cs us j = true then countK cs (us.set j true) left else 0) := by
  unfold partK
  rw [List.range_succ, List.map_append, List.sum_append]
  simp
theorem part_all (cs : List Cmd) (us : List Bool) (left : Nat) : partK cs us left cs.length = countK cs us (left + 1) := rfl
theorem part_le (cs : List Cmd) (us : List Bool) (left : Nat) : ∀ d j, partK cs us left j ≤ partK cs us left (j + d)
  | 0, j => Nat.le_refl _
  | d + 1, j => by
    have := part_le cs us left d j
    rw [← Nat.add_assoc, part_next]
    omega
theorem part_small {cs : List Cmd} {us : List Bool} {left j : Nat} (hl : us.length = cs.length) (h : leftK us cs.length = left + 1) (h6 : left + 1 ≤ 6) (hj : j ≤ cs.length) : partK cs us left j ≤ 720 := by
  have h1 := part_le cs us left (cs.length - j) j
  rw [show j + (cs.length - j) = cs.length by omega, part_all] at h1
  exact Nat.le_trans h1 (Nat.le_trans (count_le cs _ us hl h) (fac_le h6))

theorem left_le (us : List Bool) (n : Nat) : leftK us n ≤ n := by
  unfold leftK
  have h := sum_le (f := fun k => if us.getD k false = true then 0 else 1) (g := fun _ => 1) (List.range n) (fun k _ => by split <;> omega)
  have h0 : ∀ m, ((List.range m).map (fun _ => 1)).sum = m := by
    intro m
    induction m with
    | zero => rfl
    | succ m ih => rw [List.range_succ, List.map_append, List.sum_append, ih]; rfl
  rw [h0] at h
  exact h

/-- append([]bool{}, used...). -/
theorem wpList_append_bools {w : World} {ops : Array Oper} {rest : List Oper} {o : Oper} {a : Act} {Q : Exit → Act → World → Prop} (hgd : o.guard = none) (s x : Operand)
    (ho : o.op = .call { callee := .builtin .append, args := #[s, x], argTypes := #[77, 77] })
    (base : Nat) (v : Value) (acc : List Bool) (hs : a.eval s = v) (hown : w.ownsRow base 4 1 v acc.length (boolsV acc))
    (g off len cap : Nat) (zs : List Bool) (hx : a.eval x = .slice (some ⟨g, off, none⟩) len cap) (hi : BoolsAt w g off zs) (hl : zs.length = len) (hlen : acc.length + zs.length ≤ 2097152) (hb : base ≤ w.heap.size)
    (h : ∀ v3 w3, w3.ownsRow base 4 1 v3 (acc ++ zs).length (boolsV (acc ++ zs)) → w.grownBy w3 v.ownBlock → wpList Try.prog ops Q rest (a.put o.dst v3) w3) : wpList Try.prog ops Q (o :: rest) a w := by
  obtain ⟨i0, hi0, hz0, hz1, hz2⟩ := info_parts infoBool
  refine wpList_plain hgd fun K hK => ?_
  exact wp_append_own w s x 77 ho base 4 i0 (.bool false) 1 1 Try.underlying77 hi0 hz0 hz1 hz2 rfl (by decide) v acc.length (boolsV acc) hs hown ⟨g, off, none⟩ len cap (boolsV zs) hx (by rw [boolsV_length]; omega) (fun j u hj => by
    unfold boolsV at hj
    rw [List.getElem?_map] at hj
    obtain ⟨z, hz, rfl⟩ := Option.map_eq_some_iff.1 hj
    rw [addr_addN]
    exact hi j z hz) (boolsV_cells _) (by unfold maxLen; omega) (by omega) hb fun v' w' h1 h2 _ => hK _ _ (h v' w' (by
    have e : boolsV (acc ++ zs) = boolsV acc ++ boolsV zs := by unfold boolsV; rw [List.map_append]
    rw [e, List.length_append, hl]; exact h1) h2)

theorem own_casesB {W : World} {base : Nat} {e : TypeId} {v : Value} {n : Nat} {xs : List Value} (h : W.ownsRow base e 1 v n xs) (h0 : 0 < n) : ∃ g cap, v = .slice (some ⟨g, 0, none⟩) n cap ∧ base ≤ g ∧ n ≤ cap := by
  rcases h.2 with ⟨_, h1⟩ | ⟨g, cap, cur, rfl, h1, h2, h3, h4, _⟩
  · omega
  · exact ⟨g, cap, rfl, h1, h3⟩

def CountRel (cs : List Cmd) (us : List Bool) (left : Nat) (W : World) (n i : Value) (wr : World) : Prop :=
  ∃ j : Nat, i = .int .i64 j ∧ n = .int .i64 ((partK cs us left j : Nat) : Int) ∧ j ≤ cs.length ∧ Hid (Below W.heap.size W wr)

set_option maxHeartbeats 4000000 in
set_option maxRecDepth 100000 in
theorem specCount_c (a : Option Addr) (len cap : Nat) (cs : List Cmd) (hl : len ≤ 6) : ∀ (left g o ucap : Nat) (us : List Bool), us.length = cs.length → leftK us cs.length = left → ∀ (W : World), CmdsAt W a len cs → BoolsAt W g o us →
    Calls Try.prog 57 #[.slice a len cap, .slice (some ⟨g, o, none⟩) len ucap, .int .i64 left] W (CountPost ((countK cs us left : Nat) : Int) W) := by
  intro left
  induction left with
  | zero =>
    intro g o ucap us hul hlf W hN hU
    clear hN hU hul hlf
    go_enter Try.func57, Try.ntmps57
    go_wp2_with fail
    go_ret
    exact ⟨rfl, Below.refl _ _⟩
  | succ left ih =>
    intro g o ucap us hul hlf W hN hU
    have HIH := Lib.hid ih
    have HN := Lib.hid hN
    have HE := Lib.hid hN.1
    have HU := Lib.hid hU
    have HUL := Lib.hid hul
    have HLF := Lib.hid hlf
    have hl' : (len : Int) ≤ 6 := by omega
    have HL6 := Lib.hid (show left + 1 ≤ 6 by have := left_le us cs.length; have := hN.1; omega)
    have hlw : IntKind.i64.wrap (((left + 1 : Nat) : Int) - 1) = (left : Int) := (IntWalk.i64_in _ (by have := HL6.out; omega)).trans (by omega)
    have hln : (((left + 1 : Nat) : Int) == 0) = false := beq_eq_false_iff_ne.2 (by omega)
    have HFR := Lib.hid (fun n (h : n < len) W' (hb : Below W.heap.size W W') => specFree_c a len cap cs g o ucap us n (by omega) (by have := hN.1; omega) h W' (hN.keep hb) (hU.keep hb))
    obtain ⟨lf, hlf2⟩ : ∃ lf : Int, ((left + 1 : Nat) : Int) = lf := ⟨_, rfl⟩
    rw [hlf2] at hlw hln ⊢
    clear ih hN hU hul hlf hlf2
    go_enter Try.func57, Try.ntmps57
    go_wp2_with fail
    go_loopw [7, 8, 9] (fun n i _ wr => CountRel cs us left W n i wr) (fun _ i _ _ => len - (intOf i).toNat)
    case atStart => exact ⟨0, rfl, rfl, Nat.zero_le _, Below.refl _ _⟩
    case round =>
      obtain ⟨j, rfl, rfl, hj, HB⟩ := hrel
      have hps := part_small HUL.out HLF.out HL6.out hj
      by_cases hlt : j < len
      · have hlt' : (j : Int) < len := by omega
        have hw1 : IntKind.i64.wrap ((j : Int) + 1) = (j : Int) + 1 := IntWalk.i64_in _ (by omega)
        have HLT := Lib.hid (show j < len ∧ j < cs.length by have := HE.out; omega)
        obtain ⟨ff, hff⟩ : ∃ ff, freeK cs us j = ff := ⟨_, rfl⟩
        have HF := Lib.hid (show Calls Try.prog 77 #[.slice a len cap, .slice (some ⟨g, o, none⟩) len ucap, .int .i64 j] wr (BoolPost ff wr) by rw [← hff]; exact HFR.out j hlt wr HB.out)
        have HPN := Lib.hid (part_next cs us left j)
        have HPS := Lib.hid (part_small (j := j + 1) HUL.out HLF.out HL6.out (by have := HLT.out.2; omega))
        rw [hff] at HPN
        have HFF := Lib.hid hff
        obtain ⟨pp, hpp⟩ : ∃ pp, partK cs us left j = pp := ⟨_, rfl⟩
        rw [hpp] at HPN hps ⊢
        have hpp' : (pp : Int) ≤ 720 := by omega
        clear hj hlt hff hpp hps
        go_wp2_with fail
        refine HF.out.mono ?_
        rintro e W2 ⟨rfl, hb2⟩
        have B2 := Lib.hid (below_next HB.out hb2)
        clear hb2
        cases ff with
        | false =>
          have HPY := Lib.hid (show partK cs us left (j + 1) = pp by rw [HPN.out, if_neg (by decide)]; rfl)
          go_wp2
          go_roundw
          case rel => exact ⟨j + 1, by go_num, by rw [HPY.out], HLT.out.2, B2⟩
          case measure => have := HLT.out.1; simp [intOf]; omega
        | true =>
          rw [if_pos rfl] at HPN
          go_upto_region 9 with (at_builtin; refine wpList_append_bools rfl _ _ rfl W.heap.size _ [] rfl (World.ownsRow_lit (e := 4) (size := 1) _ #[] 0 B2.out.size (by simp [maxLen]) rfl) g o len ucap us rfl (HU.out.keep (below_next B2.out (below_box _ _))) (by have := HUL.out; have := HE.out; omega) (by have := HUL.out; have := HE.out; simp; omega) (by have := B2.out.size; simp; omega) ?_; intro v3 W3 ho3 hg3; have B3 := Lib.hid ((below_next B2.out (below_box _ _)).grown hg3 (by have := B2.out.size; simp; omega) (fun k e => by cases e; exact B2.out.size)))
          rw [List.nil_append] at ho3
          rcases own_casesB ho3 (by have := HUL.out; have := HLT.out; omega) with ⟨g3, c3, rfl, hgb, hlc⟩
          have HO3 := Lib.hid ho3
          have HG3 := Lib.hid hgb
          obtain ⟨x0, e0⟩ : ∃ u, W3.cell? ⟨g3, j, none⟩ = some u := by
            rw [ho3.cellAt _ (by have := HUL.out; have := HLT.out; omega)]
            exact ⟨_, List.getElem?_eq_getElem (by rw [boolsV_length]; have := HUL.out; have := HLT.out; omega)⟩
          have y0 := ho3.frozenAt j
          have HS3 := Lib.hid (show (W3.setCell ⟨g3, j, none⟩ (.bool true)).ownsRow W.heap.size 4 1 (.slice (some ⟨g3, 0, none⟩) us.length c3) us.length (boolsV (us.set j true)) by have := (ho3.stored j (.bool true)).1; rwa [boolsV_set] at this)
          have B4 := Lib.hid (show Below W.heap.size W (W3.setCell ⟨g3, j, none⟩ (.bool true)) from below_setCell B3.out _ _ hgb)
          have hul2 : us.length = len := by have := HUL.out; have := HE.out; omega
          rw [hul2] at HS3 ⊢
          have HIX := Lib.hid (HIH.out g3 0 c3 (us.set j true) (by rw [List.length_set]; exact HUL.out) (by have h1 := left_set (k := j) HUL.out HLT.out.2 (by have := HFF.out; unfold freeK at this; rw [Bool.and_eq_true] at this; simpa using this.2); have := HLF.out; omega) (W3.setCell ⟨g3, j, none⟩ (.bool true)) (HN.out.keep B4.out) (bools_of_own HS3.out (by rw [List.length_set]; exact hul2.symm)))
          obtain ⟨cc, hcc⟩ : ∃ cc, countK cs (us.set j true) left = cc := ⟨_, rfl⟩
          rw [hcc] at HIX HPN
          have hcs : (cc : Int) ≤ 720 := by have := HPS.out; rw [HPN.out] at this; omega
          have hww : IntKind.i64.wrap ((pp : Int) + (cc : Int)) = (pp : Int) + (cc : Int) := IntWalk.i64_in _ (by omega)
          have hjc : (j : Int) < c3 := by have := HLT.out; omega
          clear ho3 hg3 hcc hgb hlc
          go_wp2_with fail
          refine HIX.out.mono ?_
          rintro e W5 ⟨rfl, hb5⟩
          have B5 := Lib.hid (below_next B4.out hb5)
          clear hb5 e0 y0
          go_wp2
          go_roundw
          case rel => exact ⟨j + 1, by go_num, by rw [HPN.out, Int.natCast_add], HLT.out.2, B5⟩
          case measure => have := HLT.out.1; simp [intOf]; omega
      · have hge : (len : Int) ≤ j := by omega
        have hje : j = cs.length := by have := HE.out; omega
        subst hje
        rw [part_all] at hps ⊢
        clear hj hlt hps
        go_wp2
        go_ret
        exact ⟨rfl, HB.out⟩

theorem made_bool (z : Value) (n : Nat) : (madeCells #[z] n).toList = List.replicate n z := by
  refine List.ext_getElem? (fun i => ?_)
  by_cases h : i < n
  · rw [List.getElem?_replicate, if_pos h]
    simp [madeCells, h, Nat.mod_one]
  · rw [List.getElem?_eq_none (by simp [madeCells]; omega), List.getElem?_eq_none (by simp; omega)]

theorem below_noneO {W w : World} (h : W.grownBy w none) : Below W.heap.size W w := ⟨h.os, h.tape, h.output, h.size, fun k hk => h.block k hk (by simp)⟩

theorem ordersCount_not {cs : List Cmd} (h : onceV cs = false ∨ 6 < cs.length) : ordersCount cs = -1 := by
  unfold ordersCount
  rw [if_neg]
  rintro ⟨h1, h2⟩
  rcases h with h | h
  · rw [h] at h1; cases h1
  · omega
theorem ordersCount_is {cs : List Cmd} (h : onceV cs = true) (h6 : cs.length ≤ 6) : ordersCount cs = ((countK cs (List.replicate cs.length false) cs.length : Nat) : Int) := by
  unfold ordersCount
  rw [if_pos ⟨h, h6⟩]

set_option maxHeartbeats 4000000 in
set_option maxRecDepth 100000 in
theorem specOrdersCount_c (a : Option Addr) (len cap : Nat) (cs : List Cmd) (hl : len ≤ 2097152) (hs : ShortC 2097152 cs) (W : World) (hN : CmdsAt W a len cs) :
    Calls Try.prog 27 #[.slice a len cap] W (CountPost (ordersCount cs) W) := by
  obtain ⟨i0, hi, hz0, hz1, hz2⟩ := info_parts infoBool
  obtain ⟨u, hu⟩ : ∃ u, onceV cs = u := ⟨_, rfl⟩
  have HO := Lib.hid (show Calls Try.prog 55 #[.slice a len cap] W (BoolPost u W) by rw [← hu]; exact specOnce_c a len cap cs hl hs W hN)
  have HN := Lib.hid hN
  have HE := Lib.hid hN.1
  have hl' : (len : Int) ≤ 2097152 := by omega
  clear hN hs
  cases u with
  | false =>
    have HR := Lib.hid (ordersCount_not (.inl hu))
    clear hu
    go_enter Try.func27, Try.ntmps27
    go_wp2_with fail
    refine HO.out.mono ?_
    rintro e W1 ⟨rfl, hb1⟩
    go_wp2
    go_ret
    exact ⟨by rw [HR.out]; rfl, hb1⟩
  | true =>
    by_cases h6 : len ≤ 6
    · have HR := Lib.hid (ordersCount_is hu (by have := HE.out; omega))
      have HC := Lib.hid (specCount_c a len cap cs h6)
      have h6' : (len : Int) ≤ 6 := by omega
      have HL6 := Lib.hid h6
      clear hu h6
      go_enter Try.func27, Try.ntmps27
      go_wp2_with fail
      refine HO.out.mono ?_
      rintro e W1 ⟨rfl, hb1⟩
      have B1 := Lib.hid hb1
      clear hb1
      go_wp2_with (refine wpList_make_full _ rfl _ _ 77 rfl W1.heap.size 4 i0 (.bool false) 1 Try.underlying77 hi hz0 hz1 .i64 .i64 _ _ len rfl rfl rfl rfl (by rw [hz2]; omega) (by unfold maxLen; omega) (Nat.le_refl _) ?_; intro w2 hown2 hg2)
      rw [Nat.mul_one, show (madeCells (Value.bool false).cells len).toList = boolsV (List.replicate len false) from (made_bool _ _).trans (boolsV_rep _)] at hown2
      rw [HE.out] at HR
      have B2 := Lib.hid (below_next B1.out (below_noneO hg2))
      refine (HC.out len W1.heap.size 0 len (List.replicate len false) (by rw [List.length_replicate]; exact HE.out.symm) (by rw [HE.out]; exact left_all len) w2 (HN.out.keep B2.out) (bools_of_own hown2 (by rw [List.length_replicate]))).mono ?_
      rintro e W3 ⟨rfl, hb3⟩
      have B3 := Lib.hid (below_next B2.out hb3)
      clear hb3 hown2 hg2
      go_wp2
      go_ret
      exact ⟨by rw [HR.out]; rfl, B3.out⟩
    · have HR := Lib.hid (ordersCount_not (cs := cs) (.inr (by have := HE.out; omega)))
      have h6' : (6 : Int) < len := by omega
      clear hu h6
      go_enter Try.func27, Try.ntmps27
      go_wp2_with fail
      refine HO.out.mono ?_
      rintro e W1 ⟨rfl, hb1⟩
      go_wp2
      go_ret
      exact ⟨by rw [HR.out]; rfl, hb1⟩

end Go.Proofs.Ytpjoahddbdmbpaa
