/-
  Texts of this proof, one behind the other: Lv, Nf.
-/
import Derived.Test.YtpjoahddbdmbpaaLg
import Derived.Test.YtpjoahddbdmbpaaQ9
import Derived.Test.YtpjoahddbdmbpaaQ2
import Derived.Test.YtpjoahddbdmbpaaNe
/-
  WALKS: logs of the model: spec.LogValid, LogApply, LogFits, LogUndo.
-/
namespace Go.Proofs.Ytpjoahddbdmbpaa
open Go.RowKit
set_option linter.unusedVariables false

def ValidRel (cs : List Cmd) (len : Nat) (W : World) (i : Value) (wr : World) : Prop :=
  ∃ n : Nat, i = .int .i64 n ∧ n ≤ len ∧ Hid (∀ (j : Nat) (c : Cmd), j < n → cs[j]? = some c → validC c = true) ∧ Hid (Below W.heap.size W wr)

set_option maxHeartbeats 2000000 in
set_option maxRecDepth 100000 in
theorem specLogValid_c (a : Option Addr) (len cap : Nat) (cs : List Cmd) (hl : len ≤ 2097152) (hs : ShortC 2097152 cs) (W : World) (hN : CmdsAt W a len cs) :
    Calls Try.prog 76 #[.slice a len cap] W (BoolPost (validL cs) W) := by
  have HN := Lib.hid hN
  have HE := Lib.hid hN.1
  have HS := Lib.hid hs
  clear hN hs
  go_enter Try.func76, Try.ntmps76
  go_wp2
  go_loopw [3] (fun i wr => ValidRel cs len W i wr) (fun i _ => len - (intOf i).toNat)
  case atStart => exact ⟨0, rfl, by omega, Lib.hid (fun j c h _ => absurd h (by omega)), Below.refl _ _⟩
  case round =>
    obtain ⟨i, rfl, hi, HP, HB⟩ := hrel
    by_cases hlt : i < len
    · obtain ⟨b, off, c, rfl, hn, c0, c1, c2, c3, c4⟩ := (HN.out.keep HB.out).node hlt
      have hlt' : (i : Int) < len := by omega
      have HLT := Lib.hid hlt
      obtain ⟨vc, hvc⟩ : ∃ vc, validC c = vc := ⟨_, rfl⟩
      have HC := Lib.hid (fun W' => show Calls Try.prog 18 #[cmdV c] W' (BoolPost vc W') by rw [← hvc]; exact specCmdValid_c c (HS.out.at hn) W')
      have HV := Lib.hid hvc
      have HNN := Lib.hid hn
      obtain ⟨p, fk, fv, tk, tv⟩ := c
      unfold cmdV at HC
      simp only at c0 c1 c2 c3 c4 HC
      clear hi hlt hn hvc
      go_wp2_with fail
      refine (HC.out _).mono ?_
      rintro e W2 ⟨rfl, hb2⟩
      have HB2 := Lib.hid (below_next HB.out hb2)
      clear c0 c1 c2 c3 c4 hb2
      cases vc with
      | false =>
        go_wp2
        go_ret
        exact ⟨ret_bool (validL_one HNN.out HV.out).symm, HB2.out⟩
      | true =>
        go_wp2
        go_roundw
        case rel =>
          refine ⟨i + 1, by go_num, by have := HLT.out; omega, Lib.hid (fun j c hj hc => ?_), HB2⟩
          by_cases hji : j < i
          · exact HP.out j c hji hc
          · have : j = i := by omega
            subst this
            rw [HNN.out] at hc
            obtain rfl := Option.some.inj hc
            exact HV.out
        case measure => have := HLT.out; simp [intOf]; omega
    · have hge : (len : Int) ≤ i := by omega
      have HR := Lib.hid (validL_short (cs := cs) (fun j c hc => HP.out j c (by have h1 := (List.getElem?_eq_some_iff.1 hc).1; have h2 := HE.out; omega) hc))
      have HQ := Lib.hid (show decide (cs.length ≤ 20) = decide ((len : Int) ≤ 20) by rw [HE.out]; exact decide_eq_decide.2 (by omega))
      clear hi hlt
      go_wp2
      go_ret
      exact ⟨ret_bool (HR.out.trans HQ.out).symm, HB.out⟩

/-- What LogApply tells. -/
def LogPost (r : List Nd × Int) (W : World) (e : Ending) (w' : World) : Prop :=
  ∃ sl, e = .returned (.tuple #[sl, .int .i64 r.2]) ∧ w'.ownsRow W.heap.size 103 3 sl r.1.length (flatN r.1) ∧ Below W.heap.size W w'

theorem log_end {r : List Nd × Int} {W w' : World} {sl : Value} {out : List Nd} {n : Int} (h : r = (out, n)) (ho : w'.ownsRow W.heap.size 103 3 sl out.length (flatN out)) (hB : Below W.heap.size W w') : LogPost r W (.returned (.tuple #[sl, .int .i64 n])) w' := by
  subst h
  exact ⟨sl, rfl, ho, hB⟩

def ApplyRel (ns : List Nd) (cs : List Cmd) (len : Nat) (W : World) (o i : Value) (wr : World) : Prop :=
  ∃ (n : Nat) (acc : List Nd), i = .int .i64 n ∧ n ≤ len ∧ wr.ownsRow W.heap.size 103 3 o acc.length (flatN acc) ∧ Hid (acc.length ≤ 10) ∧ Hid (Short 2097152 acc) ∧ Hid (runL ns (cs.take n) = (acc, n)) ∧ Hid (Below W.heap.size W wr)

theorem apply_short2 {ns out : List Nd} {c : Cmd} {m : Nat} (h : applyC ns c = (out, true)) (hs : Short m ns) (hp : c.p.size ≤ m) : Short m out ∧ out.length ≤ 10 := by
  obtain ⟨_, _, _, h4⟩ := applyC_some h
  obtain ⟨_, _, _, h5, h6⟩ := treePut_some h4
  refine ⟨?_, ((validT_iff out).1 h6).2.2⟩
  rw [h5]
  exact short_put hs hp

end Go.Proofs.Ytpjoahddbdmbpaa

/-
  WALKS: canonical logs of the model: spec.l14Ends, l14Before, l14Put, l14Sort, l14First.
-/
namespace Go.Proofs.Ytpjoahddbdmbpaa
open Go.RowKit
set_option linter.unusedVariables false

set_option maxHeartbeats 1000000 in
set_option maxRecDepth 100000 in
theorem specEnds_c (c : Cmd) (W : World) : Calls Try.prog 105 #[cmdV c] W (BoolPost (endsC c) W) := by
  obtain ⟨p, fk, fv, tk, tv⟩ := c
  unfold cmdV
  have HB := Lib.hid (below_box W (.cells #[.string p, .int .i64 fk, .int .i64 fv, .int .i64 tk, .int .i64 tv] 26))
  simp only
  by_cases h : tk = 0
  · subst h
    go_enter Try.func105, Try.ntmps105
    go_wp2
    go_ret
    exact ⟨ret_bool (by unfold endsC; simp), HB.out⟩
  · have h0 : (tk == 0) = false := beq_eq_false_iff_ne.2 h
    by_cases h1 : fk = 1
    · subst h1
      go_enter Try.func105, Try.ntmps105
      go_wp2
      go_ret
      exact ⟨ret_bool (by unfold endsC; simp), HB.out⟩
    · have h2 : (fk == 1) = false := beq_eq_false_iff_ne.2 h1
      have HX := Lib.hid (show endsC ⟨p, fk, fv, tk, tv⟩ = false by unfold endsC; simp [h0, h2])
      clear h h1
      go_enter Try.func105, Try.ntmps105
      go_wp2
      go_ret
      exact ⟨ret_bool HX.out.symm, HB.out⟩

/-- Two commands in two boxes of the call's own. -/
def TwoC (W : World) (n : Nat) (c d : Cmd) : Prop :=
  W.cell? ⟨n, 0, none⟩ = some (.string c.p) ∧ W.cell? ⟨n, 1, none⟩ = some (.int .i64 c.fk) ∧ W.cell? ⟨n, 2, none⟩ = some (.int .i64 c.fv) ∧ W.cell? ⟨n, 3, none⟩ = some (.int .i64 c.tk) ∧ W.cell? ⟨n, 4, none⟩ = some (.int .i64 c.tv) ∧
  W.cell? ⟨n + 1, 0, none⟩ = some (.string d.p) ∧ W.cell? ⟨n + 1, 1, none⟩ = some (.int .i64 d.fk) ∧ W.cell? ⟨n + 1, 2, none⟩ = some (.int .i64 d.fv) ∧ W.cell? ⟨n + 1, 3, none⟩ = some (.int .i64 d.tk) ∧ W.cell? ⟨n + 1, 4, none⟩ = some (.int .i64 d.tv)

theorem TwoC.keep {W W' : World} {n : Nat} {c d : Cmd} (h : TwoC W n c d) (hb : Below W.heap.size W W') : TwoC W' n c d := by
  obtain ⟨a0, a1, a2, a3, a4, b0, b1, b2, b3, b4⟩ := h
  exact ⟨cell_kept hb a0, cell_kept hb a1, cell_kept hb a2, cell_kept hb a3, cell_kept hb a4, cell_kept hb b0, cell_kept hb b1, cell_kept hb b2, cell_kept hb b3, cell_kept hb b4⟩

theorem twoC_new (W : World) (c d : Cmd) : TwoC ((W.alloc (.cells #[.string c.p, .int .i64 c.fk, .int .i64 c.fv, .int .i64 c.tk, .int .i64 c.tv] 26)).alloc (.cells #[.string d.p, .int .i64 d.fk, .int .i64 d.fv, .int .i64 d.tk, .int .i64 d.tv] 26)) W.heap.size c d := by
  have h1 := (five_new W (.string c.p) (.int .i64 c.fk) (.int .i64 c.fv) (.int .i64 c.tk) (.int .i64 c.tv) 26).alloc (.cells #[.string d.p, .int .i64 d.fk, .int .i64 d.fv, .int .i64 d.tk, .int .i64 d.tv] 26)
  have h2 := five_new (W.alloc (.cells #[.string c.p, .int .i64 c.fk, .int .i64 c.fv, .int .i64 c.tk, .int .i64 c.tv] 26)) (.string d.p) (.int .i64 d.fk) (.int .i64 d.fv) (.int .i64 d.tk) (.int .i64 d.tv) 26
  rw [World.size_alloc] at h2
  obtain ⟨a0, a1, a2, a3, a4, -⟩ := h1
  obtain ⟨b0, b1, b2, b3, b4, -⟩ := h2
  exact ⟨a0, a1, a2, a3, a4, b0, b1, b2, b3, b4⟩

theorem bef_cases (c d : Cmd) : befC c d = if endsC c = true then (if endsC d = true then ltB d.p c.p else true) else (if endsC d = true then false else ltB c.p d.p) := by
  unfold befC
  cases endsC c <;> cases endsC d <;> rfl

theorem gtr_eq (a b : ByteArray) : (!Op.bytesLess a.toList b.toList && !(a.toList == b.toList)) = ltB b a := by
  show (!ltB a b && !(a.toList == b.toList)) = ltB b a
  cases h : ltB a b with
  | true => rw [ltB_asymm h]; rfl
  | false =>
    cases k : ltB b a with
    | true => rw [toList_ne (ltB_ne k).symm]; rfl
    | false =>
      obtain rfl := ltB_tri h k
      simp

set_option maxHeartbeats 2000000 in
set_option maxRecDepth 100000 in
theorem specBefore_c (c d : Cmd) (W : World) : Calls Try.prog 102 #[cmdV c, cmdV d] W (BoolPost (befC c d) W) := by
  obtain ⟨ec, hec⟩ : ∃ e, endsC c = e := ⟨_, rfl⟩
  obtain ⟨ed, hed⟩ : ∃ e, endsC d = e := ⟨_, rfl⟩
  have HC := Lib.hid (fun w => show Calls Try.prog 105 #[cmdV c] w (BoolPost ec w) by rw [← hec]; exact specEnds_c c w)
  have HD := Lib.hid (fun w => show Calls Try.prog 105 #[cmdV d] w (BoolPost ed w) by rw [← hed]; exact specEnds_c d w)
  have HR := Lib.hid (bef_cases c d)
  rw [hec, hed] at HR
  have HT := Lib.hid (twoC_new W c d)
  have HB := Lib.hid (below_next (below_box W (.cells #[.string c.p, .int .i64 c.fk, .int .i64 c.fv, .int .i64 c.tk, .int .i64 c.tv] 26)) (below_box _ (.cells #[.string d.p, .int .i64 d.fk, .int .i64 d.fv, .int .i64 d.tk, .int .i64 d.tv] 26)))
  clear hec hed
  obtain ⟨p, fk, fv, tk, tv⟩ := c
  obtain ⟨p', fk', fv', tk', tv'⟩ := d
  unfold cmdV at HC HD ⊢
  simp only at HC HD HT HB HR ⊢
  obtain ⟨a0, a1, a2, a3, a4, b0, b1, b2, b3, b4⟩ := HT.out
  have T0 := HT
  have B0 := HB
  simp only at a0 a1 a2 a3 a4 b0 b1 b2 b3 b4
  go_enter Try.func102, Try.ntmps102
  go_wp2_with fail
  refine (HC.out _).mono ?_
  rintro e W1 ⟨rfl, hb1⟩
  have T1 := Lib.hid (T0.out.keep hb1)
  have B1 := Lib.hid (below_next B0.out hb1)
  clear a0 a1 a2 a3 a4 b0 b1 b2 b3 b4 hb1
  obtain ⟨a0, a1, a2, a3, a4, b0, b1, b2, b3, b4⟩ := T1.out
  cases ec with
  | true =>
    go_wp2_with fail
    refine (HD.out _).mono ?_
    rintro e W2 ⟨rfl, hb2⟩
    have T2 := Lib.hid (T1.out.keep hb2)
    have B2 := Lib.hid (below_next B1.out hb2)
    clear a0 a1 a2 a3 a4 b0 b1 b2 b3 b4 hb2
    obtain ⟨a0, a1, a2, a3, a4, b0, b1, b2, b3, b4⟩ := T2.out
    cases ed with
    | true =>
      go_wp2
      go_ret
      exact ⟨ret_bool ((gtr_eq p p').trans (by rw [HR.out]; rfl)), B2.out⟩
    | false =>
      go_wp2_with fail
      refine (HC.out _).mono ?_
      rintro e W3 ⟨rfl, hb3⟩
      have T3 := Lib.hid (T2.out.keep hb3)
      have B3 := Lib.hid (below_next B2.out hb3)
      clear a0 a1 a2 a3 a4 b0 b1 b2 b3 b4 hb3
      obtain ⟨a0, a1, a2, a3, a4, b0, b1, b2, b3, b4⟩ := T3.out
      go_wp2_with fail
      refine (HC.out _).mono ?_
      rintro e W4 ⟨rfl, hb4⟩
      have T4 := Lib.hid (T3.out.keep hb4)
      have B4 := Lib.hid (below_next B3.out hb4)
      clear a0 a1 a2 a3 a4 b0 b1 b2 b3 b4 hb4
      obtain ⟨a0, a1, a2, a3, a4, b0, b1, b2, b3, b4⟩ := T4.out
      go_wp2
      go_ret
      exact ⟨ret_bool HR.out.symm, B4.out⟩
  | false =>
    go_wp2_with fail
    refine (HC.out _).mono ?_
    rintro e W2 ⟨rfl, hb2⟩
    have T2 := Lib.hid (T1.out.keep hb2)
    have B2 := Lib.hid (below_next B1.out hb2)
    clear a0 a1 a2 a3 a4 b0 b1 b2 b3 b4 hb2
    obtain ⟨a0, a1, a2, a3, a4, b0, b1, b2, b3, b4⟩ := T2.out
    go_wp2_with fail
    refine (HD.out _).mono ?_
    rintro e W3 ⟨rfl, hb3⟩
    have T3 := Lib.hid (T2.out.keep hb3)
    have B3 := Lib.hid (below_next B2.out hb3)
    clear a0 a1 a2 a3 a4 b0 b1 b2 b3 b4 hb3
    obtain ⟨a0, a1, a2, a3, a4, b0, b1, b2, b3, b4⟩ := T3.out
    cases ed with
    | true =>
      go_wp2_with fail
      refine (HC.out _).mono ?_
      rintro e W4 ⟨rfl, hb4⟩
      have T4 := Lib.hid (T3.out.keep hb4)
      have B4 := Lib.hid (below_next B3.out hb4)
      clear a0 a1 a2 a3 a4 b0 b1 b2 b3 b4 hb4
      obtain ⟨a0, a1, a2, a3, a4, b0, b1, b2, b3, b4⟩ := T4.out
      go_wp2
      go_ret
      exact ⟨ret_bool HR.out.symm, B4.out⟩
    | false =>
      go_wp2
      go_ret
      exact ⟨ret_bool HR.out.symm, B3.out⟩

theorem first_next {cs : List Cmd} {p : ByteArray} {i : Nat} (P : ∀ (j : Nat) (d : Cmd), j < i → cs[j]? = some d → d.p ≠ p) {d : Cmd} (hd : cs[i]? = some d) (h : d.p ≠ p) : ∀ (j : Nat) (e : Cmd), j < i + 1 → cs[j]? = some e → e.p ≠ p := by
  intro j e hj he
  by_cases hji : j < i
  · exact P j e hji he
  · have : j = i := by omega
    subst this
    rw [hd] at he
    obtain rfl := Option.some.inj he
    exact h

set_option maxHeartbeats 1000000 in
set_option maxRecDepth 100000 in
theorem specFirst_c (a : Option Addr) (len cap : Nat) (cs : List Cmd) (at_ : Nat) (c : Cmd) (hc : cs[at_]? = some c) (hl : len ≤ 2097152) (W : World) (hN : CmdsAt W a len cs) :
    Calls Try.prog 75 #[.slice a len cap, .int .i64 at_] W (BoolPost (firstK cs at_ c.p) W) := by
  have hat : at_ < len := by have := (List.getElem?_eq_some_iff.1 hc).1; have := hN.1; omega
  obtain ⟨b, off, c', rfl, hc', e0, -⟩ := hN.node hat
  obtain rfl : c' = c := by rw [hc] at hc'; exact (Option.some.inj hc').symm
  have HN := Lib.hid hN
  have HAT := Lib.hid hat
  have HC := Lib.hid e0
  have hat' : (at_ : Int) < len := by omega
  have hat0 : (0 : Int) ≤ at_ := by omega
  have hl' : (len : Int) ≤ 2097152 := by omega
  clear hN hat hc hc' e0
  go_enter Try.func75, Try.ntmps75
  go_wp2
  go_loopw [5] (fun i wr => ∃ n : Nat, i = .int .i64 n ∧ n ≤ at_ ∧ Hid (Below W.heap.size W wr) ∧ Hid (∀ (j : Nat) (d : Cmd), j < n → cs[j]? = some d → d.p ≠ c'.p)) (fun i _ => at_ - (intOf i).toNat)
  case atStart => exact ⟨0, rfl, Nat.zero_le _, Below.refl _ _, Lib.hid (fun j d h _ => absurd h (by omega))⟩
  case round =>
    obtain ⟨n, rfl, hn, HB, HP⟩ := hrel
    by_cases hlt : n < at_
    · have hlt' : (n : Int) < at_ := by omega
      have hnl : (n : Int) < len := by omega
      have hw1 : IntKind.i64.wrap ((n : Int) + 1) = (n : Int) + 1 := IntWalk.i64_in _ (by omega)
      have HLT := Lib.hid hlt
      obtain ⟨b', off', d, hbb, hd, d0, -⟩ := (HN.out.keep HB.out).node (i := n) (by have := HAT.out; omega)
      cases hbb
      have e0 := cell_kept HB.out HC.out
      have HB2 : Hid (Below W.heap.size W wr.drew) := HB.out.drew
      by_cases hp : d.p = c'.p
      · have heq : (d.p.toList == c'.p.toList) = true := by rw [hp]; simp
        have HX := Lib.hid (first_no hd hlt hp)
        obtain ⟨q, fk, fv, tk, tv⟩ := d
        simp only at d0 heq
        clear hn hlt hd hp
        go_upto_region 4 with (fail)
        go_region
        all_goals (try go_wp2)
        all_goals go_ret
        all_goals (exact ⟨ret_bool HX.out.symm, HB2.out⟩)
      · have heq : (d.p.toList == c'.p.toList) = false := toList_ne hp
        have HPN := Lib.hid (first_next HP.out hd hp)
        obtain ⟨q, fk, fv, tk, tv⟩ := d
        simp only at d0 heq
        clear hn hlt hd hp
        go_upto_region 4 with (fail)
        go_region
        go_wp2
        go_roundw
        case rel => exact ⟨n + 1, by go_num, by have := HLT.out; omega, HB2, HPN⟩
        case measure => have := HLT.out; simp [intOf]; omega
    · have hge : (at_ : Int) ≤ n := by omega
      have HX := Lib.hid (first_yes (cs := cs) (i := at_) (p := c'.p) (fun j d hj hd => HP.out j d (by omega) hd))
      clear hn hlt
      go_wp2
      go_ret
      exact ⟨ret_bool HX.out.symm, HB.out⟩

end Go.Proofs.Ytpjoahddbdmbpaa
