/-
  Texts of this proof, one behind the other: Nf, Or, Op.
-/
import Derived.Test.YtdkpabnpobpdhaaGreatNe
import Derived.Test.YtdkpabnpobpdhaaGreatQ2
import Derived.Test.YtdkpabnpobpdhaaGreatOb
import Derived.Test.YtdkpabnpobpdhaaGreatPv
/-
  WALKS: canonical logs of the model: spec.l14Ends, l14Before, l14Put, l14Sort, l14First.
-/
namespace Go.Proofs.YtdkpabnpobpdhaaGreat
open Go.RowKit
set_option linter.unusedVariables false

set_option maxHeartbeats 1000000 in
set_option maxRecDepth 100000 in
theorem specEnds_c (c : Cmd) (W : World) : Calls Tryz.prog 52 #[cmdV c] W (BoolPost (endsC c) W) := by
  obtain ⟨p, fk, fv, tk, tv⟩ := c
  unfold cmdV
  have HB := Lib.hid (below_box W (.cells #[.string p, .int .i64 fk, .int .i64 fv, .int .i64 tk, .int .i64 tv] 33))
  simp only
  by_cases h : tk = 0
  · subst h
    go_enter Tryz.func52, Tryz.ntmps52
    go_wp2
    go_ret
    exact ⟨ret_bool (by unfold endsC; simp), HB.out⟩
  · have h0 : (tk == 0) = false := beq_eq_false_iff_ne.2 h
    by_cases h1 : fk = 1
    · subst h1
      go_enter Tryz.func52, Tryz.ntmps52
      go_wp2
      go_ret
      exact ⟨ret_bool (by unfold endsC; simp), HB.out⟩
    · have h2 : (fk == 1) = false := beq_eq_false_iff_ne.2 h1
      have HX := Lib.hid (show endsC ⟨p, fk, fv, tk, tv⟩ = false by unfold endsC; simp [h0, h2])
      clear h h1
      go_enter Tryz.func52, Tryz.ntmps52
      go_wp2
      go_ret
      exact ⟨ret_bool HX.out.symm, HB.out⟩

/-- Two commands in two boxes of the call's own. -/
def TwoC (W : World) (n : Nat) (c d : Cmd) : Prop :=
  W.cell? ⟨n, 0, none⟩ = some (.string c.p) ∧ W.cell? ⟨n, 1, none⟩ = some (.int .i64 c.fk) ∧ W.cell? ⟨n, 2, none⟩ = some (.int .i64 c.fv) ∧ W.cell? ⟨n, 3, none⟩ = some (.int .i64 c.tk) ∧ W.cell? ⟨n, 4, none⟩ = some (.int .i64 c.tv) ∧
  W.cell? ⟨n + 1, 0, none⟩ = some (.string d.p) ∧ W.cell? ⟨n + 1, 1, none⟩ = some (.int .i64 d.fk) ∧ W.cell? ⟨n + 1, 2, none⟩ = some (.int .i64 d.fv) ∧ W.cell? ⟨n + 1, 3, none⟩ = some (.int .i64 d.tk) ∧ W.cell? ⟨n + 1, 4, none⟩ = some (.int .i64 d.tv)

theorem TwoC.keep {W W' : World} {n : Nat} {c d : Cmd} (h : TwoC W n c d) (hb : Below W.heap.size W W') : TwoC W' n c d := by
  obtain ⟨a0, a1, a2, a3, a4, b0, b1, b2, b3, b4⟩ := h
  exact ⟨cell_kept hb a0, cell_kept hb a1, cell_kept hb a2, cell_kept hb a3, cell_kept hb a4, cell_kept hb b0, cell_kept hb b1, cell_kept hb b2, cell_kept hb b3, cell_kept hb b4⟩

theorem twoC_new (W : World) (c d : Cmd) : TwoC ((W.alloc (.cells #[.string c.p, .int .i64 c.fk, .int .i64 c.fv, .int .i64 c.tk, .int .i64 c.tv] 33)).alloc (.cells #[.string d.p, .int .i64 d.fk, .int .i64 d.fv, .int .i64 d.tk, .int .i64 d.tv] 33)) W.heap.size c d := by
  have h1 := (five_new W (.string c.p) (.int .i64 c.fk) (.int .i64 c.fv) (.int .i64 c.tk) (.int .i64 c.tv) 33).alloc (.cells #[.string d.p, .int .i64 d.fk, .int .i64 d.fv, .int .i64 d.tk, .int .i64 d.tv] 33)
  have h2 := five_new (W.alloc (.cells #[.string c.p, .int .i64 c.fk, .int .i64 c.fv, .int .i64 c.tk, .int .i64 c.tv] 33)) (.string d.p) (.int .i64 d.fk) (.int .i64 d.fv) (.int .i64 d.tk) (.int .i64 d.tv) 33
  rw [World.size_alloc] at h2
  obtain ⟨a0, a1, a2, a3, a4, -⟩ := h1
  obtain ⟨b0, b1, b2, b3, b4, -⟩ := h2
  exact ⟨a0, a1, a2, a3, a4, b0, b1, b2, b3, b4⟩

theorem bef_cases (c d : Cmd) : befC c d = if endsC c = true then (if endsC d = true then ltB d.p c.p else true) else (if endsC d = true then false else ltB c.p d.p) := by
  unfold befC
  cases endsC c <;> cases endsC d <;> rfl

theorem gtr_eq (a b : ByteArray) : (!Op.bytesLess a.toList b.toList && !(a.toList == b.toList)) = ltB b a := by
  show (!ltB a b && !(a.toList == b.toList)) = ltB b a
  cases h : ltB a b with
  | true => rw [ltB_asymm h]; rfl
  | false =>
    cases k : ltB b a with
    | true => rw [toList_ne (ltB_ne k).symm]; rfl
    | false =>
      obtain rfl := ltB_tri h k
      simp

set_option maxHeartbeats 2000000 in
set_option maxRecDepth 100000 in
theorem specBefore_c (c d : Cmd) (W : World) : Calls Tryz.prog 35 #[cmdV c, cmdV d] W (BoolPost (befC c d) W) := by
  obtain ⟨ec, hec⟩ : ∃ e, endsC c = e := ⟨_, rfl⟩
  obtain ⟨ed, hed⟩ : ∃ e, endsC d = e := ⟨_, rfl⟩
  have HC := Lib.hid (fun w => show Calls Tryz.prog 52 #[cmdV c] w (BoolPost ec w) by rw [← hec]; exact specEnds_c c w)
  have HD := Lib.hid (fun w => show Calls Tryz.prog 52 #[cmdV d] w (BoolPost ed w) by rw [← hed]; exact specEnds_c d w)
  have HR := Lib.hid (bef_cases c d)
  rw [hec, hed] at HR
  have HT := Lib.hid (twoC_new W c d)
  have HB := Lib.hid (below_next (below_box W (.cells #[.string c.p, .int .i64 c.fk, .int .i64 c.fv, .int .i64 c.tk, .int .i64 c.tv] 33)) (below_box _ (.cells #[.string d.p, .int .i64 d.fk, .int .i64 d.fv, .int .i64 d.tk, .int .i64 d.tv] 33)))
  clear hec hed
  obtain ⟨p, fk, fv, tk, tv⟩ := c
  obtain ⟨p', fk', fv', tk', tv'⟩ := d
  unfold cmdV at HC HD ⊢
  simp only at HC HD HT HB HR ⊢
  obtain ⟨a0, a1, a2, a3, a4, b0, b1, b2, b3, b4⟩ := HT.out
  have T0 := HT
  have B0 := HB
  simp only at a0 a1 a2 a3 a4 b0 b1 b2 b3 b4
  go_enter Tryz.func35, Tryz.ntmps35
  go_wp2_with fail
  refine (HC.out _).mono ?_
  rintro e W1 ⟨rfl, hb1⟩
  have T1 := Lib.hid (T0.out.keep hb1)
  have B1 := Lib.hid (below_next B0.out hb1)
  clear a0 a1 a2 a3 a4 b0 b1 b2 b3 b4 hb1
  obtain ⟨a0, a1, a2, a3, a4, b0, b1, b2, b3, b4⟩ := T1.out
  cases ec with
  | true =>
    go_wp2_with fail
    refine (HD.out _).mono ?_
    rintro e W2 ⟨rfl, hb2⟩
    have T2 := Lib.hid (T1.out.keep hb2)
    have B2 := Lib.hid (below_next B1.out hb2)
    clear a0 a1 a2 a3 a4 b0 b1 b2 b3 b4 hb2
    obtain ⟨a0, a1, a2, a3, a4, b0, b1, b2, b3, b4⟩ := T2.out
    cases ed with
    | true =>
      go_wp2
      go_ret
      exact ⟨ret_bool ((gtr_eq p p').trans (by rw [HR.out]; rfl)), B2.out⟩
    | false =>
      go_wp2_with fail
      refine (HC.out _).mono ?_
      rintro e W3 ⟨rfl, hb3⟩
      have T3 := Lib.hid (T2.out.keep hb3)
      have B3 := Lib.hid (below_next B2.out hb3)
      clear a0 a1 a2 a3 a4 b0 b1 b2 b3 b4 hb3
      obtain ⟨a0, a1, a2, a3, a4, b0, b1, b2, b3, b4⟩ := T3.out
      go_wp2_with fail
      refine (HC.out _).mono ?_
      rintro e W4 ⟨rfl, hb4⟩
      have T4 := Lib.hid (T3.out.keep hb4)
      have B4 := Lib.hid (below_next B3.out hb4)
      clear a0 a1 a2 a3 a4 b0 b1 b2 b3 b4 hb4
      obtain ⟨a0, a1, a2, a3, a4, b0, b1, b2, b3, b4⟩ := T4.out
      go_wp2
      go_ret
      exact ⟨ret_bool HR.out.symm, B4.out⟩
  | false =>
    go_wp2_with fail
    refine (HC.out _).mono ?_
    rintro e W2 ⟨rfl, hb2⟩
    have T2 := Lib.hid (T1.out.keep hb2)
    have B2 := Lib.hid (below_next B1.out hb2)
    clear a0 a1 a2 a3 a4 b0 b1 b2 b3 b4 hb2
    obtain ⟨a0, a1, a2, a3, a4, b0, b1, b2, b3, b4⟩ := T2.out
    go_wp2_with fail
    refine (HD.out _).mono ?_
    rintro e W3 ⟨rfl, hb3⟩
    have T3 := Lib.hid (T2.out.keep hb3)
    have B3 := Lib.hid (below_next B2.out hb3)
    clear a0 a1 a2 a3 a4 b0 b1 b2 b3 b4 hb3
    obtain ⟨a0, a1, a2, a3, a4, b0, b1, b2, b3, b4⟩ := T3.out
    cases ed with
    | true =>
      go_wp2_with fail
      refine (HC.out _).mono ?_
      rintro e W4 ⟨rfl, hb4⟩
      have T4 := Lib.hid (T3.out.keep hb4)
      have B4 := Lib.hid (below_next B3.out hb4)
      clear a0 a1 a2 a3 a4 b0 b1 b2 b3 b4 hb4
      obtain ⟨a0, a1, a2, a3, a4, b0, b1, b2, b3, b4⟩ := T4.out
      go_wp2
      go_ret
      exact ⟨ret_bool HR.out.symm, B4.out⟩
    | false =>
      go_wp2
      go_ret
      exact ⟨ret_bool HR.out.symm, B3.out⟩

theorem first_next {cs : List Cmd} {p : ByteArray} {i : Nat} (P : ∀ (j : Nat) (d : Cmd), j < i → cs[j]? = some d → d.p ≠ p) {d : Cmd} (hd : cs[i]? = some d) (h : d.p ≠ p) : ∀ (j : Nat) (e : Cmd), j < i + 1 → cs[j]? = some e → e.p ≠ p := by
  intro j e hj he
  by_cases hji : j < i
  · exact P j e hji he
  · have : j = i := by omega
    subst this
    rw [hd] at he
    obtain rfl := Option.some.inj he
    exact h

set_option maxHeartbeats 1000000 in
set_option maxRecDepth 100000 in
theorem specFirst_c (a : Option Addr) (len cap : Nat) (cs : List Cmd) (at_ : Nat) (c : Cmd) (hc : cs[at_]? = some c) (hl : len ≤ 2097152) (W : World) (hN : CmdsAt W a len cs) :
    Calls Tryz.prog 36 #[.slice a len cap, .int .i64 at_] W (BoolPost (firstK cs at_ c.p) W) := by
  have hat : at_ < len := by have := (List.getElem?_eq_some_iff.1 hc).1; have := hN.1; omega
  obtain ⟨b, off, c', rfl, hc', e0, -⟩ := hN.node hat
  obtain rfl : c' = c := by rw [hc] at hc'; exact (Option.some.inj hc').symm
  have HN := Lib.hid hN
  have HAT := Lib.hid hat
  have HC := Lib.hid e0
  have hat' : (at_ : Int) < len := by omega
  have hat0 : (0 : Int) ≤ at_ := by omega
  have hl' : (len : Int) ≤ 2097152 := by omega
  clear hN hat hc hc' e0
  go_enter Tryz.func36, Tryz.ntmps36
  go_wp2
  go_loopw [5] (fun i wr => ∃ n : Nat, i = .int .i64 n ∧ n ≤ at_ ∧ Hid (Below W.heap.size W wr) ∧ Hid (∀ (j : Nat) (d : Cmd), j < n → cs[j]? = some d → d.p ≠ c'.p)) (fun i _ => at_ - (intOf i).toNat)
  case atStart => exact ⟨0, rfl, Nat.zero_le _, Below.refl _ _, Lib.hid (fun j d h _ => absurd h (by omega))⟩
  case round =>
    obtain ⟨n, rfl, hn, HB, HP⟩ := hrel
    by_cases hlt : n < at_
    · have hlt' : (n : Int) < at_ := by omega
      have hnl : (n : Int) < len := by omega
      have hw1 : IntKind.i64.wrap ((n : Int) + 1) = (n : Int) + 1 := IntWalk.i64_in _ (by omega)
      have HLT := Lib.hid hlt
      obtain ⟨b', off', d, hbb, hd, d0, -⟩ := (HN.out.keep HB.out).node (i := n) (by have := HAT.out; omega)
      cases hbb
      have e0 := cell_kept HB.out HC.out
      have HB2 : Hid (Below W.heap.size W wr.drew) := HB.out.drew
      by_cases hp : d.p = c'.p
      · have heq : (d.p.toList == c'.p.toList) = true := by rw [hp]; simp
        have HX := Lib.hid (first_no hd hlt hp)
        obtain ⟨q, fk, fv, tk, tv⟩ := d
        simp only at d0 heq
        clear hn hlt hd hp
        go_upto_region 4 with (fail)
        go_region
        all_goals (try go_wp2)
        all_goals go_ret
        all_goals (exact ⟨ret_bool HX.out.symm, HB2.out⟩)
      · have heq : (d.p.toList == c'.p.toList) = false := toList_ne hp
        have HPN := Lib.hid (first_next HP.out hd hp)
        obtain ⟨q, fk, fv, tk, tv⟩ := d
        simp only at d0 heq
        clear hn hlt hd hp
        go_upto_region 4 with (fail)
        go_region
        go_wp2
        go_roundw
        case rel => exact ⟨n + 1, by go_num, by have := HLT.out; omega, HB2, HPN⟩
        case measure => have := HLT.out; simp [intOf]; omega
    · have hge : (at_ : Int) ≤ n := by omega
      have HX := Lib.hid (first_yes (cs := cs) (i := at_) (p := c'.p) (fun j d hj hd => HP.out j d (by omega) hd))
      clear hn hlt
      go_wp2
      go_ret
      exact ⟨ret_bool HX.out.symm, HB.out⟩

end Go.Proofs.YtdkpabnpobpdhaaGreat

/-
  PLAIN MATHEMATICS OF ORDERS, third part: sets of commands as the bits of a number; orders counted set by set.
-/
namespace Go.Proofs.YtdkpabnpobpdhaaGreat

/-! ### sets as bits -/
/-- Of the first j commands, those that must precede a command. -/
def needTo (cs : List Cmd) (k : Nat) : Nat → Nat
  | 0 => 0
  | j + 1 => if mustP (atK cs j) (atK cs k) = true then needTo cs k j ||| 2 ^ j else needTo cs k j

theorem needTo_bit (cs : List Cmd) (k : Nat) : ∀ j i, (needTo cs k j).testBit i = (decide (i < j) && mustP (atK cs i) (atK cs k))
  | 0, i => by simp [needTo]
  | j + 1, i => by
    unfold needTo
    by_cases e : i = j
    · subst e
      cases hm : mustP (atK cs i) (atK cs k) with
      | true => rw [if_pos rfl, Nat.testBit_or, Nat.testBit_two_pow]; simp
      | false => rw [if_neg (by decide), needTo_bit cs k i i]; simp
    · have hd : decide (i < j + 1) = decide (i < j) := decide_eq_decide.2 (by omega)
      rw [hd]
      split
      · rw [Nat.testBit_or, Nat.testBit_two_pow, needTo_bit cs k j i, decide_eq_false (show ¬ j = i from fun h => e h.symm), Bool.or_false]
      · exact needTo_bit cs k j i

theorem needTo_lt (cs : List Cmd) (k : Nat) : ∀ j, needTo cs k j < 2 ^ j
  | 0 => by simp [needTo]
  | j + 1 => by
    unfold needTo
    have h := needTo_lt cs k j
    have h2 : 2 ^ j < 2 ^ (j + 1) := Nat.pow_lt_pow_right (by omega) (by omega)
    split
    · exact Nat.or_lt_two_pow (by omega) h2
    · omega

theorem pow_lt32 {j : Nat} (h : j ≤ 20) : 2 ^ j ≤ 1048576 := Nat.pow_le_pow_right (n := 2) (by omega) h

theorem hasAll_iff {a s : Nat} (hs : s < 4294967296) (ha : a < 4294967296) : a &&& (4294967295 - s) = 0 ↔ ∀ i, a.testBit i = true → s.testBit i = true := by
  have hbit : ∀ i, (a &&& (4294967295 - s)).testBit i = (a.testBit i && (decide (i < 32) && !s.testBit i)) := by
    intro i
    rw [Nat.testBit_and]
    congr 1
    have := Nat.testBit_two_pow_sub_succ (n := 32) (x := s) (by simpa using hs) i
    rw [← this]
    congr 1
    omega
  constructor
  · intro h i hi
    have h2 := hbit i
    rw [h, Nat.zero_testBit, hi, Bool.true_and] at h2
    have hi32 : i < 32 := by
      apply Classical.byContradiction
      intro h3
      have := Nat.testBit_lt_two_pow (x := a) (i := i) (Nat.lt_of_lt_of_le ha (Nat.pow_le_pow_right (show 0 < 2 by omega) (show 32 ≤ i by omega)))
      rw [this] at hi
      cases hi
    rw [decide_eq_true hi32, Bool.true_and] at h2
    simpa using h2.symm
  · intro h
    apply Nat.eq_of_testBit_eq
    intro i
    rw [hbit i, Nat.zero_testBit]
    cases hi : a.testBit i with
    | false => rfl
    | true => rw [h i hi]; simp

theorem has_iff (s k : Nat) : (s / 2 ^ k) &&& 1 = if s.testBit k = true then 1 else 0 := by
  rw [Nat.and_one_is_mod, Nat.testBit_eq_decide_div_mod_eq]
  by_cases h : s / 2 ^ k % 2 = 1
  · rw [h, if_pos (by simp)]
  · rw [if_neg (by simpa using h)]
    omega

/-! ### possible orders, by bits -/
theorem or_pow (k : Nat) : (2 ^ k - 1) ||| 2 ^ k = 2 ^ (k + 1) - 1 := by
  apply Nat.eq_of_testBit_eq
  intro i
  rw [Nat.testBit_or, Nat.testBit_two_pow_sub_one, Nat.testBit_two_pow_sub_one, Nat.testBit_two_pow, Bool.eq_iff_iff]
  simp
  omega

theorem must_valid {cs : List Cmd} (hv : ∀ c ∈ cs, validC c = true) {i k : Nat} (hi : i < cs.length) (hk : k < cs.length) : mustP (atK cs i) (atK cs k) = mustC (atK cs i) (atK cs k) := by
  unfold mustP
  rw [hv _ (atK_mem hi), hv _ (atK_mem hk)]
  rfl

theorem fits_bits {cs : List Cmd} (hv : ∀ c ∈ cs, validC c = true) : fitsB cs = true ↔ ∀ k, k < cs.length → ∀ i, (needTo cs k cs.length).testBit i = true → (2 ^ k - 1).testBit i = true := by
  rw [fitsB_iff, FitsO, List.pairwise_iff_getElem]
  have hget : ∀ i (hi : i < cs.length), cs[i] = atK cs i := fun i hi => by
    have := atK_get (zs := cs) hi
    rw [List.getElem?_eq_getElem hi] at this
    exact Option.some.inj this
  constructor
  · intro h k hk i hi
    rw [needTo_bit, Bool.and_eq_true, decide_eq_true_eq] at hi
    obtain ⟨h1, h2⟩ := hi
    rw [Nat.testBit_two_pow_sub_one, decide_eq_true_eq]
    rw [must_valid hv h1 hk] at h2
    apply Classical.byContradiction
    intro h3
    by_cases e : i = k
    · subst e; rw [must_self] at h2; cases h2
    · have := h k i hk h1 (by omega)
      rw [hget k hk, hget i h1, h2] at this
      cases this
  · intro h k i hk hi hlt
    rw [hget k hk, hget i hi]
    cases hm : mustC (atK cs i) (atK cs k) with
    | false => rfl
    | true =>
      have := h k hk i (by rw [needTo_bit, must_valid hv hi hk, hm, decide_eq_true hi]; rfl)
      rw [Nat.testBit_two_pow_sub_one, decide_eq_true_eq] at this
      omega

/-! ### counting, set by set -/
/-- A set as the model's list of marks. -/
def usedK (n S : Nat) : List Bool := (List.range n).map (fun i => S.testBit i)
theorem usedK_length (n S : Nat) : (usedK n S).length = n := by simp [usedK]
theorem usedK_get {n S i : Nat} (h : i < n) : (usedK n S).getD i false = S.testBit i := by
  unfold usedK
  rw [List.getD_eq_getElem?_getD, List.getElem?_map, List.getElem?_range h]
  rfl
theorem usedK_zero (n : Nat) : usedK n 0 = List.replicate n false := by
  refine List.ext_getElem? (fun i => ?_)
  by_cases h : i < n
  · unfold usedK
    rw [List.getElem?_map, List.getElem?_range h, List.getElem?_replicate, if_pos h]
    simp
  · rw [List.getElem?_eq_none (by rw [usedK_length]; omega), List.getElem?_eq_none (by simp; omega)]
theorem usedK_or {n S k : Nat} (hk : k < n) : usedK n (S ||| 2 ^ k) = (usedK n S).set k true := by
  refine List.ext_getElem? (fun i => ?_)
  by_cases h : i < n
  · rw [List.getElem?_set, usedK_length]
    unfold usedK
    rw [List.getElem?_map, List.getElem?_range h, List.getElem?_map, List.getElem?_range h]
    by_cases e : k = i
    · subst e
      rw [if_pos rfl, if_pos hk]
      simp [Nat.testBit_or, Nat.testBit_two_pow]
    · rw [if_neg e]
      simp [Nat.testBit_or, Nat.testBit_two_pow, e]
  · rw [List.getElem?_eq_none (by rw [usedK_length]; omega), List.getElem?_eq_none (by rw [List.length_set, usedK_length]; omega)]

theorem free_bits {cs : List Cmd} (hv : ∀ c ∈ cs, validC c = true) {S k : Nat} (hk : k < cs.length) : freeK cs (usedK cs.length S) k = true ↔ S.testBit k = false ∧ ∀ i, (needTo cs k cs.length).testBit i = true → S.testBit i = true := by
  unfold freeK
  rw [Bool.and_eq_true, usedK_get hk, List.all_eq_true]
  constructor
  · rintro ⟨h1, h2⟩
    refine ⟨by simpa using h2, fun i hi => ?_⟩
    rw [needTo_bit, Bool.and_eq_true, decide_eq_true_eq] at hi
    have := h1 i (List.mem_range.2 hi.1)
    rw [usedK_get hi.1, ← must_valid hv hi.1 hk, hi.2] at this
    simpa using this
  · rintro ⟨h1, h2⟩
    refine ⟨fun i hi => ?_, by rw [h1]; rfl⟩
    have hi := List.mem_range.1 hi
    rw [usedK_get hi, ← must_valid hv hi hk]
    cases hm : mustP (atK cs i) (atK cs k) with
    | false => simp
    | true => rw [h2 i (by rw [needTo_bit, hm, decide_eq_true hi]; rfl)]; rfl

def stepT (cs : List Cmd) (S k : Nat) (t : List Nat) : List Nat :=
  if freeK cs (usedK cs.length S) k = true then t.set (S ||| 2 ^ k) (t.getD (S ||| 2 ^ k) 0 + t.getD S 0) else t
def rowT (cs : List Cmd) (S : Nat) (t : List Nat) : Nat → List Nat
  | 0 => t
  | j + 1 => stepT cs S j (rowT cs S t j)
def tab0 (cs : List Cmd) : List Nat := (List.replicate (2 ^ cs.length) 0).set 0 1
def tabT (cs : List Cmd) : Nat → List Nat
  | 0 => tab0 cs
  | m + 1 => rowT cs m (tabT cs m) cs.length

theorem sum_point {f g : Nat → Nat} {x d : Nat} (h : ∀ k, k ≠ x → f k = g k) (hx : f x = g x + d) : ∀ m, ((List.range m).map f).sum = ((List.range m).map g).sum + (if x < m then d else 0)
  | 0 => by simp
  | m + 1 => by
    rw [List.range_succ, List.map_append, List.map_append, List.sum_append, List.sum_append, sum_point h hx m]
    simp only [List.map_cons, List.map_nil, List.sum_cons, List.sum_nil]
    by_cases e : m = x
    · subst e
      rw [hx, if_neg (Nat.lt_irrefl _), if_pos (Nat.lt_succ_self _)]
      omega
    · rw [h m e]
      by_cases e2 : x < m
      · rw [if_pos e2, if_pos (by omega)]; omega
      · rw [if_neg e2, if_neg (by omega)]; omega

/-- What the sets from a number on weigh. -/
def wsum (N lo : Nat) (t : List Nat) (w : Nat → Nat) : Nat := ((List.range N).map (fun S => if lo ≤ S then t.getD S 0 * w S else 0)).sum

theorem getD_setN {t : List Nat} {x j v : Nat} (hx : x < t.length) : (t.set x v).getD j 0 = if j = x then v else t.getD j 0 := by
  rw [List.getD_eq_getElem?_getD, List.getElem?_set, List.getD_eq_getElem?_getD]
  by_cases h : x = j
  · subst h
    simp [hx]
  · rw [if_neg h, if_neg (fun e => h e.symm)]

theorem wsum_set {N lo x d : Nat} {t : List Nat} {w : Nat → Nat} (hx : x < N) (hl : t.length = N) (hlo : lo ≤ x) : wsum N lo (t.set x (t.getD x 0 + d)) w = wsum N lo t w + d * w x := by
  unfold wsum
  rw [sum_point (x := x) (d := d * w x) (g := fun S => if lo ≤ S then t.getD S 0 * w S else 0) (fun k hk => by
    rw [getD_setN (by omega), if_neg hk]) (by
    rw [getD_setN (by omega), if_pos rfl, if_pos hlo, if_pos hlo, Nat.add_mul]) N, if_pos hx]

theorem wsum_split {N lo : Nat} {t : List Nat} {w : Nat → Nat} (h : lo < N) : wsum N lo t w = wsum N (lo + 1) t w + t.getD lo 0 * w lo := by
  unfold wsum
  rw [sum_point (x := lo) (d := t.getD lo 0 * w lo) (g := fun S => if lo + 1 ≤ S then t.getD S 0 * w S else 0) (fun k hk => by
    by_cases e : lo ≤ k
    · rw [if_pos e, if_pos (by omega)]
    · rw [if_neg e, if_neg (by omega)]) (by
    rw [if_pos (Nat.le_refl _), if_neg (by omega)]; omega) N, if_pos h]

theorem wsum_none {N lo : Nat} {t : List Nat} {w : Nat → Nat} (h : N ≤ lo) : wsum N lo t w = 0 := by
  unfold wsum
  rw [sum_eq (g := fun _ => 0 * 1) _ (fun k hk => by
    have := List.mem_range.1 hk
    rw [if_neg (by omega)])]
  rw [show (fun _ : Nat => 0 * 1) = (fun k => (fun _ => 0) k * 1) from rfl, sum_mul]
  induction N with
  | zero => rfl
  | succ n ih =>
    have ih := ih (by omega)
    rw [List.range_succ, List.map_append, List.sum_append, Nat.add_mul, ih]
    rfl

theorem wsum_ge {N lo x : Nat} {t : List Nat} {w : Nat → Nat} (hx : x < N) (hlo : lo ≤ x) (hw : 1 ≤ w x) : t.getD x 0 ≤ wsum N lo t w := by
  have := sum_one (f := fun S => if lo ≤ S then t.getD S 0 * w S else 0) (List.range N) x (List.mem_range.2 hx)
  simp only [if_pos hlo] at this
  refine Nat.le_trans ?_ this
  exact Nat.le_mul_of_pos_right _ hw

theorem set_grows {n S k : Nat} (hS : S < 2 ^ n) (hk : k < n) (hb : S.testBit k = false) : S < S ||| 2 ^ k ∧ S ||| 2 ^ k < 2 ^ n := by
  refine ⟨Nat.lt_of_le_of_ne Nat.left_le_or (fun e => ?_), Nat.or_lt_two_pow hS (Nat.pow_lt_pow_right (by omega) hk)⟩
  have := congrArg (fun x => Nat.testBit x k) e
  simp only [Nat.testBit_or, Nat.testBit_two_pow, hb] at this
  simp at this

theorem free_bit {cs : List Cmd} {S k : Nat} (hk : k < cs.length) (h : freeK cs (usedK cs.length S) k = true) : S.testBit k = false := by
  unfold freeK at h
  rw [Bool.and_eq_true, usedK_get hk] at h
  simpa using h.2

theorem row_spec {cs : List Cmd} {S : Nat} {t : List Nat} (hS : S < 2 ^ cs.length) (hl : t.length = 2 ^ cs.length) (w : Nat → Nat) : ∀ j, j ≤ cs.length → (rowT cs S t j).length = 2 ^ cs.length ∧ (∀ i, i ≤ S → (rowT cs S t j).getD i 0 = t.getD i 0) ∧
    wsum (2 ^ cs.length) (S + 1) (rowT cs S t j) w = wsum (2 ^ cs.length) (S + 1) t w + t.getD S 0 * ((List.range j).map (fun k => if freeK cs (usedK cs.length S) k = true then w (S ||| 2 ^ k) else 0)).sum
  | 0, _ => ⟨hl, fun _ _ => rfl, by simp [rowT]⟩
  | j + 1, hj => by
    obtain ⟨h1, h2, h3⟩ := row_spec hS hl w j (by omega)
    have hr : ((List.range (j + 1)).map (fun k => if freeK cs (usedK cs.length S) k = true then w (S ||| 2 ^ k) else 0)).sum = ((List.range j).map (fun k => if freeK cs (usedK cs.length S) k = true then w (S ||| 2 ^ k) else 0)).sum + (if freeK cs (usedK cs.length S) j = true then w (S ||| 2 ^ j) else 0) := by
      rw [List.range_succ, List.map_append, List.sum_append]
      simp
    rw [hr, show rowT cs S t (j + 1) = stepT cs S j (rowT cs S t j) from rfl]
    unfold stepT
    by_cases hf : freeK cs (usedK cs.length S) j = true
    · rw [if_pos hf, if_pos hf]
      obtain ⟨g1, g2⟩ := set_grows hS (by omega) (free_bit (by omega) hf)
      refine ⟨by rw [List.length_set]; exact h1, fun i hi => ?_, ?_⟩
      · rw [getD_setN (by rw [h1]; exact g2), if_neg (by omega), h2 i hi]
      · rw [wsum_set g2 h1 (by omega), h3, h2 S (Nat.le_refl _), Nat.mul_add]
        omega
    · rw [if_neg hf, if_neg hf]
      refine ⟨h1, h2, ?_⟩
      rw [h3]
      simp

/-- The orders of what a set leaves. -/
def cntS (cs : List Cmd) (S : Nat) : Nat := countK cs (usedK cs.length S) (leftK (usedK cs.length S) cs.length)
def facS (cs : List Cmd) (S : Nat) : Nat := facK (leftK (usedK cs.length S) cs.length)

theorem left_or {cs : List Cmd} {S k : Nat} (hk : k < cs.length) (hb : S.testBit k = false) : leftK (usedK cs.length (S ||| 2 ^ k)) cs.length + 1 = leftK (usedK cs.length S) cs.length := by
  rw [usedK_or hk]
  exact left_set (usedK_length _ _) hk (by rw [usedK_get hk]; exact hb)

theorem left_pos {n S : Nat} (hS : S + 1 < 2 ^ n) : 0 < leftK (usedK n S) n := by
  apply Classical.byContradiction
  intro h
  have hall : ∀ i, i < n → S.testBit i = true := by
    intro i hi
    cases hu : S.testBit i with
    | true => rfl
    | false =>
      have := sum_one (f := fun k => if (usedK n S).getD k false = true then 0 else 1) (List.range n) i (List.mem_range.2 hi)
      simp only [usedK_get hi, hu] at this
      rw [if_neg (by decide)] at this
      unfold leftK at h
      omega
  have : S = 2 ^ n - 1 := by
    apply Nat.eq_of_testBit_eq
    intro i
    rw [Nat.testBit_two_pow_sub_one]
    by_cases hi : i < n
    · rw [hall i hi, decide_eq_true hi]
    · rw [decide_eq_false hi]
      exact Nat.testBit_lt_two_pow (Nat.lt_of_lt_of_le (by omega : S < 2 ^ n) (Nat.pow_le_pow_right (n := 2) (by omega) (by omega)))
  omega

theorem sum_zero {f : Nat → Nat} : ∀ n, (∀ k, k < n → f k = 0) → ((List.range n).map f).sum = 0
  | 0, _ => rfl
  | n + 1, h => by
    rw [List.range_succ, List.map_append, List.sum_append, sum_zero n (fun k hk => h k (by omega))]
    simp [h n (by omega)]

theorem left_full (n : Nat) : leftK (usedK n (2 ^ n - 1)) n = 0 := by
  unfold leftK
  exact sum_zero n (fun k hk => by rw [usedK_get hk, Nat.testBit_two_pow_sub_one, decide_eq_true hk, if_pos rfl])

theorem cnt_step {cs : List Cmd} {S : Nat} (hS : S + 1 < 2 ^ cs.length) : cntS cs S = ((List.range cs.length).map (fun k => if freeK cs (usedK cs.length S) k = true then cntS cs (S ||| 2 ^ k) else 0)).sum := by
  unfold cntS
  obtain ⟨l, hl⟩ : ∃ l, leftK (usedK cs.length S) cs.length = l + 1 := ⟨leftK (usedK cs.length S) cs.length - 1, by have := left_pos hS; omega⟩
  rw [hl]
  conv => lhs; unfold countK
  refine sum_eq _ (fun k hk => ?_)
  have hk := List.mem_range.1 hk
  by_cases hf : freeK cs (usedK cs.length S) k = true
  · rw [if_pos hf, if_pos hf]
    have h := left_or hk (free_bit hk hf)
    rw [show leftK (usedK cs.length (S ||| 2 ^ k)) cs.length = l by omega, usedK_or hk]
  · rw [if_neg hf, if_neg hf]

theorem fac_pos : ∀ n, 1 ≤ facK n
  | 0 => Nat.le_refl _
  | n + 1 => by
    unfold facK
    have := fac_pos n
    exact Nat.mul_le_mul (show 1 ≤ n + 1 by omega) this

theorem fac_step {cs : List Cmd} {S : Nat} {j : Nat} (hj : j ≤ cs.length) : ((List.range j).map (fun k => if freeK cs (usedK cs.length S) k = true then facS cs (S ||| 2 ^ k) else 0)).sum ≤ facS cs S := by
  have hmono : ∀ j, j ≤ cs.length → ((List.range j).map (fun k => if freeK cs (usedK cs.length S) k = true then facS cs (S ||| 2 ^ k) else 0)).sum ≤ ((List.range cs.length).map (fun k => if freeK cs (usedK cs.length S) k = true then facS cs (S ||| 2 ^ k) else 0)).sum := by
    intro j hj
    obtain ⟨d, hd⟩ : ∃ d, cs.length = j + d := ⟨cs.length - j, by omega⟩
    rw [hd]
    have : ∀ (d : Nat) (f : Nat → Nat), ((List.range j).map f).sum ≤ ((List.range (j + d)).map f).sum := by
      intro d f
      induction d with
      | zero => exact Nat.le_refl _
      | succ d ih => rw [← Nat.add_assoc, List.range_succ, List.map_append, List.sum_append]; omega
    exact this d _
  refine Nat.le_trans (hmono j hj) ?_
  by_cases h0 : leftK (usedK cs.length S) cs.length = 0
  · rw [sum_eq (g := fun _ => (fun _ => 0) 0) _ (fun k hk => by
      have hk := List.mem_range.1 hk
      rw [if_neg (fun hf => by have := left_or hk (free_bit hk hf); omega)])]
    have hz : ∀ m, ((List.range m).map (fun _ => (0 : Nat))).sum = 0 := by
      intro m
      induction m with
      | zero => rfl
      | succ m ih => rw [List.range_succ, List.map_append, List.sum_append, ih]; rfl
    rw [hz]
    exact Nat.zero_le _
  · obtain ⟨l, hl⟩ : ∃ l, leftK (usedK cs.length S) cs.length = l + 1 := ⟨leftK (usedK cs.length S) cs.length - 1, by omega⟩
    have h1 := sum_le (f := fun k => if freeK cs (usedK cs.length S) k = true then facS cs (S ||| 2 ^ k) else 0) (g := fun k => (if (usedK cs.length S).getD k false = true then 0 else 1) * facK l) (List.range cs.length) (fun k hk => by
      have hk := List.mem_range.1 hk
      by_cases hf : freeK cs (usedK cs.length S) k = true
      · have hb := free_bit hk hf
        have h := left_or hk hb
        simp only [if_pos hf, usedK_get hk, hb]
        rw [if_neg (by decide), Nat.one_mul]
        unfold facS
        rw [show leftK (usedK cs.length (S ||| 2 ^ k)) cs.length = l by omega]
        exact Nat.le_refl _
      · simp only [if_neg hf]
        exact Nat.zero_le _)
    rw [sum_mul] at h1
    have h2 : ((List.range cs.length).map (fun k => if (usedK cs.length S).getD k false = true then 0 else 1)).sum = l + 1 := hl
    rw [h2] at h1
    unfold facS
    rw [hl]
    exact h1

theorem tab0_length (cs : List Cmd) : (tab0 cs).length = 2 ^ cs.length := by simp [tab0]
theorem tab0_get (cs : List Cmd) (i : Nat) : (tab0 cs).getD i 0 = if i = 0 then 1 else 0 := by
  unfold tab0
  have : 0 < 2 ^ cs.length := Nat.pow_pos (by omega)
  rw [getD_setN (by simpa using this)]
  by_cases h : i = 0
  · rw [if_pos h, if_pos h]
  · rw [if_neg h, if_neg h, List.getD_eq_getElem?_getD, List.getElem?_replicate]
    split <;> rfl

theorem tab_length (cs : List Cmd) : ∀ m, m ≤ 2 ^ cs.length → (tabT cs m).length = 2 ^ cs.length
  | 0, _ => tab0_length cs
  | m + 1, h => (row_spec (by omega) (tab_length cs m (by omega)) (fun _ => 0) cs.length (Nat.le_refl _)).1

theorem tab0_sum (cs : List Cmd) (w : Nat → Nat) : wsum (2 ^ cs.length) 0 (tab0 cs) w = w 0 := by
  unfold wsum
  have hp : 0 < 2 ^ cs.length := Nat.pow_pos (by omega)
  rw [sum_point (x := 0) (d := w 0) (g := fun _ => 0) (fun k hk => by
    rw [tab0_get, if_neg hk, if_pos (Nat.zero_le _)]; omega) (by rw [tab0_get, if_pos rfl, if_pos (Nat.zero_le _)]; omega) _, if_pos hp]
  have hz : ∀ m, ((List.range m).map (fun _ => (0 : Nat))).sum = 0 := by
    intro m
    induction m with
    | zero => rfl
    | succ m ih => rw [List.range_succ, List.map_append, List.sum_append, ih]; rfl
  rw [hz, Nat.zero_add]

theorem tab_cnt (cs : List Cmd) : ∀ m, m < 2 ^ cs.length → wsum (2 ^ cs.length) m (tabT cs m) (cntS cs) = cntS cs 0
  | 0, _ => tab0_sum cs _
  | m + 1, h => by
    have ih := tab_cnt cs m (by omega)
    rw [wsum_split (by omega)] at ih
    have := (row_spec (S := m) (t := tabT cs m) (by omega) (tab_length cs m (by omega)) (cntS cs) cs.length (Nat.le_refl _)).2.2
    show wsum _ _ (rowT cs m (tabT cs m) cs.length) _ = _
    rw [this, ← cnt_step h, ih]

/-- What the table says in the end. -/
theorem tab_end (cs : List Cmd) : (tabT cs (2 ^ cs.length)).getD (2 ^ cs.length - 1) 0 = countK cs (List.replicate cs.length false) cs.length := by
  have hp : 0 < 2 ^ cs.length := Nat.pow_pos (by omega)
  obtain ⟨m, hm⟩ : ∃ m, 2 ^ cs.length = m + 1 := ⟨2 ^ cs.length - 1, by omega⟩
  have h1 := tab_cnt cs m (by omega)
  rw [wsum_split (by omega), wsum_none (by omega), Nat.zero_add] at h1
  have h2 := (row_spec (S := m) (t := tabT cs m) (by omega) (tab_length cs m (by omega)) (fun _ => 0) cs.length (Nat.le_refl _)).2.1 m (Nat.le_refl _)
  have h3 : cntS cs m = 1 := by
    unfold cntS
    have := left_full cs.length
    rw [show 2 ^ cs.length - 1 = m by omega] at this
    rw [this]
    rfl
  have h4 : cntS cs 0 = countK cs (List.replicate cs.length false) cs.length := by
    unfold cntS
    rw [usedK_zero, left_all]
  rw [hm, Nat.add_sub_cancel]
  show (rowT cs m (tabT cs m) cs.length).getD m 0 = _
  rw [h2, ← h4, ← h1, h3, Nat.mul_one]

theorem tab_fac (cs : List Cmd) : ∀ m, m ≤ 2 ^ cs.length → wsum (2 ^ cs.length) m (tabT cs m) (facS cs) ≤ facK cs.length
  | 0, _ => by
    show wsum _ _ (tab0 cs) _ ≤ _
    rw [tab0_sum]
    unfold facS
    rw [usedK_zero, left_all]
    exact Nat.le_refl _
  | m + 1, h => by
    have ih := tab_fac cs m (by omega)
    rw [wsum_split (by omega)] at ih
    have := (row_spec (S := m) (t := tabT cs m) (by omega) (tab_length cs m (by omega)) (facS cs) cs.length (Nat.le_refl _)).2.2
    show wsum _ _ (rowT cs m (tabT cs m) cs.length) _ ≤ _
    rw [this]
    have := Nat.mul_le_mul_left ((tabT cs m).getD m 0) (fac_step (cs := cs) (S := m) (Nat.le_refl _))
    omega

/-- No number of the table is great. -/
theorem row_small (cs : List Cmd) {m j : Nat} (hm : m < 2 ^ cs.length) (hj : j ≤ cs.length) (hI : ∀ i, (tabT cs m).getD i 0 ≤ facK cs.length) (i : Nat) : (rowT cs m (tabT cs m) j).getD i 0 ≤ facK cs.length := by
  have hr := row_spec (S := m) (t := tabT cs m) (by omega) (tab_length cs m (by omega)) (facS cs) j hj
  by_cases h1 : i ≤ m
  · rw [hr.2.1 i h1]
    exact hI i
  · by_cases h2 : i < 2 ^ cs.length
    · have h3 := wsum_ge (N := 2 ^ cs.length) (lo := m + 1) (x := i) (t := rowT cs m (tabT cs m) j) (w := facS cs) h2 (by omega) (fac_pos _)
      have h4 := tab_fac cs m (by omega)
      rw [wsum_split (by omega)] at h4
      have h5 := Nat.mul_le_mul_left ((tabT cs m).getD m 0) (fac_step (cs := cs) (S := m) hj)
      have h6 := hr.2.2
      omega
    · rw [List.getD_eq_getElem?_getD, List.getElem?_eq_none (by rw [hr.1]; omega)]
      exact Nat.zero_le _

theorem tab_small (cs : List Cmd) : ∀ m, m ≤ 2 ^ cs.length → ∀ i, (tabT cs m).getD i 0 ≤ facK cs.length
  | 0, _, i => by
    show (tab0 cs).getD i 0 ≤ _
    rw [tab0_get]
    have := fac_pos cs.length
    split <;> omega
  | m + 1, h, i => row_small cs (by omega) (Nat.le_refl _) (tab_small cs m (by omega)) i

theorem fac_le {n : Nat} (h : n ≤ 6) : facK n ≤ 720 := by
  have : n = 0 ∨ n = 1 ∨ n = 2 ∨ n = 3 ∨ n = 4 ∨ n = 5 ∨ n = 6 := by omega
  rcases this with rfl | rfl | rfl | rfl | rfl | rfl | rfl <;> decide

/-! ### each path once, by a set of paths -/
theorem addKey_le : ∀ (xs L : List Lit), (xs.foldl Maps.addKey L).length ≤ L.length + xs.length
  | [], L => by simp
  | x :: r, L => by
    rw [List.foldl_cons]
    have := addKey_le r (Maps.addKey L x)
    have h2 : (Maps.addKey L x).length ≤ L.length + 1 := by unfold Maps.addKey; split <;> simp
    simp only [List.length_cons]
    omega

theorem addKey_nodup : ∀ (xs L : List Lit), (∀ x ∈ xs, WideAt.IsKeyLit x) → L.Nodup → ((xs.foldl Maps.addKey L).length = L.length + xs.length ↔ (L ++ xs).Nodup)
  | [], L, _, h => by simp [h]
  | x :: r, L, hk, hL => by
    rw [List.foldl_cons]
    have hx := hk x (by simp)
    unfold Maps.addKey
    split
    · rename_i h
      obtain ⟨y, hy, hs⟩ := List.any_eq_true.1 h
      obtain rfl := (WideAt.sameKey_iff hx).1 hs
      constructor
      · intro h2
        have := addKey_le r L
        simp only [List.length_cons] at h2
        unfold Maps.addKey at this
        omega
      · intro h2
        rw [List.nodup_append] at h2
        exact absurd rfl (h2.2.2 y hy y (by simp))
    · rename_i h
      have hnot : x ∉ L := fun hm => h (List.any_eq_true.2 ⟨x, hm, WideAt.sameKey_self hx⟩)
      have hL2 : (L ++ [x]).Nodup := by
        rw [List.nodup_append]
        exact ⟨hL, by simp, fun a ha b hb e => hnot (by rw [List.mem_singleton.1 hb] at e; rw [← e]; exact ha)⟩
      have ih := addKey_nodup r (L ++ [x]) (fun y hy => hk y (by simp [hy])) hL2
      unfold Maps.addKey at ih
      rw [List.append_assoc, List.singleton_append] at ih
      rw [← ih, List.length_append, List.length_cons]
      simp only [List.length_cons, List.length_nil]
      constructor <;> intro h2 <;> omega

theorem nodup_map_inj {α β : Type} {f : α → β} (hf : ∀ a b, f a = f b → a = b) : ∀ l : List α, (l.map f).Nodup ↔ l.Nodup
  | [] => by simp
  | a :: l => by
    rw [List.map_cons, List.nodup_cons, List.nodup_cons, nodup_map_inj hf l]
    constructor
    · rintro ⟨h1, h2⟩; exact ⟨fun h => h1 (List.mem_map_of_mem h), h2⟩
    · rintro ⟨h1, h2⟩
      refine ⟨fun h => ?_, h2⟩
      obtain ⟨b, hb, e⟩ := List.mem_map.1 h
      exact h1 (by rw [← hf b a e]; exact hb)

/-- The paths of the first commands, as the keys of a set. -/
def pathKeys (cs : List Cmd) (n : Nat) : List Lit := (cs.take n).map (fun c => keyL c.p)
theorem pathKeys_next {cs : List Cmd} {n : Nat} {c : Cmd} (h : cs[n]? = some c) : pathKeys cs (n + 1) = pathKeys cs n ++ [keyL c.p] := by
  unfold pathKeys
  rw [List.take_add_one, h, List.map_append]
  rfl
theorem pathKeys_key (cs : List Cmd) (n : Nat) : ∀ x ∈ pathKeys cs n, WideAt.IsKeyLit x := by
  intro x hx
  obtain ⟨c, _, rfl⟩ := List.mem_map.1 hx
  exact keyL_key _

theorem paths_size {H : Type} (u : DataW H) (cs : List Cmd) : Maps.size (Maps.setOf u (pathKeys cs cs.length)) = cs.length ↔ (cs.map Cmd.p).Nodup := by
  rw [Maps.size_setOf u _ (pathKeys_key cs _)]
  have h := addKey_nodup (pathKeys cs cs.length) [] (pathKeys_key cs _) List.nodup_nil
  have hl : (pathKeys cs cs.length).length = cs.length := by simp [pathKeys]
  rw [hl, List.length_nil, Nat.zero_add, List.nil_append] at h
  rw [h]
  unfold pathKeys
  rw [List.take_length, show (fun c : Cmd => keyL c.p) = keyL ∘ Cmd.p from rfl, ← List.map_map]
  exact nodup_map_inj (fun a b => keyL_inj) _

theorem paths_size_le {H : Type} (u : DataW H) (cs : List Cmd) (n : Nat) : Maps.size (Maps.setOf u (pathKeys cs n)) ≤ cs.length := by
  rw [Maps.size_setOf u _ (pathKeys_key cs _)]
  refine Nat.le_trans (addKey_le _ _) ?_
  simp [pathKeys]
  omega

end Go.Proofs.YtdkpabnpobpdhaaGreat

/-
  WALKS: orders of the model: spec.l15Must, MustPrecede, l15Once, l15Fits, OrderFits.
-/
namespace Go.Proofs.YtdkpabnpobpdhaaGreat
open Go.RowKit
theorem once_no {cs : List Cmd} {j : Nat} {d : Cmd} (hd : cs[j]? = some d) (h : firstK cs j d.p = false) : onceV cs = false := by
  unfold onceV
  rw [Bool.and_eq_false_iff]
  left
  rw [decide_eq_false_iff_not, nodup_idx]
  intro hh
  rw [hh j d hd] at h
  cases h
theorem once_all {cs : List Cmd} (h : ∀ (j : Nat) (d : Cmd), cs[j]? = some d → firstK cs j d.p = true) : onceV cs = validL cs := by
  unfold onceV
  rw [decide_eq_true (nodup_idx.2 h)]
  rfl

theorem get_atK {cs : List Cmd} {k : Nat} {c : Cmd} (h : cs[k]? = some c) : atK cs k = c := by
  have hk := (List.getElem?_eq_some_iff.1 h).1
  rw [atK_get hk] at h
  exact Option.some.inj h

theorem fits_no {cs : List Cmd} {i k : Nat} {c d : Cmd} (hc : cs[i]? = some c) (hd : cs[k]? = some d) (hk : k < i) (h : mustC c d = true) : fitsB cs = false := by
  rw [Bool.eq_false_iff]
  intro hf
  have hi := (List.getElem?_eq_some_iff.1 hc).1
  have hk' := (List.getElem?_eq_some_iff.1 hd).1
  have := List.pairwise_iff_getElem.1 ((fitsB_iff cs).1 hf) k i hk' hi hk
  rw [List.getElem?_eq_getElem hi] at hc
  rw [List.getElem?_eq_getElem hk'] at hd
  rw [Option.some.inj hc, Option.some.inj hd, h] at this
  cases this

theorem fits_all {cs : List Cmd} (h : ∀ i k, i < cs.length → k < i → mustC (atK cs i) (atK cs k) = false) : fitsB cs = true := by
  rw [fitsB_iff, FitsO, List.pairwise_iff_getElem]
  intro k i hk hi hlt
  have e1 := atK_get (zs := cs) hk
  have e2 := atK_get (zs := cs) hi
  rw [List.getElem?_eq_getElem hk] at e1
  rw [List.getElem?_eq_getElem hi] at e2
  rw [Option.some.inj e1, Option.some.inj e2]
  exact h i k hi hlt

def FitRel (cs : List Cmd) (W : World) (i : Value) (wr : World) : Prop :=
  ∃ n : Nat, i = .int .i64 n ∧ n ≤ cs.length ∧ Hid (∀ i k, i < n → k < i → mustC (atK cs i) (atK cs k) = false) ∧ Hid (Below W.heap.size W wr)
def FitIn (cs : List Cmd) (W : World) (n : Nat) (k : Value) (wr : World) : Prop :=
  ∃ m : Nat, k = .int .i64 m ∧ m ≤ n ∧ Hid (∀ k, k < m → mustC (atK cs n) (atK cs k) = false) ∧ Hid (Below W.heap.size W wr)

end Go.Proofs.YtdkpabnpobpdhaaGreat
