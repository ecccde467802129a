/-
  Texts of this proof, one behind the other: Iw, Pi, Qr, Tr, Wa, Of, Ip, Tx, No, Iq, Cc, Ca, Iy, Ro, Lp, Lt, La, Li, Ld, Cg, Tw.
-/
import Derived.Sort.QuietIn
import Derived.RangeFuncCalls
import Derived.RangeFuncBox
import Derived.Sort.CutIn
import Derived.Laws.Cover1
import Derived.Deep.RegionHeld3
import Derived.Deep.Cut
import Derived.Laws.AppendOwnNone
import Derived.Laws.Concat
import Derived.Laws.Runes
import Derived.Lib.AppendZerosOnto
import Derived.Lib.Walk
import Derived.Lib.SliceRun
import Derived.WideLaws
import Derived.Deep.RegionWith
import Derived.Test.YtnmpbocnbcokeaaDoorK2
/-
  WALKS: commands of the program: impl.CommandValid, impl.CommandUndo, impl.CommandText.
-/
namespace Go.Proofs.YtnmpbocnbcokeaaDoor
open Go.RowKit
set_option linter.unusedVariables false

set_option maxHeartbeats 2000000 in
set_option maxRecDepth 100000 in
theorem implCmdValid_c (c : Cmd) (hp : c.p.size ≤ 2097152) (W : World) : Calls Tryd.prog 24 #[cmdV c] W (BoolPost (validC c) W) := by
  obtain ⟨dp, hdp⟩ : ∃ dp, depB c.p = dp := ⟨_, rfl⟩
  have HD := Lib.hid (fun w => show Calls Tryd.prog 44 #[.string c.p] w (fun e w' => e = .returned (.int .i64 dp) ∧ Below w.heap.size w w') by rw [← hdp]; exact pathDepth_c c.p (by omega) w)
  obtain ⟨b1, h1⟩ : ∃ b, validB c.fk c.fv = b := ⟨_, rfl⟩
  obtain ⟨b2, h2⟩ : ∃ b, validB c.tk c.tv = b := ⟨_, rfl⟩
  obtain ⟨dd, h3⟩ : ∃ b, (!sameFT c) = b := ⟨_, rfl⟩
  have HF := Lib.hid (fun w => show Calls Tryd.prog 45 #[con c.fk c.fv] w (BoolPost b1 w) by rw [← h1]; exact implValid_c _ _ w)
  have HT := Lib.hid (fun w => show Calls Tryd.prog 45 #[con c.tk c.tv] w (BoolPost b2 w) by rw [← h2]; exact implValid_c _ _ w)
  have hne := fun w' => (conNeQ c.fk c.fv c.tk c.tv w').trans (show _ = Result.ok (Value.bool dd) w' by rw [← h3]; rfl)
  have HV := Lib.hid (valid_parts (d := decide (1 ≤ dp)) (by rw [hdp]) h1 h2 h3)
  clear h1 h2 h3 hdp
  obtain ⟨p, fk, fv, tk, tv⟩ := c
  unfold cmdV
  unfold con at HF HT
  simp only at HD HF HT hne hp ⊢
  by_cases hd : 0 < dp
  · have hdd : decide (1 ≤ dp) = true := decide_eq_true (by omega)
    rw [hdd] at HV
    clear hdd
    go_enter Tryd.func24, Tryd.ntmps24
    go_wp2_with fail
    refine (HD.out _).mono ?_
    rintro e W1 ⟨rfl, hb1⟩
    have q1 := box_cell hb1 1
    have q2 := box_cell hb1 2
    have q3 := box_cell hb1 3
    have q4 := box_cell hb1 4
    simp at q1 q2 q3 q4
    have B1 := Lib.hid (below_next (below_box W _) hb1)
    clear hb1
    go_wp2_with fail
    refine (HF.out _).mono ?_
    rintro e W2 ⟨rfl, hb2⟩
    have r1 := cell_kept hb2 q1
    have r2 := cell_kept hb2 q2
    have r3 := cell_kept hb2 q3
    have r4 := cell_kept hb2 q4
    have B2 := Lib.hid (below_next B1.out hb2)
    clear hb2 q1 q2 q3 q4
    cases b1 with
    | false =>
      clear hne
      go_wp2
      go_ret
      exact ⟨ret_bool (by rw [HV.out]; rfl), B2.out⟩
    | true =>
      go_wp2_with fail
      refine (HT.out _).mono ?_
      rintro e W3 ⟨rfl, hb3⟩
      have s1 := cell_kept hb3 r1
      have s2 := cell_kept hb3 r2
      have s3 := cell_kept hb3 r3
      have s4 := cell_kept hb3 r4
      have B3 := Lib.hid (below_next B2.out hb3)
      clear hb3 r1 r2 r3 r4
      cases b2 with
      | false =>
        clear hne
        go_wp2
        go_ret
        exact ⟨ret_bool (by rw [HV.out]; rfl), B3.out⟩
      | true =>
        go_wp2
        go_ret
        exact ⟨ret_bool (by rw [HV.out]; rfl), B3.out⟩
  · have hdd : decide (1 ≤ dp) = false := decide_eq_false (by omega)
    rw [hdd] at HV
    clear hdd hne
    go_enter Tryd.func24, Tryd.ntmps24
    go_wp2_with fail
    refine (HD.out _).mono ?_
    rintro e W1 ⟨rfl, hb1⟩
    have B1 := Lib.hid (below_next (below_box W _) hb1)
    clear hb1
    go_wp2
    go_ret
    exact ⟨ret_bool (by rw [HV.out]; rfl), B1.out⟩

theorem five_atI {W : World} {n : Nat} (hn : n = W.heap.size) (a b c d e : Value) (t : TypeId) : Five (W.alloc (.cells #[a, b, c, d, e] t)) n a b c d e := by subst hn; exact five_new W a b c d e t

theorem undo_is {c : Cmd} {vc : Bool} (h : validC c = vc) : undoC c = if vc = true then ⟨c.p, c.tk, c.tv, c.fk, c.fv⟩ else zeroC := by subst h; rfl

set_option maxHeartbeats 2000000 in
set_option maxRecDepth 100000 in
theorem implCmdUndo_c (c : Cmd) (hp : c.p.size ≤ 2097152) (W : World) : Calls Tryd.prog 17 #[cmdV c] W (CmdPost (undoC c) W) := by
  obtain ⟨vc, hvc⟩ : ∃ vc, validC c = vc := ⟨_, rfl⟩
  have HC := Lib.hid (fun W' => show Calls Tryd.prog 24 #[cmdV c] W' (BoolPost vc W') by rw [← hvc]; exact implCmdValid_c c hp W')
  have HR := Lib.hid (undo_is hvc)
  clear hvc hp
  obtain ⟨p, fk, fv, tk, tv⟩ := c
  have HA := Lib.hid ((five_atI (W := W) rfl (.string p) (.int .i64 fk) (.int .i64 fv) (.int .i64 tk) (.int .i64 tv) 27).alloc (.cells #[.string ⟨#[]⟩, .int .i64 0, .int .i64 0, .int .i64 0, .int .i64 0] 27))
  have HB := Lib.hid (five_atI (W := W.alloc (.cells #[.string p, .int .i64 fk, .int .i64 fv, .int .i64 tk, .int .i64 tv] 27)) (n := W.heap.size + 1) (by simp) (.string ⟨#[]⟩) (.int .i64 0) (.int .i64 0) (.int .i64 0) (.int .i64 0) 27)
  have HD := Lib.hid (below_next (below_box W (.cells #[.string p, .int .i64 fk, .int .i64 fv, .int .i64 tk, .int .i64 tv] 27)) (below_box _ (.cells #[.string ⟨#[]⟩, .int .i64 0, .int .i64 0, .int .i64 0, .int .i64 0] 27)))
  unfold cmdV at HC ⊢
  simp only at HC HR ⊢
  go_enter Tryd.func17, Tryd.ntmps17
  go_wp2_with fail
  refine (HC.out _).mono ?_
  rintro e W1 ⟨rfl, hb1⟩
  have A1 := Lib.hid (HA.out.below hb1)
  have R1 := Lib.hid (HB.out.below hb1)
  have B1 := Lib.hid (below_next HD.out hb1)
  clear HA HB HD hb1
  obtain ⟨r0, r1, r2, r3, r4, f0, f1, f2, f3, f4, -⟩ := R1.out
  cases vc with
  | false =>
    go_wp2
    rw [HR.out]
    exact bodyPost_ret (cmd_results _ rfl _ (W.heap.size + 1) ⟨⟨#[]⟩, 0, 0, 0, 0⟩ _ rfl R1.out.setAll) rfl ⟨rfl, below_set5 B1.out (Nat.le_succ _)⟩
  | true =>
    obtain ⟨c0, c1, c2, c3, c4, -⟩ := A1.out
    go_wp2
    rw [HR.out]
    exact bodyPost_ret (cmd_results _ rfl _ (W.heap.size + 1) ⟨p, tk, tv, fk, fv⟩ _ rfl R1.out.setAll) rfl ⟨rfl, below_set5 B1.out (Nat.le_succ _)⟩

set_option maxHeartbeats 2000000 in
set_option maxRecDepth 100000 in
theorem implCmdText_c (c : Cmd) (hp : c.p.size ≤ 2097152) (W : World) : Calls Tryd.prog 19 #[cmdV c] W (TextPost (textC c) W) := by
  obtain ⟨vc, hvc⟩ : ∃ vc, validC c = vc := ⟨_, rfl⟩
  have HC := Lib.hid (fun W' => show Calls Tryd.prog 24 #[cmdV c] W' (BoolPost vc W') by rw [← hvc]; exact implCmdValid_c c hp W')
  cases vc with
  | false =>
    have HR := Lib.hid (textC_bad hvc)
    clear hvc
    unfold cmdV at HC ⊢
    obtain ⟨p, fk, fv, tk, tv⟩ := c
    simp only at HC ⊢
    go_enter Tryd.func19, Tryd.ntmps19
    go_wp2_with fail
    refine (HC.out _).mono ?_
    rintro e W1 ⟨rfl, hb1⟩
    have B1 := Lib.hid (below_next (below_box W _) hb1)
    clear hb1
    go_wp2
    go_ret
    exact ⟨ret_str HR.out.symm, B1.out⟩
  | true =>
    have HR := Lib.hid (textC_ok hvc)
    have hz0 := pathB_size ((validC_iff c).1 hvc).1
    have HT1 := Lib.hid (fun W' => show Calls Tryd.prog 51 #[con c.fk c.fv] W' (TextPost (conText c.fk c.fv) W') from implText_c _ _ W')
    have HT2 := Lib.hid (fun W' => show Calls Tryd.prog 51 #[con c.tk c.tv] W' (TextPost (conText c.tk c.tv) W') from implText_c _ _ W')
    have hz1 := conSize_le c.fk c.fv
    have hz2 := conSize_le c.tk c.tv
    clear hvc
    unfold cmdV at HC ⊢
    obtain ⟨p, fk, fv, tk, tv⟩ := c
    unfold con at HT1 HT2
    simp only at HC HT1 HT2 HR hz0 hz1 hz2 ⊢
    generalize conText fk fv = t1 at HT1 HR hz1
    generalize conText tk tv = t2 at HT2 HR hz2
    have y1 : ¬ 9223372036854775807 < p.size + 1 := by omega
    have y2 : ¬ 9223372036854775807 < p.size + 1 + t1.size := by omega
    have y3 : ¬ 9223372036854775807 < p.size + 1 + t1.size + 1 := by omega
    have y4 : ¬ 9223372036854775807 < p.size + 1 + t1.size + 1 + t2.size := by omega
    clear hz0 hz1 hz2
    go_enter Tryd.func19, Tryd.ntmps19
    go_wp2_with fail
    refine (HC.out _).mono ?_
    rintro e W1 ⟨rfl, hb1⟩
    have q0 := box_cell hb1 0
    have q1 := box_cell hb1 1
    have q2 := box_cell hb1 2
    have q3 := box_cell hb1 3
    have q4 := box_cell hb1 4
    simp at q0 q1 q2 q3 q4
    have B1 := Lib.hid (below_next (below_box W _) hb1)
    have HS0 : Hid (W1.drew.cell? ⟨W.heap.size, 0, none⟩ = some (.string p) ∧ W1.drew.cell? ⟨W.heap.size, 1, none⟩ = some (.int .i64 fk) ∧ W1.drew.cell? ⟨W.heap.size, 2, none⟩ = some (.int .i64 fv) ∧ W1.drew.cell? ⟨W.heap.size, 3, none⟩ = some (.int .i64 tk) ∧ W1.drew.cell? ⟨W.heap.size, 4, none⟩ = some (.int .i64 tv) ∧ Below W.heap.size W W1.drew) :=
      ⟨q0, q1, q2, q3, q4, B1.out.drew⟩
    clear hb1 q0 q1 q2 q3 q4
    go_upto_region 3 with (fail)
    go_region_held3 (fun w' => w'.cell? ⟨W.heap.size, 0, none⟩ = some (.string p) ∧ w'.cell? ⟨W.heap.size, 1, none⟩ = some (.int .i64 fk) ∧ w'.cell? ⟨W.heap.size, 2, none⟩ = some (.int .i64 fv) ∧ w'.cell? ⟨W.heap.size, 3, none⟩ = some (.int .i64 tk) ∧ w'.cell? ⟨W.heap.size, 4, none⟩ = some (.int .i64 tv) ∧ Below W.heap.size W w')
      (first | exact HS0.out | exact keepCmd HS0.out hb5 | exact keepCmd (keepCmd HS0.out hb5) hb6)
      (first | (go_at_call 51; (with_reducible refine (HT1.out _).mono ?_); rintro e W5 ⟨rfl, hb5⟩) | (go_at_call 51; (with_reducible refine (HT2.out _).mono ?_); rintro e W6 ⟨rfl, hb6⟩))
    rename_i hS
    have HB := Lib.hid hS.2.2.2.2.2
    clear hS
    go_wp2
    go_ret
    exact ⟨ret_str HR.out.symm, HB.out⟩

end Go.Proofs.YtnmpbocnbcokeaaDoor

/-
  WALKS: impl.PathParent, impl.PathUnder.
-/
namespace Go.Proofs.YtnmpbocnbcokeaaDoor
open Go.RowKit

set_option maxHeartbeats 400000 in
set_option maxRecDepth 100000 in
theorem slHasPrefix_c (s p : ByteArray) (w : World) :
    Calls Tryd.prog 105 #[.string s, .string p] w fun e w' => e = .returned (.bool (pfxB s p)) ∧ w' = w := by
  by_cases h : p.size ≤ s.size
  · obtain ⟨b, hb⟩ : ∃ b, ((s.extract 0 p.size).toList == p.toList) = b := ⟨_, rfl⟩
    have hv : Hid (pfxB s p = b) := by show _ = _; unfold pfxB; rw [decide_eq_true h, hb]; rfl
    have h1 : (p.size : Int) ≤ s.size := by omega
    have h2 : (0 : Int) ≤ p.size := by omega
    go_enter Tryd.func105, Tryd.ntmps105
    go_wp2
    go_ret
    exact ⟨ret_bool hv.out.symm, rfl⟩
  · have hv : Hid (pfxB s p = false) := by show _ = _; unfold pfxB; rw [decide_eq_false h]; rfl
    have h1 : (s.size : Int) < p.size := by omega
    clear h
    go_enter Tryd.func105, Tryd.ntmps105
    go_wp2
    go_ret
    exact ⟨ret_bool hv.out.symm, rfl⟩

set_option maxHeartbeats 400000 in
set_option maxRecDepth 100000 in
theorem lastIndexRow_c (s : ByteArray) (m : Nat) (hs : s.size = m + 2) (hm : m ≤ 2097152) (h0 : ((s[m].toNat : Int) == 47) = true) (h1 : ((s[m + 1].toNat : Int) == 47) = false) (w : World) :
    Calls Tryd.prog 95 #[.string s, .int .u8 47] w fun e w' => e = .returned (.int .i64 m) ∧ w' = w := by
  go_enter Tryd.func95, Tryd.ntmps95
  go_wp2
  go_loop [5] (fun i => ∃ k : Nat, m ≤ k ∧ k ≤ m + 1 ∧ i = .int .i64 k) (fun i => (intOf i).toNat)
  case atStart => exact ⟨m + 1, by omega, by omega, by go_num⟩
  case round =>
    obtain ⟨k, hk1, hk2, rfl⟩ := hrel
    by_cases hk : k = m
    · subst hk
      go_wp2
      go_ret
      exact ⟨rfl, rfl⟩
    · obtain rfl : k = m + 1 := by omega
      go_wp2
      go_round
      case rel => exact ⟨m, by omega, by omega, by go_num⟩
      case measure => simp [intOf]

set_option maxHeartbeats 400000 in
set_option maxRecDepth 100000 in
theorem lastIndex_c (s : ByteArray) (m : Nat) (hs : s.size = m + 2) (hm : m ≤ 2097152) (h0 : ((s[m].toNat : Int) == 47) = true) (h1 : ((s[m + 1].toNat : Int) == 47) = false) (w : World) :
    Calls Tryd.prog 86 #[.string s, .int .u8 47] w fun e w' => e = .returned (.int .i64 m) ∧ w' = w := by
  have hc := fun w => lastIndexRow_c s m hs hm h0 h1 w
  have HC := Lib.hid hc
  clear hc h0 h1 hs
  go_enter Tryd.func86, Tryd.ntmps86
  go_wp2_with (go_at_call 95; refine (HC.out _).mono ?_; rintro e w' ⟨rfl, rfl⟩)
  go_ret
  exact ⟨rfl, rfl⟩

set_option maxHeartbeats 400000 in
set_option maxRecDepth 100000 in
/-- impl.PathParent, at every text of modest length. -/
theorem pathParent_c (s : ByteArray) (hs : s.size ≤ 2097152) (w : World) :
    Calls Tryd.prog 72 #[.string s] w fun e w' => e = .returned (.string (parentB s)) ∧ Below w.heap.size w w' := by
  obtain ⟨d, hd⟩ : ∃ d, Pm.depth s.data.toList = d := ⟨_, rfl⟩
  have hc : ∀ w, Calls Tryd.prog 44 #[.string s] w fun e w' => e = .returned (.int .i64 d) ∧ Below w.heap.size w w' := fun w => by rw [← hd]; exact pathDepth_c s (by omega) w
  have HC := Lib.hid hc
  clear hc
  by_cases h1 : d < 1
  · have hv : Hid (parentB s = ⟨#[]⟩) := by show _ = _; unfold parentB Pm.parent; rw [hd, if_pos h1]
    have hcs : d = -1 ∨ d = 0 := by
      rw [← hd] at h1 ⊢; unfold Pm.depth at h1 ⊢; split at h1 <;> simp_all <;> omega
    clear hd h1
    rcases hcs with rfl | rfl
    all_goals
      go_enter Tryd.func72, Tryd.ntmps72
      go_wp2_with (go_at_call 44; refine (HC.out _).mono ?_; rintro e w' ⟨rfl, hb⟩)
      go_ret
      exact ⟨ret_str hv.out.symm, hb⟩
  · obtain ⟨m, k1, k2, ⟨c, k3, k4⟩, k5, k6⟩ := Pm.last_facts s.data.toList (by omega)
    rw [hd] at k6
    have hsz : s.size = m + 2 := by rw [Lib.size_eq]; exact k1
    rw [← Lib.size_eq] at k5 k6
    by_cases h2 : d = 1
    · have hv : Hid (parentB s = ⟨#[47]⟩) := by show _ = _; unfold parentB; rw [k5, if_pos (k6.1 h2)]
      subst h2
      clear k1 k2 k3 k4 k5 k6 h1 hd hsz
      go_enter Tryd.func72, Tryd.ntmps72
      go_wp2_with (go_at_call 44; refine (HC.out _).mono ?_; rintro e w' ⟨rfl, hb⟩)
      go_ret
      exact ⟨ret_str hv.out.symm, hb⟩
    · have hv : Hid (parentB s = s.extract 0 m) := by
        show _ = _; unfold parentB; rw [k5, if_neg (fun h => h2 (k6.2 h)), Lib.extract_eq]; simp
      rw [Pm.byte_getElem? s m (by omega)] at k2
      rw [Pm.byte_getElem? s (m + 1) (by omega)] at k3
      have g0 : ((s[m].toNat : Int) == 47) = true := toNat_47 (by simpa using k2)
      have g1 : ((s[m + 1].toNat : Int) == 47) = false := toNat_not_47 (by rw [Option.some.inj k3]; exact k4)
      have hl := Lib.hid (fun w => lastIndex_c s m hsz (by omega) g0 g1 w)
      have e1 : (d == -1) = false := beq_eq_false_iff_ne.2 (by omega)
      have e2 : (d == 0) = false := beq_eq_false_iff_ne.2 (by omega)
      have e3 : (d == 1) = false := beq_eq_false_iff_ne.2 h2
      have b1 : (m : Int) ≤ s.size := by omega
      clear g0 g1 k1 k2 k3 k4 k5 k6 h1 hd hsz h2
      go_enter Tryd.func72, Tryd.ntmps72
      go_wp2_with (first | (go_at_call 44; refine (HC.out _).mono ?_; rintro e w' ⟨rfl, hb⟩) | (go_at_call 86; refine (hl.out _).mono ?_; rintro e w2 ⟨rfl, rfl⟩))
      go_ret
      exact ⟨ret_str hv.out.symm, hb⟩

end Go.Proofs.YtnmpbocnbcokeaaDoor

/-
  A REGION THAT DRAWS ITS ORDER AND ONLY READS, within a round of a loop over a function: the law of the kit for activations, carried into a round.
-/
namespace Go.Proofs.YtnmpbocnbcokeaaDoor
open Go.RowKit

theorem wpOpIn_round {F : Fence} {n : Nat} {P : Program} {ops : Array Oper} {Q : Exit → Act → World → Prop} {i : Nat} {K K' : Act → World → Prop} {a : Act} {w : World} (l : Nat) (hro : F.round = none)
    (hd : ∀ o, ops[i]? = some o → ∀ c, o.op ≠ .defer c) (hK : ∀ a w, K a w → K' a w) (h : wpOpIn F n P ops Q i K a w) : wpOpIn (F.inRound l) n P ops Q i K' a w := by
  have h := wpOpIn_mono hK h
  unfold wpOpIn at h ⊢
  cases ho : ops[i]? with
  | none => simp only [ho] at h ⊢; exact h
  | some o =>
    simp only [ho] at h ⊢
    split
    · rename_i hw
      rw [if_pos hw] at h
      refine ⟨h.1, ?_⟩
      have h2 := h.2
      rw [hro, Oper.semAt_none] at h2
      rw [Oper.semAt_eq _ _ _ (hd o ho)]
      exact h2
    · rename_i hw
      rw [if_neg hw] at h
      exact h

theorem wpAnyIn_round {F : Fence} {n : Nat} {P : Program} {ops : Array Oper} {Q : Exit → Act → World → Prop} {md : Region.Mode} (l : Nat) (hro : F.round = none)
    (hd : ∀ (i : Nat) (o : Oper), ops[i]? = some o → ∀ c, o.op ≠ .defer c) : ∀ (fuel : Nat) (listed : Array Bool) (a : Act) (w : World), wpAnyIn F n P md ops Q fuel listed a w → wpAnyIn (F.inRound l) n P md ops Q fuel listed a w
  | 0, _, _, _, h => h
  | fuel + 1, _, _, _, h => ⟨h.1, fun i hi => wpOpIn_round l hro (hd i) (fun a w => wpAnyIn_round l hro hd fuel _ a w) (h.2 i hi)⟩

def noDefer (o : Oper) : Bool := match o.op with
  | .defer _ => false
  | _ => true

theorem quiet_round {F : Fence} {n : Nat} {P : Program} {id : Nat} {Q : Exit → Act → World → Prop} {a : Act} {w : World} {ops : List Oper} (l : Nat) (hro : F.round = none) (hm : P.follows .mixedOrders = true) (hB : Region.lexB .any ops.toArray = true)
    (hd : ops.all noDefer = true)
    (h : wpQuietIn F n P ops.toArray (fun w' => ∃ n, w' = w.drewN n) (fun a' => ∀ w', (∃ n, w' = w.drewN n) → Q .normal a' w') ops a) : (Code.region id ops.toArray true).wpIn (F.inRound l) n P Q a w := by
  simp only [Region.lexB, Bool.and_eq_true] at hB
  have hd' : ∀ (i : Nat) (o : Oper), ops.toArray[i]? = some o → ∀ c, o.op ≠ .defer c := by
    intro i o ho c e
    have hm : o ∈ ops := by
      have := List.mem_of_getElem? (by simpa using ho : ops[i]? = some o)
      exact this
    have := List.all_eq_true.1 hd o hm
    unfold noDefer at this
    rw [e] at this
    cases this
  refine wpIn_region_any hm (wpAnyIn_round l hro hd' _ _ _ _ ?_)
  refine wpAnyIn_of_quiet (C := fun w' => ∃ n, w' = w.drewN n) (Q := fun a' => ∀ w', (∃ n, w' = w.drewN n) → Q .normal a' w') hro (fun _ w' hw' h => h w' hw') _ _ _ _ ⟨1, rfl⟩ ?_
  have := wpAnyQIn_lex (F := F) (n := n) (C := fun w' => ∃ n, w' = w.drewN n) (md := .any) hB.1 ops 0 (Array.replicate ops.toArray.size false) a (by simp) (by simpa using hB.2) h
  simpa using this

/-- A region that draws its order, within a round: walked as outside of it. -/
theorem region_round {F : Fence} {n : Nat} {P : Program} {id : Nat} {Q : Exit → Act → World → Prop} {a : Act} {w : World} {ops : List Oper} (l : Nat) (hro : F.round = none) (hm : P.follows .mixedOrders = true) (hd : ops.all noDefer = true)
    (h : wpAnyIn F n P .any ops.toArray Q ops.toArray.size (Array.replicate ops.toArray.size false) a w.drew) : (Code.region id ops.toArray true).wpIn (F.inRound l) n P Q a w := by
  have hd' : ∀ (i : Nat) (o : Oper), ops.toArray[i]? = some o → ∀ c, o.op ≠ .defer c := by
    intro i o ho c e
    have hm : o ∈ ops := by
      have := List.mem_of_getElem? (by simpa using ho : ops[i]? = some o)
      exact this
    have := List.all_eq_true.1 hd o hm
    unfold noDefer at this
    rw [e] at this
    cases this
  exact wpIn_region_any hm (wpAnyIn_round l hro hd' _ _ _ _ h)

end Go.Proofs.YtnmpbocnbcokeaaDoor

/-
  TREES IN MEMORY: places, each with its content and the places behind it.
-/
namespace Go.Proofs.YtnmpbocnbcokeaaDoor
open Go.RowKit

theorem infoPlace : (Tryd.prog.info? 74).map (fun i => (i.zero, i.size)) = some (some (.agg #[.int .i64 0, .int .i64 0, .pointer none, .pointer none, .pointer none, .pointer none]), 6) := by kernel_rfl

def ptrTo (o : Option Nat) : Value := .pointer (o.map fun b => ⟨b, 0, none⟩)

/-- The cells of the place of a word. -/
def plc (A : List UInt8 → Option Nat) (F : List UInt8 → Int × Int) (w : List UInt8) : Array Value :=
  #[.int .i64 (F w).1, .int .i64 (F w).2, ptrTo (A (w ++ [97])), ptrTo (A (w ++ [98])), ptrTo (A (w ++ [99])), ptrTo (A (w ++ [100]))]

/-- Where the places lie, and what they hold. -/
structure Trie (W : World) (A : List UInt8 → Option Nat) (F : List UInt8 → Int × Int) : Prop where
  wrd : ∀ w b, A w = some b → Wrd w
  root : A [] ≠ none
  inj : ∀ u w b, A u = some b → A w = some b → u = w
  up : ∀ w c, A w = none → A (w ++ [c]) = none
  nil : ∀ w, Wrd w → A w = none → F w = (0, 0)
  cells : ∀ w b, A w = some b → W.heap[b]? = some (.cells (plc A F w) 74)

theorem Trie.lt {W : World} {A : List UInt8 → Option Nat} {F : List UInt8 → Int × Int} (h : Trie W A F) {w : List UInt8} {b : Nat} (hb : A w = some b) : b < W.heap.size :=
  (Array.getElem?_eq_some_iff.1 (h.cells w b hb)).1

theorem Trie.kept {W W' : World} {A : List UInt8 → Option Nat} {F : List UInt8 → Int × Int} (h : Trie W A F) (hk : ∀ w b, A w = some b → W'.heap[b]? = W.heap[b]?) : Trie W' A F :=
  ⟨h.wrd, h.root, h.inj, h.up, h.nil, fun w b hb => (hk w b hb).trans (h.cells w b hb)⟩

theorem Trie.below {W W' : World} {A : List UInt8 → Option Nat} {F : List UInt8 → Int × Int} (h : Trie W A F) (hb : Below W.heap.size W W') : Trie W' A F :=
  h.kept fun _ _ e => hb.block _ (h.lt e)

theorem Trie.congr {W : World} {A : List UInt8 → Option Nat} {F G : List UInt8 → Int × Int} (h : Trie W A F) (hg : ∀ w, Wrd w → F w = G w) : Trie W A G :=
  ⟨h.wrd, h.root, h.inj, h.up, fun w hw e => by rw [← hg w hw]; exact h.nil w hw e, fun w b hb => by
    rw [h.cells w b hb]; unfold plc; rw [hg w (h.wrd w b hb)]⟩

/-- What a call that walks and extends the places keeps: all other blocks. -/
structure Off (A : List UInt8 → Option Nat) (n : Nat) (W W' : World) : Prop where
  os : W'.os = W.os
  tape : W'.tape = W.tape
  output : W'.output = W.output
  size : W.heap.size ≤ W'.heap.size
  block : ∀ k, k < n → (∀ w, A w ≠ some k) → W'.heap[k]? = W.heap[k]?

theorem Off.below {A : List UInt8 → Option Nat} {n m : Nat} {W W' : World} (h : Off A n W W') (hm : m ≤ n) (hA : ∀ w b, A w = some b → m ≤ b) : Below m W W' :=
  ⟨h.os, h.tape, h.output, h.size, fun k hk => h.block k (by omega) fun w e => by have := hA w k e; omega⟩

theorem Off.of_below {A : List UInt8 → Option Nat} {n : Nat} {W W' : World} (h : Below n W W') : Off A n W W' :=
  ⟨h.os, h.tape, h.output, h.size, fun k hk _ => h.block k hk⟩

theorem Off.trans {A : List UInt8 → Option Nat} {n : Nat} {W W1 W2 : World} (h : Off A n W W1) (k : Off A n W1 W2) : Off A n W W2 :=
  ⟨k.os.trans h.os, k.tape.trans h.tape, k.output.trans h.output, Nat.le_trans h.size k.size, fun j hj hA => (k.block j hj hA).trans (h.block j hj hA)⟩

theorem Off.set {A : List UInt8 → Option Nat} {n : Nat} {W W' : World} (h : Off A n W W') {p : Addr} (hp : n ≤ p.block ∨ ∃ w, A w = some p.block) (v : Value) : Off A n W (W'.setCell p v) :=
  h.trans ⟨rfl, rfl, rfl, by simp [World.setCell], fun k hk hA => Below.heap_setCell _ _ _ _ (by
    rintro rfl
    rcases hp with hp | ⟨w, hw⟩
    · omega
    · exact hA w hw)⟩

theorem Off.new {A : List UInt8 → Option Nat} {n : Nat} {W W' : World} (h : Off A n W W') (hn : n ≤ W'.heap.size) (o : Obj) : Off A n W (W'.alloc o) :=
  h.trans ⟨rfl, rfl, rfl, by simp, fun k hk _ => Below.heap_alloc _ _ _ (by omega)⟩

/-- The places that a call leaves: those that there were, and new ones. -/
def Ext (A A' : List UInt8 → Option Nat) (n : Nat) : Prop := ∀ w b, (A w = some b → A' w = some b) ∧ (A' w = some b → A w = some b ∨ n ≤ b)

theorem Ext.refl (A : List UInt8 → Option Nat) (n : Nat) : Ext A A n := fun _ _ => ⟨id, .inl⟩

theorem Trie.cell {W : World} {A : List UInt8 → Option Nat} {F : List UInt8 → Int × Int} (h : Trie W A F) {w : List UInt8} {b : Nat} (hb : A w = some b) (i : Nat) :
    W.cell? ⟨b, i, none⟩ = (plc A F w)[i]? := by
  simp [World.cell?, h.cells w b hb]
theorem Trie.frozen {W : World} {A : List UInt8 → Option Nat} {F : List UInt8 → Int × Int} (h : Trie W A F) {w : List UInt8} {b : Nat} (hb : A w = some b) (i : Nat) :
    W.frozen? ⟨b, i, none⟩ = false := by
  simp [World.frozen?, h.cells w b hb]

theorem setCell_heap {W : World} {b : Nat} {c : Array Value} {t : TypeId} (h : W.heap[b]? = some (.cells c t)) (i : Nat) (v : Value) :
    (W.setCell ⟨b, i, none⟩ v).heap[b]? = some (.cells (c.setIfInBounds i v) t) := by
  simp only [World.setCell, Array.getElem?_modify, if_pos, h, Option.map_some]
  rfl

/-- A content is written. -/
theorem Trie.write {W : World} {A : List UInt8 → Option Nat} {F : List UInt8 → Int × Int} (h : Trie W A F) {w : List UInt8} {b : Nat} (hb : A w = some b) (k v : Int) :
    Trie ((W.setCell ⟨b, 0, none⟩ (.int .i64 k)).setCell ⟨b, 1, none⟩ (.int .i64 v)) A (setF F w (k, v)) := by
  refine ⟨h.wrd, h.root, h.inj, h.up, fun u hu e => ?_, fun u c hc => ?_⟩
  · unfold setF
    rw [if_neg (fun q => by rw [q, hb] at e; cases e)]
    exact h.nil u hu e
  · by_cases e : u = w
    · subst e
      have ebc : b = c := by rw [hb] at hc; exact Option.some.inj hc
      subst ebc
      rw [setCell_heap (setCell_heap (h.cells u b hb) 0 _) 1 _]
      unfold plc setF
      rw [if_pos rfl]
      rfl
    · have ne : c ≠ b := fun q => e (h.inj u w b (by rw [← q]; exact hc) hb)
      rw [Below.heap_setCell _ _ _ _ ne, Below.heap_setCell _ _ _ _ ne, h.cells u c hc]
      unfold plc setF
      rw [if_neg e]

def addA (A : List UInt8 → Option Nat) (w : List UInt8) (b : Nat) : List UInt8 → Option Nat := fun u => if u = w then some b else A u

theorem app_one_inj {a b : List UInt8} {x y : UInt8} (h : a ++ [x] = b ++ [y]) : a = b ∧ x = y := by
  have := List.append_inj' h rfl
  exact ⟨this.1, by simpa using this.2⟩

theorem addA_kids {A : List UInt8 → Option Nat} {F : List UInt8 → Int × Int} {w u : List UInt8} {c : UInt8} {n : Nat} (h : u ≠ w) : plc (addA A (w ++ [c]) n) F u = plc A F u := by
  have : ∀ x, addA A (w ++ [c]) n (u ++ [x]) = A (u ++ [x]) := fun x => by
    unfold addA; exact if_neg fun e => h (app_one_inj e).1
  unfold plc; rw [this, this, this, this]

/-- A place is made behind another one. -/
theorem Trie.make {W : World} {A : List UInt8 → Option Nat} {F : List UInt8 → Int × Int} (h : Trie W A F) {w : List UInt8} {b : Nat} (hb : A w = some b) {c : UInt8} (i : Nat) (hi : i < 4) (hc : c = UInt8.ofNat (97 + i)) (hl : w.length < 4) (hn : A (w ++ [c]) = none) :
    Trie ((W.alloc (.cells #[.int .i64 0, .int .i64 0, .pointer none, .pointer none, .pointer none, .pointer none] 74)).setCell ⟨b, 2 + i, none⟩ (.pointer (some ⟨W.heap.size, 0, none⟩)))
      (addA A (w ++ [c]) W.heap.size) F := by
  have hbl := h.lt hb
  have hcl : Pm.letter c = true := by
    subst hc
    rcases (by omega : i = 0 ∨ i = 1 ∨ i = 2 ∨ i = 3) with rfl | rfl | rfl | rfl <;> decide
  have hwc : Wrd (w ++ [c]) := ⟨by simp; omega, fun x hx => by
    rcases List.mem_append.1 hx with hx | hx
    · exact (h.wrd w b hb).2 x hx
    · rw [List.mem_singleton.1 hx]; exact hcl⟩
  have hnew : ∀ u a, A u = some a → a ≠ W.heap.size := fun u a e q => by have := h.lt e; omega
  refine ⟨fun u a e => ?_, ?_, fun u v a eu ev => ?_, fun u x e => ?_, fun u hu e => ?_, fun u a e => ?_⟩
  · unfold addA at e
    split at e
    · rename_i q; rw [q]; exact hwc
    · exact h.wrd u a e
  · unfold addA; rw [if_neg (by simp)]; exact h.root
  · unfold addA at eu ev
    split at eu <;> split at ev
    · rename_i q1 q2; rw [q1, q2]
    · exact absurd (Option.some.inj eu).symm (hnew v a ev)
    · exact absurd (Option.some.inj ev).symm (hnew u a eu)
    · exact h.inj u v a eu ev
  · unfold addA at e ⊢
    split at e
    · cases e
    · rename_i q
      rw [if_neg]
      · exact h.up u x e
      · intro q2
        have := (app_one_inj q2).1
        rw [this, hb] at e; cases e
  · unfold addA at e
    split at e
    · cases e
    · exact h.nil u hu e
  · by_cases q : u = w ++ [c]
    · subst q
      have ea : a = W.heap.size := by unfold addA at e; rw [if_pos rfl] at e; exact (Option.some.inj e).symm
      subst ea
      rw [Below.heap_setCell _ _ _ _ (show W.heap.size ≠ b by omega), World.alloc_heap_new]
      have hF := h.nil (w ++ [c]) hwc hn
      have hk : ∀ x, addA A (w ++ [c]) W.heap.size (w ++ [c] ++ [x]) = none := fun x => by
        unfold addA
        rw [if_neg (by intro q; have := congrArg List.length q; simp at this)]
        exact h.up _ x hn
      unfold plc
      rw [hk, hk, hk, hk, hF]
      rfl
    · have eA : A u = some a := by unfold addA at e; rwa [if_neg q] at e
      by_cases q2 : u = w
      · subst q2
        have ea : a = b := by rw [hb] at eA; exact (Option.some.inj eA).symm
        subst ea
        have h0 : (W.alloc (.cells #[.int .i64 0, .int .i64 0, .pointer none, .pointer none, .pointer none, .pointer none] 74)).heap[a]? = some (.cells (plc A F u) 74) := by
          rw [Below.heap_alloc _ _ _ hbl]; exact h.cells u a eA
        rw [setCell_heap h0]
        have hsame : ∀ x, x ≠ c → addA A (u ++ [c]) W.heap.size (u ++ [x]) = A (u ++ [x]) := fun x hx => by
          unfold addA; exact if_neg fun e => hx (app_one_inj e).2
        have hself : addA A (u ++ [c]) W.heap.size (u ++ [c]) = some W.heap.size := if_pos rfl
        subst hc
        rcases (by omega : i = 0 ∨ i = 1 ∨ i = 2 ∨ i = 3) with rfl | rfl | rfl | rfl
        · have e0 : addA A (u ++ [97]) W.heap.size (u ++ [97]) = some W.heap.size := hself
          have e1 := hsame 98 (by decide)
          have e2 := hsame 99 (by decide)
          have e3 := hsame 100 (by decide)
          show _ = some (Obj.cells (plc (addA A (u ++ [97]) W.heap.size) F u) _)
          unfold plc
          rw [e0, show addA A (u ++ [97]) W.heap.size (u ++ [98]) = A (u ++ [98]) from e1, show addA A (u ++ [97]) W.heap.size (u ++ [99]) = A (u ++ [99]) from e2, show addA A (u ++ [97]) W.heap.size (u ++ [100]) = A (u ++ [100]) from e3]
          rfl
        · have e0 : addA A (u ++ [98]) W.heap.size (u ++ [98]) = some W.heap.size := hself
          have e1 := hsame 97 (by decide)
          have e2 := hsame 99 (by decide)
          have e3 := hsame 100 (by decide)
          show _ = some (Obj.cells (plc (addA A (u ++ [98]) W.heap.size) F u) _)
          unfold plc
          rw [e0, show addA A (u ++ [98]) W.heap.size (u ++ [97]) = A (u ++ [97]) from e1, show addA A (u ++ [98]) W.heap.size (u ++ [99]) = A (u ++ [99]) from e2, show addA A (u ++ [98]) W.heap.size (u ++ [100]) = A (u ++ [100]) from e3]
          rfl
        · have e0 : addA A (u ++ [99]) W.heap.size (u ++ [99]) = some W.heap.size := hself
          have e1 := hsame 97 (by decide)
          have e2 := hsame 98 (by decide)
          have e3 := hsame 100 (by decide)
          show _ = some (Obj.cells (plc (addA A (u ++ [99]) W.heap.size) F u) _)
          unfold plc
          rw [e0, show addA A (u ++ [99]) W.heap.size (u ++ [97]) = A (u ++ [97]) from e1, show addA A (u ++ [99]) W.heap.size (u ++ [98]) = A (u ++ [98]) from e2, show addA A (u ++ [99]) W.heap.size (u ++ [100]) = A (u ++ [100]) from e3]
          rfl
        · have e0 : addA A (u ++ [100]) W.heap.size (u ++ [100]) = some W.heap.size := hself
          have e1 := hsame 97 (by decide)
          have e2 := hsame 98 (by decide)
          have e3 := hsame 99 (by decide)
          show _ = some (Obj.cells (plc (addA A (u ++ [100]) W.heap.size) F u) _)
          unfold plc
          rw [e0, show addA A (u ++ [100]) W.heap.size (u ++ [97]) = A (u ++ [97]) from e1, show addA A (u ++ [100]) W.heap.size (u ++ [98]) = A (u ++ [98]) from e2, show addA A (u ++ [100]) W.heap.size (u ++ [99]) = A (u ++ [99]) from e3]
          rfl
      · have ne : a ≠ b := fun e3 => q2 (h.inj u w b (by rw [← e3]; exact eA) hb)
        rw [Below.heap_setCell _ _ _ _ ne, Below.heap_alloc _ _ _ (h.lt eA), h.cells u a eA, addA_kids q2]

theorem ext_add {A : List UInt8 → Option Nat} {w : List UInt8} {n b : Nat} (hn : A w = none) (hb : n ≤ b) : Ext A (addA A w b) n := fun u c => by
  unfold addA
  refine ⟨fun h => ?_, fun h => ?_⟩
  · rw [if_neg (fun e => by rw [e, hn] at h; cases h)]; exact h
  · split at h
    · right; rw [← Option.some.inj h]; exact hb
    · exact .inl h

theorem Ext.trans {A B C : List UInt8 → Option Nat} {n : Nat} (h : Ext A B n) (k : Ext B C n) : Ext A C n := fun w b =>
  ⟨fun e => (k w b).1 ((h w b).1 e), fun e => by
    rcases (k w b).2 e with e | e
    · exact (h w b).2 e
    · exact .inr e⟩

/-- A new tree. -/
theorem Trie.new (W : World) : Trie (W.alloc (.cells #[.int .i64 1, .int .i64 0, .pointer none, .pointer none, .pointer none, .pointer none] 74)) (fun w => if w = [] then some W.heap.size else none) (Fof []) := by
  refine ⟨fun w b e => ?_, by simp, fun u w b eu ew => ?_, fun w c e => by simp, fun w hw e => ?_, fun w b e => ?_⟩
  · by_cases h : w = []
    · rw [h]; exact Wrd.nil
    · simp [h] at e
  · by_cases h : u = []
    · by_cases h' : w = []
      · rw [h, h']
      · simp [h'] at ew
    · simp [h] at eu
  · by_cases h : w = []
    · simp [h] at e
    · exact Fof_nil h hw
  · by_cases h : w = []
    · subst h
      simp at e
      subst e
      rw [World.alloc_heap_new]
      unfold plc
      rw [Fof_root]
      simp [ptrTo]
    · simp [h] at e

end Go.Proofs.YtnmpbocnbcokeaaDoor

/-
  WALKS: the place of a path (impl.place.at).
-/
namespace Go.Proofs.YtnmpbocnbcokeaaDoor
open Go.RowKit Go.Shelf

attribute [local go_sem] Oper.semAt_some

/-- The letters among the parts. -/
def wd (pre : List ByteArray) : List UInt8 := pre.flatMap (fun x => if Pm.nameBB x = true then x.data.toList else [])

theorem wd_app (pre : List ByteArray) (x : ByteArray) : wd (pre ++ [x]) = wd pre ++ (if Pm.nameBB x = true then x.data.toList else []) := by
  unfold wd; rw [List.flatMap_append]; simp

theorem name_letter {x : ByteArray} (h : Pm.nameBB x = true) : ∃ c i, x = ⟨#[c]⟩ ∧ i < 4 ∧ c = UInt8.ofNat (97 + i) := by
  obtain ⟨⟨l⟩⟩ := x
  match l, h with
  | [c], h =>
    have h' : Pm.letter c = true := h
    have := (letter_iff c).1 h'
    simp only [letters, List.mem_cons, List.not_mem_nil, or_false] at this
    rcases this with rfl | rfl | rfl | rfl
    · exact ⟨97, 0, rfl, by omega, rfl⟩
    · exact ⟨98, 1, rfl, by omega, rfl⟩
    · exact ⟨99, 2, rfl, by omega, rfl⟩
    · exact ⟨100, 3, rfl, by omega, rfl⟩
  | [], h => cases h
  | _ :: _ :: _, h => cases h

theorem wd_len (pre : List ByteArray) : (wd pre).length ≤ pre.length := by
  induction pre with
  | nil => simp [wd]
  | cons x r ih =>
    have : wd (x :: r) = (if Pm.nameBB x = true then x.data.toList else []) ++ wd r := rfl
    rw [this, List.length_append, List.length_cons]
    split
    · rename_i h
      obtain ⟨c, i, rfl, _⟩ := name_letter h
      simp; omega
    · simp; omega

theorem parts_word {v : List UInt8} (h : Wrd v) : wd (Pm.partsB (pB v)) = v ∧ (Pm.partsB (pB v)).length ≤ 4 := by
  by_cases hn : v = []
  · subst hn; decide
  · have hp : Pm.partsB (pB v) = v.map fun x => ⟨#[x]⟩ := by
      unfold Pm.partsB
      rw [pB_list, Pm.parts_path v hn h.2, List.map_map]
      rfl
    rw [hp]
    refine ⟨?_, by rw [List.length_map]; exact h.1⟩
    have hv := h.2
    clear hn hp h
    induction v with
    | nil => rfl
    | cons c r ih =>
      have hc : Pm.nameBB ⟨#[c]⟩ = true := hv c (by simp)
      have : wd ((c :: r).map fun x => (⟨#[x]⟩ : ByteArray)) = (if Pm.nameBB ⟨#[c]⟩ = true then [c] else []) ++ wd (r.map fun x => ⟨#[x]⟩) := rfl
      rw [this, if_pos hc, ih (fun x hx => hv x (List.mem_cons_of_mem _ hx))]
      rfl

theorem pB_size {v : List UInt8} (h : Wrd v) : (pB v).size ≤ 8 := by
  show (Pm.pathOf v).length ≤ 8
  unfold Pm.pathOf
  split
  · simp
  · rw [Pm.flat_length]; have := h.1; omega

def AtPost (A : List UInt8 → Option Nat) (F : List UInt8 → Int × Int) (v : List UInt8) (w : World) (e : Ending) (w' : World) : Prop :=
  ∃ A' b, e = .returned (.pointer (some ⟨b, 0, none⟩)) ∧ A' v = some b ∧ Trie w' A' F ∧ Ext A A' w.heap.size ∧ Off A w.heap.size w w'

def AtI (A : List UInt8 → Option Nat) (F : List UInt8 → Int × Int) (w : World) (pre : List ByteArray) (W : World) : Prop :=
  w.heap.size + 2 ≤ W.heap.size ∧ ∃ A' b, A' (wd pre) = some b ∧ Trie W A' F ∧ Ext A A' (w.heap.size + 2) ∧ Off A w.heap.size w W ∧ Boxed W w.heap.size 69 (.pointer (some ⟨b, 0, none⟩))

theorem AtI.own (A : List UInt8 → Option Nat) (F : List UInt8 → Int × Int) (w : World) (B : Nat) (hB : w.heap.size ≤ B) : OwnFrom B (AtI A F w) := by
  rintro pre W W' row ⟨h0, A', b, h1, h2, h3, h4, h5⟩ hg hr
  refine ⟨Nat.le_trans h0 hg.size, A', b, h1, h2.kept fun u c hc => hg.block c (h2.lt hc) fun e => ?_, h3, ?_, ?_⟩
  · obtain ⟨_, o, ho, hoc⟩ := hr c e.symm
    rw [h2.cells u c hc] at ho
    cases ho; cases hoc
  · refine h4.trans ⟨hg.os, hg.tape, hg.output, hg.size, fun k hk _ => hg.block k (by have := h4.size; omega) fun e => ?_⟩
    have := (hr k e.symm).1; omega
  · refine h5.kept hg fun e => ?_
    obtain ⟨_, o, ho, hoc⟩ := hr _ e.symm
    rw [show W.heap[w.heap.size]? = _ from h5] at ho
    cases ho; cases hoc

theorem size_setC (W : World) (a : Addr) (v : Value) : (W.setCell a v).heap.size = W.heap.size := by simp [World.setCell]

theorem Boxed.past {W : World} {B : Nat} {t : TypeId} {v : Value} (h : Boxed W B t v) {b : Nat} (hb : B ≠ b) (i : Nat) (u : Value) : Boxed (W.setCell ⟨b, i, none⟩ u) B t v := by
  unfold Boxed at h ⊢
  rw [Below.heap_setCell _ _ _ _ hb]; exact h

theorem box_apart {A A' : List UInt8 → Option Nat} {F : List UInt8 → Int × Int} {w : World} (hT : Trie w A F) (h3 : Ext A A' (w.heap.size + 2)) {u : List UInt8} {c : Nat} (hc : A' u = some c) : c ≠ w.heap.size := fun e => by
  rcases (h3 u c).2 hc with q | q
  · have := hT.lt q; omega
  · omega

/-- A round that finds a place. -/
theorem at_found {A A' : List UInt8 → Option Nat} {F : List UInt8 → Int × Int} {w W : World} {pre : List ByteArray} {b b' : Nat} (hT : Trie w A F) (hz : w.heap.size + 2 ≤ W.heap.size) (h2 : Trie W A' F) (h3 : Ext A A' (w.heap.size + 2)) (h4 : Off A w.heap.size w W)
    (h5 : Boxed W w.heap.size 69 (.pointer (some ⟨b, 0, none⟩))) (hA : A' (wd pre) = some b') : AtI A F w pre (W.setCell ⟨w.heap.size, 0, none⟩ (.pointer (some ⟨b', 0, none⟩))) :=
  ⟨by rw [size_setC]; exact hz, A', b', hA, h2.kept fun u c hc => Below.heap_setCell _ _ _ _ (box_apart hT h3 hc), h3, h4.set (.inl (Nat.le_refl _)) _, h5.set _⟩

/-- A round that makes a place. -/
theorem at_made {A A' : List UInt8 → Option Nat} {F : List UInt8 → Int × Int} {w W : World} {pre : List ByteArray} {u : List UInt8} {c : UInt8} {i b : Nat} (hT : Trie w A F) (hz : w.heap.size + 2 ≤ W.heap.size) (h1 : A' u = some b) (h2 : Trie W A' F) (h3 : Ext A A' (w.heap.size + 2)) (h4 : Off A w.heap.size w W)
    (h5 : Boxed W w.heap.size 69 (.pointer (some ⟨b, 0, none⟩))) (hi : i < 4) (hc : c = UInt8.ofNat (97 + i)) (hl : u.length < 4) (hn : A' (u ++ [c]) = none) (hw : wd pre = u ++ [c]) :
    AtI A F w pre (((W.alloc (.cells #[.int .i64 0, .int .i64 0, .pointer none, .pointer none, .pointer none, .pointer none] 74)).setCell ⟨b, 2 + i, none⟩ (.pointer (some ⟨W.heap.size, 0, none⟩))).setCell ⟨w.heap.size, 0, none⟩ (.pointer (some ⟨W.heap.size, 0, none⟩))) := by
  have h3' : Ext A (addA A' (u ++ [c]) W.heap.size) (w.heap.size + 2) := h3.trans (ext_add hn hz)
  have hb := box_apart hT h3 h1
  obtain ⟨o, ho⟩ : ∃ o, o = (Obj.cells #[.int .i64 0, .int .i64 0, .pointer none, .pointer none, .pointer none, .pointer none] 74) := ⟨_, rfl⟩
  have hm := h2.make h1 i hi hc hl hn
  rw [← ho] at hm ⊢
  clear ho
  have hoff : Off A w.heap.size w ((W.alloc o).setCell ⟨b, 2 + i, none⟩ (.pointer (some ⟨W.heap.size, 0, none⟩))) := by
    refine (h4.new (by omega) _).set ?_ _
    rcases (h3 u b).2 h1 with q | q
    · exact .inr ⟨u, q⟩
    · exact .inl (by show w.heap.size ≤ b; omega)
  have hbox : Boxed ((W.alloc o).setCell ⟨b, 2 + i, none⟩ (.pointer (some ⟨W.heap.size, 0, none⟩))) w.heap.size 69 (.pointer (some ⟨b, 0, none⟩)) := Boxed.past (h5.alloc o) (fun e => hb e.symm) _ _
  have hsz : w.heap.size + 2 ≤ ((W.alloc o).setCell ⟨b, 2 + i, none⟩ (.pointer (some ⟨W.heap.size, 0, none⟩))).heap.size := by
    rw [size_setC, World.size_alloc]; omega
  have hself : addA A' (u ++ [c]) W.heap.size (wd pre) = some W.heap.size := by rw [hw]; exact if_pos rfl
  generalize (W.alloc o).setCell ⟨b, 2 + i, none⟩ (.pointer (some ⟨W.heap.size, 0, none⟩)) = W6 at hm hoff hbox hsz ⊢
  exact at_found hT hsz hm h3' hoff hbox hself

set_option maxRecDepth 100000 in
set_option maxHeartbeats 2000000 in
theorem at_in (A : List UInt8 → Option Nat) (F : List UInt8 → Int × Int) (v : List UInt8) (hv : Wrd v) (w : World) (hT : Trie w A F) (b0 : Nat) (h0 : A [] = some b0) :
    CallsIn Fence.wide 6 Tryd.prog 46 #[.pointer (some ⟨b0, 0, none⟩), .string (pB v)] w (AtPost A F v w) := by
  have hs := Nat.le_trans (pB_size hv) (show 8 ≤ 140737488355328 by omega)
  obtain ⟨hwd, hlen⟩ := parts_word hv
  obtain ⟨s, hsv⟩ : ∃ s, s = pB v := ⟨_, rfl⟩
  rw [← hsv] at hs hwd hlen ⊢
  have HT := Lib.hid hT
  have HV := Lib.hid hsv
  clear hsv hT
  refine callsIn_of_wp_marks Tryd.func46 rfl trivial ?_ rfl
  simp only [Tryd.ntmps46, List.size_toArray, List.length_cons, List.length_nil, Nat.reduceAdd, Nat.reduceSub, Array.replicate_succ, Array.replicate_zero, List.push_toArray, List.append_toArray, List.nil_append, List.cons_append]
  gi_wp2_with (refine ⟨trivial, ?_⟩; gi_at_call 73; refine (partsOf_in _ s _).mono ?_; rintro e w' ⟨rfl, rfl⟩)
  have b1 := Boxed.new w 69 (.pointer (some ⟨b0, 0, none⟩))
  have b2 := Boxed.new (w.alloc (.cells #[.pointer (some ⟨b0, 0, none⟩)] 69)) 9 (.string s)
  simp only [World.size_alloc] at b2
  have hB0 : Below w.heap.size w ((w.alloc (.cells #[.pointer (some ⟨b0, 0, none⟩)] 69)).alloc (.cells #[.string s] 9)) := ((Below.refl _ w).alloc (Nat.le_refl _) _).alloc (by simp) _
  refine wpIn_rangeFunc_ownG rfl (by omega) (gf := 87) (lb := #[.pointer (some ⟨w.heap.size + 1, 0, none⟩)]) rfl trivial (enters_of Tryd.func87 (by kernel_rfl) rfl)
    (partsOf_stops _ (by omega) (w.heap.size + 1) 0 s hs _ (by simp) b2.cell) belowK_t (belowK_b (Nat.zero_le _)) (Below.refl _ _) (fun _ => rfl)
    (AtI A F w) (fun _ _ _ => False)
    (AtI.own A F w _ (by simp; omega)) (fun _ _ _ _ _ h => h.elim)
    ⟨by simp, A, b0, h0, HT.out.below hB0, Ext.refl _ _, .of_below hB0, b1.alloc _⟩
    (fun x => { tmps := #[.pointer (some ⟨b0, 0, none⟩), .string s, .pointer (some ⟨w.heap.size, 0, none⟩), undef, .pointer none, .string x, undef, .string s, .func (.func 87) #[] #[.pointer (some ⟨w.heap.size + 1, 0, none⟩)], .string x, undef, undef, undef, undef, undef, undef, undef, undef, undef, undef, undef, undef, undef, undef, undef, undef, undef, undef, undef, undef, undef, undef], defers := [] }) ?assign ?body ?done ?stop
  case assign =>
    intro l x W K hK
    gi_wp2
    exact hK
  case body =>
    rintro l pre x W ⟨hz, A', b, h1, h2, h3, h4, h5⟩ hpl
    have HZ := Lib.hid hz
    clear hz
    have hc0 := h5.cell
    have hf0 := h5.frozen
    cases hx : Pm.nameBB x with
    | false =>
      have hn := fun w => name_no hx w
      have hw : Hid (wd (pre ++ [x]) = wd pre) := by show _ = _; rw [wd_app, hx]; simp
      clear hx
      gi_wp2_with (refine ⟨trivial, ?_⟩; gi_at_call 74; refine (CallsIn.inRound l (callsIn_wide.2 (hn _))).mono ?_; rintro e w' ⟨rfl, rfl⟩)
      exact ⟨(KeepsOthers.refl _).from _, Below.refl _ _, HZ.out, A', b, by rw [hw.out]; exact h1, h2, h3, h4, h5⟩
    | true =>
      have hn := fun w => name_yes hx w
      obtain ⟨c, i, hxc, hi, hc⟩ := name_letter hx
      have hw : Hid (wd (pre ++ [x]) = wd pre ++ [c]) := by show _ = _; rw [wd_app, hx, hxc]; rfl
      have HX := Lib.hid hxc
      have HC := Lib.hid hc
      clear hx hxc hc
      gi_wp2_with (refine ⟨trivial, ?_⟩; gi_at_call 74; refine (CallsIn.inRound l (callsIn_wide.2 (hn _))).mono ?_; rintro e w' ⟨rfl, rfl⟩)
      have hxc := HX.out
      subst hxc
      have hcv : (c.toNat : Int) = 97 + i := by
        rw [HC.out]
        rcases (by omega : i = 0 ∨ i = 1 ∨ i = 2 ∨ i = 3) with rfl | rfl | rfl | rfl <;> rfl
      have hwr : ((((⟨#[c]⟩ : ByteArray)[0]'(by simp [ByteArray.size])).toNat : Int) - 97) % 256 = i := by
        show ((c.toNat : Int) - 97) % 256 = i
        rw [hcv]; omega
      have hi0 : (0 : Int) ≤ i := by omega
      have hi4 : (i : Int) < 4 := by omega
      clear hcv
      refine quiet_round (F := Fence.wide) l rfl (by kernel_rfl) (by kernel_rfl) (by kernel_rfl) ?_
      repeat (gi_big_quiet_step (fail))
      refine wpQuietIn_nil ?_
      rintro _ ⟨nq, rfl⟩
      have h2' : Trie (w'.drewN nq) A' F := h2.kept fun _ _ _ => rfl
      have h4' : Off A w.heap.size w (w'.drewN nq) := h4.trans ⟨rfl, rfl, rfl, Nat.le_refl _, fun _ _ _ => rfl⟩
      have h5' : Boxed (w'.drewN nq) w.heap.size 69 (.pointer (some ⟨b, 0, none⟩)) := h5
      have hz' : w.heap.size + 2 ≤ (w'.drewN nq).heap.size := HZ.out
      clear HZ
      have hk0 : KeepsOthers w' (w'.drewN nq) := ⟨Nat.le_refl _, fun _ _ h _ => h⟩
      have hb0' : Below 0 w' (w'.drewN nq) := ⟨rfl, rfl, rfl, Nat.le_refl _, fun _ _ => rfl⟩
      clear h2 h4 h5 hc0 hf0
      generalize w'.drewN nq = W at h2' h4' h5' hk0 hb0' hz' ⊢
      have HZ := Lib.hid hz'
      clear hz'
      have hbw : b ≠ w.heap.size := fun e => by
        rcases (h3 (wd pre) b).2 h1 with q | q
        · have := HT.out.lt q; omega
        · omega
      have hlp : (wd pre).length < 4 := Nat.lt_of_le_of_lt (wd_len pre) (by omega)
      have hc2 : W.cell? ⟨b, 2 + i, none⟩ = some (ptrTo (A' (wd pre ++ [c]))) := by
        rw [h2'.cell h1, HC.out]
        rcases (by omega : i = 0 ∨ i = 1 ∨ i = 2 ∨ i = 3) with rfl | rfl | rfl | rfl <;> rfl
      have hf2 := h2'.frozen h1 (2 + i)
      have hc0 := h5'.cell
      have hf0 := h5'.frozen
      have H2 := Lib.hid h2'
      have H3 := Lib.hid h3
      have H4 := Lib.hid h4'
      have H5 := Lib.hid h5'
      have HK := Lib.hid hk0
      have HB := Lib.hid hb0'
      have H1 := Lib.hid h1
      clear h1 h2' h3 h4' h5' hk0 hb0' hwr hn
      cases hA : A' (wd pre ++ [c]) with
      | some b' =>
        rw [hA] at hc2
        have HA := Lib.hid hA
        clear hA
        unfold ptrTo at hc2
        simp only [Option.map_some] at hc2
        gi_wp2
        exact ⟨(HK.out.trans (KeepsOthers.setCell _ _ _)).from _, HB.out.setCell (Nat.zero_le _) _, at_found HT.out HZ.out H2.out H3.out H4.out H5.out (by rw [hw.out]; exact HA.out)⟩
      | none =>
        rw [hA] at hc2
        have HA := Lib.hid hA
        clear hA
        unfold ptrTo at hc2
        simp only [Option.map_none] at hc2
        have hbl := H2.out.lt H1.out
        have hnx : (W.alloc (.cells #[.int .i64 0, .int .i64 0, .pointer none, .pointer none, .pointer none, .pointer none] 74)).cell? ⟨b, 2 + i, none⟩ = some (.pointer none) := by
          rw [World.cell?_alloc_old _ _ _ (by simp; omega)]; exact hc2
        gi_upto_region 7 with (fail)
        obtain ⟨W6, hW6⟩ : ∃ W6, W6 = (W.alloc (.cells #[.int .i64 0, .int .i64 0, .pointer none, .pointer none, .pointer none, .pointer none] 74)).setCell ⟨b, 2 + i, none⟩ (.pointer (some ⟨W.heap.size, 0, none⟩)) := ⟨_, rfl⟩
        rw [← World.setCell_alloc_past _ _ _ _ hbl, ← hW6]
        have hc6 : W6.cell? ⟨b, 2 + i, none⟩ = some (.pointer (some ⟨W.heap.size, 0, none⟩)) := by
          rw [hW6]; exact World.cell?_setCell_same _ _ _ hnx
        have q6 : Boxed W6 w.heap.size 69 (.pointer (some ⟨b, 0, none⟩)) := by
          rw [hW6]; exact Boxed.past (H5.out.alloc _) (fun e => hbw e.symm) _ _
        have hc7 := q6.cell
        have hf7 := q6.frozen
        have HW6 := Lib.hid hW6
        clear hW6 q6 hc0 hf0 hc2 hf2 hnx
        gi_wp2
        rw [HW6.out]
        exact ⟨(((HK.out.trans (KeepsOthers.alloc _ _)).trans (KeepsOthers.setCell _ _ _)).trans (KeepsOthers.setCell _ _ _)).from _, ((HB.out.alloc (Nat.zero_le _) _).setCell (Nat.zero_le _) _).setCell (Nat.zero_le _) _,
          at_made HT.out HZ.out H1.out H2.out H3.out H4.out H5.out hi HC.out hlp HA.out hw.out⟩
  case done =>
    rintro D ys W hD rfl ⟨hz, A', b, h1, h2, h3, h4, h5⟩ hK
    have hc0 := h5.cell
    have HZ := Lib.hid hz
    have H1 := Lib.hid (show A' v = some b by rw [← hwd]; exact h1)
    have H2 := Lib.hid h2
    have H3 := Lib.hid h3
    have H4 := Lib.hid h4
    have H5 := Lib.hid h5
    clear h1 h2 h3 h4 h5 hz
    gi_wp2
    refine ⟨by simp, .inl ⟨_, _, rfl, run_takeDeferred hK, ?_⟩⟩
    have hD' : w.heap.size ≤ D := by simp at hD; omega
    have hne : ∀ u c, A' u = some c → c ≠ D := fun u c hc e => by
      have := H2.out.cells u c hc
      rw [e, hK] at this; cases this
    refine ⟨.pointer (some ⟨b, 0, none⟩), by simp [results, Tryd.f46, go_sem], A', b, rfl, H1.out, H2.out.kept (fun u c hc => World.putObj_heap_other (hne u c hc)), fun u c => ⟨(H3.out u c).1, fun e => ?_⟩, H4.out.trans ⟨rfl, rfl, rfl, by simp, fun k hk _ => World.putObj_heap_other (by omega)⟩⟩
    rcases (H3.out u c).2 e with q | q
    · exact .inl q
    · exact .inr (by omega)
  case stop =>
    rintro D c pre W hD hpre hf
    exact hf.elim

theorem at_c (A : List UInt8 → Option Nat) (F : List UInt8 → Int × Int) (v : List UInt8) (hv : Wrd v) (w : World) (hT : Trie w A F) (b0 : Nat) (h0 : A [] = some b0) :
    Calls Tryd.prog 46 #[.pointer (some ⟨b0, 0, none⟩), .string (pB v)] w (AtPost A F v w) := callsIn_wide.1 (at_in A F v hv w hT b0 h0)

end Go.Proofs.YtnmpbocnbcokeaaDoor

/-
  WALKS: impl.treeOf.
-/
namespace Go.Proofs.YtnmpbocnbcokeaaDoor
open Go.RowKit
set_option linter.unusedVariables false

def lastB (a : List Nd) : ByteArray := match a.getLast? with
  | none => rootB
  | some m => m.p

theorem next_iff (a : List Nd) (n : Nd) : Next a n ↔ vpB n.p = true ∧ ltB (lastB a) n.p = true ∧ validB n.k n.v = true ∧ n.k ≠ 0 ∧ (getT a (parB n.p)).1 = 1 := Iff.rfl

/-- What treeOf returns. -/
def RootPost (ns : List Nd) (W : World) (e : Ending) (W' : World) : Prop :=
  Below W.heap.size W W' ∧ ((validT ns = false ∧ e = .returned (.tuple #[.pointer none, .bool false])) ∨
    (validT ns = true ∧ ∃ A b, e = .returned (.tuple #[.pointer (some ⟨b, 0, none⟩), .bool true]) ∧ A [] = some b ∧ Trie W' A (Fof ns) ∧ ∀ u c, A u = some c → W.heap.size ≤ c))

def RootRel (ns : List Nd) (W : World) (l i : Value) (wr : World) : Prop :=
  ∃ (n : Nat) (A : List UInt8 → Option Nat), i = .int .i64 n ∧ n ≤ ns.length ∧ l = .string (lastB (ns.take n)) ∧ Hid (validT (ns.take n) = true) ∧ Hid (Trie wr A (Fof (ns.take n))) ∧ Hid (A [] = some W.heap.size) ∧
    Hid (∀ u c, A u = some c → W.heap.size ≤ c) ∧ Hid (Below W.heap.size W wr)

theorem of_bad {ns : List Nd} {W w' : World} (h : validT ns = false) (hB : Below W.heap.size W w') : RootPost ns W (.returned (.tuple #[.pointer none, .bool false])) w' := ⟨hB, .inl ⟨h, rfl⟩⟩

/-- A node that does not fit. -/
theorem not_next {ns : List Nd} {i : Nat} {n : Nd} (hn : ns[i]? = some n) (hl : ns.length ≤ 10) (hv : validT (ns.take i) = true) (h : ¬ Next (ns.take i) n) : validT ns = false := by
  rw [Bool.eq_false_iff]
  intro hc
  have h2 := valid_pre hc (i + 1)
  have hi := (List.getElem?_eq_some_iff.1 hn).1
  rw [List.take_add_one, hn] at h2
  exact h ((valid_step (by rw [List.length_take]; omega) hv).1 h2)

theorem take_next {ns : List Nd} {i : Nat} {n : Nd} (hn : ns[i]? = some n) : ns.take (i + 1) = ns.take i ++ [n] := by
  rw [List.take_add_one, hn]; rfl

theorem lastB_app (a : List Nd) (n : Nd) : lastB (a ++ [n]) = n.p := by
  unfold lastB; rw [List.getLast?_concat]

theorem leq_of (a b : ByteArray) : (Op.bytesLess a.toList b.toList || a.toList == b.toList) = !ltB b a := by
  cases h : ltB b a with
  | true =>
    have h1 : Op.bytesLess a.toList b.toList = false := ltB_asymm h
    have h2 : (a.toList == b.toList) = false := toList_ne (ltB_ne h).symm
    rw [h1, h2]; rfl
  | false =>
    by_cases h1 : ltB a b = true
    · rw [show Op.bytesLess a.toList b.toList = true from h1]; rfl
    · have e := ltB_tri (show ltB a b = false by simpa using h1) h
      subst e; simp

theorem above_last {a : List Nd} {p : ByteArray} (h : validT a = true) (h2 : ltB (lastB a) p = true) : ltB rootB p = true := by
  obtain ⟨ha, hg, _⟩ := (validT_iff a).1 h
  unfold lastB at h2
  cases hl : a.getLast? with
  | none => rw [hl] at h2; exact h2
  | some l =>
    rw [hl] at h2
    exact ltB_trans (root_lt (hg l (List.mem_of_getLast? hl)).1) h2

theorem box3_cell {w w' : World} {cs : Array Value} {t : TypeId} (hb : Below (w.alloc (.cells cs t)).heap.size (w.alloc (.cells cs t)) w') (i : Nat) : w'.cell? ⟨w.heap.size, i, none⟩ = cs[i]? := by
  rw [hb.cell (p := ⟨w.heap.size, i, none⟩) (by simp)]
  rw [World.cell?_alloc_new]

theorem off_cell {A : List UInt8 → Option Nat} {W W' : World} (h : Off A W.heap.size W W') {B : Nat} (hB : B < W.heap.size) (hA : ∀ u c, A u = some c → c < B) (i : Nat) : W'.cell? ⟨B, i, none⟩ = W.cell? ⟨B, i, none⟩ := by
  have := h.block B hB (fun u e => by have := hA u B e; omega)
  unfold World.cell?
  rw [this]

theorem ext_from {A A' : List UInt8 → Option Nat} {n m : Nat} (h : Ext A A' n) (hm : m ≤ n) (hA : ∀ u c, A u = some c → m ≤ c) : ∀ u c, A' u = some c → m ≤ c := fun u c e => by
  rcases (h u c).2 e with q | q
  · exact hA u c q
  · omega

/-- A box that no place is in. -/
def Away (A : List UInt8 → Option Nat) (B : Nat) : Prop := ∀ u, A u ≠ some B

theorem ext_box {A A' : List UInt8 → Option Nat} {n B : Nat} (h : Ext A A' n) (hB : B < n) (hA : ∀ u c, A u = some c → c < B) : Away A' B := fun u e => by
  rcases (h u B).2 e with q | q
  · have := hA u B q; omega
  · omega

theorem ext_away {A A' : List UInt8 → Option Nat} {n B : Nat} (h : Ext A A' n) (hB : B < n) (hA : Away A B) : Away A' B := fun u e => by
  rcases (h u B).2 e with q | q
  · exact hA u q
  · omega

theorem off_cell2 {A : List UInt8 → Option Nat} {W W' : World} (h : Off A W.heap.size W W') {B : Nat} (hB : B < W.heap.size) (hA : Away A B) (i : Nat) : W'.cell? ⟨B, i, none⟩ = W.cell? ⟨B, i, none⟩ := by
  have := h.block B hB hA
  unfold World.cell?
  rw [this]

theorem past2 {W : World} {B b : Nat} (h : B ≠ b) {x y : Value} {i : Nat} : ((W.setCell ⟨b, 0, none⟩ x).setCell ⟨b, 1, none⟩ y).cell? ⟨B, i, none⟩ = W.cell? ⟨B, i, none⟩ := by
  rw [World.cell?_setCell_other _ _ _ _ (fun e => h (congrArg Addr.block e).symm), World.cell?_setCell_other _ _ _ _ (fun e => h (congrArg Addr.block e).symm)]

/-- A node more: the tree, and its places. -/
theorem of_step {ns : List Nd} {i : Nat} {p : ByteArray} {k v : Int} (hn : ns[i]? = some ⟨p, k, v⟩) (hv : validT (ns.take i) = true) {w : List UInt8} (hw : Wrd w) (hne : w ≠ []) (hp : p = pB w) (hl : ltB (lastB (ns.take i)) p = true)
    (hc : validB k v = true) (hk : k ≠ 0) (hpar : (Fof (ns.take i) w.dropLast).1 = 1) (h10 : ns.length ≤ 10) {A : List UInt8 → Option Nat} {W : World} {b : Nat} (hT : Trie W A (Fof (ns.take i))) (hb : A w = some b) :
    validT (ns.take (i + 1)) = true ∧ Trie ((W.setCell ⟨b, 0, none⟩ (.int .i64 k)).setCell ⟨b, 1, none⟩ (.int .i64 v)) A (Fof (ns.take (i + 1))) := by
  have hi := (List.getElem?_eq_some_iff.1 hn).1
  have hN : Next (ns.take i) ⟨p, k, v⟩ := (next_iff _ _).2 ⟨by show vpB p = true; rw [hp]; exact vpB_pB hw, hl, hc, hk, by
    show (getT (ns.take i) (parB p)).1 = 1
    rw [hp, parB_pB hw hne]; exact hpar⟩
  have hA := (next_above hv hN).1
  rw [take_next hn]
  refine ⟨(valid_step (by rw [List.length_take]; omega) hv).2 hN, (hT.write hb k v).congr fun u hu => ?_⟩
  exact (Fof_app (n := ⟨p, k, v⟩) hw hne hp (fun m hm => ltB_ne (hA m hm)) hu).symm

set_option maxHeartbeats 4000000 in
set_option maxRecDepth 100000 in
theorem treeOf_c (a : Option Addr) (len cap : Nat) (ns : List Nd) (hl : len ≤ 2097152) (hs : Short 2097152 ns) (W : World) (hN : NodesAt W a len ns) :
    Calls Tryd.prog 43 #[.slice a len cap] W (RootPost ns W) := by
  have HE := Lib.hid hN.1
  have HN := Lib.hid hN
  have HS := Lib.hid hs
  clear hN hs
  by_cases h10 : 10 < len
  · have hbad := Lib.hid (show validT ns = false by
      rw [Bool.eq_false_iff]; intro h
      have := ((validT_iff ns).1 h).2.2
      have := HE.out; omega)
    have h10' : (10 : Int) < len := by omega
    clear h10
    go_enter Tryd.func43, Tryd.ntmps43
    go_wp2
    refine bodyPost_ret (v := .tuple #[.pointer none, .bool false]) (by simp [results, Tryd.f43, go_sem]) rfl (of_bad hbad.out (Below.refl _ _))
  · have h10' : (len : Int) ≤ 10 := by omega
    have HL := Lib.hid (show len ≤ 10 by omega)
    clear h10
    go_enter Tryd.func43, Tryd.ntmps43
    go_wp2
    go_loopw [5, 16] (fun l i wr => RootRel ns W l i wr) (fun _ i _ => len - (intOf i).toNat)
    case atStart =>
      refine ⟨0, fun w => if w = [] then some W.heap.size else none, rfl, by omega, rfl, (show validT [] = true by decide), Trie.new W, if_pos rfl, fun u c hc => ?_, below_box _ _⟩
      simp at hc; omega
    case round =>
      obtain ⟨i, A, rfl, hi, rfl, HV, HT, HA0, HA, HB⟩ := hrel
      by_cases hlt : i < len
      · obtain ⟨b, off, n, rfl, hn, c0, c1, c2⟩ := (HN.out.keep HB.out).node hlt
        have hlt' : (i : Int) < len := by omega
        have HLT := Lib.hid hlt
        have HNN := Lib.hid hn
        have hsz := HS.out n (List.mem_of_getElem? hn)
        have HP := Lib.hid (fun W1 => pathValid_c n.p (by omega) W1)
        obtain ⟨vp, hvp⟩ : ∃ vp, vpB n.p = vp := ⟨_, rfl⟩
        have HP := Lib.hid (fun W1 => show Calls Tryd.prog 49 #[.string n.p] W1 (BoolPost vp W1) by rw [← hvp]; exact pathValid_c n.p (by omega) W1)
        have HVP := Lib.hid hvp
        obtain ⟨lb, hlb⟩ : ∃ lb, lastB (ns.take i) = lb := ⟨_, rfl⟩
        rw [hlb]
        have HLB := Lib.hid hlb
        have HSZ := Lib.hid hsz
        obtain ⟨p, k, v⟩ := n
        clear hlt hn hi hsz hvp hlb
        simp only at HP HVP HSZ c0 c1 c2
        go_wp2_with fail
        refine (HP.out _).mono ?_
        rintro e W2 ⟨rfl, hb2⟩
        have q0 := box3_cell hb2 0
        have q1 := box3_cell hb2 1
        have q2 := box3_cell hb2 2
        simp at q0 q1 q2
        have HB2 := Lib.hid (below_next HB.out (below_next (below_box _ _) hb2))
        have HT2 := Lib.hid ((HT.out.below (below_box _ _)).below hb2)
        have hN2 : wr.heap.size < W2.heap.size := by have := hb2.size; simp at this; omega
        have HAN := Lib.hid (show ∀ u c, A u = some c → c < wr.heap.size from fun u c h => HT.out.lt h)
        clear c0 c1 c2 hb2
        cases vp with
        | false =>
          go_wp2
          refine bodyPost_ret (v := .tuple #[.pointer none, .bool false]) (by simp [results, Tryd.f43, go_sem]) rfl (of_bad (not_next HNN.out (by have := HE.out; have := HL.out; omega) HV.out (fun h => ?_)) HB2.out)
          have := h.1
          rw [show vpB p = false from HVP.out] at this; cases this
        | true =>
          obtain ⟨lq, hlq⟩ : ∃ lq, ltB lb p = lq := ⟨_, rfl⟩
          have hle := leq_of p lb
          rw [hlq] at hle
          have HLQ := Lib.hid hlq
          have HVC := Lib.hid (fun W1 => implValid_c k v W1)
          obtain ⟨vb, hvb⟩ : ∃ vb, validB k v = vb := ⟨_, rfl⟩
          rw [hvb] at HVC
          have HVB := Lib.hid hvb
          clear hlq hvb
          cases lq with
          | false =>
            go_wp2
            refine bodyPost_ret (v := .tuple #[.pointer none, .bool false]) (by simp [results, Tryd.f43, go_sem]) rfl (of_bad (not_next HNN.out (by have := HE.out; have := HL.out; omega) HV.out (fun h => ?_)) HB2.out)
            have := ((next_iff _ _).1 h).2.1
            rw [HLB.out, show ltB lb p = false from HLQ.out] at this; cases this
          | true =>
            go_wp2_with fail
            refine (HVC.out _).mono ?_
            rintro e W3 ⟨rfl, hb3⟩
            have r0 := cell_kept hb3 q0
            have r1 := cell_kept hb3 q1
            have r2 := cell_kept hb3 q2
            have HB3 := Lib.hid (below_next HB2.out hb3)
            have HT3 := Lib.hid (HT2.out.below hb3)
            have hN3 : wr.heap.size < W3.heap.size := by have := hb3.size; omega
            clear q0 q1 q2 hb3
            cases vb with
            | false =>
              go_wp2
              refine bodyPost_ret (v := .tuple #[.pointer none, .bool false]) (by simp [results, Tryd.f43, go_sem]) rfl (of_bad (not_next HNN.out (by have := HE.out; have := HL.out; omega) HV.out (fun h => ?_)) HB3.out)
              have := ((next_iff _ _).1 h).2.2.1
              rw [show validB k v = false from HVB.out] at this; cases this
            | true =>
              by_cases hk0 : k = 0
              · have hkb : (k == 0) = true := by rw [hk0]; rfl
                have HK0 := Lib.hid hk0
                clear hk0
                go_wp2
                refine bodyPost_ret (v := .tuple #[.pointer none, .bool false]) (by simp [results, Tryd.f43, go_sem]) rfl (of_bad (not_next HNN.out (by have := HE.out; have := HL.out; omega) HV.out (fun h => ?_)) HB3.out)
                exact ((next_iff _ _).1 h).2.2.2.1 HK0.out
              · have hkb : (k == 0) = false := by simpa using hk0
                have HK0 := Lib.hid hk0
                clear hk0
                obtain ⟨w, hw, hpw⟩ := vpB_word HVP.out
                have hne : w ≠ [] := by
                  rintro rfl
                  have hx := above_last HV.out (by rw [HLB.out]; exact HLQ.out)
                  rw [hpw, pB_root, ltB_irrefl] at hx; cases hx
                have HW := Lib.hid hw
                have HPW := Lib.hid hpw
                have HNE := Lib.hid hne
                have hpar : parentB p = pB w.dropLast := by rw [hpw]; exact parB_pB hw hne
                have HPP := Lib.hid (fun W1 => show Calls Tryd.prog 72 #[.string p] W1 (fun e w' => e = .returned (.string (pB w.dropLast)) ∧ Below W1.heap.size W1 w') by rw [← hpar]; exact pathParent_c p HSZ.out W1)
                clear hpar hw hpw hne
                go_wp2_with fail
                refine (HPP.out _).mono ?_
                rintro e W4 ⟨rfl, hb4⟩
                have s0 := cell_kept hb4 r0
                have s1 := cell_kept hb4 r1
                have s2 := cell_kept hb4 r2
                have HB4 := Lib.hid (below_next HB3.out hb4)
                have HT4 := Lib.hid (HT3.out.below hb4)
                have hN4 : wr.heap.size < W4.heap.size := by have := hb4.size; omega
                clear r0 r1 r2 hb4
                go_wp2_with fail
                refine (at_c A _ _ HW.out.dropLast _ HT4.out _ HA0.out).mono ?_
                rintro e W5 ⟨A5, b5, rfl, hb5, hT5, hX5, hO5⟩
                have hoff5 := hO5
                have u0 : W5.cell? ⟨wr.heap.size, 0, none⟩ = some (.string p) := (off_cell hO5 hN4 HAN.out 0).trans s0
                have u1 : W5.cell? ⟨wr.heap.size, 1, none⟩ = some (.int .i64 k) := (off_cell hO5 hN4 HAN.out 1).trans s1
                have u2 : W5.cell? ⟨wr.heap.size, 2, none⟩ = some (.int .i64 v) := (off_cell hO5 hN4 HAN.out 2).trans s2
                have HB5 := Lib.hid (HB4.out.trans (hO5.below HB4.out.size HA.out))
                have HA5 := Lib.hid (ext_from hX5 HB4.out.size HA.out)
                have HAN5 := Lib.hid (ext_box hX5 (show wr.heap.size < W4.heap.size from hN4) HAN.out)
                have HR5 := Lib.hid ((hX5 [] _).1 HA0.out)
                have HT5 := Lib.hid hT5
                have t0 := hT5.cell hb5 0
                have hN5 : wr.heap.size < W5.heap.size := by have := hO5.size; omega
                have HB5' := Lib.hid hb5
                obtain ⟨k5, hk5⟩ : ∃ k5, k5 = (Fof (ns.take i) w.dropLast).1 := ⟨_, rfl⟩
                have t0' : W5.cell? ⟨b5, 0, none⟩ = some (.int .i64 k5) := by rw [hk5]; exact t0
                have HK5 := Lib.hid hk5
                clear s0 s1 s2 hO5 hoff5 hX5 hT5 t0 hb5 hk5
                by_cases h1 : k5 = 1
                · have hkb1 : (k5 == 1) = true := by rw [h1]; rfl
                  have H1 := Lib.hid h1
                  clear h1
                  go_upto_region 14 with (fail)
                  have HS0 := Lib.hid (show W5.drew.cell? ⟨wr.heap.size, 0, none⟩ = some (.string p) ∧ W5.drew.cell? ⟨wr.heap.size, 1, none⟩ = some (.int .i64 k) ∧ W5.drew.cell? ⟨wr.heap.size, 2, none⟩ = some (.int .i64 v) from ⟨u0, u1, u2⟩)
                  have HAT := Lib.hid (show Calls Tryd.prog 46 #[.pointer (some ⟨W.heap.size, 0, none⟩), .string p] W5.drew (AtPost A5 (Fof (ns.take i)) w W5.drew) by
                    rw [HPW.out]; exact at_c A5 _ w HW.out W5.drew (HT5.out.kept (W' := W5.drew) fun _ _ _ => rfl) _ HR5.out)
                  refine wp_region_held_drew (S := (fun w' => w'.cell? ⟨wr.heap.size, 0, none⟩ = some (.string p) ∧ w'.cell? ⟨wr.heap.size, 1, none⟩ = some (.int .i64 k) ∧ w'.cell? ⟨wr.heap.size, 2, none⟩ = some (.int .i64 v))) (by kernel_rfl) HS0.out (fun hH => ?_)
                  refine wpAnyH_take (i := 0) (oi := _) (v := ?_) rfl (by kernel_rfl) (by kernel_rfl) (by kernel_rfl) (fun _ _ _ h => h) (Or.inl ⟨by rfl, ?_⟩) (by assumption) ?_
                  rotate_left
                  · (intro w hSw; (try dsimp only at hSw); go_simp; try with_reducible rfl)
                  try simp only [Act.put, List.getElem_toArray, List.getElem_cons_zero, List.setIfInBounds_toArray, List.set_cons_zero, List.set_cons_succ]
                  refine wpAnyH_take (i := 1) (oi := _) (v := ?_) rfl (by kernel_rfl) (by kernel_rfl) (by kernel_rfl) (fun _ _ _ h => h) (Or.inl ⟨by rfl, ?_⟩) (by assumption) ?_
                  rotate_left
                  · (intro w hSw; (try dsimp only at hSw); go_simp; try with_reducible rfl)
                  try simp only [Act.put, List.getElem_toArray, List.getElem_cons_zero, List.getElem_cons_succ, List.setIfInBounds_toArray, List.set_cons_zero, List.set_cons_succ]
                  refine wpAnyH_take (i := 2) (oi := _) (v := ?_) rfl (by kernel_rfl) (by kernel_rfl) (by kernel_rfl) (fun _ _ _ h => h) (Or.inl ⟨by rfl, ?_⟩) (by assumption) ?_
                  rotate_left
                  · (intro w hSw; (try dsimp only at hSw); go_simp; try with_reducible rfl)
                  try simp only [Act.put, List.getElem_toArray, List.getElem_cons_zero, List.getElem_cons_succ, List.setIfInBounds_toArray, List.set_cons_zero, List.set_cons_succ]
                  refine wpAnyH_take (i := 4) (oi := _) (v := ?_) rfl (by kernel_rfl) (by kernel_rfl) (by kernel_rfl) (fun _ _ _ h => h) (Or.inl ⟨by rfl, ?_⟩) (by assumption) ?_
                  rotate_left
                  · (intro w hSw; (try dsimp only at hSw); go_simp; try with_reducible rfl)
                  try simp only [Act.put, List.getElem_toArray, List.getElem_cons_zero, List.getElem_cons_succ, List.setIfInBounds_toArray, List.set_cons_zero, List.set_cons_succ]
                  refine wpAnyH_take (i := 5) (oi := _) (v := ?_) rfl (by kernel_rfl) (by kernel_rfl) (by kernel_rfl) (fun _ _ _ h => h) (Or.inl ⟨by rfl, ?_⟩) (by assumption) ?_
                  rotate_left
                  · (intro w hSw; (try dsimp only at hSw); go_simp; try with_reducible rfl)
                  try simp only [Act.put, List.getElem_toArray, List.getElem_cons_zero, List.getElem_cons_succ, List.setIfInBounds_toArray, List.set_cons_zero, List.set_cons_succ]
                  refine wpAnyH_ready (rs := [3]) (by kernel_rfl) (by simp) ?_
                  refine AllReadyH.cons rfl (fun K hK => ?_) (AllReadyH.nil)
                  go_simp
                  go_at_call 46; (with_reducible refine (HAT.out).mono ?_); rintro e W6 ⟨A6, b6, rfl, hb6, hT6, hX6, hO6⟩
                  refine hK.out _ _ ⟨(off_cell2 hO6 hN5 HAN5.out 0).trans u0, (off_cell2 hO6 hN5 HAN5.out 1).trans u1, (off_cell2 hO6 hN5 HAN5.out 2).trans u2⟩ (fun hHeld => ?_)
                  try simp only [Act.put, List.getElem_toArray, List.getElem_cons_zero, List.getElem_cons_succ, List.setIfInBounds_toArray, List.set_cons_zero, List.set_cons_succ]
                  have f60 := hT6.frozen hb6 0
                  have f61 := hT6.frozen hb6 1
                  have c60 := hT6.cell hb6 0
                  have c61 := hT6.cell hb6 1
                  simp only [plc, List.getElem?_toArray, List.getElem?_cons_zero, List.getElem?_cons_succ] at c60 c61
                  refine wpAnyH_take (i := 6) (oi := _) (v := ?_) rfl (by kernel_rfl) (by kernel_rfl) (by kernel_rfl) (fun _ _ _ h => h) (Or.inl ⟨by rfl, ?_⟩) (by assumption) ?_
                  rotate_left
                  · (intro w hSw; (try dsimp only at hSw); go_simp; try with_reducible rfl)
                  try simp only [Act.put, List.getElem_toArray, List.getElem_cons_zero, List.getElem_cons_succ, List.setIfInBounds_toArray, List.set_cons_zero, List.set_cons_succ]
                  refine wpAnyH_take (i := 7) (oi := _) (v := ?_) rfl (by kernel_rfl) (by kernel_rfl) (by kernel_rfl) (fun _ _ _ h => h) (Or.inl ⟨by rfl, ?_⟩) (by assumption) ?_
                  rotate_left
                  · (intro w hSw; (try dsimp only at hSw); go_simp; try with_reducible rfl)
                  try simp only [Act.put, List.getElem_toArray, List.getElem_cons_zero, List.getElem_cons_succ, List.setIfInBounds_toArray, List.set_cons_zero, List.set_cons_succ]
                  refine wpAnyH_ready (rs := [8]) (by kernel_rfl) (by simp) ?_
                  refine AllReadyH.cons rfl (fun K hK => ?_) (AllReadyH.nil)
                  go_simp
                  have hAw6 := ext_away hX6 (show wr.heap.size < W5.drew.heap.size from hN5) HAN5.out
                  have hnb : wr.heap.size ≠ b6 := fun e => hAw6 w (by rw [e]; exact hb6)
                  have HEND := Lib.hid (of_step (k := k) (v := v) HNN.out HV.out HW.out HNE.out HPW.out (by rw [HLB.out]; exact HLQ.out) HVB.out HK0.out (by have h7 := HK5.out; rw [H1.out] at h7; exact h7.symm) (by have := HE.out; have := HL.out; omega) hT6 hb6)
                  have HB6 := Lib.hid (show Below W.heap.size W ((W6.setCell ⟨b6, 0, none⟩ (.int .i64 k)).setCell ⟨b6, 1, none⟩ (.int .i64 v)) from
                    ((HB5.out.trans (show Below W.heap.size W5 W6 from ⟨hO6.os, hO6.tape, hO6.output, hO6.size, fun j hj => hO6.block j (by have := HB5.out.size; show j < W5.heap.size; omega) fun u e => by have := HA5.out u j e; omega⟩)).setCell (ext_from hX6 (show W.heap.size ≤ W5.drew.heap.size from HB5.out.size) HA5.out w b6 hb6) _).setCell (ext_from hX6 (show W.heap.size ≤ W5.drew.heap.size from HB5.out.size) HA5.out w b6 hb6) _)
                  have HA6 := Lib.hid (ext_from hX6 (show W.heap.size ≤ W5.drew.heap.size from HB5.out.size) HA5.out)
                  have HR6 := Lib.hid ((hX6 [] _).1 HR5.out)
                  have z0 : ((W6.setCell ⟨b6, 0, none⟩ (.int .i64 k)).setCell ⟨b6, 1, none⟩ (.int .i64 v)).cell? ⟨wr.heap.size, 0, none⟩ = some (.string p) := (past2 hnb).trans ((off_cell2 hO6 hN5 HAN5.out 0).trans u0)
                  refine hK.out _ _ ⟨z0, (past2 hnb).trans ((off_cell2 hO6 hN5 HAN5.out 1).trans u1), (past2 hnb).trans ((off_cell2 hO6 hN5 HAN5.out 2).trans u2)⟩ (fun hHeld => ?_)
                  try simp only [Act.put, List.getElem_toArray, List.getElem_cons_zero, List.getElem_cons_succ, List.setIfInBounds_toArray, List.set_cons_zero, List.set_cons_succ]
                  refine wpAnyH_done (by kernel_rfl) ?_ _
                  clear hK hO6 hX6 hT6 hb6 f60 f61 c60 c61 u0 u1 u2 t0'
                  generalize (W6.setCell ⟨b6, 0, none⟩ (.int .i64 k)).setCell ⟨b6, 1, none⟩ (.int .i64 v) = W7 at HEND HB6 z0 ⊢
                  go_wp2
                  go_roundw
                  case rel => exact ⟨i + 1, A6, by go_num, by have := HE.out; have := HLT.out; omega, by rw [take_next HNN.out, lastB_app], HEND.out.1, HEND.out.2, HR6.out, HA6.out, HB6.out⟩
                  case measure => have := HLT.out; simp [intOf]; omega
                · have hkb1 : (k5 == 1) = false := by simpa using h1
                  have H1 := Lib.hid h1
                  clear h1
                  go_wp2
                  refine bodyPost_ret (v := .tuple #[.pointer none, .bool false]) (by simp [results, Tryd.f43, go_sem]) rfl (of_bad (not_next HNN.out (by have := HE.out; have := HL.out; omega) HV.out (fun h => ?_)) HB5.out)
                  have := ((next_iff _ _).1 h).2.2.2.2
                  rw [show (⟨p, k, v⟩ : Nd).p = p from rfl, HPW.out, parB_pB HW.out HNE.out] at this
                  exact H1.out (HK5.out.trans this)
      · have hge : (len : Int) ≤ i := by omega
        have hieq : i = len := by have := HE.out; omega
        have htk : ns.take i = ns := List.take_of_length_le (by have := HE.out; omega)
        rw [htk] at HV HT
        go_wp2
        refine bodyPost_ret (v := .tuple #[.pointer (some ⟨W.heap.size, 0, none⟩), .bool true]) (by simp [results, Tryd.f43, go_sem]) rfl ⟨HB.out, .inr ⟨HV.out, A, W.heap.size, rfl, HA0.out, HT.out, HA.out⟩⟩

end Go.Proofs.YtnmpbocnbcokeaaDoor

/-
  WALKS: impl.TreeValid, impl.TreeGet.
-/
namespace Go.Proofs.YtnmpbocnbcokeaaDoor
open Go.RowKit
set_option linter.unusedVariables false

set_option maxHeartbeats 1000000 in
set_option maxRecDepth 100000 in
theorem implTreeValid_c (a : Option Addr) (len cap : Nat) (ns : List Nd) (hl : len ≤ 2097152) (hs : Short 2097152 ns) (W : World) (hN : NodesAt W a len ns) :
    Calls Tryd.prog 48 #[.slice a len cap] W (BoolPost (validT ns) W) := by
  have H := Lib.hid (treeOf_c a len cap ns hl hs W hN)
  clear hN hs
  go_enter Tryd.func48, Tryd.ntmps48
  go_wp2_with fail
  refine H.out.mono ?_
  rintro e W2 ⟨hB, ⟨hv, rfl⟩ | ⟨hv, A, b, rfl, _, _, _⟩⟩
  · have HV := Lib.hid hv
    clear hv
    go_wp2
    go_ret
    exact ⟨ret_bool HV.out.symm, hB⟩
  · have HV := Lib.hid hv
    clear hv
    go_wp2
    go_ret
    exact ⟨ret_bool HV.out.symm, hB⟩

theorem treeGet_bad {ns : List Nd} {p : ByteArray} (h : validT ns = false ∨ vpB p = false) : treeGet ns p = (0, 0) := by
  unfold treeGet
  rcases h with h | h <;> simp [h]

set_option maxHeartbeats 2000000 in
set_option maxRecDepth 100000 in
theorem implTreeGet_c (a : Option Addr) (len cap : Nat) (ns : List Nd) (p : ByteArray) (hl : len ≤ 2097152) (hs : Short 2097152 ns) (hp : p.size ≤ 2097152) (W : World) (hN : NodesAt W a len ns) :
    Calls Tryd.prog 16 #[.slice a len cap, .string p] W (ConRet (treeGet ns p).1 (treeGet ns p).2 W) := by
  have H := Lib.hid (fun W1 (hb : Below W.heap.size W W1) => treeOf_c a len cap ns hl hs W1 (hN.keep hb))
  have HS := Lib.hid hs
  have HN := Lib.hid hN
  obtain ⟨vp, hvp⟩ : ∃ vp, vpB p = vp := ⟨_, rfl⟩
  have HP := Lib.hid (fun W1 => show Calls Tryd.prog 49 #[.string p] W1 (BoolPost vp W1) by rw [← hvp]; exact pathValid_c p (by omega) W1)
  have HVP := Lib.hid hvp
  clear hN hs hvp
  go_enter Tryd.func16, Tryd.ntmps16
  go_wp2_with fail
  refine (H.out _ (below_box _ _)).mono ?_
  rintro e W2 ⟨hB, h⟩
  rcases h with ⟨hv, rfl⟩ | ⟨hv, A, b, rfl, hA0, hT, hA⟩
  · have HG := Lib.hid (treeGet_bad (p := p) (.inl hv))
    have T1 := Lib.hid ((two_new W _ _ _).below hB)
    have B1 := Lib.hid (below_next (below_box W _) hB)
    obtain ⟨g0, g1, f0, f1, -⟩ := T1.out
    clear hv hB
    go_wp2
    exact conS_set 4 _ rfl HG.out T1.out B1.out rfl
  · have HV := Lib.hid hv
    have HB1 := Lib.hid hB
    have HT := Lib.hid hT
    have HA := Lib.hid hA
    have HA0 := Lib.hid hA0
    clear hv hB hT hA hA0
    go_wp2_with fail
    refine (HP.out _).mono ?_
    rintro e W3 ⟨rfl, hb3⟩
    cases vp with
    | false =>
      have HG := Lib.hid (treeGet_bad (ns := ns) (p := p) (.inr HVP.out))
      have T1 := Lib.hid (((two_new W _ _ _).below HB1.out).below hb3)
      have B1 := Lib.hid (below_next (below_box W _) (below_next HB1.out hb3))
      obtain ⟨g0, g1, f0, f1, -⟩ := T1.out
      clear hb3
      go_wp2
      exact conS_set 4 _ rfl HG.out T1.out B1.out rfl
    | true =>
      obtain ⟨w, hw, hpw⟩ := vpB_word HVP.out
      have HG := Lib.hid (show treeGet ns p = ((Fof ns w).1, (Fof ns w).2) by rw [treeGet_eq HV.out HVP.out, hpw]; rfl)
      have HB3 := Lib.hid (below_next HB1.out hb3)
      have HAT := Lib.hid (show Calls Tryd.prog 46 #[.pointer (some ⟨b, 0, none⟩), .string p] W3 (AtPost A (Fof ns) w W3) by
        rw [hpw]; exact at_c A _ w hw W3 (HT.out.below hb3) _ HA0.out)
      clear hb3 hw hpw
      go_wp2_with fail
      refine HAT.out.mono ?_
      rintro e W4 ⟨A4, b4, rfl, hb4, hT4, hX4, hO4⟩
      have HB4 := Lib.hid (HB3.out.trans (hO4.below (m := (W.alloc (.cells #[.int .i64 0, .int .i64 0] 25)).heap.size) HB3.out.size HA.out))
      have T1 := Lib.hid ((two_new W _ _ _).below HB4.out)
      have B1 := Lib.hid (below_next (below_box W _) HB4.out)
      obtain ⟨g0, g1, f0, f1, -⟩ := T1.out
      have c0 := hT4.cell hb4 0
      have c1 := hT4.cell hb4 1
      have c0' : W4.cell? ⟨b4, 0, none⟩ = some (.int .i64 (Fof ns w).1) := c0
      have c1' : W4.cell? ⟨b4, 1, none⟩ = some (.int .i64 (Fof ns w).2) := c1
      clear hO4 hX4 hT4 hb4 c0 c1
      generalize (Fof ns w).1 = k at c0' HG
      generalize (Fof ns w).2 = v at c1' HG
      go_wp2
      exact conS_set 4 _ rfl HG.out T1.out B1.out rfl

end Go.Proofs.YtnmpbocnbcokeaaDoor

/-
  TEXTS OF PLACES: what stands ahead of a name (strings.TrimSuffix of a slash, and a slash).
-/
namespace Go.Proofs.YtnmpbocnbcokeaaDoor
open Go.RowKit

def begB (v : List UInt8) : ByteArray := if v = [] then ⟨#[47]⟩ else pB v ++ ⟨#[47]⟩

theorem begB_name (v : List UInt8) (c : UInt8) : begB v ++ ⟨#[c]⟩ = pB (v ++ [c]) := by
  unfold begB
  by_cases h : v = []
  · rw [if_pos h, h]; rfl
  · rw [if_neg h]
    apply ByteArray.ext
    apply Array.ext'
    simp only [ByteArray.data_append, Array.toList_append]
    rw [pB_list, pB_list]
    unfold Pm.pathOf
    rw [if_neg h, if_neg (by simp), Pm.flat_append, List.append_assoc]
    rfl

theorem pB_last {v : List UInt8} (hv : Wrd v) (hn : v ≠ []) : ∃ m c, (pB v).size = m + 1 ∧ ((pB v).extract m (m + 1)).toList = [c] ∧ c ≠ 47 := by
  have e := Pm.flat_last v hn
  have hs : (pB v).data.toList = Pm.flat v.dropLast ++ [47, v.getLast hn] := by
    rw [pB_list]; unfold Pm.pathOf; rw [if_neg hn]; exact e
  have hz : (pB v).size = (Pm.flat v.dropLast ++ [47, v.getLast hn]).length := by rw [← hs]; rfl
  refine ⟨(Pm.flat v.dropLast).length + 1, v.getLast hn, by rw [hz]; simp, ?_, Pm.letter_not_47 (hv.2 _ (List.getLast_mem hn))⟩
  rw [Lib.toList_data, ByteArray.data_extract, Array.toList_extract, hs]
  simp [List.extract_eq_take_drop]

set_option maxHeartbeats 400000 in
set_option maxRecDepth 100000 in
theorem hasSuffix_word {v : List UInt8} (hv : Wrd v) (hn : v ≠ []) (w : World) :
    Calls Tryd.prog 98 #[.string (pB v), .string ⟨#[47]⟩] w fun e w' => e = .returned (.bool false) ∧ w' = w := by
  obtain ⟨m, c, h1, h2, h3⟩ := pB_last hv hn
  have hmax : m ≤ 7 := by
    have : (pB v).size ≤ 8 := by
      show (Pm.pathOf v).length ≤ 8
      unfold Pm.pathOf; rw [if_neg hn, Pm.flat_length]; have := hv.1; omega
    omega
  obtain ⟨s, hs⟩ : ∃ s, s = pB v := ⟨_, rfl⟩
  rw [← hs] at h1 h2 ⊢
  clear hs
  have e1 : ((m : Int) + 1 - 1).toNat = m := by omega
  have e2 : (c == 47) = false := by simpa using h3
  have e3 : (1 : Int) ≤ m + 1 := by omega
  clear h3
  go_enter Tryd.func98, Tryd.ntmps98
  go_wp2
  go_ret
  exact ⟨rfl, rfl⟩

set_option maxHeartbeats 400000 in
set_option maxRecDepth 100000 in
theorem hasSuffix_root (w : World) :
    Calls Tryd.prog 98 #[.string ⟨#[47]⟩, .string ⟨#[47]⟩] w fun e w' => e = .returned (.bool true) ∧ w' = w := by
  have h : (((⟨#[47]⟩ : ByteArray).extract 0 1).toList == [47]) = true := by rw [Lib.toList_data]; rfl
  go_enter Tryd.func98, Tryd.ntmps98
  go_wp2
  go_ret
  exact ⟨rfl, rfl⟩

set_option maxHeartbeats 400000 in
set_option maxRecDepth 100000 in
theorem slTrim_c {v : List UInt8} (hv : Wrd v) (w : World) :
    Calls Tryd.prog 90 #[.string (pB v), .string ⟨#[47]⟩] w fun e w' => e = .returned (.string (if v = [] then ⟨#[]⟩ else pB v)) ∧ w' = w := by
  by_cases hn : v = []
  · subst hn
    rw [if_pos rfl]
    have hc := fun w => hasSuffix_root w
    show Calls Tryd.prog 90 #[.string ⟨#[47]⟩, .string ⟨#[47]⟩] w _
    go_enter Tryd.func90, Tryd.ntmps90
    go_wp2_with (go_at_call 98; refine (hc _).mono ?_; rintro e w' ⟨rfl, rfl⟩)
    go_ret
    exact ⟨rfl, rfl⟩
  · rw [if_neg hn]
    have hc := fun w => hasSuffix_word hv hn w
    generalize pB v = s at hc ⊢
    go_enter Tryd.func90, Tryd.ntmps90
    go_wp2_with (go_at_call 98; refine (hc _).mono ?_; rintro e w' ⟨rfl, rfl⟩)
    go_ret
    exact ⟨rfl, rfl⟩

set_option maxHeartbeats 400000 in
set_option maxRecDepth 100000 in
theorem trim_c {v : List UInt8} (hv : Wrd v) (w : World) :
    Calls Tryd.prog 76 #[.string (pB v), .string ⟨#[47]⟩] w fun e w' => e = .returned (.string (if v = [] then ⟨#[]⟩ else pB v)) ∧ w' = w := by
  have hc := fun w => slTrim_c hv w
  generalize pB v = s at hc ⊢
  generalize (if v = [] then (⟨#[]⟩ : ByteArray) else s) = t at hc ⊢
  go_enter Tryd.func76, Tryd.ntmps76
  go_wp2_with (go_at_call 90; refine (hc _).mono ?_; rintro e w' ⟨rfl, rfl⟩)
  go_ret
  exact ⟨rfl, rfl⟩

theorem beg_eq (v : List UInt8) : (if v = [] then (⟨#[]⟩ : ByteArray) else pB v) ++ ⟨#[47]⟩ = begB v := by
  unfold begB; split <;> rfl

end Go.Proofs.YtnmpbocnbcokeaaDoor

/-
  WALKS: the nodes behind a place (impl.place.nodes).
-/
namespace Go.Proofs.YtnmpbocnbcokeaaDoor
open Go.RowKit
set_option linter.unusedVariables false

/-- What is behind one letter. -/
def part (F : List UInt8 → Int × Int) (d : Nat) (w : List UInt8) (c : UInt8) : List Nd := oneAt F (w ++ [c]) ++ lst F d (w ++ [c])
def accN (F : List UInt8 → Int × Int) (d : Nat) (w : List UInt8) (n : Nat) : List Nd := (letters.take n).flatMap (part F d w)

theorem accN_four (F : List UInt8 → Int × Int) (d : Nat) (w : List UInt8) : accN F d w 4 = lst F (d + 1) w := rfl

theorem lst_len (F : List UInt8 → Int × Int) : ∀ (d : Nat) (w : List UInt8), (lst F d w).length + 1 ≤ 8 ^ d
  | 0, _ => by simp [lst]
  | d + 1, w => by
    have ho : ∀ u, (oneAt F u).length ≤ 1 := fun u => by unfold oneAt; split <;> simp
    have h1 := lst_len F d (w ++ [97])
    have h2 := lst_len F d (w ++ [98])
    have h3 := lst_len F d (w ++ [99])
    have h4 := lst_len F d (w ++ [100])
    have o1 := ho (w ++ [97])
    have o2 := ho (w ++ [98])
    have o3 := ho (w ++ [99])
    have o4 := ho (w ++ [100])
    have e : (lst F (d + 1) w).length = ((oneAt F (w ++ [97])).length + (lst F d (w ++ [97])).length) + (((oneAt F (w ++ [98])).length + (lst F d (w ++ [98])).length) + (((oneAt F (w ++ [99])).length + (lst F d (w ++ [99])).length) + ((oneAt F (w ++ [100])).length + (lst F d (w ++ [100])).length))) := by
      rw [show lst F (d + 1) w = letters.flatMap (part F d w) from rfl]
      unfold letters
      simp only [List.flatMap_cons, List.flatMap_nil, List.length_append, List.length_nil, Nat.add_zero]
      unfold part
      simp only [List.length_append]
    rw [e, Nat.pow_succ]
    have : 1 ≤ 8 ^ d := Nat.one_le_pow _ _ (by omega)
    omega

theorem lst_le {F : List UInt8 → Int × Int} {d : Nat} (hd : d ≤ 4) (w : List UInt8) : (lst F d w).length ≤ 4096 := by
  have h := lst_len F d w
  have : 8 ^ d ≤ 8 ^ 4 := Nat.pow_le_pow_right (by omega) hd
  omega

theorem accN_le {F : List UInt8 → Int × Int} {d : Nat} (hd : d < 4) (w : List UInt8) (n : Nat) : (accN F d w n).length ≤ 4096 := by
  have h : (accN F d w n).length ≤ (lst F (d + 1) w).length := by
    unfold accN
    rw [show lst F (d + 1) w = (letters.take n ++ letters.drop n).flatMap (part F d w) by rw [List.take_append_drop]; rfl, List.flatMap_append, List.length_append]
    omega
  have := lst_le (F := F) (show d + 1 ≤ 4 by omega) w
  omega

theorem accN_next (F : List UInt8 → Int × Int) (d : Nat) (w : List UInt8) {n : Nat} (hn : n < 4) : accN F d w (n + 1) = accN F d w n ++ part F d w (UInt8.ofNat (97 + n)) := by
  rcases (by omega : n = 0 ∨ n = 1 ∨ n = 2 ∨ n = 3) with rfl | rfl | rfl | rfl <;> simp [accN, letters] <;> rfl

theorem oneAt_zero {F : List UInt8 → Int × Int} {u : List UInt8} (h : (F u).1 = 0) : oneAt F u = [] := if_pos h
theorem oneAt_some {F : List UInt8 → Int × Int} {u : List UInt8} (h : (F u).1 ≠ 0) : oneAt F u = [ndAt F u] := if_neg h

theorem none_down {W : World} {A : List UInt8 → Option Nat} {F : List UInt8 → Int × Int} (h : Trie W A F) {w : List UInt8} (hn : A w = none) : ∀ u, A (w ++ u) = none := by
  intro u
  generalize hl : u.length = n
  induction n generalizing u with
  | zero => rw [List.length_eq_zero_iff.1 hl, List.append_nil]; exact hn
  | succ n ih =>
    have hu : u ≠ [] := fun e => by rw [e] at hl; cases hl
    have e := List.dropLast_concat_getLast hu
    rw [← e, ← List.append_assoc]
    exact h.up _ _ (ih _ (by rw [List.length_dropLast, hl]; rfl))

theorem part_none {W : World} {A : List UInt8 → Option Nat} {F : List UInt8 → Int × Int} (h : Trie W A F) {w : List UInt8} (hw : Wrd w) {d : Nat} (hd : w.length + (d + 1) ≤ 4) {c : UInt8} (hc : Pm.letter c = true) (hn : A (w ++ [c]) = none) : part F d w c = [] := by
  have hz : ∀ u, Wrd (w ++ [c] ++ u) → F (w ++ [c] ++ u) = (0, 0) := fun u hu => h.nil _ hu (none_down h hn u)
  have hwc : ∀ u, u.length ≤ d → (∀ x ∈ u, Pm.letter x = true) → Wrd (w ++ [c] ++ u) := fun u hu hl => ⟨by simp; omega, fun x hx => by
    rcases List.mem_append.1 hx with hx | hx
    · rcases List.mem_append.1 hx with hx | hx
      · exact hw.2 x hx
      · rw [List.mem_singleton.1 hx]; exact hc
    · exact hl x hx⟩
  unfold part
  rw [oneAt_zero, List.nil_append, List.eq_nil_iff_forall_not_mem]
  · intro x hx
    obtain ⟨c', u, h1, h2, h3, _⟩ := mem_lst.1 hx
    rw [hz (c' :: u) (hwc _ (by rw [List.length_cons]; omega) h2)] at h3
    exact h3 rfl
  · have := hz [] (hwc [] (by simp) (by simp))
    rw [List.append_nil] at this
    rw [this]

theorem letter_nth {n : Nat} (hn : n < 4) : Pm.letter (UInt8.ofNat (97 + n)) = true := by
  rcases (by omega : n = 0 ∨ n = 1 ∨ n = 2 ∨ n = 3) with rfl | rfl | rfl | rfl <;> decide

set_option maxHeartbeats 1000000 in
set_option maxRecDepth 100000 in
theorem index4 (a0 a1 a2 a3 : Option Nat) (W : World) : (Instr.index 72 (.agg #[ptrTo a0, ptrTo a1, ptrTo a2, ptrTo a3]) (.int .i64 0)).run Tryd.prog W = .ok (ptrTo a0) W ∧ (Instr.index 72 (.agg #[ptrTo a0, ptrTo a1, ptrTo a2, ptrTo a3]) (.int .i64 1)).run Tryd.prog W = .ok (ptrTo a1) W
    ∧ (Instr.index 72 (.agg #[ptrTo a0, ptrTo a1, ptrTo a2, ptrTo a3]) (.int .i64 2)).run Tryd.prog W = .ok (ptrTo a2) W ∧ (Instr.index 72 (.agg #[ptrTo a0, ptrTo a1, ptrTo a2, ptrTo a3]) (.int .i64 3)).run Tryd.prog W = .ok (ptrTo a3) W := by
  have h : Tryd.prog.underlying 72 = some (.array 4 69) := by kernel_rfl
  refine ⟨?_, ?_, ?_, ?_⟩ <;> simp [Instr.index, asIntOf, run_underlying h, go_sem, ptrTo]

theorem indexKid (A : List UInt8 → Option Nat) (w : List UInt8) {n : Nat} (hn : n < 4) (W : World) :
    (Instr.index 72 (.agg #[ptrTo (A (w ++ [97])), ptrTo (A (w ++ [98])), ptrTo (A (w ++ [99])), ptrTo (A (w ++ [100]))]) (.int .i64 n)).run Tryd.prog W = .ok (ptrTo (A (w ++ [UInt8.ofNat (97 + n)]))) W := by
  obtain ⟨h0, h1, h2, h3⟩ := index4 (A (w ++ [97])) (A (w ++ [98])) (A (w ++ [99])) (A (w ++ [100])) W
  rcases (by omega : n = 0 ∨ n = 1 ∨ n = 2 ∨ n = 3) with rfl | rfl | rfl | rfl
  · exact h0
  · exact h1
  · exact h2
  · exact h3

theorem indexNone {n : Nat} (hn : n < 4) (W : World) :
    (Instr.index 72 (.agg #[.pointer none, .pointer none, .pointer none, .pointer none]) (.int .i64 n)).run Tryd.prog W = .ok (.pointer none) W := by
  obtain ⟨h0, h1, h2, h3⟩ := index4 none none none none W
  rcases (by omega : n = 0 ∨ n = 1 ∨ n = 2 ∨ n = 3) with rfl | rfl | rfl | rfl
  · exact h0
  · exact h1
  · exact h2
  · exact h3

theorem encode_nth {n : Nat} (hn : n < 4) : Utf8.encode (97 + (n : Int)) = ⟨#[UInt8.ofNat (97 + n)]⟩ := by
  rcases (by omega : n = 0 ∨ n = 1 ∨ n = 2 ∨ n = 3) with rfl | rfl | rfl | rfl <;> rfl

theorem flatN_one_cell (ns : List Nd) : ∀ u ∈ flatN ns, u.oneCell' = true := by
  intro u hu
  unfold flatN at hu
  obtain ⟨n, _, hn⟩ := List.mem_flatMap.1 hu
  simp at hn
  rcases hn with rfl | rfl | rfl <;> rfl

theorem own_cells {W : World} {base : Nat} {e : TypeId} {ns : List Nd} {g cap : Nat} (h : W.ownsRow base e 3 (.slice (some ⟨g, 0, none⟩) ns.length cap) ns.length (flatN ns)) :
    ∀ j u, (flatN ns)[j]? = some u → W.cell? ((⟨g, 0, none⟩ : Addr).add j) = some u := by
  intro j u hj
  have hl := flatN_length ns
  have hj' := (List.getElem?_eq_some_iff.1 hj).1
  have := h.cellAt j (by omega)
  have e2 : ((⟨g, 0, none⟩ : Addr).add j) = ⟨g, j, none⟩ := by
    unfold Addr.add
    split
    · rename_i h0; rw [h0]
    · simp
  rw [e2]
  exact this.trans hj

theorem own_join {W : World} {b : Nat} {e : TypeId} {v : Value} {acc more : List Nd} (h : W.ownsRow b e 3 v (acc.length + more.length) (flatN acc ++ flatN more)) : W.ownsRow b e 3 v (acc ++ more).length (flatN (acc ++ more)) := by
  rw [flatN_append, List.length_append]; exact h

theorem own_cases {W : World} {base : Nat} {e : TypeId} {size n : Nat} {v : Value} {xs : List Value} (h : W.ownsRow base e size v n xs) : (v = .slice none 0 0 ∧ n = 0) ∨ ∃ g cap, v = .slice (some ⟨g, 0, none⟩) n cap := by
  rcases h.2 with h | ⟨g, cap, _, h, _⟩
  · exact .inl h
  · exact .inr ⟨g, cap, h⟩

/-- What nodes returns. -/
def NodesPost (F : List UInt8 → Int × Int) (d : Nat) (w : List UInt8) (W : World) (e : Ending) (W' : World) : Prop := OwnsNodes W.heap.size (lst F d w) e W' ∧ Below W.heap.size W W'

def NodesRel (F : List UInt8 → Int × Int) (d : Nat) (w : List UInt8) (W : World) (o i : Value) (wr : World) : Prop :=
  ∃ n : Nat, i = .int .i64 n ∧ n ≤ 4 ∧ wr.ownsRow W.heap.size 65 3 o (accN F d w n).length (flatN (accN F d w n)) ∧ Hid (Below W.heap.size W wr)

set_option maxHeartbeats 2000000 in
set_option maxRecDepth 100000 in
theorem nodes_c (A : List UInt8 → Option Nat) (F : List UInt8 → Int × Int) (d : Nat) : ∀ (w : List UInt8) (b : Nat) (W : World), w.length + d = 4 → Trie W A F → A w = some b →
    Calls Tryd.prog 47 #[.pointer (some ⟨b, 0, none⟩), .string (pB w)] W (NodesPost F d w W) := by
  induction d with
  | zero =>
    intro w b W hwd hT hb
    have hw := hT.wrd w b hb
    have hnone : ∀ c, A (w ++ [c]) = none := fun c => by
      cases h : A (w ++ [c]) with
      | none => rfl
      | some x =>
        have := (hT.wrd _ _ h).1
        rw [List.length_append, List.length_singleton] at this
        omega
    have hc := fun W => trim_c hw W
    have hbeg := beg_eq w
    have hts : (if w = [] then (⟨#[]⟩ : ByteArray) else pB w).size ≤ 8 := by
      split
      · decide
      · show (Pm.pathOf w).length ≤ 8
        unfold Pm.pathOf
        split
        · simp
        · rw [Pm.flat_length]; omega
    generalize (if w = [] then (⟨#[]⟩ : ByteArray) else pB w) = tr at hc hbeg hts
    generalize hp : pB w = p at hc ⊢
    have c0 := hT.cell hb 2
    have c1 := hT.cell hb 3
    have c2 := hT.cell hb 4
    have c3 := hT.cell hb 5
    simp only [plc, hnone, ptrTo] at c0 c1 c2 c3
    simp at c0 c1 c2 c3
    have HT := Lib.hid hT
    clear hp hT hb
    go_enter Tryd.func47, Tryd.ntmps47
    go_wp2_with (go_at_call 76; refine (hc _).mono ?_; rintro e w' ⟨rfl, rfl⟩)
    go_loop [5, 17] (fun o i => o = .slice none 0 0 ∧ ∃ n : Nat, i = .int .i64 n ∧ n ≤ 4) (fun _ i => 4 - (intOf i).toNat)
    case atStart => exact ⟨rfl, 0, rfl, by omega⟩
    case round =>
      obtain ⟨rfl, n, rfl, hn⟩ := hrel
      by_cases h4 : n = 4
      · subst h4
        go_wp2
        refine bodyPost_ret (v := .slice none 0 0) (by simp [results, Tryd.f47, go_sem]) rfl ⟨⟨.slice none 0 0, rfl, World.ownsRow_nil _ _ _ _⟩, Below.refl _ _⟩
      · have hni : (n : Int) < 4 := by omega
        have hni0 : (0 : Int) ≤ n := by omega
        have hidx := fun W => indexNone (show n < 4 by omega) W
        go_wp2
        go_round
        case rel => exact ⟨rfl, n + 1, by push_cast; rfl, by omega⟩
        case measure => simp [intOf]; omega
  | succ d ih =>
  intro w b W hwd hT hb
  obtain ⟨i0, hi, hz0, hz1, hz2⟩ := info_parts infoNode
  have hw := hT.wrd w b hb
  have HT := Lib.hid hT
  have HB := Lib.hid hb
  have HI := Lib.hid ih
  have hc := fun W => trim_c hw W
  have hbeg := beg_eq w
  have hts : (if w = [] then (⟨#[]⟩ : ByteArray) else pB w).size ≤ 8 := by
    split
    · decide
    · show (Pm.pathOf w).length ≤ 8
      unfold Pm.pathOf
      split
      · simp
      · rw [Pm.flat_length]; omega
  have hbs : (begB w).size ≤ 9 := by rw [← hbeg, ByteArray.size_append]; show _ + 1 ≤ 9; omega
  generalize (if w = [] then (⟨#[]⟩ : ByteArray) else pB w) = tr at hc hbeg hts
  generalize hp : pB w = p at hc ⊢
  have c0 := hT.cell hb 2
  have c1 := hT.cell hb 3
  have c2 := hT.cell hb 4
  have c3 := hT.cell hb 5
  simp [plc] at c0 c1 c2 c3
  clear hp hT hb ih
  go_enter Tryd.func47, Tryd.ntmps47
  go_wp2_with (go_at_call 76; refine (hc _).mono ?_; rintro e w' ⟨rfl, rfl⟩)

  have HBS := Lib.hid hbs
  clear hbeg hts hbs hc
  go_loopw [5, 17] (fun o i wr => NodesRel F d w w' o i wr) (fun _ i _ => 4 - (intOf i).toNat)
  case atStart => exact ⟨0, rfl, by omega, World.ownsRow_nil _ _ _ _, Below.refl _ _⟩
  case round =>
    obtain ⟨n, rfl, hn, hown, hB⟩ := hrel
    by_cases h4 : n = 4
    · subst h4
      go_wp2
      refine bodyPost_ret (v := u5) (by simp [results, Tryd.f47, go_sem]) rfl ⟨⟨u5, rfl, ?_⟩, hB⟩
      rw [← accN_four]; exact hown
    · have hn4 : n < 4 := by omega
      have hni : (n : Int) < 4 := by omega
      have hni0 : (0 : Int) ≤ n := by omega
      have hidx := fun W => indexKid A w hn4 W
      cases hk : A (w ++ [UInt8.ofNat (97 + n)]) with
      | none =>
        have hidx2 := fun W => (hidx W).trans (show _ = Result.ok (.pointer none) W by rw [hk]; rfl)
        clear hidx
        go_wp2
        go_roundw
        case rel =>
          refine ⟨n + 1, by push_cast; rfl, by omega, ?_, hB⟩
          rw [accN_next F d w hn4, part_none HT.out hw (by omega) (letter_nth hn4) hk, List.append_nil]; exact hown
        case measure => simp [intOf]; omega
      | some b' =>
        have hidx2 := fun W => (hidx W).trans (show _ = Result.ok (.pointer (some ⟨b', 0, none⟩)) W by rw [hk]; rfl)
        clear hidx
        have HL1 := Lib.hid (accN_le (F := F) (d := d) (by omega) w n)
        have henc := encode_nth hn4
        have hname := begB_name w (UInt8.ofNat (97 + n))
        have hbs := HBS.out
        have hc1 : ((⟨#[UInt8.ofNat (97 + n)]⟩ : ByteArray)).size = 1 := rfl
        have hwr : IntKind.i32.wrap (97 + (n : Int)) = 97 + n := by rw [IntKind.wrap_i32]; omega
        have hlet := letter_nth hn4
        have HACC := Lib.hid (accN_next F d w hn4)
        obtain ⟨c, hc⟩ : ∃ c, c = UInt8.ofNat (97 + n) := ⟨_, rfl⟩
        rw [← hc] at henc hname hc1 hlet HACC hk
        have HC := Lib.hid hc
        clear hc
        go_upto_region 8 with (fail)
        have HK := Lib.hid hk
        have HB2 := Lib.hid (show Wrd (w ++ [c]) from HT.out.wrd _ _ hk)
        have k0 := (HT.out.below hB.out).cell hk 0
        have k1 := (HT.out.below hB.out).cell hk 1
        simp only [plc] at k0 k1
        obtain ⟨k, hkk⟩ : ∃ k, k = (F (w ++ [c])).1 := ⟨_, rfl⟩
        obtain ⟨v, hvv⟩ : ∃ v, v = (F (w ++ [c])).2 := ⟨_, rfl⟩
        rw [← hkk] at k0
        rw [← hvv] at k1
        have k0' : wr.cell? ⟨b', 0, none⟩ = some (.int .i64 k) := k0
        have k1' : wr.cell? ⟨b', 1, none⟩ = some (.int .i64 v) := k1
        have HL2 := Lib.hid (lst_le (F := F) (d := d) (by omega) (w ++ [c]))
        clear k0 k1 hk hc1 hbs henc hidx2 hwr
        clear hname
        have HO := Lib.hid hown
        have HCALL := Lib.hid (fun W1 (hT1 : Trie W1 A F) => HI.out (w ++ [c]) b' W1 (by rw [List.length_append, List.length_singleton]; omega) hT1 HK.out)
        by_cases hk0 : k = 0
        · have hkb : (k == 0) = true := by rw [hk0]; rfl
          have HPART := Lib.hid (show part F d w c = lst F d (w ++ [c]) by unfold part; rw [oneAt_zero (by rw [← hkk]; exact hk0)]; rfl)
          subst hk0
          clear hown hkk hvv

          go_wp2_with fail
          refine (HCALL.out _ (HT.out.below hB.out)).mono ?_
          rintro e W2 ⟨⟨sl, rfl, ho2⟩, hb2⟩
          have hoa := own_below HO.out hb2
          have hB2 : Below w'.heap.size w' W2 := below_next hB.out hb2
          have H2 := Lib.hid ho2
          rcases own_cases ho2 with ⟨rfl, hz⟩ | ⟨g, cap, rfl⟩
          · have hz' : lst F d (w ++ [c]) = [] := List.length_eq_zero_iff.1 hz
            clear ho2 hb2 hz
            go_wp2_with (at_builtin; refine wpList_append_own_none rfl _ _ 23 rfl w'.heap.size 65 i0 3 Tryd.underlying23 hi _ _ _ rfl hoa rfl ?_)
            go_roundw
            case rel =>
              refine ⟨n + 1, by push_cast; rfl, by omega, ?_, hB2⟩
              rw [HACC.out, HPART.out, hz', List.append_nil]
              exact hoa
            case measure => simp [intOf]; omega
          · clear ho2 hb2
            go_wp2_with (at_builtin; refine wpList_append_own _ rfl _ _ 23 rfl w'.heap.size 65 i0 (.agg #[.string ⟨#[]⟩, .int .i64 0, .int .i64 0]) 3 32 Tryd.underlying23 hi hz0 hz1 hz2 rfl (by decide) _ _ _ rfl hoa ⟨g, 0, none⟩ _ cap (flatN (lst F d (w ++ [c]))) rfl (flatN_length _) (own_cells H2.out) (flatN_one_cell _) (by unfold maxLen; have := HL1.out; have := HL2.out; simp at this ⊢; omega) (by have := HL1.out; have := HL2.out; simp at this ⊢; omega) hB2.size ?_; intro v4 w4 ho4 hg4 hn4)
            have B4 : Below w'.heap.size w' w4 := hB2.grown hg4 hB2.size (fun g e => (hoa.lt g e).1)
            go_roundw
            case rel =>
              refine ⟨n + 1, by push_cast; rfl, by omega, ?_, B4⟩
              rw [HACC.out, HPART.out]
              exact own_join ho4
            case measure => simp [intOf]; omega

        · have hkb : (k == 0) = false := by simpa using hk0
          have HPART := Lib.hid (show part F d w c = [(⟨pB (w ++ [c]), k, v⟩ : Nd)] ++ lst F d (w ++ [c]) by unfold part; rw [oneAt_some (by rw [← hkk]; exact hk0)]; unfold ndAt; rw [← hkk, ← hvv])
          have hlt0 := hown.lt
          clear hown hkk hvv
          generalize hq : pB (w ++ [c]) = q at HCALL HPART ⊢
          go_wp2_with (at_builtin; refine wpList_append_own _ rfl _ _ 23 rfl w'.heap.size 65 i0 (.agg #[.string ⟨#[]⟩, .int .i64 0, .int .i64 0]) 3 32 Tryd.underlying23 hi hz0 hz1 hz2 rfl (by decide) _ _ _ rfl (HO.out.alloc _) ⟨wr.heap.size, 0, none⟩ 1 1 [.string q, .int .i64 k, .int .i64 v] rfl rfl (cell_three_new _ _ _ _ _) (fun x hx => by simp at hx; rcases hx with rfl | rfl | rfl <;> rfl) (by unfold maxLen; have := HL1.out; omega) (by have := HL1.out; omega) (by have := hB.out.size; simp; omega) ?_; intro v3 w3 ho3 hg3 hn3)
          have B3 : Below w'.heap.size w' w3 := (hB.out.alloc hB.out.size _).grown hg3 (by have := hB.out.size; simp; omega) (fun g e => (hlt0 g e).1)
          go_wp2_with fail
          refine (HCALL.out _ (HT.out.below B3)).mono ?_
          rintro e W2 ⟨⟨sl, rfl, ho2⟩, hb2⟩
          have hoa := own_below (own_push (⟨q, k, v⟩ : Nd) ho3) hb2
          have hB2 : Below w'.heap.size w' W2 := below_next B3 hb2
          have H2 := Lib.hid ho2
          rcases own_cases ho2 with ⟨rfl, hz⟩ | ⟨g, cap, rfl⟩
          · have hz' : lst F d (w ++ [c]) = [] := List.length_eq_zero_iff.1 hz
            clear ho2 hb2 hz
            go_wp2_with (at_builtin; refine wpList_append_own_none rfl _ _ 23 rfl w'.heap.size 65 i0 3 Tryd.underlying23 hi _ _ _ rfl hoa rfl ?_)
            go_roundw
            case rel =>
              refine ⟨n + 1, by push_cast; rfl, by omega, ?_, hB2⟩
              rw [HACC.out, HPART.out, hz', List.append_nil]
              exact hoa
            case measure => simp [intOf]; omega
          · clear ho2 hb2
            go_wp2_with (at_builtin; refine wpList_append_own _ rfl _ _ 23 rfl w'.heap.size 65 i0 (.agg #[.string ⟨#[]⟩, .int .i64 0, .int .i64 0]) 3 32 Tryd.underlying23 hi hz0 hz1 hz2 rfl (by decide) _ _ _ rfl hoa ⟨g, 0, none⟩ _ cap (flatN (lst F d (w ++ [c]))) rfl (flatN_length _) (own_cells H2.out) (flatN_one_cell _) (by unfold maxLen; have h5 := HL1.out; have h6 := HL2.out; simp at h5 h6 ⊢; omega) (by have h5 := HL1.out; have h6 := HL2.out; simp at h5 h6 ⊢; omega) hB2.size ?_; intro v4 w4 ho4 hg4 hn4)
            have B4 : Below w'.heap.size w' w4 := hB2.grown hg4 hB2.size (fun g e => (hoa.lt g e).1)
            go_roundw
            case rel =>
              refine ⟨n + 1, by push_cast; rfl, by omega, ?_, B4⟩
              rw [HACC.out, HPART.out, ← List.append_assoc]
              exact own_join ho4
            case measure => simp [intOf]; omega


end Go.Proofs.YtnmpbocnbcokeaaDoor

/-
  WALKS: impl.TreePut.
-/
namespace Go.Proofs.YtnmpbocnbcokeaaDoor
open Go.RowKit
set_option linter.unusedVariables false

theorem treePut_bad {ns : List Nd} {p : ByteArray} {k v : Int} (h : validT ns = false ∨ ¬ 1 ≤ depB p ∨ validB k v = false) : treePut ns p k v = none := by
  unfold treePut
  rcases h with h | h | h <;> simp [h]

theorem tput_nil {r : Option (List Nd)} {base : Nat} {W w : World} (hr : r = none) (hB : Below W.heap.size W w) : TPost r base W (.returned (.tuple #[.slice none 0 0, .bool false])) w :=
  ⟨_, [], false, rfl, .inr ⟨rfl, hr, rfl⟩, World.ownsRow_nil _ _ _ _, hB⟩

theorem lst_short {F : List UInt8 → Int × Int} : Short 8 (lst F 4 []) := by
  intro n hn
  obtain ⟨c, u, h1, h2, h3, rfl⟩ := mem_lst.1 hn
  exact pB_size (v := [] ++ c :: u) ⟨by rw [List.nil_append, List.length_cons]; omega, h2⟩

theorem Short.mono {m m' : Nat} {ns : List Nd} (h : Short m ns) (hm : m ≤ m') : Short m' ns := fun n hn => Nat.le_trans (h n hn) hm

set_option maxHeartbeats 4000000 in
set_option maxRecDepth 100000 in
theorem implTreePut_c (a : Option Addr) (len cap : Nat) (ns : List Nd) (p : ByteArray) (k v : Int) (hl : len ≤ 2097152) (hs : Short 2097152 ns) (hp : p.size ≤ 2097152) (W : World) (hN : NodesAt W a len ns) :
    Calls Tryd.prog 15 #[.slice a len cap, .string p, con k v] W (TPost (treePut ns p k v) W.heap.size W) := by
  have H := Lib.hid (fun W1 (hb : Below W.heap.size W W1) => treeOf_c a len cap ns hl hs W1 (hN.keep hb))
  obtain ⟨d, hd⟩ : ∃ d, depB p = d := ⟨_, rfl⟩
  have HP := Lib.hid (fun W1 => show Calls Tryd.prog 44 #[.string p] W1 (fun e w' => e = .returned (.int .i64 d) ∧ Below W1.heap.size W1 w') by rw [← hd]; exact pathDepth_c p (by omega) W1)
  have HD := Lib.hid hd
  have HVC := Lib.hid (fun W1 => implValid_c k v W1)
  obtain ⟨vb, hvb⟩ : ∃ vb, validB k v = vb := ⟨_, rfl⟩
  rw [hvb] at HVC
  have HVB := Lib.hid hvb
  clear hN hs hd hvb
  unfold con
  go_enter Tryd.func15, Tryd.ntmps15
  go_wp2_with fail
  refine (H.out _ (below_box _ _)).mono ?_
  rintro e W2 ⟨hB, h⟩
  have HB2 := Lib.hid (below_next (below_box W _) hB)
  have q0 := box_cell hB 0
  have q1 := box_cell hB 1
  simp at q0 q1
  rcases h with ⟨hv, rfl⟩ | ⟨hv, A, b, rfl, hA0, hT, hA⟩
  · have HG := Lib.hid (treePut_bad (p := p) (k := k) (v := v) (.inl hv))
    clear hv hB
    go_wp2
    refine bodyPost_ret (v := .tuple #[.slice none 0 0, .bool false]) (by simp [results, Tryd.f15, go_sem]) rfl (tput_nil HG.out HB2.out)
  · have HV := Lib.hid hv
    have HT := Lib.hid hT
    have HA := Lib.hid hA
    have HA0 := Lib.hid hA0
    have hlt2 : W.heap.size < W2.heap.size := by have := hB.size; simp at this; omega
    clear hv hB hT hA hA0
    go_wp2_with fail
    refine (HP.out _).mono ?_
    rintro e W3 ⟨rfl, hb3⟩
    have r0 := cell_kept hb3 q0
    have r1 := cell_kept hb3 q1
    have HB3 := Lib.hid (below_next HB2.out hb3)
    have HT3 := Lib.hid (HT.out.below hb3)
    have hlt3 : W.heap.size < W3.heap.size := by have := hb3.size; omega
    clear q0 q1 hb3
    by_cases hd1 : d ≤ 0
    · have HG := Lib.hid (treePut_bad (ns := ns) (p := p) (k := k) (v := v) (.inr (.inl (by rw [HD.out]; omega))))
      go_wp2
      refine bodyPost_ret (v := .tuple #[.slice none 0 0, .bool false]) (by simp [results, Tryd.f15, go_sem]) rfl (tput_nil HG.out HB3.out)
    · have hd0 : 0 < d := by omega
      have hdd : decide (d ≤ 0) = false := decide_eq_false hd1
      clear hd1
      go_wp2_with fail
      refine (HVC.out _).mono ?_
      rintro e W5 ⟨rfl, hb5⟩
      have u0 := cell_kept hb5 r0
      have u1 := cell_kept hb5 r1
      have HB5 := Lib.hid (below_next HB3.out hb5)
      have HT5 := Lib.hid (HT3.out.below hb5)
      have hN5 : W.heap.size < W5.heap.size := by have := hb5.size; omega
      clear r0 r1 hb5
      cases vb with
      | false =>
        have HG := Lib.hid (treePut_bad (ns := ns) (p := p) (k := k) (v := v) (.inr (.inr HVB.out)))
        go_wp2
        refine bodyPost_ret (v := .tuple #[.slice none 0 0, .bool false]) (by simp [results, Tryd.f15, go_sem]) rfl (tput_nil HG.out HB5.out)
      | true =>
        obtain ⟨w, hw, hpw⟩ := vpB_word (vp_of_depth (p := p) (by rw [HD.out]; omega))
        have HW := Lib.hid hw
        have HPW := Lib.hid hpw
        have HNE := Lib.hid ((word_depth hw).1 (by rw [← hpw, HD.out]; omega))
        have HAW := Lib.hid (show Away A W.heap.size from fun u e => by have := HA.out u _ e; rw [World.size_alloc] at this; omega)
        have HS0 := Lib.hid (show W5.drew.cell? ⟨W.heap.size, 0, none⟩ = some (.int .i64 k) ∧ W5.drew.cell? ⟨W.heap.size, 1, none⟩ = some (.int .i64 v) from ⟨u0, u1⟩)
        have HAT := Lib.hid (show Calls Tryd.prog 46 #[.pointer (some ⟨b, 0, none⟩), .string p] W5.drew (AtPost A (Fof ns) w W5.drew) by
          rw [hpw]; exact at_c A _ w hw W5.drew (HT5.out.kept (W' := W5.drew) fun _ _ _ => rfl) _ HA0.out)
        clear hw hpw
        go_upto_region 4 with (fail)
        refine wp_region_held_drew (S := (fun w' => w'.cell? ⟨W.heap.size, 0, none⟩ = some (.int .i64 k) ∧ w'.cell? ⟨W.heap.size, 1, none⟩ = some (.int .i64 v))) (by kernel_rfl) HS0.out (fun hH => ?_)
        refine wpAnyH_take (i := 0) (oi := _) (v := ?_) rfl (by kernel_rfl) (by kernel_rfl) (by kernel_rfl) (fun _ _ _ h => h) (Or.inl ⟨by rfl, ?_⟩) (by assumption) ?_
        rotate_left
        · (intro w hSw; (try dsimp only at hSw); go_simp; try with_reducible rfl)
        try simp only [Act.put, List.getElem_toArray, List.getElem_cons_zero, List.setIfInBounds_toArray, List.set_cons_zero, List.set_cons_succ]
        refine wpAnyH_take (i := 1) (oi := _) (v := ?_) rfl (by kernel_rfl) (by kernel_rfl) (by kernel_rfl) (fun _ _ _ h => h) (Or.inl ⟨by rfl, ?_⟩) (by assumption) ?_
        rotate_left
        · (intro w hSw; (try dsimp only at hSw); go_simp; try with_reducible rfl)
        try simp only [Act.put, List.getElem_toArray, List.getElem_cons_zero, List.getElem_cons_succ, List.setIfInBounds_toArray, List.set_cons_zero, List.set_cons_succ]
        refine wpAnyH_take (i := 3) (oi := _) (v := ?_) rfl (by kernel_rfl) (by kernel_rfl) (by kernel_rfl) (fun _ _ _ h => h) (Or.inl ⟨by rfl, ?_⟩) (by assumption) ?_
        rotate_left
        · (intro w hSw; (try dsimp only at hSw); go_simp; try with_reducible rfl)
        try simp only [Act.put, List.getElem_toArray, List.getElem_cons_zero, List.getElem_cons_succ, List.setIfInBounds_toArray, List.set_cons_zero, List.set_cons_succ]
        refine wpAnyH_ready (rs := [2]) (by kernel_rfl) (by simp) ?_
        refine AllReadyH.cons rfl (fun K hK => ?_) (AllReadyH.nil)
        go_simp
        go_at_call 46; (with_reducible refine (HAT.out).mono ?_); rintro e W6 ⟨A6, b6, rfl, hb6, hT6, hX6, hO6⟩
        refine hK.out _ _ ⟨(off_cell2 hO6 hN5 HAW.out 0).trans u0, (off_cell2 hO6 hN5 HAW.out 1).trans u1⟩ (fun hHeld => ?_)
        try simp only [Act.put, List.getElem_toArray, List.getElem_cons_zero, List.getElem_cons_succ, List.setIfInBounds_toArray, List.set_cons_zero, List.set_cons_succ]
        have f60 := hT6.frozen hb6 0
        have f61 := hT6.frozen hb6 1
        have c60 := hT6.cell hb6 0
        have c61 := hT6.cell hb6 1
        simp only [plc, List.getElem?_toArray, List.getElem?_cons_zero, List.getElem?_cons_succ] at c60 c61
        refine wpAnyH_take (i := 4) (oi := _) (v := ?_) rfl (by kernel_rfl) (by kernel_rfl) (by kernel_rfl) (fun _ _ _ h => h) (Or.inl ⟨by rfl, ?_⟩) (by assumption) ?_
        rotate_left
        · (intro w hSw; (try dsimp only at hSw); go_simp; try with_reducible rfl)
        try simp only [Act.put, List.getElem_toArray, List.getElem_cons_zero, List.getElem_cons_succ, List.setIfInBounds_toArray, List.set_cons_zero, List.set_cons_succ]
        refine wpAnyH_take (i := 5) (oi := _) (v := ?_) rfl (by kernel_rfl) (by kernel_rfl) (by kernel_rfl) (fun _ _ _ h => h) (Or.inl ⟨by rfl, ?_⟩) (by assumption) ?_
        rotate_left
        · (intro w hSw; (try dsimp only at hSw); go_simp; try with_reducible rfl)
        try simp only [Act.put, List.getElem_toArray, List.getElem_cons_zero, List.getElem_cons_succ, List.setIfInBounds_toArray, List.set_cons_zero, List.set_cons_succ]
        refine wpAnyH_ready (rs := [6]) (by kernel_rfl) (by simp) ?_
        refine AllReadyH.cons rfl (fun K hK => ?_) (AllReadyH.nil)
        go_simp
        have hnb : W.heap.size ≠ b6 := fun e => (ext_away hX6 (show W.heap.size < W5.drew.heap.size from hN5) HAW.out) w (by rw [e]; exact hb6)
        have hfrom := ext_from hX6 (show W.heap.size ≤ W5.drew.heap.size from HB5.out.size) (fun u c e => by have := HA.out u c e; rw [World.size_alloc] at this; omega)
        have HT7 := Lib.hid (hT6.write hb6 k v)
        have HB7 := Lib.hid (show Below W.heap.size W ((W6.setCell ⟨b6, 0, none⟩ (.int .i64 k)).setCell ⟨b6, 1, none⟩ (.int .i64 v)) from
          ((HB5.out.trans (show Below W.heap.size W5 W6 from ⟨hO6.os, hO6.tape, hO6.output, hO6.size, fun j hj => hO6.block j (by have := HB5.out.size; show j < W5.heap.size; omega) fun u e => by have := HA.out u j e; rw [World.size_alloc] at this; omega⟩)).setCell (hfrom w b6 hb6) _).setCell (hfrom w b6 hb6) _)
        have HR7 := Lib.hid ((hX6 [] _).1 HA0.out)
        refine hK.out _ _ ⟨(past2 hnb).trans ((off_cell2 hO6 hN5 HAW.out 0).trans u0), (past2 hnb).trans ((off_cell2 hO6 hN5 HAW.out 1).trans u1)⟩ (fun hHeld => ?_)
        try simp only [Act.put, List.getElem_toArray, List.getElem_cons_zero, List.getElem_cons_succ, List.setIfInBounds_toArray, List.set_cons_zero, List.set_cons_succ]
        refine wpAnyH_done (by kernel_rfl) ?_ _
        clear hK hO6 hX6 hT6 hb6 f60 f61 c60 c61 u0 u1 hfrom hHeld hnb
        generalize (W6.setCell ⟨b6, 0, none⟩ (.int .i64 k)).setCell ⟨b6, 1, none⟩ (.int .i64 v) = W7 at HT7 HB7 ⊢
        obtain ⟨out, hout⟩ : ∃ out, out = lst (setF (Fof ns) w (k, v)) 4 [] := ⟨_, rfl⟩
        have HOUT := Lib.hid (show out = putL ns p k v by rw [hout, HPW.out]; exact put_lst HV.out HW.out HNE.out k v)
        have HSH := Lib.hid (show Short 2097152 out by rw [hout]; exact lst_short.mono (by omega))
        have HLN := Lib.hid (show out.length ≤ 4096 by rw [hout]; exact lst_le (by omega) _)
        have HND := Lib.hid (nodes_c A6 _ 4 [] b W7 rfl HT7.out HR7.out)
        have HND2 := Lib.hid (show Calls Tryd.prog 47 #[.pointer (some ⟨b, 0, none⟩), .string ⟨#[47]⟩] W7 (fun e W' => OwnsNodes W7.heap.size out e W' ∧ Below W7.heap.size W7 W') by rw [hout]; exact HND.out)
        clear hout HND
        go_wp2_with fail
        refine HND2.out.mono ?_
        rintro e W8 ⟨⟨sl, rfl, ho8⟩, hb8⟩
        obtain ⟨a8, cap8, rfl, hn8⟩ := nodes_of_own ho8
        obtain ⟨vt, hvt⟩ : ∃ vt, validT out = vt := ⟨_, rfl⟩
        have HTV := Lib.hid (implTreeValid_c a8 out.length cap8 out (by have := HLN.out; omega) HSH.out W8 hn8)
        rw [hvt] at HTV
        have HVT := Lib.hid hvt
        have HO8 := Lib.hid ho8
        have HB8 := Lib.hid (below_next HB7.out hb8)
        clear ho8 hb8 hn8 hvt
        go_wp2_with fail
        refine HTV.out.mono ?_
        rintro e W9 ⟨rfl, hb9⟩
        have HO9 := Lib.hid (own_below HO8.out hb9)
        have HB9 := Lib.hid (below_next HB8.out hb9)
        clear hb9
        cases vt with
        | false =>
          have HG := Lib.hid (show treePut ns p k v = none by
            unfold treePut
            rw [← HOUT.out, show validT out = false from HVT.out]; simp)
          go_wp2
          refine bodyPost_ret (v := .tuple #[.slice none 0 0, .bool false]) (by simp [results, Tryd.f15, go_sem]) rfl (tput_nil HG.out HB9.out)
        | true =>
          have HG := Lib.hid (show treePut ns p k v = some out by
            unfold treePut
            rw [← HOUT.out, show validT out = true from HVT.out, show validT ns = true from HV.out, show validB k v = true from HVB.out, show decide (1 ≤ depB p) = true from decide_eq_true (by rw [HD.out]; omega)]; rfl)
          have hsz7 : W.heap.size ≤ W7.heap.size := HB7.out.size
          go_wp2
          refine bodyPost_ret (v := .tuple #[.slice a8 out.length cap8, .bool true]) (by simp [results, Tryd.f15, go_sem]) rfl ⟨_, out, true, rfl, .inl ⟨rfl, HG.out⟩, own_mono HO9.out hsz7, HB9.out⟩

end Go.Proofs.YtnmpbocnbcokeaaDoor

/-
  WALKS: slices.Grow and slices.Concat of lists of nodes, empty ones and nil too.
-/
namespace Go.Proofs.YtnmpbocnbcokeaaDoor
open Go.RowKit
/-- A list of nodes among the arguments of slices.Concat. -/
structure NRow where
  a : Option Addr
  len : Nat
  cap : Nat
  ns : List Nd

/-- A slice of lists of nodes in memory. -/
def RowsAt (W : World) (g off : Nat) (rows : List NRow) : Prop := ∀ i r, rows[i]? = some r → W.cell? ⟨g, off + i, none⟩ = some (.slice r.a r.len r.cap) ∧ NodesAt W r.a r.len r.ns

theorem RowsAt.keep {W W' : World} {g off : Nat} {rows : List NRow} (h : RowsAt W g off rows) (hb : Below W.heap.size W W') : RowsAt W' g off rows := fun i r hr =>
  ⟨cell_kept hb (h i r hr).1, (h i r hr).2.keep hb⟩

def allN (rows : List NRow) : List Nd := rows.flatMap NRow.ns

theorem allN_next {rows : List NRow} {i : Nat} {r : NRow} (h : rows[i]? = some r) : allN (rows.take (i + 1)) = allN (rows.take i) ++ r.ns := by
  unfold allN
  rw [List.take_add_one, h, List.flatMap_append]
  simp

theorem allN_le (rows : List NRow) (i : Nat) : (allN (rows.take i)).length ≤ (allN rows).length := by
  conv => rhs; rw [← List.take_append_drop i rows]
  unfold allN
  rw [List.flatMap_append, List.length_append]
  omega

theorem flatN_cell1 (ns : List Nd) : ∀ u ∈ flatN ns, u.oneCell' = true := by
  intro u hu
  unfold flatN at hu
  obtain ⟨n, _, hn⟩ := List.mem_flatMap.1 hu
  simp at hn
  rcases hn with rfl | rfl | rfl <;> rfl

theorem addr_addN (b off j : Nat) : ((⟨b, off, none⟩ : Addr).add j) = ⟨b, off + j, none⟩ := by
  unfold Addr.add
  split
  · rename_i h; rw [h]; rfl
  · rfl

theorem flatN_at : ∀ (ns : List Nd) (j : Nat) (u : Value), (flatN ns)[j]? = some u → ∃ i n, ns[i]? = some n ∧ ((j = i * 3 ∧ u = .string n.p) ∨ (j = i * 3 + 1 ∧ u = .int .i64 n.k) ∨ (j = i * 3 + 2 ∧ u = .int .i64 n.v))
  | [], j, u, h => by simp [flatN] at h
  | m :: r, 0, u, h => ⟨0, m, rfl, .inl ⟨rfl, by simpa [flatN] using h.symm⟩⟩
  | m :: r, 1, u, h => ⟨0, m, rfl, .inr (.inl ⟨rfl, by simpa [flatN] using h.symm⟩)⟩
  | m :: r, 2, u, h => ⟨0, m, rfl, .inr (.inr ⟨rfl, by simpa [flatN] using h.symm⟩)⟩
  | m :: r, j + 3, u, h => by
    obtain ⟨i, n, h1, h2⟩ := flatN_at r j u (by simpa [flatN] using h)
    refine ⟨i + 1, n, by simpa using h1, ?_⟩
    rcases h2 with ⟨rfl, e⟩ | ⟨rfl, e⟩ | ⟨rfl, e⟩
    · exact .inl ⟨by omega, e⟩
    · exact .inr (.inl ⟨by omega, e⟩)
    · exact .inr (.inr ⟨by omega, e⟩)

theorem nodes_cells {W : World} {ad : Addr} {len : Nat} {ns : List Nd} (h : NodesAt W (some ad) len ns) : ∀ j u, (flatN ns)[j]? = some u → W.cell? (ad.add j) = some u := by
  intro j u hj
  obtain ⟨i, n, hn, hc⟩ := flatN_at ns j u hj
  obtain ⟨h1, h0 | ⟨b, off, ha, hh⟩⟩ := h
  · have := (List.getElem?_eq_some_iff.1 hn).1; omega
  · cases ha
    rw [addr_addN]
    obtain ⟨c0, c1, c2⟩ := hh i n hn
    rcases hc with ⟨rfl, rfl⟩ | ⟨rfl, rfl⟩ | ⟨rfl, rfl⟩
    · exact c0
    · exact c1
    · exact c2

theorem run_append_owned_nil {W : World} (base : Nat) (ty : TypeId) (i : TypeInfo) (hi : Tryd.prog.info? 65 = some i) (v : Value) (n : Nat) (xs : List Value) (hown : W.ownsRow base 65 3 v n xs) (cap : Nat) :
    (Builtin.append_ #[23, 23] ty #[v, .slice none 0 cap]).run Tryd.prog W = .ok v W := by
  have ht := Tryd.underlying23
  rcases hown.2 with ⟨rfl, rfl⟩ | ⟨g, cap', cur, rfl, _, _, hnc, _⟩
  · simp [Builtin.append_, run_underlying ht, sizeOf, typeInfo, hi, Builtin.lenOf, Builtin.firstCells]
  · simp [Builtin.append_, run_underlying ht, sizeOf, typeInfo, hi, Builtin.lenOf, Builtin.firstCells, hnc, storeCells]

theorem wpList_append_nodes {w : World} {ops : Array Oper} {rest : List Oper} {o : Oper} {a : Act} {Q : Exit → Act → World → Prop} (hgd : o.guard = none) (s x : Operand)
    (ho : o.op = .call { callee := .builtin .append, args := #[s, x], argTypes := #[23, 23] })
    (base : Nat) (v : Value) (acc : List Nd) (hs : a.eval s = v) (hown : w.ownsRow base 65 3 v acc.length (flatN acc))
    (ad : Option Addr) (len cap : Nat) (zs : List Nd) (hx : a.eval x = .slice ad len cap) (hi : NodesAt w ad len zs) (hlen : acc.length + zs.length ≤ 2097152) (hb : base ≤ w.heap.size)
    (h : ∀ v3 w3, w3.ownsRow base 65 3 v3 (acc ++ zs).length (flatN (acc ++ zs)) → w.grownBy w3 v.ownBlock → wpList Tryd.prog ops Q rest (a.put o.dst v3) w3) : wpList Tryd.prog ops Q (o :: rest) a w := by
  obtain ⟨i0, hi0, hz0, hz1, hz2⟩ := info_parts infoNode
  have hl := hi.1
  refine wpList_plain hgd fun K hK => ?_
  match ad, hx, hi with
  | none, hx, hi =>
    have h0 : len = 0 := by
      obtain ⟨_, h0 | ⟨b, off, ha, _⟩⟩ := hi
      · exact h0
      · cases ha
    have hz : zs = [] := List.length_eq_zero_iff.1 (by omega)
    subst hz; subst h0
    have hrun := run_append_owned_nil (W := w) base o.type i0 hi0 v acc.length (flatN acc) hown cap
    unfold Oper.wp
    simp [execOp, ho, resolve, invoke, builtin, hs, hx, hrun, Result.andThen]
    exact hK _ _ (h v w (by rw [List.append_nil]; exact hown) ⟨rfl, rfl, rfl, Nat.le_refl _, fun _ _ _ => rfl⟩)
  | some ad, hx, hi =>
    exact wp_append_own w s x 23 ho base 65 i0 (.agg #[.string ⟨#[]⟩, .int .i64 0, .int .i64 0]) 3 32 Tryd.underlying23 hi0 hz0 hz1 hz2 rfl (by decide) v acc.length (flatN acc) hs hown ad len cap (flatN zs) hx (by rw [flatN_length]; omega) (nodes_cells hi) (flatN_cell1 _) (by unfold maxLen; omega) (by omega) hb fun v' w' h1 h2 _ => hK _ _ (h v' w' (by rw [flatN_append, List.length_append, hl]; exact h1) h2)

def SizeN (rows : List NRow) (W : World) (s i : Value) (wr : World) : Prop :=
  ∃ n : Nat, i = .int .i64 n ∧ n ≤ rows.length ∧ s = .int .i64 ((allN (rows.take n)).length : Nat) ∧ W = wr

def JoinN (rows : List NRow) (W : World) (o i : Value) (wr : World) : Prop :=
  ∃ n : Nat, i = .int .i64 n ∧ n ≤ rows.length ∧ wr.ownsRow W.heap.size 65 3 o (allN (rows.take n)).length (flatN (allN (rows.take n))) ∧ Hid (Below W.heap.size W wr)

end Go.Proofs.YtnmpbocnbcokeaaDoor

/-
  WALK: spec.CommandApply.
-/
namespace Go.Proofs.YtnmpbocnbcokeaaDoor
open Go.RowKit
set_option linter.unusedVariables false

/-- What CommandApply tells: nodes that the call has made, and whether the command was done. -/
def ApplyPost (r : List Nd × Bool) (base : Nat) (W : World) (e : Ending) (w' : World) : Prop :=
  ∃ sl, e = .returned (.tuple #[sl, .bool r.2]) ∧ w'.ownsRow base 65 3 sl r.1.length (flatN r.1) ∧ Below W.heap.size W w'

theorem apply_none {r : List Nd × Bool} {base : Nat} {W w : World} (hr : r = ([], false)) (hb : base ≤ w.heap.size) (hB : Below W.heap.size W w) :
    ApplyPost r base W (.returned (.tuple #[.slice (some ⟨w.heap.size, 0, none⟩) 0 0, .bool false])) (w.alloc (.cells #[] 65)) := by
  subst hr
  exact ⟨_, rfl, World.ownsRow_lit (e := 65) (size := 3) w #[] 0 hb (by simp [maxLen]) rfl, below_next hB (below_box _ _)⟩

theorem apply_end {r : List Nd × Bool} {out : List Nd} {b : Bool} (hr : r = (out, b)) {base : Nat} {W w' : World} {sl : Value} (ho : w'.ownsRow base 65 3 sl out.length (flatN out)) (hB : Below W.heap.size W w') : ApplyPost r base W (.returned (.tuple #[sl, .bool b])) w' := by
  subst hr
  exact ⟨sl, rfl, ho, hB⟩

set_option maxHeartbeats 2000000 in
set_option maxRecDepth 100000 in
theorem specCmdApply_c (a : Option Addr) (len cap : Nat) (ns : List Nd) (c : Cmd) (hl : len ≤ 2097151) (hs : Short 2097152 ns) (hp : c.p.size ≤ 2097152) (W : World) (hN : NodesAt W a len ns) :
    Calls Tryd.prog 11 #[.slice a len cap, cmdV c] W (ApplyPost (applyC ns c) W.heap.size W) := by
  obtain ⟨vt, hvt⟩ : ∃ vt, validT ns = vt := ⟨_, rfl⟩
  obtain ⟨vc, hvc⟩ : ∃ vc, validC c = vc := ⟨_, rfl⟩
  have HV := Lib.hid (fun W' (hb : Below W.heap.size W W') => show Calls Tryd.prog 13 #[.slice a len cap] W' (BoolPost vt W') by rw [← hvt]; exact specTreeValid_c a len cap ns (by omega) hs W' (hN.keep hb))
  have HC := Lib.hid (fun W' => show Calls Tryd.prog 14 #[cmdV c] W' (BoolPost vc W') by rw [← hvc]; exact specCmdValid_c c hp W')
  have HN := Lib.hid hN
  cases vt with
  | false =>
    have HR := Lib.hid (applyC_bad (c := c) (.inl hvt))
    clear hN hs hvt hvc
    unfold cmdV
    go_enter Tryd.func11, Tryd.ntmps11
    go_wp2_with fail
    refine (HV.out _ (below_box _ _)).mono ?_
    rintro e W1 ⟨rfl, hb1⟩
    have B1 := Lib.hid (below_next (below_box W _) hb1)
    clear hb1
    go_wp2
    go_ret2
    exact apply_none HR.out B1.out.size B1.out
  | true =>
    cases vc with
    | false =>
      have HR := Lib.hid (applyC_bad (ns := ns) (.inr hvc))
      clear hN hs hvt hvc
      unfold cmdV at HC ⊢
      obtain ⟨p, fk, fv, tk, tv⟩ := c
      simp only at HC ⊢
      go_enter Tryd.func11, Tryd.ntmps11
      go_wp2_with fail
      refine (HV.out _ (below_box _ _)).mono ?_
      rintro e W1 ⟨rfl, hb1⟩
      have q0 := box_cell hb1 0
      have q1 := box_cell hb1 1
      have q2 := box_cell hb1 2
      have q3 := box_cell hb1 3
      have q4 := box_cell hb1 4
      simp at q0 q1 q2 q3 q4
      have B1 := Lib.hid (below_next (below_box W _) hb1)
      clear hb1
      go_wp2_with fail
      refine (HC.out _).mono ?_
      rintro e W2 ⟨rfl, hb2⟩
      have B2 := Lib.hid (below_next B1.out hb2)
      clear hb2 q0 q1 q2 q3 q4
      go_wp2
      go_ret2
      exact apply_none HR.out B2.out.size B2.out
    | true =>
      have HR := Lib.hid (applyC_ok hvt hvc)
      have HG := Lib.hid (fun p W' (h : NodesAt W' a len ns) => l3Get_c a len cap ns p (by omega) W' h)
      have HP := Lib.hid (fun W' (h : NodesAt W' a len ns) => specTreePut_c a len cap ns c.p c.tk c.tv hl hs hp W' h)
      have HLN := Lib.hid (show ns.length ≤ 10 from ((validT_iff ns).1 hvt).2.2)
      clear hN hs hvt hvc
      unfold cmdV at HC ⊢
      obtain ⟨p, fk, fv, tk, tv⟩ := c
      simp only at HC HR HP hp ⊢
      obtain ⟨⟨gk, gv⟩, hg⟩ : ∃ g, getT ns p = g := ⟨_, rfl⟩
      have HGP := Lib.hid (fun W' (h : NodesAt W' a len ns) => show Calls Tryd.prog 38 #[.slice a len cap, .string p] W' (fun e w' => e = .returned (.agg #[.int .i64 gk, .int .i64 gv]) ∧ Below W'.heap.size W' w') by have := HG.out p W' h; rw [hg] at this; exact this)
      rw [hg] at HR
      obtain ⟨ee, hee⟩ : ∃ ee, (gk == fk && gv == fv) = ee := ⟨_, rfl⟩
      have heq := fun w' => (conEqQ gk gv fk fv w').trans (show _ = Result.ok (Value.bool ee) w' by rw [hee])
      have HEE := Lib.hid hee
      clear hg hee
      go_enter Tryd.func11, Tryd.ntmps11
      go_wp2_with fail
      refine (HV.out _ (below_box _ _)).mono ?_
      rintro e W1 ⟨rfl, hb1⟩
      have q0 := box_cell hb1 0
      have q1 := box_cell hb1 1
      have q2 := box_cell hb1 2
      have q3 := box_cell hb1 3
      have q4 := box_cell hb1 4
      simp at q0 q1 q2 q3 q4
      have B1 := Lib.hid (below_next (below_box W _) hb1)
      clear hb1
      go_wp2_with fail
      refine (HC.out _).mono ?_
      rintro e W2 ⟨rfl, hb2⟩
      have HS2 := Lib.hid (keepCmd (W0 := W) ⟨q0, q1, q2, q3, q4, B1.out⟩ hb2)
      have HS0 : Hid (W2.drew.cell? ⟨W.heap.size, 0, none⟩ = some (.string p) ∧ W2.drew.cell? ⟨W.heap.size, 1, none⟩ = some (.int .i64 fk) ∧ W2.drew.cell? ⟨W.heap.size, 2, none⟩ = some (.int .i64 fv) ∧ W2.drew.cell? ⟨W.heap.size, 3, none⟩ = some (.int .i64 tk) ∧ W2.drew.cell? ⟨W.heap.size, 4, none⟩ = some (.int .i64 tv) ∧ Below W.heap.size W W2.drew) :=
        ⟨HS2.out.1, HS2.out.2.1, HS2.out.2.2.1, HS2.out.2.2.2.1, HS2.out.2.2.2.2.1, HS2.out.2.2.2.2.2.drew⟩
      have HGD := Lib.hid (HGP.out W2.drew (HN.out.keep HS0.out.2.2.2.2.2))
      clear hb2 q0 q1 q2 q3 q4
      go_upto_region 3 with (fail)
      go_region_held3 (fun w' => w'.cell? ⟨W.heap.size, 0, none⟩ = some (.string p) ∧ w'.cell? ⟨W.heap.size, 1, none⟩ = some (.int .i64 fk) ∧ w'.cell? ⟨W.heap.size, 2, none⟩ = some (.int .i64 fv) ∧ w'.cell? ⟨W.heap.size, 3, none⟩ = some (.int .i64 tk) ∧ w'.cell? ⟨W.heap.size, 4, none⟩ = some (.int .i64 tv) ∧ Below W.heap.size W w')
        (first | exact HS0.out | exact keepCmd HS0.out hb5)
        (first | (go_at_call 38; (with_reducible refine (HGD.out).mono ?_); rintro e W5 ⟨rfl, hb5⟩))
      rename_i hS
      obtain ⟨s0, s1, s2, s3, s4, hB5⟩ := hS
      have HB5 := Lib.hid hB5
      have HN5 := Lib.hid (HN.out.keep hB5)
      clear heq hB5
      cases ee with
      | false =>
        have hR2 := Lib.hid (show applyC ns ⟨p, fk, fv, tk, tv⟩ = (ns, false) by
          rw [HR.out, if_neg]
          intro e
          have := HEE.out
          simp only [Prod.mk.injEq] at e
          rw [e.1, e.2] at this
          simp at this)
        clear s0 s1 s2 s3 s4
        go_wp2_with (at_builtin; refine wpList_append_nodes rfl _ _ rfl W.heap.size _ [] rfl (World.ownsRow_lit (e := 65) (size := 3) W5 #[] 0 HB5.out.size (by simp [maxLen]) rfl) _ _ _ _ rfl (HN5.out.keep (below_box _ _)) (by have := HLN.out; simp; omega) (by have := HB5.out.size; simp; omega) ?_; intro v9 w9 ho9 hg9)
        refine bodyPost_ret (v := .tuple #[v9, .bool false]) (by simp [results, Tryd.f11, go_sem]) rfl (apply_end hR2.out (by simpa using ho9) ?_)
        exact (HB5.out.alloc HB5.out.size _).grown hg9 (by have := HB5.out.size; simp; omega) (fun k e => by cases e; exact HB5.out.size)
      | true =>
        have hgt : (gk, gv) = (fk, fv) := by
          have := HEE.out
          rw [Bool.and_eq_true, beq_iff_eq, beq_iff_eq] at this
          rw [this.1, this.2]
        have HR2 := Lib.hid (HR.out.trans (if_pos hgt))
        have HP5 := Lib.hid (HP.out W5 HN5.out)
        clear hgt
        go_wp2_with fail
        refine HP5.out.mono ?_
        rintro e W6 ⟨sl, out, b, rfl, hc, ho, hb6⟩
        have HB6 := Lib.hid (below_next HB5.out hb6)
        have HN6 := Lib.hid (HN5.out.keep hb6)
        have HO6 := Lib.hid (own_mono ho HB5.out.size)
        clear s0 s1 s2 s3 s4 ho hb6
        rcases hc with ⟨rfl, hr⟩ | ⟨rfl, hr, rfl⟩
        · have hR3 := Lib.hid (show applyC ns ⟨p, fk, fv, tk, tv⟩ = (out, true) by rw [HR2.out, hr])
          clear hr
          go_wp2
          refine bodyPost_ret (v := .tuple #[sl, .bool true]) (by simp [results, Tryd.f11, go_sem]) rfl (apply_end hR3.out HO6.out HB6.out)
        · have hR3 := Lib.hid (show applyC ns ⟨p, fk, fv, tk, tv⟩ = (ns, false) by rw [HR2.out, hr])
          clear hr
          go_wp2_with (at_builtin; refine wpList_append_nodes rfl _ _ rfl W.heap.size _ [] rfl (World.ownsRow_lit (e := 65) (size := 3) W6 #[] 0 HB6.out.size (by simp [maxLen]) rfl) _ _ _ _ rfl (HN6.out.keep (below_box _ _)) (by have := HLN.out; simp; omega) (by have := HB6.out.size; simp; omega) ?_; intro v9 w9 ho9 hg9)
          refine bodyPost_ret (v := .tuple #[v9, .bool false]) (by simp [results, Tryd.f11, go_sem]) rfl (apply_end hR3.out (by simpa using ho9) ?_)
          exact (HB6.out.alloc HB6.out.size _).grown hg9 (by have := HB6.out.size; simp; omega) (fun k e => by cases e; exact HB6.out.size)

end Go.Proofs.YtnmpbocnbcokeaaDoor

/-
  WALKS: impl.treeAfter, impl.CommandApply (over errors.Is and slices.Clone).
-/
namespace Go.Proofs.YtnmpbocnbcokeaaDoor
open Go.RowKit
set_option linter.unusedVariables false

set_option maxHeartbeats 1000000 in
/-- slices.Clone of nodes that lie somewhere. -/
theorem cloneN_c (a : Option Addr) (len cap : Nat) (ns : List Nd) (hl : len ≤ 2097152) (W : World) (hN : NodesAt W a len ns) :
    Calls Tryd.prog 37 #[.slice a len cap] W fun e W' => OwnsNodes W.heap.size ns e W' ∧ Below W.heap.size W W' := by
  have HN := Lib.hid hN
  have HE := Lib.hid hN.1
  have q23 : ∀ (w : World) (a : Option Addr) (n c n' c' : Nat), (binOp .eql 23 (.slice a n c) (.slice none n' c')).run Tryd.prog w = .ok (.bool a.isNone) w := fun w a n c n' c' => Lib.run_eql_slice_nil w _ _ a n c n' c' Tryd.underlying23
  cases a with
  | none =>
    have hz : ns = [] := by
      rcases hN.2 with h | ⟨_, _, h, _⟩
      · exact List.eq_nil_of_length_eq_zero (hN.1.trans h)
      · cases h
    subst hz
    clear hN
    go_enter Tryd.func37, Tryd.ntmps37
    go_wp2
    exact bodyPost_ret (v := .slice none 0 0) (by simp [results, Tryd.f37, go_sem]) rfl ⟨⟨_, rfl, World.ownsRow_nil _ _ _ _⟩, Below.refl _ _⟩
  | some ad =>
    clear hN
    go_enter Tryd.func37, Tryd.ntmps37
    go_wp2_with (at_builtin; refine wpList_append_nodes rfl _ _ rfl W.heap.size _ [] rfl (World.ownsRow_lit (e := 65) (size := 3) W #[] 0 (Nat.le_refl _) (by simp [maxLen]) rfl) _ _ _ _ rfl (HN.out.keep (below_box _ _)) (by have := HE.out; simp; omega) (by simp) ?_; intro v3 w3 ho3 hg3)
    have B3 : Below W.heap.size W w3 := (below_box W _).grown hg3 (by simp) (fun k e => by cases e; exact Nat.le_refl _)
    exact bodyPost_ret (v := v3) (by simp [results, Tryd.f37, go_sem]) rfl ⟨⟨v3, rfl, by simpa using ho3⟩, B3⟩

/-- What treeAfter tells: a tree, or one of the two reasons why there is none. -/
def AfterPost (ns : List Nd) (c : Cmd) (ea eb : Addr) (W : World) (e : Ending) (w' : World) : Prop :=
  ∃ sl err, e = .returned (.tuple #[sl, err]) ∧ Below W.heap.size W w' ∧
    ((sl = .slice none 0 0 ∧ err = .iface 173 (.pointer (some ea)) ∧ applyC ns c = ([], false)) ∨
     (sl = .slice none 0 0 ∧ err = .iface 173 (.pointer (some eb)) ∧ applyC ns c = (ns, false)) ∨
     (err = .nilIface ∧ ∃ out, applyC ns c = (out, true) ∧ w'.ownsRow W.heap.size 65 3 sl out.length (flatN out)))

theorem after_inv {ns : List Nd} {c : Cmd} {ea eb : Addr} {W w' : World} (h : applyC ns c = ([], false)) (hb : Below W.heap.size W w') : AfterPost ns c ea eb W (.returned (.tuple #[.slice none 0 0, .iface 173 (.pointer (some ea))])) w' :=
  ⟨_, _, rfl, hb, .inl ⟨rfl, rfl, h⟩⟩
theorem after_brk {ns : List Nd} {c : Cmd} {ea eb : Addr} {W w' : World} (h : applyC ns c = (ns, false)) (hb : Below W.heap.size W w') : AfterPost ns c ea eb W (.returned (.tuple #[.slice none 0 0, .iface 173 (.pointer (some eb))])) w' :=
  ⟨_, _, rfl, hb, .inr (.inl ⟨rfl, rfl, h⟩)⟩
theorem after_new {ns out : List Nd} {c : Cmd} {ea eb : Addr} {W w' : World} {sl : Value} (h : applyC ns c = (out, true)) (ho : w'.ownsRow W.heap.size 65 3 sl out.length (flatN out)) (hb : Below W.heap.size W w') : AfterPost ns c ea eb W (.returned (.tuple #[sl, .nilIface])) w' :=
  ⟨_, _, rfl, hb, .inr (.inr ⟨rfl, out, h, ho⟩)⟩

set_option maxHeartbeats 2000000 in
set_option maxRecDepth 100000 in
theorem treeAfter_c (a : Option Addr) (len cap : Nat) (ns : List Nd) (c : Cmd) (hl : len ≤ 2097151) (hs : Short 2097152 ns) (hp : c.p.size ≤ 2097152) (W : World) (hN : NodesAt W a len ns) (ea eb : Addr)
    (hI : W.cell? ⟨1, 0, none⟩ = some (.iface 173 (.pointer (some ea)))) (hK : W.cell? ⟨0, 0, none⟩ = some (.iface 173 (.pointer (some eb)))) :
    Calls Tryd.prog 35 #[.slice a len cap, cmdV c] W (AfterPost ns c ea eb W) := by
  obtain ⟨vt, hvt⟩ : ∃ vt, validT ns = vt := ⟨_, rfl⟩
  obtain ⟨vc, hvc⟩ : ∃ vc, validC c = vc := ⟨_, rfl⟩
  have HI := Lib.hid (fun W' (hb : Below W.heap.size W W') => cell_kept hb hI)
  have HK := Lib.hid (fun W' (hb : Below W.heap.size W W') => cell_kept hb hK)
  clear hI hK
  have HV := Lib.hid (fun W' (hb : Below W.heap.size W W') => show Calls Tryd.prog 48 #[.slice a len cap] W' (BoolPost vt W') by rw [← hvt]; exact implTreeValid_c a len cap ns (by omega) hs W' (hN.keep hb))
  have HC := Lib.hid (fun W' => show Calls Tryd.prog 24 #[cmdV c] W' (BoolPost vc W') by rw [← hvc]; exact implCmdValid_c c hp W')
  have HN := Lib.hid hN
  cases vt with
  | false =>
    have HR := Lib.hid (applyC_bad (c := c) (.inl hvt))
    clear hN hs hvt hvc
    unfold cmdV
    go_enter Tryd.func35, Tryd.ntmps35
    go_wp2_with fail
    refine (HV.out _ (below_box _ _)).mono ?_
    rintro e W1 ⟨rfl, hb1⟩
    have B1 := Lib.hid (below_next (below_box W _) hb1)
    have gi := HI.out _ B1.out
    clear hb1
    go_upto_region 2 with (fail)
    go_region
    all_goals (try go_wp2)
    all_goals go_ret2
    all_goals (first | exact after_inv HR.out B1.out.drew | exact after_inv HR.out B1.out)
  | true =>
    cases vc with
    | false =>
      have HR := Lib.hid (applyC_bad (ns := ns) (.inr hvc))
      clear hN hs hvt hvc
      unfold cmdV at HC ⊢
      obtain ⟨p, fk, fv, tk, tv⟩ := c
      simp only at HC ⊢
      go_enter Tryd.func35, Tryd.ntmps35
      go_wp2_with fail
      refine (HV.out _ (below_box _ _)).mono ?_
      rintro e W1 ⟨rfl, hb1⟩
      have q0 := box_cell hb1 0
      have q1 := box_cell hb1 1
      have q2 := box_cell hb1 2
      have q3 := box_cell hb1 3
      have q4 := box_cell hb1 4
      simp at q0 q1 q2 q3 q4
      have B1 := Lib.hid (below_next (below_box W _) hb1)
      clear hb1
      go_wp2_with fail
      refine (HC.out _).mono ?_
      rintro e W2 ⟨rfl, hb2⟩
      have B2 := Lib.hid (below_next B1.out hb2)
      have gi := HI.out _ B2.out
      clear hb2 q0 q1 q2 q3 q4
      go_upto_region 2 with (fail)
      go_region
      all_goals (try go_wp2)
      all_goals go_ret2
      all_goals (first | exact after_inv HR.out B2.out.drew | exact after_inv HR.out B2.out)
    | true =>
      have HR := Lib.hid (applyC_ok hvt hvc)
      have hdep := ((validC_iff c).1 hvc).1
      have HG := Lib.hid (fun W' (h : NodesAt W' a len ns) => implTreeGet_c a len cap ns c.p (by omega) hs (by omega) W' h)
      have HP := Lib.hid (fun W' (h : NodesAt W' a len ns) => implTreePut_c a len cap ns c.p c.tk c.tv (by omega) hs hp W' h)
      have htg := treeGet_eq hvt (vp_of_depth hdep)
      clear hN hs hvt hvc hdep
      unfold cmdV at HC ⊢
      obtain ⟨p, fk, fv, tk, tv⟩ := c
      simp only at HC HR HP HG hp htg ⊢
      obtain ⟨⟨gk, gv⟩, hg⟩ : ∃ g, getT ns p = g := ⟨_, rfl⟩
      rw [hg] at HR htg
      have HGP := Lib.hid (fun W' (h : NodesAt W' a len ns) => show Calls Tryd.prog 16 #[.slice a len cap, .string p] W' (fun e w' => e = .returned (.agg #[.int .i64 gk, .int .i64 gv]) ∧ Below W'.heap.size W' w') by have := HG.out W' h; rw [htg] at this; exact this)
      obtain ⟨ee, hee⟩ : ∃ ee, (!(gk == fk && gv == fv)) = ee := ⟨_, rfl⟩
      have hne := fun w' => (conNeQ gk gv fk fv w').trans (show _ = Result.ok (Value.bool ee) w' by rw [hee])
      have HEE := Lib.hid hee
      clear hg hee htg HG
      go_enter Tryd.func35, Tryd.ntmps35
      go_wp2_with fail
      refine (HV.out _ (below_box _ _)).mono ?_
      rintro e W1 ⟨rfl, hb1⟩
      have q0 := box_cell hb1 0
      have q1 := box_cell hb1 1
      have q2 := box_cell hb1 2
      have q3 := box_cell hb1 3
      have q4 := box_cell hb1 4
      simp at q0 q1 q2 q3 q4
      have B1 := Lib.hid (below_next (below_box W _) hb1)
      clear hb1
      go_wp2_with fail
      refine (HC.out _).mono ?_
      rintro e W2 ⟨rfl, hb2⟩
      have HS2 := Lib.hid (keepCmd (W0 := W) ⟨q0, q1, q2, q3, q4, B1.out⟩ hb2)
      have HS0 : Hid (W2.drew.cell? ⟨W.heap.size, 0, none⟩ = some (.string p) ∧ W2.drew.cell? ⟨W.heap.size, 1, none⟩ = some (.int .i64 fk) ∧ W2.drew.cell? ⟨W.heap.size, 2, none⟩ = some (.int .i64 fv) ∧ W2.drew.cell? ⟨W.heap.size, 3, none⟩ = some (.int .i64 tk) ∧ W2.drew.cell? ⟨W.heap.size, 4, none⟩ = some (.int .i64 tv) ∧ Below W.heap.size W W2.drew) :=
        ⟨HS2.out.1, HS2.out.2.1, HS2.out.2.2.1, HS2.out.2.2.2.1, HS2.out.2.2.2.2.1, HS2.out.2.2.2.2.2.drew⟩
      have HGD := Lib.hid (HGP.out W2.drew (HN.out.keep HS0.out.2.2.2.2.2))
      clear hb2 q0 q1 q2 q3 q4
      go_upto_region 3 with (fail)
      go_region_held3 (fun w' => w'.cell? ⟨W.heap.size, 0, none⟩ = some (.string p) ∧ w'.cell? ⟨W.heap.size, 1, none⟩ = some (.int .i64 fk) ∧ w'.cell? ⟨W.heap.size, 2, none⟩ = some (.int .i64 fv) ∧ w'.cell? ⟨W.heap.size, 3, none⟩ = some (.int .i64 tk) ∧ w'.cell? ⟨W.heap.size, 4, none⟩ = some (.int .i64 tv) ∧ Below W.heap.size W w')
        (first | exact HS0.out | exact keepCmd HS0.out hb5)
        (first | (go_at_call 16; (with_reducible refine (HGD.out).mono ?_); rintro e W5 ⟨rfl, hb5⟩))
      rename_i hS
      obtain ⟨s0, s1, s2, s3, s4, hB5⟩ := hS
      have HB5 := Lib.hid hB5
      have HN5 := Lib.hid (HN.out.keep hB5)
      clear hne hB5
      cases ee with
      | true =>
        have hR2 := Lib.hid (show applyC ns ⟨p, fk, fv, tk, tv⟩ = (ns, false) by
          rw [HR.out, if_neg]
          intro e
          have := HEE.out
          simp only [Prod.mk.injEq] at e
          rw [e.1, e.2] at this
          simp at this)
        have gk := HK.out _ HB5.out
        clear s0 s1 s2 s3 s4
        go_upto_region 4 with (fail)
        go_region
        all_goals (try go_wp2)
        all_goals go_ret2
        all_goals (first | exact after_brk hR2.out HB5.out.drew | exact after_brk hR2.out HB5.out)
      | false =>
        have hgt : (gk, gv) = (fk, fv) := by
          have := HEE.out
          rw [Bool.not_eq_false', Bool.and_eq_true, beq_iff_eq, beq_iff_eq] at this
          rw [this.1, this.2]
        have HR2 := Lib.hid (HR.out.trans (if_pos hgt))
        have HP5 := Lib.hid (HP.out W5 HN5.out)
        clear hgt
        go_wp2_with fail
        refine HP5.out.mono ?_
        rintro e W6 ⟨sl, out, b, rfl, hc, ho, hb6⟩
        have HB6 := Lib.hid (below_next HB5.out hb6)
        have HO6 := Lib.hid (own_mono ho HB5.out.size)
        have gk := HK.out _ HB6.out
        clear s0 s1 s2 s3 s4 ho hb6
        rcases hc with ⟨rfl, hr⟩ | ⟨rfl, hr, rfl⟩
        · have hR3 := Lib.hid (show applyC ns ⟨p, fk, fv, tk, tv⟩ = (out, true) by rw [HR2.out, hr])
          clear hr
          go_wp2
          go_ret2
          exact after_new hR3.out HO6.out HB6.out
        · have hR3 := Lib.hid (show applyC ns ⟨p, fk, fv, tk, tv⟩ = (ns, false) by rw [HR2.out, hr])
          clear hr
          go_upto_region 7 with (fail)
          go_region
          all_goals (try go_wp2)
          all_goals go_ret2
          all_goals (first | exact after_brk hR3.out HB6.out.drew | exact after_brk hR3.out HB6.out)

theorem errEqNil (v : Value) (t : TypeId) (w : World) : (binOp .eql 59 (.iface t v) .nilIface).run Tryd.prog w = .ok (.bool false) w :=
  run_eql_held_nil w 59 t v (by kernel_rfl)
theorem nilEqNil (w : World) : (binOp .eql 59 .nilIface .nilIface).run Tryd.prog w = .ok (.bool true) w :=
  run_eql_nil_nil w 59 (by kernel_rfl)

set_option maxHeartbeats 2000000 in
set_option maxRecDepth 100000 in
theorem implCmdApply_c (a : Option Addr) (len cap : Nat) (ns : List Nd) (c : Cmd) (hl : len ≤ 2097151) (hs : Short 2097152 ns) (hp : c.p.size ≤ 2097152) (W : World) (hN : NodesAt W a len ns) (hE : CmdVars W) :
    Calls Tryd.prog 10 #[.slice a len cap, cmdV c] W (ApplyPost (applyC ns c) W.heap.size W) := by
  have HE := Lib.hid hE
  obtain ⟨ea, eb, ca, cb, ta, tb, hI, hK, hne, ha, hb⟩ := hE
  have HT := Lib.hid (fun W' (hb : Below W.heap.size W W') => treeAfter_c a len cap ns c hl hs hp W' (hN.keep hb) ea eb (cell_kept hb hI) (cell_kept hb hK))
  have HK := Lib.hid (fun W' (hb : Below W.heap.size W W') => cell_kept hb hK)
  have HO := Lib.hid (fun W' (hx : Below W.heap.size W W') => isErr_other ea eb ca cb ta tb W' hne (heap_kept hx ha) (heap_kept hx hb))
  have HCL := Lib.hid (fun W' (hb : Below W.heap.size W W') => cloneN_c a len cap ns (by omega) W' (hN.keep hb))
  clear hN hs hI hK hne ha hb
  unfold cmdV at HT ⊢
  obtain ⟨p, fk, fv, tk, tv⟩ := c
  simp only at HT ⊢
  go_enter Tryd.func10, Tryd.ntmps10
  go_wp2_with fail
  refine (HT.out _ (below_box _ _)).mono ?_
  rintro e W1 ⟨sl, err, rfl, hb1, hc⟩
  have B1 := Lib.hid (below_next (below_box W _) hb1)
  have gk := HK.out _ B1.out
  clear hb1
  rcases hc with ⟨rfl, rfl, hr⟩ | ⟨rfl, rfl, hr⟩ | ⟨rfl, out, hr, ho⟩
  · have HR := Lib.hid hr
    clear hr
    go_wp2_with fail
    refine (HO.out _ B1.out).mono ?_
    rintro e W2 ⟨rfl, rfl⟩
    have he := errEqNil
    go_upto_region 4 with (fail)
    go_region
    all_goals (try go_wp2)
    all_goals go_ret2
    all_goals (first | exact apply_end HR.out (World.ownsRow_nil _ _ _ _) B1.out.drew | exact apply_end HR.out (World.ownsRow_nil _ _ _ _) B1.out)
  · have HR := Lib.hid hr
    clear hr
    go_wp2_with fail
    refine (isErr_same eb _).mono ?_
    rintro e W2 ⟨rfl, rfl⟩
    go_wp2_with fail
    refine (HCL.out _ B1.out).mono ?_
    rintro e W3 ⟨⟨v3, rfl, ho3⟩, hb3⟩
    go_wp2
    go_ret2
    exact apply_end HR.out (own_mono ho3 B1.out.size) (below_next B1.out hb3)
  · have HR := Lib.hid hr
    have HO1 := Lib.hid (own_mono ho (below_box W _).size)
    clear hr ho
    go_wp2_with fail
    refine (isErr_nil eb _).mono ?_
    rintro e W2 ⟨rfl, rfl⟩
    have he := nilEqNil
    go_upto_region 4 with (fail)
    go_region
    all_goals (try go_wp2)
    all_goals go_ret2
    all_goals (first | exact apply_end HR.out HO1.out B1.out.drew | exact apply_end HR.out HO1.out B1.out)

end Go.Proofs.YtnmpbocnbcokeaaDoor

/-
  WALKS: the reader's 'of' (a text out of a list). For any seat.
-/
namespace Go.Proofs.YtnmpbocnbcokeaaDoor
open Go.RowKit
set_option linter.unusedVariables false

/-- One of the texts of a list, the reader one place on. -/
def OfPost (N0 B p : Nat) (xs : List ByteArray) (W : World) (e : Ending) (W' : World) : Prop :=
  ∃ x ∈ xs, e = .returned (.string x) ∧ RdAt N0 W' B (p + 1) ∧ W.grownBy W' (some B)

set_option maxHeartbeats 1000000 in
theorem of_c (N0 B p L c : Nat) (xs : List ByteArray) (hx : 1 ≤ xs.length) (hx2 : xs.length ≤ 1000) (hLB : L ≠ B) (W : World) (hp : p < 30000) (hR : RdAt N0 W B p)
    (hc : ∀ j x, xs[j]? = some x → W.cell? ⟨L, j, none⟩ = some (.string x)) :
    Calls Tryd.prog 82 #[.pointer (some ⟨B, 0, none⟩), .slice (some ⟨L, 0, none⟩) xs.length c] W (OfPost N0 B p xs W) := by
  have HP := Lib.hid (fun W hR => pick_c N0 B p xs.length (by omega) (by omega) W hp hR)
  have HC := Lib.hid hc
  clear hc
  go_enter Tryd.func82, Tryd.ntmps82
  go_wp2_with fail
  refine (HP.out W hR).mono ?_
  rintro e W1 ⟨r, rfl, h0, h1, hR1, hg⟩
  obtain ⟨k, rfl⟩ := Int.eq_ofNat_of_zero_le h0
  have hk : k < xs.length := by omega
  obtain ⟨x, hxk⟩ : ∃ x, xs[k]? = some x := ⟨xs[k], List.getElem?_eq_getElem hk⟩
  have hcell : W1.cell? ⟨L, k, none⟩ = some (.string x) := hg.cell (HC.out k x hxk) (by simpa using hLB)
  have HX := Lib.hid hxk
  clear hxk h0 h1 hR
  go_wp2
  go_ret
  exact ⟨x, List.mem_of_getElem? HX.out, rfl, hR1, hg⟩

/-- 'of' at a list that is written out on the spot. -/
theorem of_lit (N0 B p : Nat) (xs : List ByteArray) (n : Nat) (hn : xs.length = n) (hx : 1 ≤ n) (hx2 : n ≤ 1000) (W : World) (hp : p < 30000) (hR : RdAt N0 W B p) (cs : Array Value) (hcs : cs = (xs.map Value.string).toArray) :
    Calls Tryd.prog 82 #[.pointer (some ⟨B, 0, none⟩), .slice (some ⟨W.heap.size, 0, none⟩) n n] (W.alloc (.cells cs 9)) (OfPost N0 B p xs W) := by
  have hg : W.grownBy (W.alloc (.cells cs 9)) none := World.grownBy_alloc W _ none
  subst hn
  refine (of_c N0 B p W.heap.size xs.length xs hx hx2 (by have := hR.lt; omega) _ hp (hR.keep (Below.refl W.heap.size W |>.alloc (Nat.le_refl _) _)) ?_).mono ?_
  · intro j x hj
    subst hcs
    rw [World.cell?_alloc_new]
    simp [hj]
  · rintro e W' ⟨x, hx, he, hR', hg'⟩
    exact ⟨x, hx, he, hR', grownBy_trans (grownBy_none hg _) hg'⟩

/-- A text of modest length; the reader some places on. -/
def StrPost (N0 B p d m : Nat) (W : World) (e : Ending) (W' : World) : Prop :=
  ∃ (s : ByteArray) (q : Nat), e = .returned (.string s) ∧ s.size ≤ m ∧ q ≤ p + d ∧ RdAt N0 W' B q ∧ W.grownBy W' (some B)

end Go.Proofs.YtnmpbocnbcokeaaDoor

/-
  WALKS: paths that are drawn (spec.l91Path). For any seat.
-/
namespace Go.Proofs.YtnmpbocnbcokeaaDoor
open Go.RowKit
set_option linter.unusedVariables false

def oddTexts : List ByteArray := [⟨#[]⟩, ⟨#[47]⟩, ⟨#[97]⟩, ⟨#[47, 101]⟩, ⟨#[47, 97, 47]⟩, ⟨#[47, 47, 97]⟩, ⟨#[47, 97, 47, 98, 47, 99, 47, 100, 47, 97]⟩, ⟨#[47, 97, 98]⟩]
def letterTexts : List ByteArray := [⟨#[97]⟩, ⟨#[98]⟩, ⟨#[97]⟩, ⟨#[98]⟩, ⟨#[99]⟩, ⟨#[100]⟩]

def PathRel (N0 B p : Nat) (n : Int) (W : World) (out i : Value) (wr : World) : Prop :=
  ∃ (k : Nat) (s : ByteArray), i = .int .i64 k ∧ k ≤ 4 ∧ (k : Int) ≤ 1 + n ∧ out = .string s ∧ s.size = 2 * k ∧ RdAt N0 wr B (p + 3 + k) ∧ W.grownBy wr (some B)

set_option maxHeartbeats 1000000 in
set_option maxRecDepth 100000 in
theorem l91Path_c (N0 B p : Nat) (W : World) (hp : p < 29000) (hR : RdAt N0 W B p) :
    Calls Tryd.prog 81 #[.pointer (some ⟨B, 0, none⟩)] W (StrPost N0 B p 7 64 W) := by
  have HP1 := Lib.hid (fun W hR => pick_c N0 B p 24 (by omega) (by omega) W (by omega) hR)
  go_enter Tryd.func81, Tryd.ntmps81
  go_wp2_with fail
  refine (HP1.out W hR).mono ?_
  rintro e W1 ⟨r, rfl, h0, h1, hR1, hg1⟩
  by_cases hr : r = 0
  · subst hr
    clear h0 h1 hR
    have HO := Lib.hid (of_lit N0 B (p + 1) oddTexts 8 rfl (by omega) (by omega) W1 (by omega) hR1 _ rfl)
    simp only [oddTexts, List.map_cons, List.map_nil] at HO
    go_wp2_with fail
    refine HO.out.mono ?_
    rintro e W2 ⟨x, hx, rfl, hR2, hg2⟩
    go_wp2
    go_ret
    refine ⟨x, p + 1 + 1, rfl, ?_, by omega, hR2, grownBy_trans hg1 hg2⟩
    simp at hx
    rcases hx with rfl | rfl | rfl | rfl | rfl | rfl | rfl | rfl <;> decide
  · have hr' : (r == 0) = false := by simpa using hr
    have HP2 := Lib.hid (fun W hR => pick_c N0 B (p + 1) 4 (by omega) (by omega) W (by omega) hR)
    have HP3 := Lib.hid (fun W hR => pick_c N0 B (p + 1 + 1) 2 (by omega) (by omega) W (by omega) hR)
    clear h0 h1 hR hr
    go_wp2_with fail
    refine (HP2.out W1 hR1).mono ?_
    rintro e W2 ⟨a, rfl, a0, a1, hR2, hg2⟩
    go_wp2_with fail
    refine (HP3.out W2 hR2).mono ?_
    rintro e W3 ⟨b, rfl, b0, b1, hR3, hg3⟩
    have hg : W.grownBy W3 (some B) := grownBy_trans hg1 (grownBy_trans hg2 hg3)
    have hn : IntKind.i64.wrap (a * b) = a * b := by
      have hb : b = 0 ∨ b = 1 := by omega
      rcases hb with rfl | rfl
      · simp [IntKind.wrap_i64]
      · rw [Int.mul_one]; exact IntWalk.i64_in _ (by omega)
    have hab : 0 ≤ a * b ∧ a * b ≤ 3 := by
      have hb : b = 0 ∨ b = 1 := by omega
      rcases hb with rfl | rfl <;> omega
    obtain ⟨hab0, hab3⟩ := hab
    clear hg1 hg2 hg3 hR1 hR2 a0 a1 b0 b1 hr'
    go_wp2
    go_loopw [4, 5] (fun out i wr => PathRel N0 B p (a * b) W out i wr) (fun _ i _ => (1 + a * b - intOf i).toNat)
    case atStart => exact ⟨0, ⟨#[]⟩, rfl, by omega, by omega, rfl, rfl, hR3, hg⟩
    case round =>
      obtain ⟨k, s, rfl, hk4, hkn, rfl, hs, hRk, hgk⟩ := hrel
      by_cases hlt : (k : Int) < 1 + a * b
      · have hk3 : k ≤ 3 := by omega
        have HO := Lib.hid (of_lit N0 B (p + 3 + k) letterTexts 6 rfl (by omega) (by omega) wr (by omega) hRk _ rfl)
        simp only [letterTexts, List.map_cons, List.map_nil] at HO
        have HS := Lib.hid hs
        have hs8 : s.size ≤ 8 := by omega
        clear hs
        go_wp2_with fail
        refine HO.out.mono ?_
        rintro e W5 ⟨x, hx, rfl, hR5, hg5⟩
        have hx1 : x.size = 1 := by
          simp at hx
          rcases hx with rfl | rfl | rfl | rfl | rfl | rfl <;> rfl
        have HX := Lib.hid hx1
        have hx8 : x.size ≤ 1 := by omega
        clear hx hx1
        go_wp2
        refine ⟨⟨k + 1, s ++ ⟨#[47]⟩ ++ x, by go_num, by omega, by omega, rfl, ?_, hR5, grownBy_trans hgk hg5⟩, ?_⟩
        · rw [ByteArray.size_append, ByteArray.size_append, HS.out, HX.out]
          show 2 * k + 1 + 1 = _
          omega
        · simp [intOf]; omega
      · have hk : (1 : Int) + a * b ≤ k := by omega
        have HS := Lib.hid hs
        clear hs hlt
        go_wp2
        go_ret
        refine ⟨s, p + 3 + k, rfl, by have := HS.out; omega, by omega, hRk, hgk⟩

end Go.Proofs.YtnmpbocnbcokeaaDoor

/-
  WALKS: trees that are drawn (spec.l91Tree).
-/
namespace Go.Proofs.YtnmpbocnbcokeaaDoor
open Go.RowKit
set_option linter.unusedVariables false

/-- A drawn list of nodes, of the call's own. -/
def TreeDraw (N0 B p m c d : Nat) (W : World) (ok : List Nd → Prop) (e : Ending) (W' : World) : Prop :=
  ∃ (sl : Value) (out : List Nd) (q : Nat), e = .returned sl ∧ W'.ownsRow W.heap.size 65 3 sl out.length (flatN out) ∧ ok out ∧ out.length ≤ c ∧ Short m out ∧ q ≤ p + d ∧ RdAt N0 W' B q ∧ W.grownBy W' (some B)

def TreeRel (N0 B p : Nat) (n : Int) (W : World) (o i : Value) (wr : World) : Prop :=
  ∃ (acc : List Nd) (j q : Nat), i = .int .i64 j ∧ (j : Int) ≤ n ∧ wr.ownsRow W.heap.size 65 3 o acc.length (flatN acc) ∧ Hid (validT acc = true) ∧ Hid (Short 64 acc) ∧ Hid (q ≤ p + 11 * j) ∧ RdAt N0 wr B q ∧ Hid (W.grownBy wr (some B))

set_option maxHeartbeats 2000000 in
set_option maxRecDepth 100000 in
theorem l91Tree_c (N0 B p : Nat) (n : Int) (hn0 : 0 ≤ n) (hn : n ≤ 60) (W : World) (hp : p < 20000) (hR : RdAt N0 W B p) :
    Calls Tryd.prog 55 #[.pointer (some ⟨B, 0, none⟩), .int .i64 n] W (TreeDraw N0 B p 64 10 660 W (fun out => validT out = true)) := by
  have HLT := Lib.hid hR.lt
  have HP := Lib.hid (fun q W hq hR => l91Path_c N0 B q W hq hR)
  have HC := Lib.hid (fun q W hq hR => l91Content_c N0 B q W hq hR)
  have HPP := Lib.hid hp
  have HN := Lib.hid hn
  go_enter Tryd.func55, Tryd.ntmps55
  go_wp2
  go_loopw [5, 6, 7, 8] (fun o i _ _ wr => TreeRel N0 B p n W o i wr) (fun _ i _ _ _ => (n - intOf i).toNat)
  case atStart => exact ⟨[], 0, p, rfl, hn0, World.ownsRow_lit (e := 65) (size := 3) W #[] 0 (Nat.le_refl _) (by simp [maxLen]) rfl, (by show validT [] = true; rfl), (by intro x hx; cases hx), (by show p ≤ _; omega), hR.alloc _, grownBy_new _ _ _⟩
  case round =>
    obtain ⟨acc, j, q, rfl, hj, hrow, HV, HS, HQ, hRq, HG⟩ := hrel
    by_cases hlt : (j : Int) < n
    · have HJ := Lib.hid hlt
      clear hj hR
      go_wp2_with fail
      refine (HP.out q _ (by have h5 := HQ.out; have h6 := HPP.out; have h7 := HN.out; omega) hRq).mono ?_; rintro e W2 ⟨s, q2, rfl, hs, hq2, hR2, hg2⟩
      have hrow2 := own_reader hrow HLT.out hg2
      have HS2 := Lib.hid (And.intro hs hq2)
      clear hs hq2 hrow hRq
      go_wp2_with fail
      refine (HC.out q2 _ (by have h5 := HQ.out; have h6 := HPP.out; have h7 := HN.out; have h8 := HS2.out.2; omega) hR2).mono ?_; rintro e W3 ⟨k, v, q3, rfl, -, -, -, -, hq3, hR3, hg3⟩
      have hrow3 := own_reader hrow2 HLT.out hg3
      have HQ3 := Lib.hid hq3
      have HG3 := Lib.hid (grownBy_trans HG.out (grownBy_trans hg2 hg3))
      obtain ⟨ao, co, rfl, hNo⟩ := nodes_of_own hrow3
      have hlen := ((validT_iff acc).1 HV.out).2.2
      have HTP := Lib.hid (specTreePut_c ao acc.length co acc s k v (by omega) (fun n hn => by have := HS.out n hn; omega) (by have := HS2.out.1; omega) W3 hNo)
      clear hq3 hrow2 hR2 hg2 hg3 hNo hlen
      go_wp2_with fail
      refine HTP.out.mono ?_; rintro e W4 ⟨sl, out, b, rfl, hb, hown, hb4⟩
      have HR4 := Lib.hid (hR3.keep hb4)
      have HG4 := Lib.hid (grownBy_below HG3.out hb4)
      cases b with
      | true =>
        have hr : treePut acc s k v = some out := by
          rcases hb with ⟨-, h⟩ | ⟨h, -⟩
          · exact h
          · cases h
        obtain ⟨-, -, -, h5, h6⟩ := treePut_some hr
        have HV4 : Hid (validT out = true) := h6
        have HS4 : Hid (Short 64 out) := by show Short 64 out; rw [h5]; exact short_put HS.out HS2.out.1
        have hown4 := own_mono hown HG3.out.size
        clear hb hr h5 h6 hown hb4 hrow3 hR3
        go_wp2
        go_roundw
        case rel => exact ⟨out, j + 1, q3, by go_num, by have := HJ.out; omega, hown4, HV4, HS4, (by show q3 ≤ _; have h5 := HQ.out; have h6 := HQ3.out; have h7 := HS2.out.2; omega), HR4.out, HG4⟩
        case measure => have := HJ.out; simp [intOf]; omega
      | false =>
        have hown4 := own_below hrow3 hb4
        clear hb hown hb4 hrow3 hR3
        go_wp2
        go_roundw
        case rel => exact ⟨acc, j + 1, q3, by go_num, by have := HJ.out; omega, hown4, HV, HS, (by show q3 ≤ _; have h5 := HQ.out; have h6 := HQ3.out; have h7 := HS2.out.2; omega), HR4.out, HG4⟩
        case measure => have := HJ.out; simp [intOf]; omega
    · have hge : n ≤ (j : Int) := by omega
      have HJ := Lib.hid hj
      clear hj hR
      go_wp2
      go_ret
      exact ⟨_, acc, q, rfl, hrow, HV.out, ((validT_iff acc).1 HV.out).2.2, HS.out, by have h5 := HQ.out; have h6 := HJ.out; have h7 := HN.out; omega, hRq, HG.out⟩

end Go.Proofs.YtnmpbocnbcokeaaDoor

/-
  WALKS: trees that are drawn, seldom invalid ones (spec.l91Any).
-/
namespace Go.Proofs.YtnmpbocnbcokeaaDoor
open Go.RowKit
set_option linter.unusedVariables false

theorem flatN_set : ∀ (ns : List Nd) (i : Nat) (n : Nd) (k v : Int), ns[i]? = some n → ((flatN ns).set (i * 3 + 1) (.int .i64 k)).set (i * 3 + 2) (.int .i64 v) = flatN (ns.set i ⟨n.p, k, v⟩)
  | [], i, n, k, v, h => by simp at h
  | m :: r, 0, n, k, v, h => by
    simp at h
    subst h
    rfl
  | m :: r, i + 1, n, k, v, h => by
    have ih := flatN_set r i n k v (by simpa using h)
    have e : ∀ (x : Nd) (t : List Nd), flatN (x :: t) = .string x.p :: .int .i64 x.k :: .int .i64 x.v :: flatN t := fun _ _ => rfl
    rw [List.set_cons_succ, e m r, e m (r.set i _), ← ih, show (i + 1) * 3 + 1 = (i * 3 + 1) + 3 by omega, show (i + 1) * 3 + 2 = (i * 3 + 2) + 3 by omega]
    rfl

theorem own_set {W : World} {base : Nat} {e : TypeId} {g cap : Nat} {ns : List Nd} {i : Nat} {n : Nd} (h : W.ownsRow base e 3 (.slice (some ⟨g, 0, none⟩) ns.length cap) ns.length (flatN ns)) (hn : ns[i]? = some n) (k v : Int) :
    ((W.setCell ⟨g, i * 3 + 1, none⟩ (.int .i64 k)).setCell ⟨g, i * 3 + 1 + 1, none⟩ (.int .i64 v)).ownsRow base e 3 (.slice (some ⟨g, 0, none⟩) ns.length cap) (ns.set i ⟨n.p, k, v⟩).length (flatN (ns.set i ⟨n.p, k, v⟩)) := by
  have := ((h.stored (i * 3 + 1) (.int .i64 k)).1.stored (i * 3 + 2) (.int .i64 v)).1
  rw [flatN_set ns i n k v hn] at this
  rw [List.length_set]
  exact this

theorem own_slice {W : World} {base : Nat} {e : TypeId} {v : Value} {ns : List Nd} (h : W.ownsRow base e 3 v ns.length (flatN ns)) (h0 : 0 < ns.length) : ∃ g cap, v = .slice (some ⟨g, 0, none⟩) ns.length cap ∧ base ≤ g ∧ g < W.heap.size := by
  rcases h.2 with ⟨_, h1⟩ | ⟨g, cap, cur, rfl, h1, h2, _⟩
  · omega
  · exact ⟨g, cap, rfl, h1, by rw [Array.getElem?_eq_some_iff] at h2; exact h2.1⟩

theorem short_set {m : Nat} {ns : List Nd} {i : Nat} {n : Nd} {k v : Int} (h : Short m ns) (hn : ns[i]? = some n) : Short m (ns.set i ⟨n.p, k, v⟩) := by
  intro x hx
  rcases List.mem_or_eq_of_mem_set hx with h1 | rfl
  · exact h x h1
  · exact h n (List.mem_of_getElem? hn)

set_option maxHeartbeats 2000000 in
set_option maxRecDepth 100000 in
theorem l91Any_c (N0 B p : Nat) (W : World) (hp : p < 10000) (hR : RdAt N0 W B p) :
    Calls Tryd.prog 33 #[.pointer (some ⟨B, 0, none⟩)] W (TreeDraw N0 B p 64 11 670 W (fun _ => True)) := by
  obtain ⟨i0, hi, hz0, hz1, hz2⟩ := info_parts infoNode
  have HLT := Lib.hid hR.lt
  have HLE := Lib.hid hR.le
  have HP1 := Lib.hid (fun W hR => pick_c N0 B p 16 (by omega) (by omega) W (by omega) hR)
  have HP2 := Lib.hid (fun W hR => pick_c N0 B (p + 1) 8 (by omega) (by omega) W (by omega) hR)
  have HT := Lib.hid (fun n h0 h1 W hR => l91Tree_c N0 B (p + 1 + 1) n h0 h1 W (by omega) hR)
  have HPK := Lib.hid (fun q n h0 h1 W hq hR => pick_c N0 B q n h0 h1 W hq hR)
  have HPP := Lib.hid hp
  clear hp
  go_enter Tryd.func33, Tryd.ntmps33
  go_wp2_with fail
  refine (HP1.out _ hR).mono ?_; rintro e W1 ⟨n, rfl, n0, n1, hR1, hg1⟩
  have HN := Lib.hid (And.intro n0 n1)
  clear n0 n1 hR
  go_wp2_with fail
  refine (HP2.out _ hR1).mono ?_; rintro e W2 ⟨r, rfl, r0, r1, hR2, hg2⟩
  have HG2 := Lib.hid (grownBy_trans hg1 hg2)
  clear hg1 hg2 hR1
  by_cases hr : r = 0
  · subst hr
    clear r0 r1
    go_wp2_with fail
    refine (HT.out 60 (by omega) (by omega) _ hR2).mono ?_; rintro e W3 ⟨sl, out, q, rfl, hown0, -, hlen, hsh, hq, hR3, hg3⟩
    have hown := own_mono hown0 HG2.out.size
    have HG3 := Lib.hid (grownBy_trans HG2.out hg3)
    have HSH := Lib.hid hsh
    have HLN := Lib.hid hlen
    have HQ := Lib.hid hq
    clear hown0 hg3 hsh hlen hq hR2
    by_cases hl0 : out.length = 0
    · obtain ⟨a, cap, rfl, -⟩ := nodes_of_own hown
      have HO := Lib.hid hown
      have hl0' : (out.length : Int) = 0 := by omega
      clear hl0 hown
      go_wp2
      go_ret
      exact ⟨_, out, q, rfl, HO.out, trivial, by have := HLN.out; omega, HSH.out, by have := HQ.out; omega, hR3, HG3.out⟩
    · have hl0 : 0 < out.length := by omega
      have hl1 : (0 : Int) < out.length := by omega
      obtain ⟨g, cap, rfl, hgb, hgw⟩ := own_slice hown hl0
      have HB := Lib.hid (And.intro hgb hgb)
      clear hgb hgw
      go_wp2_with fail
      refine (HPK.out q out.length (by omega) (by have := HLN.out; omega) _ (by have := HQ.out; have := HPP.out; omega) hR3).mono ?_; rintro e W4 ⟨k', rfl, k0, k1, hR4, hg4⟩
      obtain ⟨k, rfl⟩ := Int.eq_ofNat_of_zero_le k0
      have HK := Lib.hid (show k < out.length by omega)
      have hown4 := own_reader hown HLT.out hg4
      clear k0 k1 hown hR3
      go_wp2_with fail
      refine (HPK.out (q + 1) 30 (by omega) (by omega) _ (by have := HQ.out; have := HPP.out; omega) hR4).mono ?_; rintro e W5 ⟨tt, rfl, t0, t1, hR5, hg5⟩
      have HO5 := Lib.hid (own_reader hown4 HLT.out hg5)
      have HG5 := Lib.hid (grownBy_trans HG3.out (grownBy_trans hg4 hg5))
      have HR5 := Lib.hid hR5
      obtain ⟨x, hx⟩ : ∃ x, out[k]? = some x := ⟨_, List.getElem?_eq_getElem HK.out⟩
      have HX := Lib.hid hx
      clear hx hg4 hg5 hR4 hR5 hown4
      by_cases ht : tt = 0
      · subst ht
        clear t0 t1
        have c1 : W5.cell? ⟨g, k * 3 + 1, none⟩ = some (.int .i64 x.k) := by rw [HO5.out.cellAt _ (by have := HK.out; omega)]; exact (flatN_get out k x HX.out).2.1
        have c2 : W5.cell? ⟨g, k * 3 + 2, none⟩ = some (.int .i64 x.v) := by rw [HO5.out.cellAt _ (by have := HK.out; omega)]; exact (flatN_get out k x HX.out).2.2
        have z1 := HO5.out.frozenAt (k * 3 + 1)
        have z2 := HO5.out.frozenAt (k * 3 + 2)
        have hkl : (k : Int) < out.length := by have := HK.out; omega
        clear hl0
        go_wp2
        go_ret
        exact ⟨_, out.set k ⟨x.p, 0, 0⟩, q + 1 + 1, rfl, own_set HO5.out HX.out 0 0, trivial, by rw [List.length_set]; have := HLN.out; omega, short_set HSH.out HX.out, by have := HQ.out; omega,
          (HR5.out.setNew _ _ (by have := HLE.out; have := HB.out.1; show N0 ≤ g; omega)).setNew _ _ (by have := HLE.out; have := HB.out.1; show N0 ≤ g; omega), grownBy_setCell_new (grownBy_setCell_new HG5.out _ _ HB.out.1) _ _ HB.out.1⟩
      · have ht0 : (tt == 0) = false := beq_eq_false_iff_ne.2 ht
        clear ht
        by_cases ht : tt = 1
        · subst ht
          clear t0 t1
          have c0 : W5.cell? ⟨g, k * 3, none⟩ = some (.string x.p) := by rw [HO5.out.cellAt _ (by have := HK.out; omega)]; exact (flatN_get out k x HX.out).1
          have c1 : W5.cell? ⟨g, k * 3 + 1, none⟩ = some (.int .i64 x.k) := by rw [HO5.out.cellAt _ (by have := HK.out; omega)]; exact (flatN_get out k x HX.out).2.1
          have c2 : W5.cell? ⟨g, k * 3 + 2, none⟩ = some (.int .i64 x.v) := by rw [HO5.out.cellAt _ (by have := HK.out; omega)]; exact (flatN_get out k x HX.out).2.2
          have hkl : (k : Int) < out.length := by have := HK.out; omega
          clear hl0
          go_wp2_with (at_builtin; refine wpList_append_own _ rfl _ _ 23 rfl W.heap.size 65 i0 (.agg #[.string ⟨#[]⟩, .int .i64 0, .int .i64 0]) 3 32 Tryd.underlying23 hi hz0 hz1 hz2 rfl (by decide) _ _ _ rfl (HO5.out.alloc _) ⟨W5.heap.size, 0, none⟩ 1 1 [.string x.p, .int .i64 x.k, .int .i64 x.v] rfl rfl (cell_three_new _ _ _ _ _) (fun x hx => by simp at hx; rcases hx with rfl | rfl | rfl <;> rfl) (by unfold maxLen; have := HLN.out; omega) (by have := HLN.out; omega) (by have := HG5.out.size; simp; omega) ?_; intro v' w6 ho6 hg6 hn6)
          go_ret
          have hown6 := own_push x ho6
          have hfar : W.heap.size ≤ g := HB.out.1
          have hg7 : W5.grownBy w6 (some g) := grownBy_trans (grownBy_new W5 _ _) hg6
          have hR6 : RdAt N0 w6 B (q + 1 + 1) := by
            have hle := HLE.out
            exact HR5.out.kept ⟨hg7.os, hg7.tape, hg7.output, hg7.size, fun b hb => hg7.block b (Nat.lt_of_lt_of_le hb HR5.out.le) (by simp; omega)⟩
          have hG6 : W.grownBy w6 (some B) := ⟨HG5.out.os ▸ hg7.os ▸ rfl, hg7.tape.trans HG5.out.tape, hg7.output.trans HG5.out.output, Nat.le_trans HG5.out.size hg7.size, fun b hb hne => (hg7.block b (Nat.lt_of_lt_of_le hb HG5.out.size) (by simp; omega)).trans (HG5.out.block b hb hne)⟩
          have hsh6 : Short 64 (out ++ [x]) := by
            intro y hy
            rcases List.mem_append.1 hy with h | h
            · exact HSH.out y h
            · rw [List.mem_singleton] at h
              subst h
              exact HSH.out _ (List.mem_of_getElem? HX.out)
          exact ⟨_, out ++ [x], q + 1 + 1, rfl, hown6, trivial, by simp; have := HLN.out; omega, hsh6, by have := HQ.out; omega, hR6, hG6⟩
        · have ht1 : (tt == 1) = false := beq_eq_false_iff_ne.2 ht
          clear ht
          by_cases ht : tt = 2
          · subst ht
            clear t0 t1
            have c1 : W5.cell? ⟨g, k * 3 + 1, none⟩ = some (.int .i64 x.k) := by rw [HO5.out.cellAt _ (by have := HK.out; omega)]; exact (flatN_get out k x HX.out).2.1
            have c2 : W5.cell? ⟨g, k * 3 + 2, none⟩ = some (.int .i64 x.v) := by rw [HO5.out.cellAt _ (by have := HK.out; omega)]; exact (flatN_get out k x HX.out).2.2
            have z1 := HO5.out.frozenAt (k * 3 + 1)
            have z2 := HO5.out.frozenAt (k * 3 + 2)
            have hkl : (k : Int) < out.length := by have := HK.out; omega
            clear hl0
            go_wp2
            go_ret
            exact ⟨_, out.set k ⟨x.p, 2, 0⟩, q + 1 + 1, rfl, own_set HO5.out HX.out 2 0, trivial, by rw [List.length_set]; have := HLN.out; omega, short_set HSH.out HX.out, by have := HQ.out; omega,
              (HR5.out.setNew _ _ (by have := HLE.out; have := HB.out.1; show N0 ≤ g; omega)).setNew _ _ (by have := HLE.out; have := HB.out.1; show N0 ≤ g; omega), grownBy_setCell_new (grownBy_setCell_new HG5.out _ _ HB.out.1) _ _ HB.out.1⟩
          · have ht2 : (tt == 2) = false := beq_eq_false_iff_ne.2 ht
            have HO6 := HO5
            clear ht t0 t1
            go_wp2
            go_ret
            exact ⟨_, out, q + 1 + 1, rfl, HO6.out, trivial, by have := HLN.out; omega, HSH.out, by have := HQ.out; omega, HR5.out, HG5.out⟩
  · have hr' : (r == 0) = false := beq_eq_false_iff_ne.2 hr
    clear r0 r1 hr
    go_wp2_with fail
    refine (HT.out n HN.out.1 (by have := HN.out.2; omega) _ hR2).mono ?_; rintro e W3 ⟨sl, out, q, rfl, hown0, -, hlen, hsh, hq, hR3, hg3⟩
    have hown := own_mono hown0 HG2.out.size
    have HG3 := Lib.hid (grownBy_trans HG2.out hg3)
    have HSH := Lib.hid hsh
    have HLN := Lib.hid hlen
    have HQ := Lib.hid hq
    clear hown0 hg3 hsh hlen hq hR2
    by_cases hl0 : out.length = 0
    · obtain ⟨a, cap, rfl, -⟩ := nodes_of_own hown
      have HO := Lib.hid hown
      have hl0' : (out.length : Int) = 0 := by omega
      clear hl0 hown
      go_wp2
      go_ret
      exact ⟨_, out, q, rfl, HO.out, trivial, by have := HLN.out; omega, HSH.out, by have := HQ.out; omega, hR3, HG3.out⟩
    · have hl0 : 0 < out.length := by omega
      have hl1 : (0 : Int) < out.length := by omega
      obtain ⟨g, cap, rfl, hgb, hgw⟩ := own_slice hown hl0
      have HB := Lib.hid (And.intro hgb hgb)
      clear hgb hgw
      go_wp2_with fail
      refine (HPK.out q out.length (by omega) (by have := HLN.out; omega) _ (by have := HQ.out; have := HPP.out; omega) hR3).mono ?_; rintro e W4 ⟨k', rfl, k0, k1, hR4, hg4⟩
      obtain ⟨k, rfl⟩ := Int.eq_ofNat_of_zero_le k0
      have HK := Lib.hid (show k < out.length by omega)
      have hown4 := own_reader hown HLT.out hg4
      clear k0 k1 hown hR3
      go_wp2_with fail
      refine (HPK.out (q + 1) 30 (by omega) (by omega) _ (by have := HQ.out; have := HPP.out; omega) hR4).mono ?_; rintro e W5 ⟨tt, rfl, t0, t1, hR5, hg5⟩
      have HO5 := Lib.hid (own_reader hown4 HLT.out hg5)
      have HG5 := Lib.hid (grownBy_trans HG3.out (grownBy_trans hg4 hg5))
      have HR5 := Lib.hid hR5
      obtain ⟨x, hx⟩ : ∃ x, out[k]? = some x := ⟨_, List.getElem?_eq_getElem HK.out⟩
      have HX := Lib.hid hx
      clear hx hg4 hg5 hR4 hR5 hown4
      by_cases ht : tt = 0
      · subst ht
        clear t0 t1
        have c1 : W5.cell? ⟨g, k * 3 + 1, none⟩ = some (.int .i64 x.k) := by rw [HO5.out.cellAt _ (by have := HK.out; omega)]; exact (flatN_get out k x HX.out).2.1
        have c2 : W5.cell? ⟨g, k * 3 + 2, none⟩ = some (.int .i64 x.v) := by rw [HO5.out.cellAt _ (by have := HK.out; omega)]; exact (flatN_get out k x HX.out).2.2
        have z1 := HO5.out.frozenAt (k * 3 + 1)
        have z2 := HO5.out.frozenAt (k * 3 + 2)
        have hkl : (k : Int) < out.length := by have := HK.out; omega
        clear hl0
        go_wp2
        go_ret
        exact ⟨_, out.set k ⟨x.p, 0, 0⟩, q + 1 + 1, rfl, own_set HO5.out HX.out 0 0, trivial, by rw [List.length_set]; have := HLN.out; omega, short_set HSH.out HX.out, by have := HQ.out; omega,
          (HR5.out.setNew _ _ (by have := HLE.out; have := HB.out.1; show N0 ≤ g; omega)).setNew _ _ (by have := HLE.out; have := HB.out.1; show N0 ≤ g; omega), grownBy_setCell_new (grownBy_setCell_new HG5.out _ _ HB.out.1) _ _ HB.out.1⟩
      · have ht0 : (tt == 0) = false := beq_eq_false_iff_ne.2 ht
        clear ht
        by_cases ht : tt = 1
        · subst ht
          clear t0 t1
          have c0 : W5.cell? ⟨g, k * 3, none⟩ = some (.string x.p) := by rw [HO5.out.cellAt _ (by have := HK.out; omega)]; exact (flatN_get out k x HX.out).1
          have c1 : W5.cell? ⟨g, k * 3 + 1, none⟩ = some (.int .i64 x.k) := by rw [HO5.out.cellAt _ (by have := HK.out; omega)]; exact (flatN_get out k x HX.out).2.1
          have c2 : W5.cell? ⟨g, k * 3 + 2, none⟩ = some (.int .i64 x.v) := by rw [HO5.out.cellAt _ (by have := HK.out; omega)]; exact (flatN_get out k x HX.out).2.2
          have hkl : (k : Int) < out.length := by have := HK.out; omega
          clear hl0
          go_wp2_with (at_builtin; refine wpList_append_own _ rfl _ _ 23 rfl W.heap.size 65 i0 (.agg #[.string ⟨#[]⟩, .int .i64 0, .int .i64 0]) 3 32 Tryd.underlying23 hi hz0 hz1 hz2 rfl (by decide) _ _ _ rfl (HO5.out.alloc _) ⟨W5.heap.size, 0, none⟩ 1 1 [.string x.p, .int .i64 x.k, .int .i64 x.v] rfl rfl (cell_three_new _ _ _ _ _) (fun x hx => by simp at hx; rcases hx with rfl | rfl | rfl <;> rfl) (by unfold maxLen; have := HLN.out; omega) (by have := HLN.out; omega) (by have := HG5.out.size; simp; omega) ?_; intro v' w6 ho6 hg6 hn6)
          go_ret
          have hown6 := own_push x ho6
          have hfar : W.heap.size ≤ g := HB.out.1
          have hg7 : W5.grownBy w6 (some g) := grownBy_trans (grownBy_new W5 _ _) hg6
          have hR6 : RdAt N0 w6 B (q + 1 + 1) := by
            have hle := HLE.out
            exact HR5.out.kept ⟨hg7.os, hg7.tape, hg7.output, hg7.size, fun b hb => hg7.block b (Nat.lt_of_lt_of_le hb HR5.out.le) (by simp; omega)⟩
          have hG6 : W.grownBy w6 (some B) := ⟨HG5.out.os ▸ hg7.os ▸ rfl, hg7.tape.trans HG5.out.tape, hg7.output.trans HG5.out.output, Nat.le_trans HG5.out.size hg7.size, fun b hb hne => (hg7.block b (Nat.lt_of_lt_of_le hb HG5.out.size) (by simp; omega)).trans (HG5.out.block b hb hne)⟩
          have hsh6 : Short 64 (out ++ [x]) := by
            intro y hy
            rcases List.mem_append.1 hy with h | h
            · exact HSH.out y h
            · rw [List.mem_singleton] at h
              subst h
              exact HSH.out _ (List.mem_of_getElem? HX.out)
          exact ⟨_, out ++ [x], q + 1 + 1, rfl, hown6, trivial, by simp; have := HLN.out; omega, hsh6, by have := HQ.out; omega, hR6, hG6⟩
        · have ht1 : (tt == 1) = false := beq_eq_false_iff_ne.2 ht
          clear ht
          by_cases ht : tt = 2
          · subst ht
            clear t0 t1
            have c1 : W5.cell? ⟨g, k * 3 + 1, none⟩ = some (.int .i64 x.k) := by rw [HO5.out.cellAt _ (by have := HK.out; omega)]; exact (flatN_get out k x HX.out).2.1
            have c2 : W5.cell? ⟨g, k * 3 + 2, none⟩ = some (.int .i64 x.v) := by rw [HO5.out.cellAt _ (by have := HK.out; omega)]; exact (flatN_get out k x HX.out).2.2
            have z1 := HO5.out.frozenAt (k * 3 + 1)
            have z2 := HO5.out.frozenAt (k * 3 + 2)
            have hkl : (k : Int) < out.length := by have := HK.out; omega
            clear hl0
            go_wp2
            go_ret
            exact ⟨_, out.set k ⟨x.p, 2, 0⟩, q + 1 + 1, rfl, own_set HO5.out HX.out 2 0, trivial, by rw [List.length_set]; have := HLN.out; omega, short_set HSH.out HX.out, by have := HQ.out; omega,
              (HR5.out.setNew _ _ (by have := HLE.out; have := HB.out.1; show N0 ≤ g; omega)).setNew _ _ (by have := HLE.out; have := HB.out.1; show N0 ≤ g; omega), grownBy_setCell_new (grownBy_setCell_new HG5.out _ _ HB.out.1) _ _ HB.out.1⟩
          · have ht2 : (tt == 2) = false := beq_eq_false_iff_ne.2 ht
            have HO6 := HO5
            clear ht t0 t1
            go_wp2
            go_ret
            exact ⟨_, out, q + 1 + 1, rfl, HO6.out, trivial, by have := HLN.out; omega, HSH.out, by have := HQ.out; omega, HR5.out, HG5.out⟩

end Go.Proofs.YtnmpbocnbcokeaaDoor

/-
  WALKS: spec.l91In: a path of a drawn tree, or any path.
-/
namespace Go.Proofs.YtnmpbocnbcokeaaDoor
open Go.RowKit
set_option linter.unusedVariables false

def twoLetters : List ByteArray := [⟨#[97]⟩, ⟨#[98]⟩]

set_option maxHeartbeats 2000000 in
set_option maxRecDepth 100000 in
theorem l91In_c (N0 B p base : Nat) (sl : Value) (ns : List Nd) (hlen : ns.length ≤ 1000) (hs : Short 64 ns) (hb : B < base) (W : World) (hown : W.ownsRow base 65 3 sl ns.length (flatN ns)) (hp : p < 20000) (hR : RdAt N0 W B p) :
    Calls Tryd.prog 65 #[.pointer (some ⟨B, 0, none⟩), sl] W (StrPost N0 B p 8 66 W) := by
  have HPath := Lib.hid (fun q W hq hR => l91Path_c N0 B q W hq hR)
  have HPK := Lib.hid (fun q n h0 h1 W hq hR => pick_c N0 B q n h0 h1 W hq hR)
  have HPP := Lib.hid hp
  have HS := Lib.hid hs
  have HB := Lib.hid hb
  have HLN := Lib.hid hlen
  clear hp hs hb hlen
  by_cases h0 : ns.length = 0
  · obtain ⟨a, cap, rfl, -⟩ := nodes_of_own hown
    have h0' : (ns.length : Int) = 0 := by omega
    clear h0 hown
    go_enter Tryd.func65, Tryd.ntmps65
    go_wp2_with fail
    refine (HPath.out p _ (by have := HPP.out; omega) hR).mono ?_; rintro e W1 ⟨s, q, rfl, hs, hq, hR1, hg1⟩
    have HX := Lib.hid (And.intro hs hq)
    clear hs hq hR
    go_wp2
    go_ret
    exact ⟨s, q, rfl, by have := HX.out.1; omega, by have := HX.out.2; omega, hR1, hg1⟩
  · obtain ⟨g, cap, rfl, hgb, hgw⟩ := own_slice hown (by omega)
    have hl1 : (0 : Int) < ns.length := by omega
    have HL0 := Lib.hid (show 0 < ns.length by omega)
    clear h0 hgb hgw
    go_enter Tryd.func65, Tryd.ntmps65
    go_wp2_with fail
    refine (HPK.out p 4 (by omega) (by omega) _ (by have := HPP.out; omega) hR).mono ?_; rintro e W1 ⟨r, rfl, r0, r1, hR1, hg1⟩
    have hown1 := own_reader hown HB.out hg1
    have HG1 := Lib.hid hg1
    clear hown hR hg1
    by_cases hr : 0 < r
    · have hr' : decide (0 < r) = true := decide_eq_true hr
      clear r0 r1
      go_wp2_with fail
      refine (HPK.out (p + 1) ns.length (by have := HL0.out; omega) (by have := HLN.out; omega) _ (by have := HPP.out; omega) hR1).mono ?_; rintro e W2 ⟨k', rfl, k0, k1, hR2, hg2⟩
      obtain ⟨k, rfl⟩ := Int.eq_ofNat_of_zero_le k0
      have HK := Lib.hid (show k < ns.length by omega)
      have HO2 := Lib.hid (own_reader hown1 HB.out hg2)
      have HG2 := Lib.hid (grownBy_trans HG1.out hg2)
      obtain ⟨x, hx⟩ : ∃ x, ns[k]? = some x := ⟨_, List.getElem?_eq_getElem HK.out⟩
      have hsz : x.p.size ≤ 64 := HS.out x (List.mem_of_getElem? hx)
      have c0 : W2.cell? ⟨g, k * 3, none⟩ = some (.string x.p) := by rw [HO2.out.cellAt _ (by have := HK.out; omega)]; exact (flatN_get ns k x hx).1
      have hkl : (k : Int) < ns.length := by have := HK.out; omega
      generalize x.p = s at hsz c0
      clear k0 k1 hown1 hR1 hg2 hx
      go_wp2_with fail
      refine (HPK.out (p + 1 + 1) 4 (by omega) (by omega) _ (by have := HPP.out; omega) hR2).mono ?_; rintro e W3 ⟨t, rfl, t0, t1, hR3, hg3⟩
      have HG3 := Lib.hid (grownBy_trans HG2.out hg3)
      have HSZ := Lib.hid hsz
      clear c0 hR2 hg3 hkl
      by_cases ht : t = 0
      · subst ht
        clear t0 t1
        have HO := Lib.hid (of_lit N0 B (p + 1 + 1 + 1) twoLetters 2 rfl (by omega) (by omega) W3 (by have := HPP.out; omega) hR3 _ rfl)
        simp only [twoLetters, List.map_cons, List.map_nil] at HO
        go_wp2_with fail
        refine HO.out.mono ?_; rintro e W4 ⟨y, hy, rfl, hR4, hg4⟩
        have hy1 : y.size ≤ 1 := by
          simp at hy
          rcases hy with rfl | rfl <;> decide
        clear hy hR3
        go_wp2
        go_ret
        exact ⟨_, p + 1 + 1 + 1 + 1, rfl, by rw [ByteArray.size_append, ByteArray.size_append]; show s.size + 1 + _ ≤ 66; omega, by omega, hR4, grownBy_trans HG3.out hg4⟩
      · have ht' : (t == 0) = false := beq_eq_false_iff_ne.2 ht
        clear t0 t1 ht
        go_wp2
        go_ret
        exact ⟨_, p + 1 + 1 + 1, rfl, by omega, by omega, hR3, HG3.out⟩
    · have hr' : decide (0 < r) = false := decide_eq_false hr
      clear r0 r1
      go_wp2_with fail
      refine (HPath.out (p + 1) _ (by have := HPP.out; omega) hR1).mono ?_; rintro e W2 ⟨s, q, rfl, hs, hq, hR2, hg2⟩
      have HX := Lib.hid (And.intro hs hq)
      clear hs hq hR1
      go_wp2
      go_ret
      exact ⟨s, q, rfl, by have := HX.out.1; omega, by have := HX.out.2; omega, hR2, grownBy_trans HG1.out hg2⟩

end Go.Proofs.YtnmpbocnbcokeaaDoor

/-
  WALKS: spec.DrawTreeValid, DrawTreeGet, DrawTreePut, DrawTreeUnder.
-/
namespace Go.Proofs.YtnmpbocnbcokeaaDoor
open Go.RowKit
set_option linter.unusedVariables false

/-- A drawn list of nodes, in memory of the call's own. -/
def Drawn (W W' : World) (sl : Value) (ns : List Nd) : Prop :=
  W'.ownsRow W.heap.size 65 3 sl ns.length (flatN ns) ∧ ns.length ≤ 11 ∧ Short 64 ns ∧ Below W.heap.size W W'

def ListPost (W : World) (e : Ending) (W' : World) : Prop := ∃ sl ns, e = .returned sl ∧ Drawn W W' sl ns
def ListPathPost (W : World) (e : Ending) (W' : World) : Prop := ∃ sl ns s, e = .returned (.tuple #[sl, .string s]) ∧ s.size ≤ 66 ∧ Drawn W W' sl ns
def ListPutPost (W : World) (e : Ending) (W' : World) : Prop := ∃ sl ns s, ∃ k v : Int, e = .returned (.tuple #[sl, .string s, con k v]) ∧ s.size ≤ 66 ∧ Drawn W W' sl ns

theorem triple_results (fn : Func) (hf : fn.results = #[.tmp 2, .tmp 3, .cell 4 25]) (W : World) (n : Nat) (k v : Int) (sl x : Value) (tmps : Array Value) (h2 : tmps[2]? = some sl) (h3 : tmps[3]? = some x) (ht : tmps[4]? = some (.pointer (some ⟨n, 0, none⟩)))
    (h : W.cell? ⟨n, 0, none⟩ = some (.int .i64 k) ∧ W.cell? ⟨n, 1, none⟩ = some (.int .i64 v)) : (results fn tmps).run Tryd.prog W = .ok (.tuple #[sl, x, con k v]) W := by
  obtain ⟨c0, c1⟩ := h
  simp [results, hf, go_sem, h2, h3, ht, c0, c1]

theorem own_setOther {W : World} {base : Nat} {e : TypeId} {size n : Nat} {v : Value} {xs : List Value} (h : W.ownsRow base e size v n xs) (a : Addr) (u : Value) (ha : a.block < base) : (W.setCell a u).ownsRow base e size v n xs := by
  refine h.kept (row := some a.block) ⟨rfl, rfl, rfl, by simp [World.setCell], fun k _ hk => Below.heap_setCell _ _ _ _ (fun e => hk (by rw [e]))⟩ ?_
  cases hv : v.ownBlock with
  | none => exact .inl rfl
  | some k =>
    right
    have := (h.lt k hv).1
    simp; omega

/-- END OF PUT -/
theorem drewN_heap (W : World) (n : Nat) : (W.drewN n).heap = W.heap := (drewN_cell W n ⟨0, 0, none⟩).2.2
theorem drawn_drewN {W W' : World} {sl : Value} {ns : List Nd} (h : Drawn W W' sl ns) (n : Nat) : Drawn W (W'.drewN n) sl ns := by
  obtain ⟨h1, h2, h3, h4⟩ := h
  have hb : Below W'.heap.size W' (W'.drewN n) := ⟨rfl, rfl, rfl, by rw [drewN_heap]; exact Nat.le_refl _, fun k _ => by rw [drewN_heap]⟩
  exact ⟨own_below h1 hb, h2, h3, below_next h4 hb⟩

end Go.Proofs.YtnmpbocnbcokeaaDoor

/-
  WALKS: commands that are drawn: spec.l91Command, DrawCommandValid, DrawCommandUndo, DrawCommandText, DrawCommandApply, DrawCommandParse.
-/
namespace Go.Proofs.YtnmpbocnbcokeaaDoor
open Go.RowKit
set_option linter.unusedVariables false

/-- A drawn command: its path is short; the reader some places on. -/
def CmdDraw (N0 B p : Nat) (W : World) (e : Ending) (W' : World) : Prop :=
  ∃ (c : Cmd) (q : Nat), e = .returned (cmdV c) ∧ c.p.size ≤ 66 ∧ q ≤ p + 17 ∧ RdAt N0 W' B q ∧ W.grownBy W' (some B)

theorem cmd_draw {N0 B p q : Nat} {W W' : World} {t : ByteArray} {fk fv tk tv : Int} (hs : t.size ≤ 66) (hq : q ≤ p + 17) (hR : RdAt N0 W' B q) (hg : W.grownBy W' (some B)) (hL : N0 ≤ W.heap.size) :
    CmdDraw N0 B p W (.returned (cmdV ⟨t, fk, fv, tk, tv⟩)) (((((W'.setCell ⟨W.heap.size, 0, none⟩ (.string t)).setCell ⟨W.heap.size, 1, none⟩ (.int .i64 fk)).setCell ⟨W.heap.size, 2, none⟩ (.int .i64 fv)).setCell ⟨W.heap.size, 3, none⟩ (.int .i64 tk)).setCell ⟨W.heap.size, 4, none⟩ (.int .i64 tv)) :=
  ⟨⟨t, fk, fv, tk, tv⟩, q, rfl, hs, hq, ((((hR.setNew _ _ hL).setNew _ _ hL).setNew _ _ hL).setNew _ _ hL).setNew _ _ hL,
    grownBy_setCell_new (grownBy_setCell_new (grownBy_setCell_new (grownBy_setCell_new (grownBy_setCell_new hg _ _ (Nat.le_refl _)) _ _ (Nat.le_refl _)) _ _ (Nat.le_refl _)) _ _ (Nat.le_refl _)) _ _ (Nat.le_refl _)⟩

set_option maxHeartbeats 2000000 in
set_option maxRecDepth 100000 in
theorem l91Command_c (N0 B p base : Nat) (sl : Value) (ns : List Nd) (hlen : ns.length ≤ 11) (hs : Short 64 ns) (hb : B < base) (W : World) (hown : W.ownsRow base 65 3 sl ns.length (flatN ns)) (hp : p < 19000) (hR : RdAt N0 W B p) :
    Calls Tryd.prog 34 #[.pointer (some ⟨B, 0, none⟩), sl] W (CmdDraw N0 B p W) := by
  have HI := Lib.hid (fun W' h1 h2 => l91In_c N0 B p base sl ns (by omega) hs hb W' h1 (by omega) h2)
  have HC := Lib.hid (fun q W1 hq hR => l91Content_c N0 B q W1 hq hR)
  have HPK := Lib.hid (fun q n h0 h1 W hq hR => pick_c N0 B q n h0 h1 W hq hR)
  have HLT := Lib.hid hR.lt
  have HLE := Lib.hid hR.le
  have HO := Lib.hid hown
  have HR := Lib.hid hR
  have HB := Lib.hid hb
  have HP := Lib.hid hp
  obtain ⟨a, cap, rfl, hN⟩ := nodes_of_own hown
  have HN := Lib.hid hN
  have HG := Lib.hid (fun x W' (h : NodesAt W' a ns.length ns) => l3Get_c a ns.length cap ns x (by omega) W' h)
  clear hR hown hs hb hp hN hlen
  go_enter Tryd.func34, Tryd.ntmps34
  go_wp2_with fail
  refine (HI.out _ (own_below HO.out (below_box W _)) (HR.out.alloc _)).mono ?_
  rintro e W1 ⟨s, q1, rfl, hs1, hq1, hR1, hg1⟩
  have T1 := Lib.hid (five_grown hg1 HLT.out)
  have G1 := Lib.hid (grownBy_trans (grownBy_new W _ (some B)) hg1)
  have Q1 := Lib.hid (And.intro hs1 hq1)
  have HR1 := Lib.hid hR1
  clear hs1 hq1 hR1 hg1
  go_wp2_with fail
  refine (HC.out q1 _ (by have := HP.out; have := Q1.out.2; omega) HR1.out).mono ?_
  rintro e W2 ⟨k, v, q2, rfl, -, -, -, -, hq2, hR2, hg2⟩
  have T2 := Lib.hid (T1.out.keep hg2 (by have := HLT.out; omega))
  have G2 := Lib.hid (grownBy_trans G1.out hg2)
  have Q2 := Lib.hid hq2
  have HR2 := Lib.hid hR2
  have O2 := Lib.hid (own_reader HO.out HB.out G2.out)
  clear hq2 hR2 hg2 T1 G1 HR1
  go_wp2_with fail
  obtain ⟨⟨gk, gv⟩, hg⟩ : ∃ g, getT ns s = g := ⟨_, rfl⟩
  obtain ⟨a', cap', ee, hN2⟩ := nodes_of_own O2.out
  cases ee
  have HG2 := Lib.hid (show Calls Tryd.prog 38 #[.slice a ns.length cap, .string s] (W2.alloc (.cells #[.string s, .int .i64 0, .int .i64 0, .int .i64 k, .int .i64 v] 27)) (ConRet gk gv (W2.alloc (.cells #[.string s, .int .i64 0, .int .i64 0, .int .i64 k, .int .i64 v] 27))) by
    have := HG.out s _ (hN2.keep (below_box W2 (.cells #[.string s, .int .i64 0, .int .i64 0, .int .i64 k, .int .i64 v] 27)))
    rw [hg] at this
    exact this)
  clear hg hN2
  refine HG2.out.mono ?_
  rintro e W3 ⟨rfl, hb3⟩
  have F3 := Lib.hid ((five_new W2 _ _ _ _ _ _).below hb3)
  have T3 := Lib.hid ((T2.out.alloc _).below hb3)
  have G3 := Lib.hid (grownBy_below (grownBy_trans G2.out (grownBy_new W2 _ (some B))) hb3)
  have R3 := Lib.hid ((HR2.out.alloc _).keep hb3)
  have HZ := Lib.hid (And.intro HR2.out.le HR2.out.lt)
  have HW := Lib.hid (show W.heap.size < W2.heap.size from T2.out.2.2.2.2.2.2.2.2.2.2)
  clear hb3 HG2 T2 G2 O2 HR2
  obtain ⟨c0, c1, c2, c3, c4, f0, f1, f2, f3, f4, -⟩ := F3.out
  unfold con
  go_wp2_with fail
  refine (HPK.out q2 12 (by omega) (by omega) _ (by have := HP.out; have := Q1.out.2; have := Q2.out; omega) ((R3.out.setNew _ _ (by exact HZ.out.1)).setNew _ _ (by exact HZ.out.1))).mono ?_
  rintro e W4 ⟨r, rfl, r0, -, hR4, hg4⟩
  have F4 := Lib.hid ((F3.out.set1 (x := .int .i64 gk)).set2 (x := .int .i64 gv) |>.keep hg4 (by have := HZ.out.2; omega))
  have T4 := Lib.hid (((T3.out.setOther (x := ⟨W2.heap.size, 1, none⟩) (v := .int .i64 gk) (by have := HW.out; simp; omega)).setOther (x := ⟨W2.heap.size, 2, none⟩) (v := .int .i64 gv) (by have := HW.out; simp; omega)).keep hg4 (by have := HLT.out; omega))
  have G4 := Lib.hid (grownBy_trans (grownBy_setCell_new (grownBy_setCell_new G3.out ⟨W2.heap.size, 1, none⟩ (.int .i64 gk) (by have := HW.out; simp; omega)) ⟨W2.heap.size, 2, none⟩ (.int .i64 gv) (by have := HW.out; simp; omega)) hg4)
  have R4 := Lib.hid hR4
  clear hR4 hg4 F3 T3 G3 R3 c0 c1 c2 c3 c4 f0 f1 f2 f3 f4
  by_cases hr : r = 0
  · subst hr
    clear r0
    go_wp2_with fail
    refine (HC.out _ _ (by have := HP.out; have := Q1.out.2; have := Q2.out; omega) R4.out).mono ?_
    rintro e W5 ⟨k5, v5, q5, rfl, -, -, -, -, hq5, hR5, hg5⟩
    have F5 := Lib.hid (F4.out.keep hg5 (by have := HZ.out.2; omega))
    have T5 := Lib.hid (T4.out.keep hg5 (by have := HLT.out; omega))
    have G5 := Lib.hid (grownBy_trans G4.out hg5)
    have F6 := Lib.hid ((F5.out.set1 (x := .int .i64 k5)).set2 (x := .int .i64 v5))
    have T6 := Lib.hid ((T5.out.setOther (x := ⟨W2.heap.size, 1, none⟩) (v := .int .i64 k5) (by have := HW.out; simp; omega)).setOther (x := ⟨W2.heap.size, 2, none⟩) (v := .int .i64 v5) (by have := HW.out; simp; omega))
    have G6 := Lib.hid (grownBy_setCell_new (grownBy_setCell_new G5.out ⟨W2.heap.size, 1, none⟩ (.int .i64 k5) (by have := HW.out; simp; omega)) ⟨W2.heap.size, 2, none⟩ (.int .i64 v5) (by have := HW.out; simp; omega))
    have R6 := Lib.hid ((hR5.setNew ⟨W2.heap.size, 1, none⟩ (.int .i64 k5) (by exact HZ.out.1)).setNew ⟨W2.heap.size, 2, none⟩ (.int .i64 v5) (by exact HZ.out.1))
    have HQ5 := Lib.hid hq5
    obtain ⟨c0, c1, c2, c3, c4, f0, f1, f2, f3, f4, -⟩ := F5.out
    clear hq5 hR5 hg5
    unfold con
    go_upto_region 5 with (fail)
    clear c0 c1 c2 c3 c4 f0 f1 f2 f3 f4
    generalize (W5.setCell ⟨W2.heap.size, 1, none⟩ (.int .i64 k5)).setCell ⟨W2.heap.size, 2, none⟩ (.int .i64 v5) = W6 at F6 T6 G6 R6 ⊢
    obtain ⟨c0, c1, c2, c3, c4, -⟩ := F6.out
    obtain ⟨t0, t1, t2, t3, t4, f0, f1, f2, f3, f4, -⟩ := T6.out
    go_wp2
    exact bodyPost_ret (cmd_results _ rfl _ W.heap.size ⟨s, k5, v5, k, v⟩ _ rfl T6.out.setAll) rfl (cmd_draw Q1.out.1 (by have := Q1.out.2; have := Q2.out; have := HQ5.out; omega) R6.out G6.out (HLE.out))
  · have hb0 : (r == 0) = false := beq_eq_false_iff_ne.2 hr
    clear r0 hr
    obtain ⟨c0, c1, c2, c3, c4, -⟩ := F4.out
    obtain ⟨t0, t1, t2, t3, t4, f0, f1, f2, f3, f4, -⟩ := T4.out
    go_wp2
    exact bodyPost_ret (cmd_results _ rfl _ W.heap.size ⟨s, gk, gv, k, v⟩ _ rfl T4.out.setAll) rfl (cmd_draw Q1.out.1 (by have := Q1.out.2; have := Q2.out; omega) R4.out G4.out (HLE.out))

end Go.Proofs.YtnmpbocnbcokeaaDoor

/-
  WALKS: spec.l91Twist: a text that is changed in a third of all cases.
-/
namespace Go.Proofs.YtnmpbocnbcokeaaDoor
open Go.RowKit
set_option linter.unusedVariables false

/-- A text of modest length; the reader some places on. -/
def TwistPost (N0 B p m : Nat) (W : World) (e : Ending) (W' : World) : Prop :=
  ∃ (t : ByteArray) (q : Nat), e = .returned (.string t) ∧ t.size ≤ m ∧ q ≤ p + 4 ∧ RdAt N0 W' B q ∧ W.grownBy W' (some B)

theorem twist_facts (s : ByteArray) (k t : Nat) (hs : s.size ≤ 20000) (hk : (k : Int) < s.size) (ht : (t : Int) < 2) :
    IntKind.i64.wrap ((k : Int) + t) = ((k + t : Nat) : Int) ∧ ((k + t : Nat) : Int) ≤ s.size ∧ (s.extract (k + t) s.size).size ≤ 20000 := by
  refine ⟨?_, by omega, ?_⟩
  · rw [IntWalk.i64_in _ (by omega)]; omega
  · rw [ByteArray.size_extract]; omega

theorem twist_size (s x : ByteArray) (k t : Nat) (hx : x.size ≤ 1) (hk : (k : Int) < s.size) : (s.extract 0 k ++ x ++ s.extract (k + t) s.size).size ≤ s.size + 1 := by
  rw [ByteArray.size_append, ByteArray.size_append, ByteArray.size_extract, ByteArray.size_extract]; omega

theorem grownBy_drew (W : World) (row : Option Nat) : W.grownBy W.drew row := ⟨rfl, rfl, rfl, Nat.le_refl _, fun _ _ _ => rfl⟩

set_option maxHeartbeats 1000000 in
set_option maxRecDepth 100000 in
theorem l91Twist_c (N0 B p L c : Nat) (s : ByteArray) (hs : s.size ≤ 20000) (xs : List ByteArray) (hx : 1 ≤ xs.length) (hx2 : xs.length ≤ 1000) (hx1 : ∀ x ∈ xs, x.size ≤ 1) (hLB : L ≠ B) (W : World) (hp : p < 29000) (hR : RdAt N0 W B p)
    (hc : ∀ j x, xs[j]? = some x → W.cell? ⟨L, j, none⟩ = some (.string x)) :
    Calls Tryd.prog 56 #[.pointer (some ⟨B, 0, none⟩), .string s, .slice (some ⟨L, 0, none⟩) xs.length c] W (TwistPost N0 B p (s.size + 1) W) := by
  have HR := Lib.hid hR
  have HC := Lib.hid hc
  have HX1 := Lib.hid hx1
  clear hR hc hx1
  by_cases h0 : s.size = 0
  · have h0' : (s.size : Int) = 0 := by omega
    have HZ := Lib.hid h0
    clear h0 hs hx hx2 hLB hp
    go_enter Tryd.func56, Tryd.ntmps56
    go_wp2
    go_ret
    exact ⟨s, p, rfl, by omega, by omega, HR.out, ⟨rfl, rfl, rfl, Nat.le_refl _, fun _ _ _ => rfl⟩⟩
  · have h0' : (0 : Int) < s.size := by omega
    have HP1 := Lib.hid (fun W hR => pick_c N0 B p 3 (by omega) (by omega) W (by omega) hR)
    have HP2 := Lib.hid (fun W hR => pick_c N0 B (p + 1) s.size (by omega) (by omega) W (by omega) hR)
    have HP4 := Lib.hid (fun W hR => pick_c N0 B (p + 1 + 1 + 1) 2 (by omega) (by omega) W (by omega) hR)
    have HO := Lib.hid (fun W hR hc => of_c N0 B (p + 1 + 1) L c xs hx hx2 hLB W (by omega) hR hc)
    have HLB := Lib.hid hLB
    have HS := Lib.hid hs
    clear h0 hs hx hx2 hLB hp
    go_enter Tryd.func56, Tryd.ntmps56
    go_wp2_with fail
    refine (HP1.out _ HR.out).mono ?_
    rintro e W1 ⟨r, rfl, r0, r1, hR1, hg1⟩
    by_cases hr : r = 0
    · subst hr
      clear r0 r1
      go_wp2_with fail
      refine (HP2.out _ hR1).mono ?_
      rintro e W2 ⟨k', rfl, k0, k1, hR2, hg2⟩
      obtain ⟨k, rfl⟩ := Int.eq_ofNat_of_zero_le k0
      have hC2 : ∀ j x, xs[j]? = some x → W2.drew.cell? ⟨L, j, none⟩ = some (.string x) := fun j x h => hg2.cell (hg1.cell (HC.out j x h) (by simpa using HLB.out)) (by simpa using HLB.out)
      have HO2 := Lib.hid (HO.out W2.drew hR2.drew hC2)
      have HG2 := Lib.hid (grownBy_trans hg1 hg2)
      have HK := Lib.hid k1
      have hk : (k : Int) ≤ s.size := by omega
      have hs1 : s.size ≤ 20000 := HS.out
      have ha : (s.extract 0 k).size ≤ 20000 := by rw [ByteArray.size_extract]; omega
      clear hC2 hg1 hg2 hR1 hR2 k0 k1
      go_wp2_with fail
      go_region_with (first
        | (go_at_call 82; refine HO2.out.mono ?_; rintro e W3 ⟨x, hx, rfl, hR3, hg3⟩; have hx1 := HX1.out x hx)
        | (go_at_call 64; refine (HP4.out _ hR3).mono ?_; rintro e W4 ⟨t', rfl, t0, t1, hR4, hg4⟩; obtain ⟨t, rfl⟩ := Int.eq_ofNat_of_zero_le t0; obtain ⟨hw, hkt, hb⟩ := twist_facts s k t HS.out HK.out t1; have HT1 := Lib.hid t1; clear t0 t1))
      all_goals (go_wp2; go_ret; exact ⟨_, p + 1 + 1 + 1 + 1, rfl, twist_size s x k t (HX1.out x hx) HK.out, by omega, hR4, grownBy_trans (grownBy_trans HG2.out (grownBy_drew _ _)) (grownBy_trans hg3 hg4)⟩)
    · have hr' : (r == 0) = false := beq_eq_false_iff_ne.2 hr
      clear r0 r1 hr
      go_wp2
      go_ret
      exact ⟨s, p + 1, rfl, by omega, by omega, hR1, hg1⟩

end Go.Proofs.YtnmpbocnbcokeaaDoor
