/-
  Texts of this proof, one behind the other: Iw, Lg, Ca, Lv, Eo, Eu, Tc, Eq, Cb, Lu, Il, Qc, Sm, To, Le, Ro, Lp, Lt, La, Li, Ld, Cg, Lb, Lf, Lk, On.
-/
import Derived.Laws.Cover1
import Derived.Laws.StructEq
import Derived.Laws.Concat
import Derived.Deep.Slices
import Derived.Deep.Fields
import Derived.ChangeSame
import Derived.ChangeArms
import Derived.Test.YtkaokncaockjkaaK2
/-
  WALKS: commands of the program: impl.CommandValid, impl.CommandUndo, impl.CommandText.
-/
namespace Go.Proofs.Ytkaokncaockjkaa
open Go.RowKit
set_option linter.unusedVariables false

set_option maxHeartbeats 2000000 in
set_option maxRecDepth 100000 in
theorem implCmdValid_c (c : Cmd) (hp : c.p.size ≤ 2097152) (W : World) : Calls Try.prog 32 #[cmdV c] W (BoolPost (validC c) W) := by
  obtain ⟨dp, hdp⟩ : ∃ dp, depB c.p = dp := ⟨_, rfl⟩
  have HD := Lib.hid (fun w => show Calls Try.prog 45 #[.string c.p] w (fun e w' => e = .returned (.int .i64 dp) ∧ Below w.heap.size w w') by rw [← hdp]; exact pathDepth_c c.p (by omega) w)
  obtain ⟨b1, h1⟩ : ∃ b, validB c.fk c.fv = b := ⟨_, rfl⟩
  obtain ⟨b2, h2⟩ : ∃ b, validB c.tk c.tv = b := ⟨_, rfl⟩
  obtain ⟨dd, h3⟩ : ∃ b, (!sameFT c) = b := ⟨_, rfl⟩
  have HF := Lib.hid (fun w => show Calls Try.prog 46 #[con c.fk c.fv] w (BoolPost b1 w) by rw [← h1]; exact implValid_c _ _ w)
  have HT := Lib.hid (fun w => show Calls Try.prog 46 #[con c.tk c.tv] w (BoolPost b2 w) by rw [← h2]; exact implValid_c _ _ w)
  have hne := fun w' => (conNeQ c.fk c.fv c.tk c.tv w').trans (show _ = Result.ok (Value.bool dd) w' by rw [← h3]; rfl)
  have HV := Lib.hid (valid_parts (d := decide (1 ≤ dp)) (by rw [hdp]) h1 h2 h3)
  clear h1 h2 h3 hdp
  obtain ⟨p, fk, fv, tk, tv⟩ := c
  unfold cmdV
  unfold con at HF HT
  simp only at HD HF HT hne hp ⊢
  by_cases hd : 0 < dp
  · have hdd : decide (1 ≤ dp) = true := decide_eq_true (by omega)
    rw [hdd] at HV
    clear hdd
    go_enter Try.func32, Try.ntmps32
    go_wp2_with fail
    refine (HD.out _).mono ?_
    rintro e W1 ⟨rfl, hb1⟩
    have q1 := box_cell hb1 1
    have q2 := box_cell hb1 2
    have q3 := box_cell hb1 3
    have q4 := box_cell hb1 4
    simp at q1 q2 q3 q4
    have B1 := Lib.hid (below_next (below_box W _) hb1)
    clear hb1
    go_wp2_with fail
    refine (HF.out _).mono ?_
    rintro e W2 ⟨rfl, hb2⟩
    have r1 := cell_kept hb2 q1
    have r2 := cell_kept hb2 q2
    have r3 := cell_kept hb2 q3
    have r4 := cell_kept hb2 q4
    have B2 := Lib.hid (below_next B1.out hb2)
    clear hb2 q1 q2 q3 q4
    cases b1 with
    | false =>
      clear hne
      go_wp2
      go_ret
      exact ⟨ret_bool (by rw [HV.out]; rfl), B2.out⟩
    | true =>
      go_wp2_with fail
      refine (HT.out _).mono ?_
      rintro e W3 ⟨rfl, hb3⟩
      have s1 := cell_kept hb3 r1
      have s2 := cell_kept hb3 r2
      have s3 := cell_kept hb3 r3
      have s4 := cell_kept hb3 r4
      have B3 := Lib.hid (below_next B2.out hb3)
      clear hb3 r1 r2 r3 r4
      cases b2 with
      | false =>
        clear hne
        go_wp2
        go_ret
        exact ⟨ret_bool (by rw [HV.out]; rfl), B3.out⟩
      | true =>
        go_wp2
        go_ret
        exact ⟨ret_bool (by rw [HV.out]; rfl), B3.out⟩
  · have hdd : decide (1 ≤ dp) = false := decide_eq_false (by omega)
    rw [hdd] at HV
    clear hdd hne
    go_enter Try.func32, Try.ntmps32
    go_wp2_with fail
    refine (HD.out _).mono ?_
    rintro e W1 ⟨rfl, hb1⟩
    have B1 := Lib.hid (below_next (below_box W _) hb1)
    clear hb1
    go_wp2
    go_ret
    exact ⟨ret_bool (by rw [HV.out]; rfl), B1.out⟩

theorem five_atI {W : World} {n : Nat} (hn : n = W.heap.size) (a b c d e : Value) (t : TypeId) : Five (W.alloc (.cells #[a, b, c, d, e] t)) n a b c d e := by subst hn; exact five_new W a b c d e t

theorem undo_is {c : Cmd} {vc : Bool} (h : validC c = vc) : undoC c = if vc = true then ⟨c.p, c.tk, c.tv, c.fk, c.fv⟩ else zeroC := by subst h; rfl

set_option maxHeartbeats 2000000 in
set_option maxRecDepth 100000 in
theorem implCmdUndo_c (c : Cmd) (hp : c.p.size ≤ 2097152) (W : World) : Calls Try.prog 33 #[cmdV c] W (CmdPost (undoC c) W) := by
  obtain ⟨vc, hvc⟩ : ∃ vc, validC c = vc := ⟨_, rfl⟩
  have HC := Lib.hid (fun W' => show Calls Try.prog 32 #[cmdV c] W' (BoolPost vc W') by rw [← hvc]; exact implCmdValid_c c hp W')
  have HR := Lib.hid (undo_is hvc)
  clear hvc hp
  obtain ⟨p, fk, fv, tk, tv⟩ := c
  have HA := Lib.hid ((five_atI (W := W) rfl (.string p) (.int .i64 fk) (.int .i64 fv) (.int .i64 tk) (.int .i64 tv) 32).alloc (.cells #[.string ⟨#[]⟩, .int .i64 0, .int .i64 0, .int .i64 0, .int .i64 0] 32))
  have HB := Lib.hid (five_atI (W := W.alloc (.cells #[.string p, .int .i64 fk, .int .i64 fv, .int .i64 tk, .int .i64 tv] 32)) (n := W.heap.size + 1) (by simp) (.string ⟨#[]⟩) (.int .i64 0) (.int .i64 0) (.int .i64 0) (.int .i64 0) 32)
  have HD := Lib.hid (below_next (below_box W (.cells #[.string p, .int .i64 fk, .int .i64 fv, .int .i64 tk, .int .i64 tv] 32)) (below_box _ (.cells #[.string ⟨#[]⟩, .int .i64 0, .int .i64 0, .int .i64 0, .int .i64 0] 32)))
  unfold cmdV at HC ⊢
  simp only at HC HR ⊢
  go_enter Try.func33, Try.ntmps33
  go_wp2_with fail
  refine (HC.out _).mono ?_
  rintro e W1 ⟨rfl, hb1⟩
  have A1 := Lib.hid (HA.out.below hb1)
  have R1 := Lib.hid (HB.out.below hb1)
  have B1 := Lib.hid (below_next HD.out hb1)
  clear HA HB HD hb1
  obtain ⟨r0, r1, r2, r3, r4, f0, f1, f2, f3, f4, -⟩ := R1.out
  cases vc with
  | false =>
    go_wp2
    rw [HR.out]
    exact bodyPost_ret (cmd_results _ rfl _ (W.heap.size + 1) ⟨⟨#[]⟩, 0, 0, 0, 0⟩ _ rfl R1.out.setAll) rfl ⟨rfl, below_set5 B1.out (Nat.le_succ _)⟩
  | true =>
    obtain ⟨c0, c1, c2, c3, c4, -⟩ := A1.out
    go_wp2
    rw [HR.out]
    exact bodyPost_ret (cmd_results _ rfl _ (W.heap.size + 1) ⟨p, tk, tv, fk, fv⟩ _ rfl R1.out.setAll) rfl ⟨rfl, below_set5 B1.out (Nat.le_succ _)⟩

end Go.Proofs.Ytkaokncaockjkaa

/-
  PLAIN MATHEMATICS OF LOGS: commands one after the other, what takes them back; P45 to P51 as lemmas.
-/
namespace Go.Proofs.Ytkaokncaockjkaa

/-- spec.LogValid. -/
def validL (cs : List Cmd) : Bool := cs.all validC && decide (cs.length ≤ 20)

theorem validL_iff (cs : List Cmd) : validL cs = true ↔ (∀ c ∈ cs, validC c = true) ∧ cs.length ≤ 20 := by
  unfold validL
  rw [Bool.and_eq_true, List.all_eq_true, decide_eq_true_eq]

/-- Commands one after the other, as far as none breaks: the tree, and how many were done. -/
def runL : List Nd → List Cmd → List Nd × Nat
  | ns, [] => (ns, 0)
  | ns, c :: cs => if (applyC ns c).2 = true then ((runL (applyC ns c).1 cs).1, (runL (applyC ns c).1 cs).2 + 1) else (ns, 0)

/-- spec.LogApply. -/
def logApply (ns : List Nd) (cs : List Cmd) : List Nd × Int := if (validT ns && validL cs) = true then ((runL ns cs).1, ((runL ns cs).2 : Int)) else ([], -1)

/-- spec.LogFits. -/
def fitsL (ns : List Nd) (cs : List Cmd) : Bool := decide ((logApply ns cs).2 = (cs.length : Int))

/-- spec.LogUndo. -/
def undoL (cs : List Cmd) : List Cmd := if validL cs = true then cs.reverse.map undoC else []

theorem runL_cons_yes {ns out : List Nd} {c : Cmd} {cs : List Cmd} (h : applyC ns c = (out, true)) : runL ns (c :: cs) = ((runL out cs).1, (runL out cs).2 + 1) := by
  show (if (applyC ns c).2 = true then ((runL (applyC ns c).1 cs).1, (runL (applyC ns c).1 cs).2 + 1) else (ns, 0)) = _
  rw [h, if_pos rfl]
theorem runL_cons_no {ns : List Nd} {c : Cmd} {cs : List Cmd} (h : (applyC ns c).2 = false) : runL ns (c :: cs) = (ns, 0) := by
  show (if (applyC ns c).2 = true then ((runL (applyC ns c).1 cs).1, (runL (applyC ns c).1 cs).2 + 1) else (ns, 0)) = _
  rw [h, if_neg (by decide)]

theorem runL_le : ∀ (cs : List Cmd) (ns : List Nd), (runL ns cs).2 ≤ cs.length
  | [], ns => Nat.le_refl _
  | c :: cs, ns => by
    cases hc : applyC ns c with
    | mk out b =>
      cases b with
      | true => rw [runL_cons_yes hc]; have := runL_le cs out; simp; omega
      | false => rw [runL_cons_no (by rw [hc])]; simp

theorem runL_valid : ∀ (cs : List Cmd) (ns : List Nd), validT ns = true → validT (runL ns cs).1 = true
  | [], ns, h => h
  | c :: cs, ns, h => by
    cases hc : applyC ns c with
    | mk out b =>
      cases b with
      | true => rw [runL_cons_yes hc]; exact runL_valid cs out (applyC_valid hc)
      | false => rw [runL_cons_no (by rw [hc])]; exact h

/-- The first ones, then the others. -/
theorem runL_append : ∀ (a b : List Cmd) (ns : List Nd), runL ns (a ++ b) = if (runL ns a).2 = a.length then ((runL (runL ns a).1 b).1, a.length + (runL (runL ns a).1 b).2) else runL ns a
  | [], b, ns => by
    show runL ns b = if (0 : Nat) = 0 then ((runL ns b).1, 0 + (runL ns b).2) else (ns, 0)
    rw [if_pos rfl, Nat.zero_add]
  | c :: a, b, ns => by
    cases hc : applyC ns c with
    | mk out d =>
      cases d with
      | true =>
        rw [List.cons_append, runL_cons_yes hc, runL_cons_yes hc, runL_append a b out]
        by_cases h : (runL out a).2 = a.length
        · rw [if_pos h, if_pos (by simp [h])]
          simp only [List.length_cons]
          congr 1
          omega
        · rw [if_neg h, if_neg (by simp only [List.length_cons]; omega)]
      | false =>
        rw [List.cons_append, runL_cons_no (by rw [hc]), runL_cons_no (by rw [hc]), if_neg (by simp)]

/-- One more command behind a log that was done whole. -/
theorem runL_push {ns : List Nd} {cs : List Cmd} {c : Cmd} (h : (runL ns cs).2 = cs.length) : runL ns (cs ++ [c]) = if (applyC (runL ns cs).1 c).2 = true then ((applyC (runL ns cs).1 c).1, cs.length + 1) else ((runL ns cs).1, cs.length) := by
  rw [runL_append, if_pos h]
  cases hc : applyC (runL ns cs).1 c with
  | mk out b =>
    cases b with
    | true => rw [runL_cons_yes hc]; rfl
    | false => rw [runL_cons_no (by rw [hc])]; rfl

/-- Where a log ends, what was done ahead of it was done whole. -/
theorem runL_take : ∀ (cs : List Cmd) (ns : List Nd), runL ns (cs.take (runL ns cs).2) = runL ns cs
  | [], ns => rfl
  | c :: cs, ns => by
    cases hc : applyC ns c with
    | mk out b =>
      cases b with
      | true => rw [runL_cons_yes hc]; show runL ns (c :: cs.take _) = _; rw [runL_cons_yes hc, runL_take cs out]
      | false => rw [runL_cons_no (by rw [hc])]; rfl

theorem runL_done {cs : List Cmd} {ns : List Nd} {k : Nat} (hk : k ≤ (runL ns cs).2) : (runL ns (cs.take k)).2 = k := by
  have hle := runL_le cs ns
  have hl : (cs.take k).length = k := by rw [List.length_take]; omega
  have e := runL_append (cs.take k) (cs.drop k) ns
  rw [List.take_append_drop] at e
  by_cases h : (runL ns (cs.take k)).2 = (cs.take k).length
  · rw [h, hl]
  · rw [if_neg h] at e
    have := runL_le (cs.take k) ns
    rw [e] at hk
    omega

/-- P46: the first command that breaks is told. -/
theorem runL_break : ∀ (cs : List Cmd) (ns : List Nd) (c : Cmd), cs[(runL ns cs).2]? = some c → (applyC (runL ns cs).1 c).2 = false
  | [], ns, c, h => by cases h
  | d :: cs, ns, c, h => by
    cases hc : applyC ns d with
    | mk out b =>
      cases b with
      | true => rw [runL_cons_yes hc] at h ⊢; exact runL_break cs out c h
      | false =>
        rw [runL_cons_no (by rw [hc])] at h ⊢
        obtain rfl : d = c := by simpa using h
        show (applyC ns d).2 = false
        rw [hc]

theorem validL_part {cs ds : List Cmd} (h : validL cs = true) (hs : ds.Sublist cs) : validL ds = true := by
  obtain ⟨h1, h2⟩ := (validL_iff cs).1 h
  exact (validL_iff ds).2 ⟨fun c hc => h1 c (hs.subset hc), Nat.le_trans hs.length_le h2⟩

theorem validL_take {cs : List Cmd} (h : validL cs = true) (k : Nat) : validL (cs.take k) = true := validL_part h (List.take_sublist k cs)
theorem validL_drop {cs : List Cmd} (h : validL cs = true) (k : Nat) : validL (cs.drop k) = true := validL_part h (List.drop_sublist k cs)

theorem logApply_ok {ns : List Nd} {cs : List Cmd} (h1 : validT ns = true) (h2 : validL cs = true) : logApply ns cs = ((runL ns cs).1, ((runL ns cs).2 : Int)) := by
  unfold logApply
  rw [h1, h2]
  rfl
theorem logApply_bad {ns : List Nd} {cs : List Cmd} (h : validT ns = false ∨ validL cs = false) : logApply ns cs = ([], -1) := by
  unfold logApply
  rw [if_neg]
  rcases h with h | h <;> simp [h]

theorem logApply_pos {ns : List Nd} {cs : List Cmd} {out : List Nd} {n : Int} (h : logApply ns cs = (out, n)) (hn : 0 ≤ n) : validT ns = true ∧ validL cs = true ∧ runL ns cs = (out, n.toNat) ∧ n.toNat ≤ cs.length := by
  unfold logApply at h
  split at h
  · rename_i hc
    rw [Bool.and_eq_true] at hc
    have e1 := congrArg Prod.fst h
    have e2 := congrArg Prod.snd h
    simp only at e1 e2
    have hle := runL_le cs ns
    refine ⟨hc.1, hc.2, ?_, by omega⟩
    rw [← e1, show n.toNat = (runL ns cs).2 by omega]
  · have e2 := congrArg Prod.snd h
    simp only at e2
    omega

theorem logApply_pair {ns out : List Nd} {cs : List Cmd} {n : Nat} (h1 : validT ns = true) (h2 : validL cs = true) (h : runL ns cs = (out, n)) : logApply ns cs = (out, (n : Int)) := by rw [logApply_ok h1 h2, h]

/-- P45: commands are done one after the other. -/
theorem log_parts {ns out : List Nd} {cs : List Cmd} {n : Int} (h : logApply ns cs = (out, n)) (hn : 0 ≤ n) (k : Nat) (hk : k ≤ cs.length) :
    ∃ x p, logApply ns (cs.take k) = (x, p) ∧ (p < (k : Int) → p = n ∧ x = out) ∧ (¬ p < (k : Int) → ∃ y q, logApply x (cs.drop k) = (y, q) ∧ (k : Int) + q = n ∧ y = out) := by
  obtain ⟨h1, h2, h3, h4⟩ := logApply_pos h hn
  have hl : (cs.take k).length = k := by rw [List.length_take]; omega
  have e := runL_append (cs.take k) (cs.drop k) ns
  rw [List.take_append_drop, h3] at e
  cases hr : runL ns (cs.take k) with
  | mk x p =>
    have hv := runL_valid (cs.take k) ns h1
    have hp := runL_le (cs.take k) ns
    rw [hr] at e hv hp
    simp only at e hv hp
    refine ⟨x, p, logApply_pair h1 (validL_take h2 k) hr, fun hlt => ?_, fun hge => ?_⟩
    · rw [if_neg (by omega)] at e
      have e1 := congrArg Prod.fst e
      have e2 := congrArg Prod.snd e
      simp only at e1 e2
      exact ⟨by omega, e1.symm⟩
    · rw [if_pos (by omega)] at e
      have e1 := congrArg Prod.fst e
      have e2 := congrArg Prod.snd e
      simp only at e1 e2
      exact ⟨_, _, logApply_pair hv (validL_drop h2 k) rfl, by omega, e1.symm⟩

/-- P46. -/
theorem log_break {ns out : List Nd} {cs : List Cmd} {n : Int} (h : logApply ns cs = (out, n)) (hn : 0 ≤ n) (hne : n ≠ (cs.length : Int)) : ∃ c, cs[n.toNat]? = some c ∧ applyC out c = (out, false) := by
  obtain ⟨h1, h2, h3, h4⟩ := logApply_pos h hn
  have hlt : n.toNat < cs.length := by omega
  have hc : cs[n.toNat]? = some cs[n.toNat] := List.getElem?_eq_getElem hlt
  have hv := runL_valid cs ns h1
  have hb := runL_break cs ns cs[n.toNat] (by rw [h3]; exact hc)
  rw [h3] at hb hv
  simp only at hb hv
  refine ⟨_, hc, ?_⟩
  have hcv : validC cs[n.toNat] = true := ((validL_iff cs).1 h2).1 _ (List.getElem_mem hlt)
  have e := (apply_break (ns := out) (out := (applyC out cs[n.toNat]).1) (c := cs[n.toNat]) (by rw [← hb]) hv hcv).1
  cases hq : applyC out cs[n.toNat] with
  | mk o b =>
    rw [hq] at hb e
    simp only at hb e
    rw [hb, e]

theorem run_paths : ∀ (cs : List Cmd) (ns : List Nd), validT ns = true → ∀ p, getT ns p ≠ getT (runL ns cs).1 p → ∃ k c, k < (runL ns cs).2 ∧ cs[k]? = some c ∧ c.p = p
  | [], ns, _, p, h => absurd rfl h
  | c :: cs, ns, hv, p, h => by
    cases hc : applyC ns c with
    | mk out b =>
      cases b with
      | false => rw [runL_cons_no (by rw [hc])] at h; exact absurd rfl h
      | true =>
        rw [runL_cons_yes hc] at h ⊢
        simp only at h ⊢
        by_cases e : getT out p = getT (runL out cs).1 p
        · rw [← e] at h
          have ho := applyC_valid hc
          have hm := (chg_mem hv ho p).2 h
          rw [(apply_one hc).2.2] at hm
          exact ⟨0, c, by omega, rfl, (List.mem_singleton.1 hm).symm⟩
        · obtain ⟨k, d, hk, hd, hp⟩ := run_paths cs out (applyC_valid hc) p e
          exact ⟨k + 1, d, by omega, hd, hp⟩

/-- P47: a tree stays a tree, and only paths of the commands have changed. -/
theorem log_tree {ns out : List Nd} {cs : List Cmd} {n : Int} (h : logApply ns cs = (out, n)) (hn : 0 ≤ n) : validT out = true ∧ ∀ p ∈ chgL ns out, ∃ k c, k < n.toNat ∧ cs[k]? = some c ∧ c.p = p := by
  obtain ⟨h1, h2, h3, h4⟩ := logApply_pos h hn
  have hv := runL_valid cs ns h1
  rw [h3] at hv
  refine ⟨hv, fun p hp => ?_⟩
  have := run_paths cs ns h1 p (by rw [h3]; exact (chg_mem h1 hv p).1 hp)
  rw [h3] at this
  exact this

theorem fitsL_iff {ns : List Nd} {cs : List Cmd} : fitsL ns cs = true ↔ validT ns = true ∧ validL cs = true ∧ (runL ns cs).2 = cs.length := by
  unfold fitsL
  rw [decide_eq_true_eq]
  constructor
  · intro h
    cases hr : logApply ns cs with
    | mk out n =>
      rw [hr] at h
      simp only at h
      obtain ⟨h1, h2, h3, h4⟩ := logApply_pos hr (by omega)
      exact ⟨h1, h2, by rw [h3]; simp only; omega⟩
  · rintro ⟨h1, h2, h3⟩
    rw [logApply_ok h1 h2, h3]

theorem fits_apply {ns : List Nd} {cs : List Cmd} (h : fitsL ns cs = true) : ∃ out, logApply ns cs = (out, (cs.length : Int)) ∧ validT out = true := by
  obtain ⟨h1, h2, h3⟩ := fitsL_iff.1 h
  exact ⟨(runL ns cs).1, by rw [logApply_ok h1 h2, h3], runL_valid cs ns h1⟩

theorem undoC_valid {c : Cmd} (h : validC c = true) : validC (undoC c) = true := by rw [undoC_ok h]; exact undo_valid h

theorem undoL_ok {cs : List Cmd} (h : validL cs = true) : undoL cs = cs.reverse.map undoC := if_pos h
theorem undoL_bad {cs : List Cmd} (h : validL cs = false) : undoL cs = [] := if_neg (by rw [h]; decide)

theorem undoL_valid {cs : List Cmd} (h : validL cs = true) : validL (undoL cs) = true := by
  obtain ⟨h1, h2⟩ := (validL_iff cs).1 h
  rw [undoL_ok h]
  refine (validL_iff _).2 ⟨fun c hc => ?_, by simpa using h2⟩
  obtain ⟨d, hd, rfl⟩ := List.mem_map.1 hc
  exact undoC_valid (h1 d (List.mem_reverse.1 hd))

/-- P50: taking back twice is doing. -/
theorem undoL_twice {cs : List Cmd} (h : validL cs = true) : undoL (undoL cs) = cs := by
  have h1 := ((validL_iff cs).1 h).1
  rw [undoL_ok (undoL_valid h), undoL_ok h, ← List.map_reverse, List.reverse_reverse, List.map_map]
  have : ∀ l : List Cmd, (∀ c ∈ l, validC c = true) → l.map (undoC ∘ undoC) = l := by
    intro l
    induction l with
    | nil => intro _; rfl
    | cons c l ih =>
      intro hl
      rw [List.map_cons, ih (fun x hx => hl x (List.mem_cons_of_mem _ hx))]
      congr 1
      exact undo_twice (hl c (by simp))
  exact this cs h1

theorem undoL_length {cs : List Cmd} (h : validL cs = true) : (undoL cs).length = cs.length := by rw [undoL_ok h]; simp

theorem run_back : ∀ (cs : List Cmd) (ns : List Nd), (∀ c ∈ cs, validC c = true) → (runL ns cs).2 = cs.length → validT ns = true → runL (runL ns cs).1 (cs.reverse.map undoC) = (ns, cs.length)
  | [], ns, _, _, _ => rfl
  | c :: cs, ns, hv, h, ht => by
    cases hc : applyC ns c with
    | mk out b =>
      cases b with
      | false => rw [runL_cons_no (by rw [hc])] at h; simp at h
      | true =>
        rw [runL_cons_yes hc] at h ⊢
        simp only [List.length_cons] at h ⊢
        have ih := run_back cs out (fun x hx => hv x (List.mem_cons_of_mem _ hx)) (by omega) (applyC_valid hc)
        rw [List.reverse_cons, List.map_append, runL_append, ih, if_pos (by simp)]
        simp only [List.map_cons, List.map_nil, List.length_map, List.length_reverse]
        rw [runL_cons_yes (undo_back hc)]
        rfl

/-- P48: a log can be taken back. -/
theorem log_back {ns out : List Nd} {cs : List Cmd} (h : fitsL ns cs = true) (ho : logApply ns cs = (out, (cs.length : Int))) : logApply out (undoL cs) = (ns, (cs.length : Int)) := by
  obtain ⟨h1, h2, h3⟩ := fitsL_iff.1 h
  obtain ⟨_, _, h5, _⟩ := logApply_pos ho (by omega)
  have hb := run_back cs ns ((validL_iff cs).1 h2).1 h3 h1
  rw [h5] at hb
  simp only at hb
  have hv := runL_valid cs ns h1
  rw [h5] at hv
  rw [← undoL_ok h2] at hb
  exact logApply_pair hv (undoL_valid h2) hb

/-- P49: the beginning of a log fits. -/
theorem fits_take {ns : List Nd} {cs : List Cmd} (h : fitsL ns cs = true) (k : Nat) (hk : k ≤ cs.length) : fitsL ns (cs.take k) = true ∧ ∃ x, logApply ns (cs.take k) = (x, (k : Int)) := by
  obtain ⟨h1, h2, h3⟩ := fitsL_iff.1 h
  have hd := runL_done (cs := cs) (ns := ns) (k := k) (by omega)
  have hl : (cs.take k).length = k := by rw [List.length_take]; omega
  refine ⟨fitsL_iff.2 ⟨h1, validL_take h2 k, by rw [hd, hl]⟩, (runL ns (cs.take k)).1, by rw [logApply_ok h1 (validL_take h2 k), hd]⟩

/-- P51: commands may be missing; one that changes nothing is none. -/
theorem part_valid {cs : List Cmd} (h : validL cs = true) (k : Nat) : validL (cs.take k ++ cs.drop (k + 1)) = true := by
  refine validL_part h ?_
  have e := List.take_append_drop k cs
  conv => rhs; rw [← e]
  refine List.Sublist.append_left ?_ _
  rw [show cs.drop (k + 1) = (cs.drop k).drop 1 by rw [List.drop_drop]]
  exact List.drop_sublist 1 _

theorem same_invalid {cs : List Cmd} {k : Nat} {c : Cmd} (hc : cs[k]? = some c) : validL (cs.set k ⟨c.p, c.fk, c.fv, c.fk, c.fv⟩) = false := by
  rw [Bool.eq_false_iff]
  intro h
  have hlt : k < cs.length := by
    rcases Nat.lt_or_ge k cs.length with h' | h'
    · exact h'
    · rw [List.getElem?_eq_none h'] at hc; cases hc
  have := ((validL_iff _).1 h).1 ⟨c.p, c.fk, c.fv, c.fk, c.fv⟩ (List.mem_of_getElem? (i := k) (by rw [List.getElem?_set_self hlt]))
  rw [(not_same c).1] at this
  cases this

/-- A round of LogApply's loop. -/
theorem run_step {ns acc out : List Nd} {cs : List Cmd} {n : Nat} {c : Cmd} (h : runL ns (cs.take n) = (acc, n)) (hc : cs[n]? = some c) (ha : applyC acc c = (out, true)) : runL ns (cs.take (n + 1)) = (out, n + 1) := by
  have hlt := (List.getElem?_eq_some_iff.1 hc).1
  have hl : (cs.take n).length = n := by rw [List.length_take]; omega
  rw [List.take_add_one, hc, Option.toList_some, runL_push (by rw [h, hl]), h, ha, if_pos rfl, hl]

theorem run_stop {ns acc : List Nd} {cs : List Cmd} {n : Nat} {c : Cmd} (h : runL ns (cs.take n) = (acc, n)) (hc : cs[n]? = some c) (ha : (applyC acc c).2 = false) : runL ns cs = (acc, n) := by
  have hlt := (List.getElem?_eq_some_iff.1 hc).1
  have hl : (cs.take n).length = n := by rw [List.length_take]; omega
  have e : cs = cs.take n ++ c :: cs.drop (n + 1) := by
    conv => lhs; rw [← List.take_append_drop n cs]
    congr 1
    rw [List.drop_eq_getElem_cons hlt, (List.getElem?_eq_some_iff.1 hc).2]
  conv => lhs; rw [e]
  rw [runL_append, h, hl, if_pos rfl, runL_cons_no ha]
  rfl

theorem run_whole {ns acc : List Nd} {cs : List Cmd} (h : runL ns (cs.take cs.length) = (acc, cs.length)) : runL ns cs = (acc, cs.length) := by
  rwa [List.take_of_length_le (Nat.le_refl _)] at h

theorem validL_short {cs : List Cmd} (h : ∀ (j : Nat) (c : Cmd), cs[j]? = some c → validC c = true) : validL cs = decide (cs.length ≤ 20) := by
  unfold validL
  rw [List.all_eq_true.2 (fun c hc => by obtain ⟨j, hj⟩ := List.getElem?_of_mem hc; exact h j c hj), Bool.true_and]

theorem validL_one {cs : List Cmd} {j : Nat} {c : Cmd} (hc : cs[j]? = some c) (h : validC c = false) : validL cs = false := by
  rw [Bool.eq_false_iff]
  intro hv
  have := ((validL_iff cs).1 hv).1 c (List.mem_of_getElem? hc)
  rw [h] at this
  cases this

theorem validL_at {cs : List Cmd} {j : Nat} {c : Cmd} (h : validL cs = true) (hc : cs[j]? = some c) : validC c = true := ((validL_iff cs).1 h).1 c (List.mem_of_getElem? hc)

/-- A round of LogUndo's loop. -/
theorem undo_round {cs : List Cmd} {n : Nat} {c : Cmd} (hc : cs[n]? = some c) : (cs.drop n).reverse.map undoC = (cs.drop (n + 1)).reverse.map undoC ++ [undoC c] := by
  have hlt := (List.getElem?_eq_some_iff.1 hc).1
  rw [List.drop_eq_getElem_cons hlt, (List.getElem?_eq_some_iff.1 hc).2]
  simp

theorem logApply_len {ns : List Nd} {cs : List Cmd} : (logApply ns cs).1.length ≤ 10 := by
  unfold logApply
  split
  · rename_i hc
    rw [Bool.and_eq_true] at hc
    exact ((validT_iff _).1 (runL_valid cs ns hc.1)).2.2
  · simp

end Go.Proofs.Ytkaokncaockjkaa

/-
  WALK: spec.CommandApply.
-/
namespace Go.Proofs.Ytkaokncaockjkaa
open Go.RowKit
set_option linter.unusedVariables false

/-- What CommandApply tells: nodes that the call has made, and whether the command was done. -/
def ApplyPost (r : List Nd × Bool) (base : Nat) (W : World) (e : Ending) (w' : World) : Prop :=
  ∃ sl, e = .returned (.tuple #[sl, .bool r.2]) ∧ w'.ownsRow base 96 3 sl r.1.length (flatN r.1) ∧ Below W.heap.size W w'

theorem apply_none {r : List Nd × Bool} {base : Nat} {W w : World} (hr : r = ([], false)) (hb : base ≤ w.heap.size) (hB : Below W.heap.size W w) :
    ApplyPost r base W (.returned (.tuple #[.slice (some ⟨w.heap.size, 0, none⟩) 0 0, .bool false])) (w.alloc (.cells #[] 96)) := by
  subst hr
  exact ⟨_, rfl, World.ownsRow_lit (e := 96) (size := 3) w #[] 0 hb (by simp [maxLen]) rfl, below_next hB (below_box _ _)⟩

theorem apply_end {r : List Nd × Bool} {out : List Nd} {b : Bool} (hr : r = (out, b)) {base : Nat} {W w' : World} {sl : Value} (ho : w'.ownsRow base 96 3 sl out.length (flatN out)) (hB : Below W.heap.size W w') : ApplyPost r base W (.returned (.tuple #[sl, .bool b])) w' := by
  subst hr
  exact ⟨sl, rfl, ho, hB⟩

set_option maxHeartbeats 2000000 in
set_option maxRecDepth 100000 in
theorem specCmdApply_c (a : Option Addr) (len cap : Nat) (ns : List Nd) (c : Cmd) (hl : len ≤ 2097151) (hs : Short 2097152 ns) (hp : c.p.size ≤ 2097152) (W : World) (hN : NodesAt W a len ns) :
    Calls Try.prog 50 #[.slice a len cap, cmdV c] W (ApplyPost (applyC ns c) W.heap.size W) := by
  obtain ⟨vt, hvt⟩ : ∃ vt, validT ns = vt := ⟨_, rfl⟩
  obtain ⟨vc, hvc⟩ : ∃ vc, validC c = vc := ⟨_, rfl⟩
  have HV := Lib.hid (fun W' (hb : Below W.heap.size W W') => show Calls Try.prog 51 #[.slice a len cap] W' (BoolPost vt W') by rw [← hvt]; exact specTreeValid_c a len cap ns (by omega) hs W' (hN.keep hb))
  have HC := Lib.hid (fun W' => show Calls Try.prog 23 #[cmdV c] W' (BoolPost vc W') by rw [← hvc]; exact specCmdValid_c c hp W')
  have HN := Lib.hid hN
  cases vt with
  | false =>
    have HR := Lib.hid (applyC_bad (c := c) (.inl hvt))
    clear hN hs hvt hvc
    unfold cmdV
    go_enter Try.func50, Try.ntmps50
    go_wp2_with fail
    refine (HV.out _ (below_box _ _)).mono ?_
    rintro e W1 ⟨rfl, hb1⟩
    have B1 := Lib.hid (below_next (below_box W _) hb1)
    clear hb1
    go_wp2
    go_ret2
    exact apply_none HR.out B1.out.size B1.out
  | true =>
    cases vc with
    | false =>
      have HR := Lib.hid (applyC_bad (ns := ns) (.inr hvc))
      clear hN hs hvt hvc
      unfold cmdV at HC ⊢
      obtain ⟨p, fk, fv, tk, tv⟩ := c
      simp only at HC ⊢
      go_enter Try.func50, Try.ntmps50
      go_wp2_with fail
      refine (HV.out _ (below_box _ _)).mono ?_
      rintro e W1 ⟨rfl, hb1⟩
      have q0 := box_cell hb1 0
      have q1 := box_cell hb1 1
      have q2 := box_cell hb1 2
      have q3 := box_cell hb1 3
      have q4 := box_cell hb1 4
      simp at q0 q1 q2 q3 q4
      have B1 := Lib.hid (below_next (below_box W _) hb1)
      clear hb1
      go_wp2_with fail
      refine (HC.out _).mono ?_
      rintro e W2 ⟨rfl, hb2⟩
      have B2 := Lib.hid (below_next B1.out hb2)
      clear hb2 q0 q1 q2 q3 q4
      go_wp2
      go_ret2
      exact apply_none HR.out B2.out.size B2.out
    | true =>
      have HR := Lib.hid (applyC_ok hvt hvc)
      have HG := Lib.hid (fun p W' (h : NodesAt W' a len ns) => l3Get_c a len cap ns p (by omega) W' h)
      have HP := Lib.hid (fun W' (h : NodesAt W' a len ns) => specTreePut_c a len cap ns c.p c.tk c.tv hl hs hp W' h)
      have HLN := Lib.hid (show ns.length ≤ 10 from ((validT_iff ns).1 hvt).2.2)
      clear hN hs hvt hvc
      unfold cmdV at HC ⊢
      obtain ⟨p, fk, fv, tk, tv⟩ := c
      simp only at HC HR HP hp ⊢
      obtain ⟨⟨gk, gv⟩, hg⟩ : ∃ g, getT ns p = g := ⟨_, rfl⟩
      have HGP := Lib.hid (fun W' (h : NodesAt W' a len ns) => show Calls Try.prog 59 #[.slice a len cap, .string p] W' (fun e w' => e = .returned (.agg #[.int .i64 gk, .int .i64 gv]) ∧ Below W'.heap.size W' w') by have := HG.out p W' h; rw [hg] at this; exact this)
      rw [hg] at HR
      obtain ⟨ee, hee⟩ : ∃ ee, (gk == fk && gv == fv) = ee := ⟨_, rfl⟩
      have heq := fun w' => (conEqQ gk gv fk fv w').trans (show _ = Result.ok (Value.bool ee) w' by rw [hee])
      have HEE := Lib.hid hee
      clear hg hee
      go_enter Try.func50, Try.ntmps50
      go_wp2_with fail
      refine (HV.out _ (below_box _ _)).mono ?_
      rintro e W1 ⟨rfl, hb1⟩
      have q0 := box_cell hb1 0
      have q1 := box_cell hb1 1
      have q2 := box_cell hb1 2
      have q3 := box_cell hb1 3
      have q4 := box_cell hb1 4
      simp at q0 q1 q2 q3 q4
      have B1 := Lib.hid (below_next (below_box W _) hb1)
      clear hb1
      go_wp2_with fail
      refine (HC.out _).mono ?_
      rintro e W2 ⟨rfl, hb2⟩
      have HS2 := Lib.hid (keepCmd (W0 := W) ⟨q0, q1, q2, q3, q4, B1.out⟩ hb2)
      have HS0 : Hid (W2.drew.cell? ⟨W.heap.size, 0, none⟩ = some (.string p) ∧ W2.drew.cell? ⟨W.heap.size, 1, none⟩ = some (.int .i64 fk) ∧ W2.drew.cell? ⟨W.heap.size, 2, none⟩ = some (.int .i64 fv) ∧ W2.drew.cell? ⟨W.heap.size, 3, none⟩ = some (.int .i64 tk) ∧ W2.drew.cell? ⟨W.heap.size, 4, none⟩ = some (.int .i64 tv) ∧ Below W.heap.size W W2.drew) :=
        ⟨HS2.out.1, HS2.out.2.1, HS2.out.2.2.1, HS2.out.2.2.2.1, HS2.out.2.2.2.2.1, HS2.out.2.2.2.2.2.drew⟩
      have HGD := Lib.hid (HGP.out W2.drew (HN.out.keep HS0.out.2.2.2.2.2))
      clear hb2 q0 q1 q2 q3 q4
      go_upto_region 3 with (fail)
      go_region_held3 (fun w' => w'.cell? ⟨W.heap.size, 0, none⟩ = some (.string p) ∧ w'.cell? ⟨W.heap.size, 1, none⟩ = some (.int .i64 fk) ∧ w'.cell? ⟨W.heap.size, 2, none⟩ = some (.int .i64 fv) ∧ w'.cell? ⟨W.heap.size, 3, none⟩ = some (.int .i64 tk) ∧ w'.cell? ⟨W.heap.size, 4, none⟩ = some (.int .i64 tv) ∧ Below W.heap.size W w')
        (first | exact HS0.out | exact keepCmd HS0.out hb5)
        (first | (go_at_call 59; (with_reducible refine (HGD.out).mono ?_); rintro e W5 ⟨rfl, hb5⟩))
      rename_i hS
      obtain ⟨s0, s1, s2, s3, s4, hB5⟩ := hS
      have HB5 := Lib.hid hB5
      have HN5 := Lib.hid (HN.out.keep hB5)
      clear heq hB5
      cases ee with
      | false =>
        have hR2 := Lib.hid (show applyC ns ⟨p, fk, fv, tk, tv⟩ = (ns, false) by
          rw [HR.out, if_neg]
          intro e
          have := HEE.out
          simp only [Prod.mk.injEq] at e
          rw [e.1, e.2] at this
          simp at this)
        clear s0 s1 s2 s3 s4
        go_wp2_with (at_builtin; refine wpList_append_nodes rfl _ _ rfl W.heap.size _ [] rfl (World.ownsRow_lit (e := 96) (size := 3) W5 #[] 0 HB5.out.size (by simp [maxLen]) rfl) _ _ _ _ rfl (HN5.out.keep (below_box _ _)) (by have := HLN.out; simp; omega) (by have := HB5.out.size; simp; omega) ?_; intro v9 w9 ho9 hg9)
        refine bodyPost_ret (v := .tuple #[v9, .bool false]) (by simp [results, Try.f50, go_sem]) rfl (apply_end hR2.out (by simpa using ho9) ?_)
        exact (HB5.out.alloc HB5.out.size _).grown hg9 (by have := HB5.out.size; simp; omega) (fun k e => by cases e; exact HB5.out.size)
      | true =>
        have hgt : (gk, gv) = (fk, fv) := by
          have := HEE.out
          rw [Bool.and_eq_true, beq_iff_eq, beq_iff_eq] at this
          rw [this.1, this.2]
        have HR2 := Lib.hid (HR.out.trans (if_pos hgt))
        have HP5 := Lib.hid (HP.out W5 HN5.out)
        clear hgt
        go_wp2_with fail
        refine HP5.out.mono ?_
        rintro e W6 ⟨sl, out, b, rfl, hc, ho, hb6⟩
        have HB6 := Lib.hid (below_next HB5.out hb6)
        have HN6 := Lib.hid (HN5.out.keep hb6)
        have HO6 := Lib.hid (own_mono ho HB5.out.size)
        clear s0 s1 s2 s3 s4 ho hb6
        rcases hc with ⟨rfl, hr⟩ | ⟨rfl, hr, rfl⟩
        · have hR3 := Lib.hid (show applyC ns ⟨p, fk, fv, tk, tv⟩ = (out, true) by rw [HR2.out, hr])
          clear hr
          go_wp2
          refine bodyPost_ret (v := .tuple #[sl, .bool true]) (by simp [results, Try.f50, go_sem]) rfl (apply_end hR3.out HO6.out HB6.out)
        · have hR3 := Lib.hid (show applyC ns ⟨p, fk, fv, tk, tv⟩ = (ns, false) by rw [HR2.out, hr])
          clear hr
          go_wp2_with (at_builtin; refine wpList_append_nodes rfl _ _ rfl W.heap.size _ [] rfl (World.ownsRow_lit (e := 96) (size := 3) W6 #[] 0 HB6.out.size (by simp [maxLen]) rfl) _ _ _ _ rfl (HN6.out.keep (below_box _ _)) (by have := HLN.out; simp; omega) (by have := HB6.out.size; simp; omega) ?_; intro v9 w9 ho9 hg9)
          refine bodyPost_ret (v := .tuple #[v9, .bool false]) (by simp [results, Try.f50, go_sem]) rfl (apply_end hR3.out (by simpa using ho9) ?_)
          exact (HB6.out.alloc HB6.out.size _).grown hg9 (by have := HB6.out.size; simp; omega) (fun k e => by cases e; exact HB6.out.size)

end Go.Proofs.Ytkaokncaockjkaa

/-
  WALKS: logs of the model: spec.LogValid, LogApply, LogFits, LogUndo.
-/
namespace Go.Proofs.Ytkaokncaockjkaa
open Go.RowKit
set_option linter.unusedVariables false

def ValidRel (cs : List Cmd) (len : Nat) (W : World) (i : Value) (wr : World) : Prop :=
  ∃ n : Nat, i = .int .i64 n ∧ n ≤ len ∧ Hid (∀ (j : Nat) (c : Cmd), j < n → cs[j]? = some c → validC c = true) ∧ Hid (Below W.heap.size W wr)

set_option maxHeartbeats 2000000 in
set_option maxRecDepth 100000 in
theorem specLogValid_c (a : Option Addr) (len cap : Nat) (cs : List Cmd) (hl : len ≤ 2097152) (hs : ShortC 2097152 cs) (W : World) (hN : CmdsAt W a len cs) :
    Calls Try.prog 11 #[.slice a len cap] W (BoolPost (validL cs) W) := by
  have HN := Lib.hid hN
  have HE := Lib.hid hN.1
  have HS := Lib.hid hs
  clear hN hs
  go_enter Try.func11, Try.ntmps11
  go_wp2
  go_loopw [3] (fun i wr => ValidRel cs len W i wr) (fun i _ => len - (intOf i).toNat)
  case atStart => exact ⟨0, rfl, by omega, Lib.hid (fun j c h _ => absurd h (by omega)), Below.refl _ _⟩
  case round =>
    obtain ⟨i, rfl, hi, HP, HB⟩ := hrel
    by_cases hlt : i < len
    · obtain ⟨b, off, c, rfl, hn, c0, c1, c2, c3, c4⟩ := (HN.out.keep HB.out).node hlt
      have hlt' : (i : Int) < len := by omega
      have HLT := Lib.hid hlt
      obtain ⟨vc, hvc⟩ : ∃ vc, validC c = vc := ⟨_, rfl⟩
      have HC := Lib.hid (fun W' => show Calls Try.prog 23 #[cmdV c] W' (BoolPost vc W') by rw [← hvc]; exact specCmdValid_c c (HS.out.at hn) W')
      have HV := Lib.hid hvc
      have HNN := Lib.hid hn
      obtain ⟨p, fk, fv, tk, tv⟩ := c
      unfold cmdV at HC
      simp only at c0 c1 c2 c3 c4 HC
      clear hi hlt hn hvc
      go_wp2_with fail
      refine (HC.out _).mono ?_
      rintro e W2 ⟨rfl, hb2⟩
      have HB2 := Lib.hid (below_next HB.out hb2)
      clear c0 c1 c2 c3 c4 hb2
      cases vc with
      | false =>
        go_wp2
        go_ret
        exact ⟨ret_bool (validL_one HNN.out HV.out).symm, HB2.out⟩
      | true =>
        go_wp2
        go_roundw
        case rel =>
          refine ⟨i + 1, by go_num, by have := HLT.out; omega, Lib.hid (fun j c hj hc => ?_), HB2⟩
          by_cases hji : j < i
          · exact HP.out j c hji hc
          · have : j = i := by omega
            subst this
            rw [HNN.out] at hc
            obtain rfl := Option.some.inj hc
            exact HV.out
        case measure => have := HLT.out; simp [intOf]; omega
    · have hge : (len : Int) ≤ i := by omega
      have HR := Lib.hid (validL_short (cs := cs) (fun j c hc => HP.out j c (by have h1 := (List.getElem?_eq_some_iff.1 hc).1; have h2 := HE.out; omega) hc))
      have HQ := Lib.hid (show decide (cs.length ≤ 20) = decide ((len : Int) ≤ 20) by rw [HE.out]; exact decide_eq_decide.2 (by omega))
      clear hi hlt
      go_wp2
      go_ret
      exact ⟨ret_bool (HR.out.trans HQ.out).symm, HB.out⟩

/-- What LogApply tells. -/
def LogPost (r : List Nd × Int) (W : World) (e : Ending) (w' : World) : Prop :=
  ∃ sl, e = .returned (.tuple #[sl, .int .i64 r.2]) ∧ w'.ownsRow W.heap.size 96 3 sl r.1.length (flatN r.1) ∧ Below W.heap.size W w'

theorem log_end {r : List Nd × Int} {W w' : World} {sl : Value} {out : List Nd} {n : Int} (h : r = (out, n)) (ho : w'.ownsRow W.heap.size 96 3 sl out.length (flatN out)) (hB : Below W.heap.size W w') : LogPost r W (.returned (.tuple #[sl, .int .i64 n])) w' := by
  subst h
  exact ⟨sl, rfl, ho, hB⟩

def ApplyRel (ns : List Nd) (cs : List Cmd) (len : Nat) (W : World) (o i : Value) (wr : World) : Prop :=
  ∃ (n : Nat) (acc : List Nd), i = .int .i64 n ∧ n ≤ len ∧ wr.ownsRow W.heap.size 96 3 o acc.length (flatN acc) ∧ Hid (acc.length ≤ 10) ∧ Hid (Short 2097152 acc) ∧ Hid (runL ns (cs.take n) = (acc, n)) ∧ Hid (Below W.heap.size W wr)

theorem apply_short2 {ns out : List Nd} {c : Cmd} {m : Nat} (h : applyC ns c = (out, true)) (hs : Short m ns) (hp : c.p.size ≤ m) : Short m out ∧ out.length ≤ 10 := by
  obtain ⟨_, _, _, h4⟩ := applyC_some h
  obtain ⟨_, _, _, h5, h6⟩ := treePut_some h4
  refine ⟨?_, ((validT_iff out).1 h6).2.2⟩
  rw [h5]
  exact short_put hs hp

end Go.Proofs.Ytkaokncaockjkaa

/-
  WALKS: impl.entriesOf.
-/
namespace Go.Proofs.Ytkaokncaockjkaa
open Go.RowKit
set_option linter.unusedVariables false

attribute [local go_sem] Oper.semAt_some

/-- What entriesOf tells. -/
def EntriesPost (cs : List Cmd) (W : World) (e : Ending) (w' : World) : Prop :=
  Below W.heap.size W w' ∧ ((validL cs = false ∧ e = .returned (.tuple #[.pointer none, .bool false])) ∨ (validL cs = true ∧ ∃ a, e = .returned (.tuple #[.pointer a, .bool true]) ∧ EntAt W.heap.size w' a cs))

theorem back_map (cs : List Cmd) : ∀ (j : Nat) (h : j ≤ cs.length), (backEC cs j h).map (fun x => x.n) = (cs.take j).reverse
  | 0, _ => rfl
  | j + 1, h => by
    show cs[j] :: (backEC cs j _).map (fun x => x.n) = _
    rw [back_map cs j, List.take_add_one, List.getElem?_eq_getElem (by omega), Option.toList_some, List.reverse_append]
    rfl

theorem back_all (cs : List Cmd) : ((backEC cs cs.length (Nat.le_refl _)).map (fun x => x.n)).reverse = cs := by
  rw [back_map, List.take_length, List.reverse_reverse]

/-- Between two rounds. -/
def EntI (cs : List Cmd) (X : Nat) (pre : List (EltC cs)) (W : World) : Prop :=
  ∃ p, Boxed W X 39 (.pointer none) ∧ Boxed W (X + 1) 4 (.bool false) ∧ Boxed W (X + 1 + 1) 39 (.pointer p) ∧ EntAt (X + 1 + 1 + 1) W p (pre.map (fun x => x.n)).reverse ∧ (∀ x ∈ pre, validC x.n = true) ∧ X + 1 + 1 + 1 < W.heap.size

def EntX (cs : List Cmd) (X : Nat) (c : Code) (pre : List (EltC cs)) (W : World) : Prop :=
  c = .ret ∧ (∃ x ∈ pre, validC x.n = false) ∧ Boxed W X 39 (.pointer none) ∧ Boxed W (X + 1) 4 (.bool false)

theorem box_own {A B : World} {row : Option Nat} {b : Nat} {t : TypeId} {v : Value} (h : Boxed A b t v) (hg : A.grownBy B row) (hr : ∀ r, row = some r → ∃ o : Obj, A.heap[r]? = some o ∧ o.isCells = false) : Boxed B b t v :=
  h.kept hg fun e => by
    obtain ⟨o, ho, hc⟩ := hr _ e.symm
    rw [show A.heap[b]? = _ from h] at ho; cases ho; cases hc

theorem box_keep {W W' : World} {b : Nat} {t : TypeId} {v : Value} (h : Boxed W b t v) (hb : Below W.heap.size W W') : Boxed W' b t v := (hb.block b h.lt).trans h

theorem EntI.own (cs : List Cmd) (X : Nat) : Own (EntI cs X) := by
  rintro pre A B row ⟨p, h1, h2, h3, h4, h5, h6⟩ hg hr
  exact ⟨p, box_own h1 hg hr, box_own h2 hg hr, box_own h3 hg hr, h4.own hg hr, h5, Nat.lt_of_lt_of_le h6 hg.size⟩

theorem EntX.own (cs : List Cmd) (X : Nat) (c : Code) : Own (EntX cs X c) := by
  rintro pre A B row ⟨h1, h2, h3, h4⟩ hg hr
  exact ⟨h1, h2, box_own h3 hg hr, box_own h4 hg hr⟩

/-- The loop's variable lies in a box of its own. -/
def CmBox {cs : List Cmd} (B0 : Nat) (tm : Nat → EltC cs → Array Value) (x : EltC cs) (a' : Act) (W : World) : Prop :=
  ∃ Bx, B0 ≤ Bx ∧ W.heap[Bx]? = some (.cells #[.string x.n.p, .int .i64 x.n.fk, .int .i64 x.n.fv, .int .i64 x.n.tk, .int .i64 x.n.tv] 32 (0, 0)) ∧ a' = { tmps := tm Bx x, defers := [] }

theorem CmBox.own {cs : List Cmd} (B0 : Nat) (tm : Nat → EltC cs → Array Value) (x : EltC cs) (a' : Act) : Own (fun (_ : Unit) W => CmBox B0 tm x a' W) := by
  rintro _ A B row ⟨Bx, h0, h1, h2⟩ hg hr
  refine ⟨Bx, h0, (hg.block Bx (Array.getElem?_eq_some_iff.1 h1).1 fun e => ?_).trans h1, h2⟩
  obtain ⟨o, ho, hc⟩ := hr _ e.symm
  rw [h1] at ho; cases ho; cases hc

theorem keeps_below {W W' : World} (h : Below W.heap.size W W') : KeepsOthers W W' := KeepsOthers.of_grownBy (below_grown h) (fun _ _ e => by cases e)

theorem ent_stop {cs : List Cmd} {B : Nat} {W W1 W2 : World} {pre : List (EltC cs)} {x : EltC cs} (hv : validC x.n = false) (h1 : Boxed W2 W.heap.size 39 (.pointer none)) (h2 : Boxed W2 (W.heap.size + 1) 4 (.bool false))
    (hb1 : Below W.heap.size W W1) (hb2 : Below W1.heap.size W1 W2) :
    KeepsFrom B W1 ((W2.setCell ⟨W.heap.size, 0, none⟩ (.pointer none)).setCell ⟨W.heap.size + 1, 0, none⟩ (.bool false)) ∧
    (EntX cs W.heap.size .ret (pre ++ [x]) ((W2.setCell ⟨W.heap.size, 0, none⟩ (.pointer none)).setCell ⟨W.heap.size + 1, 0, none⟩ (.bool false)) ∧ Below W.heap.size W ((W2.setCell ⟨W.heap.size, 0, none⟩ (.pointer none)).setCell ⟨W.heap.size + 1, 0, none⟩ (.bool false))) :=
  ⟨(((keeps_below hb2).trans (KeepsOthers.setCell _ _ _)).trans (KeepsOthers.setCell _ _ _)).from _,
    ⟨rfl, ⟨x, by simp, hv⟩, (h1.set _).other (by omega) _, (h2.other (by omega) _).set _⟩, below_setCell (below_setCell (below_next hb1 hb2) _ _ (Nat.le_refl _)) _ _ (Nat.le_succ _)⟩

theorem size_set (W : World) (a : Addr) (v : Value) : (W.setCell a v).heap.size = W.heap.size := by simp [World.setCell]

theorem ent_round {cs : List Cmd} {B : Nat} {W W1 W2 : World} {pre : List (EltC cs)} {x : EltC cs} {p : Option Addr} (hv : validC x.n = true) (h1 : Boxed W1 W.heap.size 39 (.pointer none)) (h2 : Boxed W1 (W.heap.size + 1) 4 (.bool false))
    (h3 : Boxed W1 (W.heap.size + 1 + 1) 39 (.pointer p)) (h4 : EntAt (W.heap.size + 1 + 1 + 1) W1 p (pre.map (fun x => x.n)).reverse) (h5 : ∀ x ∈ pre, validC x.n = true) (hlt : W.heap.size + 1 + 1 + 1 < W1.heap.size)
    (hb1 : Below W.heap.size W W1) (hb2 : Below W1.heap.size W1 W2) :
    KeepsFrom B W1 ((W2.setCell ⟨W.heap.size + 1 + 1, 0, none⟩ (.pointer (some ⟨W2.heap.size, 0, none⟩))).alloc (.cells (entC x.n p) 62)) ∧
    BackKC W.heap.size (W.heap.size + 1 + 1 + 1) W1 ((W2.setCell ⟨W.heap.size + 1 + 1, 0, none⟩ (.pointer (some ⟨W2.heap.size, 0, none⟩))).alloc (.cells (entC x.n p) 62)) ∧
    (EntI cs W.heap.size (pre ++ [x]) ((W2.setCell ⟨W.heap.size + 1 + 1, 0, none⟩ (.pointer (some ⟨W2.heap.size, 0, none⟩))).alloc (.cells (entC x.n p) 62)) ∧ Below W.heap.size W ((W2.setCell ⟨W.heap.size + 1 + 1, 0, none⟩ (.pointer (some ⟨W2.heap.size, 0, none⟩))).alloc (.cells (entC x.n p) 62))) := by
  have hs2 : W1.heap.size ≤ W2.heap.size := hb2.size
  have g1 := box_keep h1 hb2
  have g2 := box_keep h2 hb2
  have g3 := box_keep h3 hb2
  have hbl : Below W.heap.size W1 ((W2.setCell ⟨W.heap.size + 1 + 1, 0, none⟩ (.pointer (some ⟨W2.heap.size, 0, none⟩))).alloc (.cells (entC x.n p) 62)) :=
    (below_setCell (hb2.mono hb1.size) ⟨W.heap.size + 1 + 1, 0, none⟩ (.pointer (some ⟨W2.heap.size, 0, none⟩)) (by show W.heap.size ≤ W.heap.size + 1 + 1; omega)).alloc (by rw [size_set]; have := hb1.size; omega) _
  refine ⟨(((keeps_below hb2).trans (KeepsOthers.setCell _ _ _)).trans (KeepsOthers.alloc _ _)).from _, ⟨hbl, ?_⟩, ⟨some ⟨W2.heap.size, 0, none⟩, (g1.other (by omega) _).alloc _, (g2.other (by omega) _).alloc _, (g3.set _).alloc _, ?_, ?_, by rw [World.size_alloc, size_set]; omega⟩, hb1.trans hbl⟩
  · rw [Below.heap_alloc _ _ _ (by rw [size_set]; omega), Below.heap_setCell _ _ _ _ (by show W.heap.size + 1 + 1 + 1 ≠ W.heap.size + 1 + 1; omega)]
    exact hb2.block _ hlt
  · have := ((h4.keep hb2).set (p := ⟨W.heap.size + 1 + 1, 0, none⟩) (by show W.heap.size + 1 + 1 < _; omega) (.pointer (some ⟨W2.heap.size, 0, none⟩))).push (by rw [size_set]; omega) x.n
    rw [size_set] at this
    simpa using this
  · intro y hy
    rcases List.mem_append.1 hy with hy | hy
    · exact h5 y hy
    · rw [List.mem_singleton.1 hy]; exact hv

set_option maxHeartbeats 1000000 in
set_option maxRecDepth 100000 in
theorem entriesOf_long (a : Option Addr) (len cap : Nat) (cs : List Cmd) (hl : 20 < len) (W : World) (hN : CmdsAt W a len cs) :
    Calls Try.prog 19 #[.slice a len cap] W (EntriesPost cs W) := by
  have hv := Lib.hid (show validL cs = false by
    rw [Bool.eq_false_iff]
    intro h
    have := ((validL_iff cs).1 h).2
    have := hN.1
    omega)
  have hl' : (20 : Int) < len := by omega
  clear hN hl
  go_enter Try.func19, Try.ntmps19
  go_wp2
  refine bodyPost_ret (v := .tuple #[.pointer none, .bool false]) (by simp [results, Try.f19, go_sem]) rfl ⟨?_, .inl ⟨hv.out, rfl⟩⟩
  exact ((Below.refl _ _).alloc (Nat.le_refl _) _).alloc (by simp) _

set_option maxHeartbeats 2000000 in
set_option maxRecDepth 100000 in
theorem entriesOf_in (a : Option Addr) (len cap : Nat) (cs : List Cmd) (hl : len ≤ 20) (hs : ShortC 2097152 cs) (W : World) (hN : CmdsAt W a len cs) :
    CallsIn Fence.wide 6 Try.prog 19 #[.slice a len cap] W (EntriesPost cs W) := by
  have HN := Lib.hid hN
  have HE := Lib.hid hN.1
  have HS := Lib.hid hs
  have HL := Lib.hid hl
  have hl' : (len : Int) ≤ 20 := by omega
  clear hN hs hl
  refine callsIn_of_wp_marks Try.func19 rfl trivial ?_ rfl
  simp only [Try.ntmps19, List.size_toArray, List.length_cons, List.length_nil, Nat.reduceAdd, Nat.reduceSub, Array.replicate_succ, Array.replicate_zero, List.push_toArray, List.append_toArray, List.nil_append, List.cons_append]
  gi_wp2_with (refine ⟨trivial, ?_⟩; gi_at_call 31; refine (backwardC_in _ _ _ _ _).mono ?_; rintro e w' ⟨rfl, rfl⟩)
  have hlow := cmds_lt HN.out
  have hB0 : Below W.heap.size W ((((W.alloc (.cells #[.pointer none] 39)).alloc (.cells #[.bool false] 4)).alloc (.cells #[.pointer none] 39)).alloc (.cells #[.slice a len cap] 23)) :=
    ((((Below.refl _ W).alloc (Nat.le_refl _) _).alloc (by simp) _).alloc (by simp; omega) _).alloc (by simp; omega) _
  have hI0 : EntI cs W.heap.size [] ((((W.alloc (.cells #[.pointer none] 39)).alloc (.cells #[.bool false] 4)).alloc (.cells #[.pointer none] 39)).alloc (.cells #[.slice a len cap] 23)) := by
    have b0 := Boxed.new W 39 (.pointer none)
    have b1 := Boxed.new (W.alloc (.cells #[.pointer none] 39)) 4 (.bool false)
    have b2 := Boxed.new ((W.alloc (.cells #[.pointer none] 39)).alloc (.cells #[.bool false] 4)) 39 (.pointer none)
    simp only [World.size_alloc] at b1 b2
    exact ⟨none, ((b0.alloc _).alloc _).alloc _, (b1.alloc _).alloc _, b2.alloc _, rfl, fun x hx => (by cases hx), by simp⟩
  have hsz : ((((W.alloc (.cells #[.pointer none] 39)).alloc (.cells #[.bool false] 4)).alloc (.cells #[.pointer none] 39)).alloc (.cells #[.slice a len cap] 23)).heap.size = W.heap.size + 1 + 1 + 1 + 1 := by simp
  have hbk : ((((W.alloc (.cells #[.pointer none] 39)).alloc (.cells #[.bool false] 4)).alloc (.cells #[.pointer none] 39)).alloc (.cells #[.slice a len cap] 23)).cell? ⟨W.heap.size + 1 + 1 + 1, 0, none⟩ = some (.slice a len cap) := by
    have := (Boxed.new (((W.alloc (.cells #[.pointer none] 39)).alloc (.cells #[.bool false] 4)).alloc (.cells #[.pointer none] 39)) 23 (.slice a len cap)).cell
    simpa only [World.size_alloc] using this
  generalize ((((W.alloc (.cells #[.pointer none] 39)).alloc (.cells #[.bool false] 4)).alloc (.cells #[.pointer none] 39)).alloc (.cells #[.slice a len cap] 23)) = Wl at hB0 hI0 hsz hbk ⊢
  have HSZ := Lib.hid hsz
  refine wpIn_rangeFunc_ownH rfl (by omega) (gf := 44) (lb := #[.pointer (some ⟨W.heap.size + 1 + 1 + 1, 0, none⟩)]) rfl trivial (enters_of Try.func44 (by kernel_rfl) rfl)
    (backwardC_stops _ (by omega) (W.heap.size + 1 + 1 + 1) W.heap.size a len cap cs (by have := HL.out; omega) hlow Wl hB0.size (by rw [hsz]; omega) hbk (HN.out.keep hB0))
    (fun h k => ⟨h.1.trans k.1, k.2.trans h.2⟩)
    (fun W' l o o' hl _ _ _ => by
      rw [HSZ.out] at hl
      exact ⟨⟨rfl, rfl, rfl, by simp, fun k hk => World.putObj_heap_other (by omega)⟩, World.putObj_heap_other (by omega)⟩)
    (Below.refl _ _) (fun _ => rfl)
    (fun pre W' => EntI cs W.heap.size pre W' ∧ Below W.heap.size W W') (fun c pre W' => EntX cs W.heap.size c pre W' ∧ Below W.heap.size W W')
    (OwnFrom.and (Own.from (EntI.own cs W.heap.size) _) (ownFrom_below (Nat.le_refl _) hB0.size)) (fun c => OwnFrom.and (Own.from (EntX.own cs W.heap.size c) _) (ownFrom_below (Nat.le_refl _) hB0.size))
    ⟨hI0, hB0⟩
    (CmBox Wl.heap.size (fun Bx x => #[.slice a len cap, undef, .pointer (some ⟨W.heap.size, 0, none⟩), .pointer (some ⟨W.heap.size + 1, 0, none⟩), .pointer (some ⟨W.heap.size + 1 + 1, 0, none⟩), undef, .pointer (some ⟨Bx, 0, none⟩), .slice a len cap, .int .i64 len, .bool (decide ((20 : Int) < len)), .slice a len cap, .func (.func 44) #[] #[.pointer (some ⟨W.heap.size + 1 + 1 + 1, 0, none⟩)], .int .i64 x.i, cmdV x.n, undef, undef, undef, undef, undef, undef, undef, undef]))
    (fun x a' => Own.from (CmBox.own _ _ x a') _)
    ?assign ?body ?done ?stop
  case assign =>
    rintro l pre x W1 K ⟨hi1, hb1⟩ hK
    unfold cmdV
    gi_wp2
    obtain ⟨_, _, _, hb3, _, _, hle⟩ := id hi1
    exact hK _ _ ((KeepsOthers.alloc _ _).from _) ⟨(Below.refl _ _).alloc hb1.size _, Below.heap_alloc _ _ _ hle⟩ ⟨(EntI.own cs W.heap.size).alloc _ hi1, hb1.alloc hb1.size _⟩ ⟨W1.heap.size, by rw [HSZ.out]; exact hle, World.alloc_heap_new W1 _, rfl⟩
  case body =>
    rintro l pre x a' W1 hl ⟨r, hr⟩ ⟨hi1, hb1⟩ ⟨Bx, hBx, hbx, rfl⟩ hlt
    obtain ⟨p, g1, g2, g3, g4, g5, g6⟩ := hi1
    obtain ⟨i, c, hat⟩ := x
    obtain ⟨x, hx⟩ : ∃ x : EltC cs, x = ⟨i, c, hat⟩ := ⟨_, rfl⟩
    rw [← hx]
    have HX := Lib.hid (show x.i = i ∧ x.n = c by rw [hx]; exact ⟨rfl, rfl⟩)
    simp only at hbx
    dsimp only
    obtain ⟨vc, hvc⟩ : ∃ vc, validC c = vc := ⟨_, rfl⟩
    have HC := Lib.hid (fun W' => show Calls Try.prog 32 #[cmdV c] W' (BoolPost vc W') by rw [← hvc]; exact implCmdValid_c c (HS.out.at hat) W')
    have HVC := Lib.hid hvc
    have HBX := Lib.hid (And.intro hBx (Array.getElem?_eq_some_iff.1 hbx).1)
    have HG1 := Lib.hid g1
    have HG2 := Lib.hid g2
    have HG3 := Lib.hid g3
    have HG4 := Lib.hid g4
    have HG5 := Lib.hid g5
    have HB1 := Lib.hid hb1
    obtain ⟨hxi, hxn⟩ := HX.out
    simp only [hxi, hxn]
    obtain ⟨q, fk, fv, tk, tv⟩ := c
    have c0 : W1.cell? ⟨Bx, 0, none⟩ = some (.string q) := by simp [World.cell?, hbx]
    have c1 : W1.cell? ⟨Bx, 1, none⟩ = some (.int .i64 fk) := by simp [World.cell?, hbx]
    have c2 : W1.cell? ⟨Bx, 2, none⟩ = some (.int .i64 fv) := by simp [World.cell?, hbx]
    have c3 : W1.cell? ⟨Bx, 3, none⟩ = some (.int .i64 tk) := by simp [World.cell?, hbx]
    have c4 : W1.cell? ⟨Bx, 4, none⟩ = some (.int .i64 tv) := by simp [World.cell?, hbx]
    unfold cmdV at HC ⊢
    simp only at HC ⊢
    clear hx hbx hr g1 g2 g3 g4 g5 g6 hat hvc hb1 hlt hl hBx hbk hB0 hI0 hlow hxi hxn
    cases vc with
    | false =>
      gi_wp2_with (refine ⟨trivial, ?_⟩; gi_at_call 32; refine (CallsIn.inRound l (callsIn_wide.2 (HC.out _))).mono ?_; rintro e W2 ⟨rfl, hb2⟩; have G1 := box_keep HG1.out hb2; have G2 := box_keep HG2.out hb2; have s1 := G1.cell; have y1 := G1.frozen; have s2 := G2.cell; have y2 := G2.frozen; have HB2 := Lib.hid hb2; have HH1 := Lib.hid G1; have HH2 := Lib.hid G2; clear hb2 G1 G2)
      exact ent_stop (x := x) (by rw [HX.out.2]; exact HVC.out) HH1.out HH2.out HB1.out HB2.out
    | true =>
      gi_wp2_with (refine ⟨trivial, ?_⟩; gi_at_call 32; refine (CallsIn.inRound l (callsIn_wide.2 (HC.out _))).mono ?_; rintro e W2 ⟨rfl, hb2⟩; have G3 := box_keep HG3.out hb2; have s3 := G3.cell; have y3 := G3.frozen; have k0 := cell_kept hb2 c0; have k1 := cell_kept hb2 c1; have k2 := cell_kept hb2 c2; have k3 := cell_kept hb2 c3; have k4 := cell_kept hb2 c4; have z3 := G3.lt; have HB2 := Lib.hid hb2; have HH3 := Lib.hid G3; clear hb2 G3)
      have := ent_round (B := Wl.heap.size) (x := x) (by rw [HX.out.2]; exact HVC.out) HG1.out HG2.out HG3.out HG4.out HG5.out (by have h1 := HBX.out.1; have h2 := HBX.out.2; rw [HSZ.out] at h1; omega) HB1.out HB2.out
      rw [HX.out.2] at this
      exact this
  case done =>
    rintro D ys W' hD rfl ⟨⟨p, h1, h2, h3, h4, h5, h6⟩, hb⟩ hK
    have s1 := h1.cell
    have y1 := h1.frozen
    have s2 := h2.cell
    have y2 := h2.frozen
    have s3 := h3.cell
    have HV := Lib.hid (show validL cs = true by
      refine (validL_iff cs).2 ⟨fun c hc => ?_, by have := HE.out; have := HL.out; omega⟩
      have hm : c ∈ ((backEC cs cs.length (Nat.le_refl _)).map (fun x => x.n)).reverse := by rw [back_all]; exact hc
      obtain ⟨x, hx, rfl⟩ := List.mem_map.1 (List.mem_reverse.1 hm)
      exact h5 x hx)
    rw [back_all] at h4
    have H1 := Lib.hid h1
    have H2 := Lib.hid h2
    have H4 := Lib.hid h4
    have HB := Lib.hid hb
    clear h1 h2 h3 h4 h5 h6 hb hbk hB0 hI0 hlow
    gi_wp2
    have hK' := ((KeepsOthers.setCell W' ⟨W.heap.size, 0, none⟩ (.pointer p)).trans (KeepsOthers.setCell _ ⟨W.heap.size + 1, 0, none⟩ (.bool true))).same D _ hK rfl
    refine ⟨by simp, .inl ⟨_, _, rfl, run_takeDeferred hK', ?_⟩⟩
    have hD' : W.heap.size ≤ D := by rw [HSZ.out] at hD; omega
    have hx5 := _root_.Go.cell_kept ((H1.out.set (.pointer p)).other (B' := W.heap.size + 1) (by omega) (.bool true)).cell (grownBy_putObj' _ D (.deferred none)) (fun r e => by cases e; exact ⟨_, hK', rfl⟩)
    have hx6 := _root_.Go.cell_kept ((H2.out.other (B' := W.heap.size) (by omega) (.pointer p)).set (.bool true)).cell (grownBy_putObj' _ D (.deferred none)) (fun r e => by cases e; exact ⟨_, hK', rfl⟩)
    have hen := (((H4.out.set (p := ⟨W.heap.size, 0, none⟩) (by show W.heap.size < _; omega) (.pointer p)).set (p := ⟨W.heap.size + 1, 0, none⟩) (by show W.heap.size + 1 < _; omega) (.bool true)).own (grownBy_putObj' _ D (.deferred none)) (fun r e => by cases e; exact ⟨_, hK', rfl⟩)).low (C := W.heap.size) (by omega)
    refine ⟨.tuple #[.pointer p, .bool true], by simp [results, Try.f19, go_sem, hx5, hx6], ?_, .inr ⟨HV.out, p, rfl, hen⟩⟩
    exact (below_setCell (below_setCell HB.out _ _ (Nat.le_refl _)) _ _ (Nat.le_succ _)).trans ⟨rfl, rfl, rfl, by simp, fun k hk => World.putObj_heap_other (by omega)⟩
  case stop =>
    rintro D c pre W' hD hpre ⟨⟨rfl, ⟨x, hx, hvx⟩, q1, q2⟩, hb⟩ hK
    have HV := Lib.hid (validL_one x.at_ hvx)
    have hD' : W.heap.size ≤ D := by rw [HSZ.out] at hD; omega
    gi_wp2
    refine ⟨by simp, .inl ⟨_, _, rfl, run_takeDeferred hK, ?_⟩⟩
    have hx5 := _root_.Go.cell_kept q1.cell (grownBy_putObj' _ D (.deferred none)) (fun r e => by cases e; exact ⟨_, hK, rfl⟩)
    have hx6 := _root_.Go.cell_kept q2.cell (grownBy_putObj' _ D (.deferred none)) (fun r e => by cases e; exact ⟨_, hK, rfl⟩)
    refine ⟨.tuple #[.pointer none, .bool false], by simp [results, Try.f19, go_sem, hx5, hx6], ?_, .inl ⟨HV.out, rfl⟩⟩
    exact hb.trans ⟨rfl, rfl, rfl, by simp, fun k hk => World.putObj_heap_other (by omega)⟩

/-- impl.entriesOf, at every list. -/
theorem entriesOf_c (a : Option Addr) (len cap : Nat) (cs : List Cmd) (hs : ShortC 2097152 cs) (W : World) (hN : CmdsAt W a len cs) :
    Calls Try.prog 19 #[.slice a len cap] W (EntriesPost cs W) := by
  by_cases hl : len ≤ 20
  · exact callsIn_wide.1 (entriesOf_in a len cap cs hl hs W hN)
  · exact entriesOf_long a len cap cs (by omega) W hN

end Go.Proofs.Ytkaokncaockjkaa

/-
  WALKS: impl.entry's undone and commands.
-/
namespace Go.Proofs.Ytkaokncaockjkaa
open Go.RowKit
set_option linter.unusedVariables false

def UndoneRel (B : Nat) (cs : List Cmd) (W : World) (e f : Value) (wr : World) : Prop :=
  ∃ (n : Nat) (x y : Option Addr), e = .pointer x ∧ f = .pointer y ∧ n ≤ cs.length ∧ Hid (EntAt B wr x (cs.drop n)) ∧ Hid (EntAt W.heap.size wr y ((cs.take n).reverse.map undoC)) ∧ Hid (Below W.heap.size W wr)

theorem undone_step {cs : List Cmd} {n : Nat} {c : Cmd} (hc : cs[n]? = some c) : (cs.take (n + 1)).reverse.map undoC = undoC c :: (cs.take n).reverse.map undoC := by
  rw [List.take_add_one, hc]
  simp

set_option maxHeartbeats 2000000 in
set_option maxRecDepth 100000 in
theorem undone_c (B : Nat) (a : Option Addr) (cs : List Cmd) (hs : ShortC 2097152 cs) (W : World) (hE : EntAt B W a cs) :
    Calls Try.prog 20 #[.pointer a] W (EntPost (cs.reverse.map undoC) W) := by
  obtain ⟨cnt, hcnt⟩ := ent_count B
  have HC := Lib.hid hcnt
  have HS := Lib.hid hs
  have HE := Lib.hid hE
  clear hE hs hcnt
  go_enter Try.func20, Try.ntmps20
  go_wp2
  go_loopw [0, 3] (fun e f wr => UndoneRel B cs W e f wr) (fun e _ wr => cnt wr e)
  case atStart => exact ⟨0, a, none, rfl, rfl, Nat.zero_le _, HE, rfl, Below.refl _ _⟩
  case round =>
    obtain ⟨n, x, y, rfl, rfl, hn, HX, HY, HB⟩ := hrel
    by_cases hlt : n < cs.length
    · obtain ⟨c, hc⟩ : ∃ c, cs[n]? = some c := ⟨_, List.getElem?_eq_getElem hlt⟩
      have hd : cs.drop n = c :: cs.drop (n + 1) := by rw [List.drop_eq_getElem_cons hlt, (List.getElem?_eq_some_iff.1 hc).2]
      have hx := HX.out
      rw [hd] at hx
      have HX0 := Lib.hid hx
      obtain ⟨b, nx, rfl, hBb, hrest, c0, c1, c2, c3, c4, c5⟩ := hx.first
      have HR := Lib.hid hrest
      have HLT := Lib.hid hlt
      have HU := Lib.hid (fun w => implCmdUndo_c c (HS.out.at hc) w)
      have HST := Lib.hid (undone_step hc)
      have hbl := World.block_lt_of_cell? wr _ c0
      generalize undoC c = u at HU HST
      have C5 := Lib.hid c5
      obtain ⟨p, fk, fv, tk, tv⟩ := c
      obtain ⟨up, ufk, ufv, utk, utv⟩ := u
      unfold CmdPost cmdV at HU
      simp only at c0 c1 c2 c3 c4 HU
      clear hn hlt hc hd hx hrest HX
      go_wp2_with fail
      refine (HU.out _).mono ?_
      rintro e W2 ⟨rfl, hb2⟩
      have c6 := cell_kept hb2 C5.out
      have hbl2 := Nat.lt_of_lt_of_le hbl hb2.size
      have HB2 := Lib.hid (below_next HB.out hb2)
      have HR2 := Lib.hid ((HR.out.keep hb2).alloc (.cells (entC ⟨up, ufk, ufv, utk, utv⟩ y) 62))
      have HY2 := Lib.hid ((HY.out.keep hb2).push HB2.out.size ⟨up, ufk, ufv, utk, utv⟩)
      clear c0 c1 c2 c3 c4 c5 hb2
      go_wp2
      go_roundw
      case rel => exact ⟨n + 1, nx, _, rfl, rfl, by have := HLT.out; omega, HR2, (by show EntAt _ _ _ _; rw [HST.out]; exact HY2.out), HB2.out.alloc HB2.out.size _⟩
      case measure =>
        have h1 := HC.out _ _ _ HR2.out
        have h2 := HC.out _ _ _ HX0.out
        dsimp only [entC] at h1
        show cnt _ _ < cnt _ _
        rw [h1, h2]
        simp
    · have he : n = cs.length := by omega
      subst he
      have hx := HX.out
      rw [List.drop_length] at hx
      obtain rfl : x = none := hx
      have HY2 := Lib.hid (show EntAt W.heap.size wr y (cs.reverse.map undoC) by have := HY.out; rwa [List.take_length] at this)
      clear hn hlt
      go_wp2
      go_ret
      exact ⟨y, rfl, HY2.out, HB.out⟩

def CommandsRel (B : Nat) (cs : List Cmd) (W : World) (e l : Value) (wr : World) : Prop :=
  ∃ (n : Nat) (x : Option Addr), e = .pointer x ∧ n ≤ cs.length ∧ Hid (EntAt B W x (cs.drop n)) ∧ wr.ownsRow W.heap.size 32 5 l (cs.take n).length (flatC (cs.take n)) ∧ Hid (Below W.heap.size W wr)

set_option maxHeartbeats 2000000 in
set_option maxRecDepth 100000 in
theorem commands_c (B : Nat) (a : Option Addr) (cs : List Cmd) (hl : cs.length ≤ 2000000) (W : World) (hE : EntAt B W a cs) :
    Calls Try.prog 21 #[.pointer a] W (CmdsPost cs W) := by
  obtain ⟨cnt, hcnt⟩ := ent_count B
  have HC := Lib.hid hcnt
  have HL := Lib.hid hl
  have HE := Lib.hid hE
  clear hE hl hcnt
  go_enter Try.func21, Try.ntmps21
  go_wp2
  go_loopw [0, 3] (fun e l wr => CommandsRel B cs W e l wr) (fun e _ _ => cnt W e)
  case atStart => exact ⟨0, a, rfl, Nat.zero_le _, HE, World.ownsRow_nil _ _ _ _, Below.refl _ _⟩
  case round =>
    obtain ⟨n, x, rfl, hn, HX, hown, HB⟩ := hrel
    by_cases hlt : n < cs.length
    · obtain ⟨c, hc⟩ : ∃ c, cs[n]? = some c := ⟨_, List.getElem?_eq_getElem hlt⟩
      have hd : cs.drop n = c :: cs.drop (n + 1) := by rw [List.drop_eq_getElem_cons hlt, (List.getElem?_eq_some_iff.1 hc).2]
      have hx := HX.out
      rw [hd] at hx
      have HX0 := Lib.hid hx
      obtain ⟨b, nx, rfl, hBb, hrest, d0, d1, d2, d3, d4, d5⟩ := hx.first
      have c0 := cell_kept HB.out d0
      have c1 := cell_kept HB.out d1
      have c2 := cell_kept HB.out d2
      have c3 := cell_kept HB.out d3
      have c4 := cell_kept HB.out d4
      have HR := Lib.hid hrest
      have HLT := Lib.hid hlt
      have HST := Lib.hid (show cs.take (n + 1) = cs.take n ++ [c] by rw [List.take_add_one, hc]; rfl)
      have HLN := Lib.hid (show (cs.take n).length + 1 ≤ 2097152 by have := HL.out; rw [List.length_take]; omega)
      have hbl := World.block_lt_of_cell? wr _ c0
      have HO := Lib.hid hown
      have C5 := Lib.hid d5
      obtain ⟨p, fk, fv, tk, tv⟩ := c
      simp only at c0 c1 c2 c3 c4
      clear hn hlt hc hd hx hrest HX hown d0 d1 d2 d3 d4 d5
      go_wp2_with (at_builtin; refine wpList_append_cmds rfl _ _ rfl W.heap.size _ (cs.take n) rfl (HO.out.alloc _) _ _ _ [⟨p, fk, fv, tk, tv⟩] rfl (cmds_lit wr ⟨p, fk, fv, tk, tv⟩) (by have := HLN.out; simp at this ⊢; omega) (by have := HB.out.size; simp; omega) ?_; intro v4 w4 ho4 hg4; have HB4 := Lib.hid ((HB.out.alloc HB.out.size _).grown hg4 (by have := HB.out.size; simp; omega) (fun k e => (HO.out.lt k e).1)); have c6 := cell_kept HB4.out C5.out)
      rw [← HST.out] at ho4
      clear hg4
      go_roundw
      case rel => exact ⟨n + 1, nx, rfl, by have := HLT.out; omega, HR, ho4, HB4⟩
      case measure =>
        have h1 := HC.out _ _ _ HR.out
        have h2 := HC.out _ _ _ HX0.out
        show cnt _ _ < cnt _ _
        rw [h1, h2]
        simp
    · have he : n = cs.length := by omega
      subst he
      have hx := HX.out
      rw [List.drop_length] at hx
      obtain rfl : x = none := hx
      rw [List.take_length] at hown
      have HO := Lib.hid hown
      clear hn hlt hown
      go_wp2
      go_ret
      exact ⟨⟨_, rfl, HO.out⟩, HB.out⟩

end Go.Proofs.Ytkaokncaockjkaa

/-
  WALKS: laws.toContent.
-/
namespace Go.Proofs.Ytkaokncaockjkaa
open Go.RowKit

set_option maxHeartbeats 400000 in
theorem toContent_c (k v : Int) (w : World) : Calls Try.prog 42 #[con k v] w (ConRet k v w) := by
  unfold con ConRet
  go_enter Try.func42, Try.ntmps42
  go_wp2
  refine bodyPost_ret (v := con k v) ?_ rfl ⟨rfl, ((below_box _ _).alloc (by simp) _).alloc (by simp; omega) _⟩
  simp [results, Try.f42, go_sem]

end Go.Proofs.Ytkaokncaockjkaa

/-
  WALKS: laws.eqContent at equal contents.
-/
namespace Go.Proofs.Ytkaokncaockjkaa
open Go.RowKit

set_option maxHeartbeats 400000 in
theorem eqContent_c (k v : Int) (w : World) : Calls Try.prog 43 #[.agg #[.int .i64 k, .int .i64 v], .agg #[.int .i64 k, .int .i64 v]] w (BoolPost true w) := by
  go_enter Try.func43, Try.ntmps43
  go_wp2
  go_ret
  exact ⟨rfl, (below_box _ _).alloc (by simp) _⟩

end Go.Proofs.Ytkaokncaockjkaa

/-
  WALKS: commands in the exact laws: laws.toCommand, szCommand, eqCommand; spec.CommandUndo.
-/
namespace Go.Proofs.Ytkaokncaockjkaa
open Go.RowKit
set_option linter.unusedVariables false

/-- What is left; if anything is, the text is of modest length. -/
def SzCmd (c : Cmd) (w : World) (e : Ending) (w' : World) : Prop := ∃ z : Int, e = .returned (.int .i64 z) ∧ -1 ≤ z ∧ z ≤ 1048576 ∧ (0 ≤ z → c.p.size ≤ 1048576) ∧ Below w.heap.size w w'

set_option maxHeartbeats 1000000 in
theorem szCommand_c (c : Cmd) (l : Int) (h0 : 0 ≤ l) (h1 : l ≤ 1048576) (hm : c.p.size ≤ maxLen) (w : World) : Calls Try.prog 27 #[cmdV c, .int .i64 l] w (SzCmd c w) := by
  obtain ⟨p, fk, fv, tk, tv⟩ := c
  unfold cmdV
  have hm' : p.size ≤ 9223372036854775807 := Nat.le_trans (show p.size ≤ maxLen from hm) (by unfold maxLen; omega)
  obtain ⟨z, hz⟩ : ∃ z, l - (p.size : Int) = z := ⟨_, rfl⟩
  have hw : IntKind.i64.wrap (l - (p.size : Int)) = z := (IntWalk.i64_in _ (by omega)).trans hz
  by_cases hneg : z < 0
  · clear h0 h1 hm hm' hz
    go_enter Try.func27, Try.ntmps27
    go_wp2
    go_ret
    exact ⟨-1, rfl, by omega, by omega, fun h => absurd h (by omega), below_box _ _⟩
  · have hpos : 0 ≤ z := by omega
    have HF := Lib.hid (show z ≤ 1048576 ∧ p.size ≤ 1048576 by omega)
    clear h0 h1 hm hm' hz hneg
    go_enter Try.func27, Try.ntmps27
    go_wp2
    go_ret
    exact ⟨z, rfl, by omega, HF.out.1, fun _ => HF.out.2, below_box _ _⟩

set_option maxHeartbeats 1000000 in
theorem eqCommand_c (c : Cmd) (w : World) : Calls Try.prog 29 #[cmdV c, cmdV c] w (BoolPost true w) := by
  obtain ⟨p, fk, fv, tk, tv⟩ := c
  have HE := Lib.hid (fun k v w => eqContent_c k v w)
  unfold cmdV
  go_enter Try.func29, Try.ntmps29
  go_wp2_with fail
  refine (HE.out _ _ _).mono ?_
  rintro e W1 ⟨rfl, hb1⟩
  have hbb := below_next (below_box (w.alloc (.cells #[.string p, .int .i64 fk, .int .i64 fv, .int .i64 tk, .int .i64 tv] 32)) _) hb1
  have q3 := box_cell hbb 3
  have q4 := box_cell hbb 4
  have r3 := box_cell hb1 3
  have r4 := box_cell hb1 4
  simp at q3 q4 r3 r4
  have B1 := Lib.hid (below_next (below_box w _) hbb)
  clear hb1 hbb
  go_wp2_with fail
  refine (HE.out _ _ _).mono ?_
  rintro e W2 ⟨rfl, hb2⟩
  have B2 := Lib.hid (below_next B1.out hb2)
  clear hb2 q3 q4 r3 r4
  go_wp2
  go_ret
  exact ⟨rfl, B2.out⟩

theorem five_at {W : World} {n : Nat} (hn : n = W.heap.size) (a b c d e : Value) (t : TypeId) : Five (W.alloc (.cells #[a, b, c, d, e] t)) n a b c d e := by subst hn; exact five_new W a b c d e t

set_option maxHeartbeats 1000000 in
theorem toCommand_c (c : Cmd) (W : World) : Calls Try.prog 28 #[cmdV c] W (CmdPost c W) := by
  obtain ⟨p, fk, fv, tk, tv⟩ := c
  have HT := Lib.hid (fun k v w => toContent_c k v w)
  have HA := Lib.hid (((five_at (W := W) rfl (.string p) (.int .i64 fk) (.int .i64 fv) (.int .i64 tk) (.int .i64 tv) 54).alloc (.cells #[.string ⟨#[]⟩, .int .i64 0, .int .i64 0, .int .i64 0, .int .i64 0] 32)).alloc (.cells #[.string p, .int .i64 0, .int .i64 0, .int .i64 0, .int .i64 0] 32))
  have HB := Lib.hid ((five_at (W := W.alloc (.cells #[.string p, .int .i64 fk, .int .i64 fv, .int .i64 tk, .int .i64 tv] 54)) (n := W.heap.size + 1) (by simp) (.string ⟨#[]⟩) (.int .i64 0) (.int .i64 0) (.int .i64 0) (.int .i64 0) 32).alloc (.cells #[.string p, .int .i64 0, .int .i64 0, .int .i64 0, .int .i64 0] 32))
  have HC := Lib.hid (five_at (W := (W.alloc (.cells #[.string p, .int .i64 fk, .int .i64 fv, .int .i64 tk, .int .i64 tv] 54)).alloc (.cells #[.string ⟨#[]⟩, .int .i64 0, .int .i64 0, .int .i64 0, .int .i64 0] 32)) (n := W.heap.size + 1 + 1) (by simp) (.string p) (.int .i64 0) (.int .i64 0) (.int .i64 0) (.int .i64 0) 32)
  have HD := Lib.hid (below_next (below_next (below_box W (.cells #[.string p, .int .i64 fk, .int .i64 fv, .int .i64 tk, .int .i64 tv] 54)) (below_box _ (.cells #[.string ⟨#[]⟩, .int .i64 0, .int .i64 0, .int .i64 0, .int .i64 0] 32))) (below_box _ (.cells #[.string p, .int .i64 0, .int .i64 0, .int .i64 0, .int .i64 0] 32)))
  unfold cmdV
  unfold con at HT
  go_enter Try.func28, Try.ntmps28
  go_wp2_with fail
  refine (HT.out _ _ _).mono ?_
  rintro e W1 ⟨rfl, hb1⟩
  have A1 := Lib.hid (HA.out.below hb1)
  have R1 := Lib.hid (HB.out.below hb1)
  have O1 := Lib.hid (HC.out.below hb1)
  have B1 := Lib.hid (below_next HD.out hb1)
  clear HA HB HC HD hb1
  have A2 := Lib.hid ((A1.out.setOther (x := ⟨W.heap.size + 1 + 1, 1, none⟩) (v := .int .i64 fk) (by show W.heap.size + 1 + 1 ≠ _; omega)).setOther (x := ⟨W.heap.size + 1 + 1, 2, none⟩) (v := .int .i64 fv) (by show W.heap.size + 1 + 1 ≠ _; omega))
  have R2 := Lib.hid ((R1.out.setOther (x := ⟨W.heap.size + 1 + 1, 1, none⟩) (v := .int .i64 fk) (by show W.heap.size + 1 + 1 ≠ _; omega)).setOther (x := ⟨W.heap.size + 1 + 1, 2, none⟩) (v := .int .i64 fv) (by show W.heap.size + 1 + 1 ≠ _; omega))
  have O2 := Lib.hid ((O1.out.set1 (x := .int .i64 fk)).set2 (x := .int .i64 fv))
  have B2 := Lib.hid (below_setCell (below_setCell B1.out ⟨W.heap.size + 1 + 1, 1, none⟩ (.int .i64 fk) (by simp; omega)) ⟨W.heap.size + 1 + 1, 2, none⟩ (.int .i64 fv) (by simp; omega))
  obtain ⟨c0, c1, c2, c3, c4, f0, f1, f2, f3, f4, -⟩ := O1.out
  unfold con
  go_upto_region 4 with (fail)
  clear c0 c1 c2 c3 c4 f0 f1 f2 f3 f4 A1 R1 O1 B1
  generalize (W1.setCell ⟨W.heap.size + 1 + 1, 1, none⟩ (.int .i64 fk)).setCell ⟨W.heap.size + 1 + 1, 2, none⟩ (.int .i64 fv) = W2 at A2 R2 O2 B2 ⊢
  obtain ⟨-, -, -, a3, a4, -⟩ := A2.out
  go_wp2_with fail
  refine (HT.out _ _ _).mono ?_
  rintro e W3 ⟨rfl, hb3⟩
  have R3 := Lib.hid (R2.out.below hb3)
  have O3 := Lib.hid (O2.out.below hb3)
  have B3 := Lib.hid (below_next B2.out hb3)
  clear hb3 a3 a4 A2 R2 O2 B2
  have R4 := Lib.hid ((R3.out.setOther (x := ⟨W.heap.size + 1 + 1, 3, none⟩) (v := .int .i64 tk) (by show W.heap.size + 1 + 1 ≠ _; omega)).setOther (x := ⟨W.heap.size + 1 + 1, 4, none⟩) (v := .int .i64 tv) (by show W.heap.size + 1 + 1 ≠ _; omega))
  have O4 := Lib.hid ((O3.out.set3 (x := .int .i64 tk)).set4 (x := .int .i64 tv))
  have B4 := Lib.hid (below_setCell (below_setCell B3.out ⟨W.heap.size + 1 + 1, 3, none⟩ (.int .i64 tk) (by simp; omega)) ⟨W.heap.size + 1 + 1, 4, none⟩ (.int .i64 tv) (by simp; omega))
  obtain ⟨c0, c1, c2, c3, c4, f0, f1, f2, f3, f4, -⟩ := O3.out
  unfold con
  go_upto_region 5 with (fail)
  clear c0 c1 c2 c3 c4 f0 f1 f2 f3 f4 R3 O3 B3
  generalize (W3.setCell ⟨W.heap.size + 1 + 1, 3, none⟩ (.int .i64 tk)).setCell ⟨W.heap.size + 1 + 1, 4, none⟩ (.int .i64 tv) = W4 at R4 O4 B4 ⊢
  obtain ⟨c0, c1, c2, c3, c4, -⟩ := O4.out
  obtain ⟨r0, r1, r2, r3, r4, f0, f1, f2, f3, f4, -⟩ := R4.out
  go_wp2
  exact bodyPost_ret (cmd_results _ rfl _ (W.heap.size + 1) ⟨p, fk, fv, tk, tv⟩ _ rfl R4.out.setAll) rfl ⟨rfl, below_set5 B4.out (Nat.le_succ _)⟩

theorem undo_yes {c : Cmd} {vc : Bool} (h : validC c = vc) : undoC c = if vc = true then ⟨c.p, c.tk, c.tv, c.fk, c.fv⟩ else zeroC := by subst h; rfl

set_option maxHeartbeats 2000000 in
set_option maxRecDepth 100000 in
theorem specCmdUndo_c (c : Cmd) (hp : c.p.size ≤ 2097152) (W : World) : Calls Try.prog 22 #[cmdV c] W (CmdPost (undoC c) W) := by
  obtain ⟨vc, hvc⟩ : ∃ vc, validC c = vc := ⟨_, rfl⟩
  have HC := Lib.hid (fun W' => show Calls Try.prog 23 #[cmdV c] W' (BoolPost vc W') by rw [← hvc]; exact specCmdValid_c c hp W')
  have HR := Lib.hid (undo_yes hvc)
  clear hvc hp
  obtain ⟨p, fk, fv, tk, tv⟩ := c
  have HA := Lib.hid ((five_at (W := W) rfl (.string p) (.int .i64 fk) (.int .i64 fv) (.int .i64 tk) (.int .i64 tv) 32).alloc (.cells #[.string ⟨#[]⟩, .int .i64 0, .int .i64 0, .int .i64 0, .int .i64 0] 32))
  have HB := Lib.hid (five_at (W := W.alloc (.cells #[.string p, .int .i64 fk, .int .i64 fv, .int .i64 tk, .int .i64 tv] 32)) (n := W.heap.size + 1) (by simp) (.string ⟨#[]⟩) (.int .i64 0) (.int .i64 0) (.int .i64 0) (.int .i64 0) 32)
  have HD := Lib.hid (below_next (below_box W (.cells #[.string p, .int .i64 fk, .int .i64 fv, .int .i64 tk, .int .i64 tv] 32)) (below_box _ (.cells #[.string ⟨#[]⟩, .int .i64 0, .int .i64 0, .int .i64 0, .int .i64 0] 32)))
  unfold cmdV at HC ⊢
  simp only at HC HR ⊢
  go_enter Try.func22, Try.ntmps22
  go_wp2_with fail
  refine (HC.out _).mono ?_
  rintro e W1 ⟨rfl, hb1⟩
  have A1 := Lib.hid (HA.out.below hb1)
  have R1 := Lib.hid (HB.out.below hb1)
  have B1 := Lib.hid (below_next HD.out hb1)
  clear HA HB HD hb1
  obtain ⟨r0, r1, r2, r3, r4, f0, f1, f2, f3, f4, -⟩ := R1.out
  cases vc with
  | false =>
    go_wp2
    rw [HR.out]
    exact bodyPost_ret (cmd_results _ rfl _ (W.heap.size + 1) ⟨⟨#[]⟩, 0, 0, 0, 0⟩ _ rfl R1.out.setAll) rfl ⟨rfl, below_set5 B1.out (Nat.le_succ _)⟩
  | true =>
    obtain ⟨c0, c1, c2, c3, c4, -⟩ := A1.out
    go_wp2
    rw [HR.out]
    exact bodyPost_ret (cmd_results _ rfl _ (W.heap.size + 1) ⟨p, tk, tv, fk, fv⟩ _ rfl R1.out.setAll) rfl ⟨rfl, below_set5 B1.out (Nat.le_succ _)⟩

end Go.Proofs.Ytkaokncaockjkaa

/-
  WALK: spec.LogUndo.
-/
namespace Go.Proofs.Ytkaokncaockjkaa
open Go.RowKit
set_option linter.unusedVariables false

def UndoRelL (cs : List Cmd) (vl : Bool) (len : Nat) (W : World) (o i : Value) (wr : World) : Prop :=
  ∃ (n : Nat) (z : Int) (acc : List Cmd), i = .int .i64 z ∧ z = (n : Int) - 1 ∧ n ≤ len ∧ wr.ownsRow W.heap.size 32 5 o acc.length (flatC acc) ∧ Hid (acc = (cs.drop n).reverse.map undoC) ∧ Hid (vl = false → n = len) ∧ Hid (Below W.heap.size W wr)

theorem undo_out {cs acc : List Cmd} {vl : Bool} {n len : Nat} (hl : cs.length = len) (hv : validL cs = vl) (ha : acc = (cs.drop n).reverse.map undoC) (hn : vl = false → n = len) (h : vl = false ∨ n = 0) : undoL cs = acc := by
  subst ha
  cases vl with
  | false =>
    rw [undoL_bad hv, hn rfl, ← hl, List.drop_length]
    rfl
  | true =>
    rcases h with h | rfl
    · cases h
    · rw [undoL_ok hv, List.drop_zero]

set_option maxHeartbeats 4000000 in
set_option maxRecDepth 100000 in
theorem specLogUndo_c (a : Option Addr) (len cap : Nat) (cs : List Cmd) (hl : len ≤ 2097152) (hs : ShortC 2097152 cs) (W : World) (hN : CmdsAt W a len cs) :
    Calls Try.prog 9 #[.slice a len cap] W (CmdsPost (undoL cs) W) := by
  obtain ⟨vl, hvl⟩ : ∃ vl, validL cs = vl := ⟨_, rfl⟩
  have HL := Lib.hid (fun W' (hb : Below W.heap.size W W') => show Calls Try.prog 11 #[.slice a len cap] W' (BoolPost vl W') by rw [← hvl]; exact specLogValid_c a len cap cs hl hs W' (hN.keep hb))
  have HN := Lib.hid hN
  have HE := Lib.hid hN.1
  have HS := Lib.hid hs
  have HVL := Lib.hid hvl
  have hl' : (len : Int) ≤ 2097152 := by omega
  clear hN hs hvl
  go_enter Try.func9, Try.ntmps9
  go_wp2
  go_loopw [3, 4] (fun o i wr => UndoRelL cs vl len W o i wr) (fun _ i _ => (intOf i + 1).toNat)
  case atStart => exact ⟨len, _, [], rfl, by go_num, Nat.le_refl _, World.ownsRow_lit (e := 32) (size := 5) W #[] 0 (Nat.le_refl _) (by simp [maxLen]) rfl, (by show [] = _; rw [← HE.out, List.drop_length]; rfl), (fun _ => rfl), below_box _ _⟩
  case round =>
    obtain ⟨n, z, acc, rfl, hz, hn, hown, HA, HQ, HB⟩ := hrel
    cases n with
    | zero =>
      obtain rfl : z = -1 := by omega
      have HR := Lib.hid (undo_out HE.out HVL.out HA.out HQ.out (.inr rfl))
      have HO := Lib.hid hown
      clear hz hn hown
      go_wp2
      go_ret
      exact ⟨⟨_, rfl, by rw [HR.out]; exact HO.out⟩, HB.out⟩
    | succ m =>
      obtain rfl : z = (m : Int) := by omega
      have hm0 : (0 : Int) ≤ m := by omega
      have hlt : m < len := by omega
      have hml : (m : Int) < len := by omega
      have HLT := Lib.hid hlt
      have HO := Lib.hid hown
      clear hz hn hown
      go_wp2_with fail
      refine (HL.out _ HB.out).mono ?_
      rintro e W2 ⟨rfl, hb2⟩
      have HB2 := Lib.hid (below_next HB.out hb2)
      have HO2 := Lib.hid (own_below HO.out hb2)
      clear hb2
      cases vl with
      | false =>
        have HR := Lib.hid (undo_out HE.out HVL.out HA.out HQ.out (.inl rfl))
        go_wp2
        go_ret
        exact ⟨⟨_, rfl, by rw [HR.out]; exact HO2.out⟩, HB2.out⟩
      | true =>
        obtain ⟨b, off, c, rfl, hc, c0, c1, c2, c3, c4⟩ := (HN.out.keep HB2.out).node hlt
        have HCC := Lib.hid hc
        have HU := Lib.hid (fun w => specCmdUndo_c c (HS.out.at hc) w)
        have HRD := Lib.hid (undo_round hc)
        have HAL := Lib.hid (show acc.length + 1 ≤ 2097152 by rw [HA.out]; simp; have := HE.out; omega)
        generalize undoC c = u at HU HRD
        obtain ⟨p, fk, fv, tk, tv⟩ := c
        obtain ⟨up, ufk, ufv, utk, utv⟩ := u
        unfold CmdPost cmdV at HU
        simp only at c0 c1 c2 c3 c4 HU
        clear hlt hc
        go_wp2_with fail
        refine (HU.out _).mono ?_
        rintro e W3 ⟨rfl, hb3⟩
        have HB3 := Lib.hid (below_next HB2.out hb3)
        have HO3 := Lib.hid (own_below HO2.out hb3)
        clear c0 c1 c2 c3 c4 hb3
        go_wp2_with (at_builtin; refine wpList_append_cmds rfl _ _ rfl W.heap.size _ acc rfl (HO3.out.alloc _) _ _ _ [⟨up, ufk, ufv, utk, utv⟩] rfl (cmds_lit W3 ⟨up, ufk, ufv, utk, utv⟩) (by have := HAL.out; simp; omega) (by have := HB3.out.size; simp; omega) ?_; intro v4 w4 ho4 hg4)
        have HB4 := Lib.hid ((HB3.out.alloc HB3.out.size _).grown hg4 (by have := HB3.out.size; simp; omega) (fun k e => (HO3.out.lt k e).1))
        clear hg4
        go_roundw
        case rel => exact ⟨m, (m : Int) - 1, _, by go_num, rfl, by have := HLT.out; omega, ho4, (by show _ = _; rw [HRD.out, HA.out]), (fun h => by cases h), HB4⟩
        case measure => simp [intOf]

end Go.Proofs.Ytkaokncaockjkaa

/-
  WALKS: impl.LogValid, LogUndo, LogApply, LogFits.
-/
namespace Go.Proofs.Ytkaokncaockjkaa
open Go.RowKit
set_option linter.unusedVariables false

set_option maxHeartbeats 1000000 in
set_option maxRecDepth 100000 in
theorem implLogValid_c (a : Option Addr) (len cap : Nat) (cs : List Cmd) (hl : len ≤ 2097152) (hs : ShortC 2097152 cs) (W : World) (hN : CmdsAt W a len cs) :
    Calls Try.prog 12 #[.slice a len cap] W (BoolPost (validL cs) W) := by
  have HEn := Lib.hid (entriesOf_c a len cap cs hs W hN)
  clear hN hs hl
  go_enter Try.func12, Try.ntmps12
  go_wp2_with fail
  refine HEn.out.mono ?_
  rintro e W1 ⟨hb, ⟨hv, rfl⟩ | ⟨hv, x, rfl, -⟩⟩
  · have HB := Lib.hid hb
    have HV := Lib.hid hv
    clear hb hv
    go_wp2
    go_ret
    exact ⟨ret_bool HV.out.symm, HB.out⟩
  · have HB := Lib.hid hb
    have HV := Lib.hid hv
    clear hb hv
    go_wp2
    go_ret
    exact ⟨ret_bool HV.out.symm, HB.out⟩

set_option maxHeartbeats 1000000 in
set_option maxRecDepth 100000 in
theorem implLogUndo_c (a : Option Addr) (len cap : Nat) (cs : List Cmd) (hl : len ≤ 2097152) (hs : ShortC 2097152 cs) (W : World) (hN : CmdsAt W a len cs) :
    Calls Try.prog 8 #[.slice a len cap] W (CmdsPost (undoL cs) W) := by
  have HEn := Lib.hid (entriesOf_c a len cap cs hs W hN)
  have HS := Lib.hid hs
  clear hN hs hl
  go_enter Try.func8, Try.ntmps8
  go_wp2_with fail
  refine HEn.out.mono ?_
  rintro e W1 ⟨hb, ⟨hv, rfl⟩ | ⟨hv, x, rfl, hx⟩⟩
  · have HB := Lib.hid hb
    have HV := Lib.hid hv
    clear hb hv
    go_wp2
    go_ret
    exact ⟨⟨_, rfl, by rw [undoL_bad HV.out]; exact World.ownsRow_nil _ _ _ _⟩, HB.out⟩
  · have HB := Lib.hid hb
    have HU := Lib.hid (undone_c _ x cs HS.out W1 hx)
    have HV := Lib.hid (undoL_ok hv)
    have HL := Lib.hid (show (cs.reverse.map undoC).length ≤ 2000000 by have := ((validL_iff cs).1 hv).2; simp; omega)
    clear hb hv hx
    go_wp2_with fail
    refine HU.out.mono ?_
    rintro e W2 ⟨y, rfl, hy, hb2⟩
    have HB2 := Lib.hid (below_next HB.out hb2)
    have HC := Lib.hid (commands_c _ y _ HL.out W2 hy)
    clear hy hb2
    go_wp2_with fail
    refine HC.out.mono ?_
    rintro e W3 ⟨⟨sl, rfl, ho⟩, hb3⟩
    have HO := Lib.hid (own_mono ho HB2.out.size)
    have HB3 := Lib.hid (below_next HB2.out hb3)
    clear ho hb3
    go_wp2
    go_ret
    exact ⟨⟨sl, rfl, by rw [HV.out]; exact HO.out⟩, HB3.out⟩

def DoneRel (ns : List Nd) (cs : List Cmd) (W : World) (l k o i : Value) (wr : World) : Prop :=
  ∃ (n : Nat) (acc : List Nd) (x : Option Addr), l = .pointer x ∧ k = .bool true ∧ i = .int .i64 n ∧ n ≤ cs.length ∧ wr.ownsRow W.heap.size 96 3 o acc.length (flatN acc) ∧ Hid (EntAt W.heap.size wr x (cs.drop n)) ∧ Hid (acc.length ≤ 10) ∧ Hid (Short 2097152 acc) ∧ Hid (runL ns (cs.take n) = (acc, n)) ∧ Hid (Below W.heap.size W wr)

end Go.Proofs.Ytkaokncaockjkaa

/-
  A command held against itself.
-/
namespace Go.Proofs.Ytkaokncaockjkaa
open Go.RowKit

theorem cmdEqS (p : ByteArray) (fk fv tk tv : Int) (w : World) : (binOp .eql 32 (.agg #[.string p, .int .i64 fk, .int .i64 fv, .int .i64 tk, .int .i64 tv]) (.agg #[.string p, .int .i64 fk, .int .i64 fv, .int .i64 tk, .int .i64 tv])).run Try.prog w = .ok (.bool true) w := by
  simp [binOp, go_sem, Op.equal, Op.maxDepth]

theorem cmdNeS (p : ByteArray) (fk fv tk tv : Int) (w : World) : (binOp .neq 32 (.agg #[.string p, .int .i64 fk, .int .i64 fv, .int .i64 tk, .int .i64 tv]) (.agg #[.string p, .int .i64 fk, .int .i64 fv, .int .i64 tk, .int .i64 tv])).run Try.prog w = .ok (.bool false) w := by
  simp [binOp, go_sem, Op.equal, Op.maxDepth]

end Go.Proofs.Ytkaokncaockjkaa

/-
  WALKS: laws.sameNodes, laws.sameTexts at equal lists.
-/
namespace Go.Proofs.Ytkaokncaockjkaa
open Go.RowKit
set_option linter.unusedVariables false

/-- A list of texts in memory. -/
def TextsAt (W : World) (a : Option Addr) (len : Nat) (xs : List ByteArray) : Prop :=
  xs.length = len ∧ (len = 0 ∨ ∃ b off, a = some ⟨b, off, none⟩ ∧ ∀ i x, xs[i]? = some x → W.cell? ⟨b, off + i, none⟩ = some (.string x))

theorem TextsAt.keep {W W' : World} {a : Option Addr} {len : Nat} {xs : List ByteArray} (h : TextsAt W a len xs) (hb : Below W.heap.size W W') : TextsAt W' a len xs := by
  obtain ⟨h1, h0 | ⟨b, off, ha, hc⟩⟩ := h
  · exact ⟨h1, .inl h0⟩
  · exact ⟨h1, .inr ⟨b, off, ha, fun i x hx => cell_kept hb (hc i x hx)⟩⟩

theorem texts_of_own {W : World} {base : Nat} {e : TypeId} {v : Value} {xs : List ByteArray} (h : W.ownsRow base e 1 v xs.length (xs.map Value.string)) :
    ∃ a cap, v = .slice a xs.length cap ∧ TextsAt W a xs.length xs := by
  rcases h.2 with ⟨rfl, h0⟩ | ⟨g, cap, cur, rfl, h1, h2, h3, h4, h5, h6⟩
  · exact ⟨none, 0, by rw [h0], rfl, .inl h0⟩
  · refine ⟨some ⟨g, 0, none⟩, cap, rfl, rfl, .inr ⟨g, 0, rfl, fun i x hx => ?_⟩⟩
    have hi := (List.getElem?_eq_some_iff.1 hx).1
    rw [Nat.zero_add, h.cellAt i (by omega), List.getElem?_map, hx]
    rfl

theorem below_drewN {n : Nat} {W W' : World} (h : Below n W W') (k : Nat) : Below n W (W'.drewN k) := by
  have e := (drewN_cell W' k ⟨0, 0, none⟩).2.2
  exact ⟨h.os, h.tape, h.output, by rw [e]; exact h.size, fun j hj => by rw [e]; exact h.block j hj⟩

theorem TextsAt.node {W : World} {a : Option Addr} {len : Nat} {xs : List ByteArray} (h : TextsAt W a len xs) {i : Nat} (hi : i < len) :
    ∃ b off x, a = some ⟨b, off, none⟩ ∧ xs[i]? = some x ∧ W.cell? ⟨b, off + i, none⟩ = some (.string x) := by
  obtain ⟨h1, h0 | ⟨b, off, ha, hc⟩⟩ := h
  · omega
  · obtain ⟨x, hx⟩ : ∃ x, xs[i]? = some x := ⟨_, List.getElem?_eq_getElem (by omega)⟩
    exact ⟨b, off, x, ha, hx, hc i x hx⟩

end Go.Proofs.Ytkaokncaockjkaa

/-
  WALKS: laws.toNode, laws.toNodeS, laws.szNodeS: lists of nodes that come from outside.
-/
namespace Go.Proofs.Ytkaokncaockjkaa
open Go.RowKit
set_option linter.unusedVariables false

/-- A node as a value. -/
abbrev nodeV (n : Nd) : Value := .agg #[.string n.p, .int .i64 n.k, .int .i64 n.v]

def NodeRet (n : Nd) (w : World) (e : Ending) (w' : World) : Prop := e = .returned (nodeV n) ∧ Below w.heap.size w w'

theorem node_results (s : Nat) (fn : Func) (hf : fn.results = #[.cell s 96]) (W : World) (g : Nat) (n : Nd) (tmps : Array Value) (ht : tmps[s]? = some (.pointer (some ⟨g, 0, none⟩)))
    (h : W.cell? ⟨g, 0, none⟩ = some (.string n.p) ∧ W.cell? ⟨g, 1, none⟩ = some (.int .i64 n.k) ∧ W.cell? ⟨g, 2, none⟩ = some (.int .i64 n.v)) : (results fn tmps).run Try.prog W = .ok (nodeV n) W := by
  obtain ⟨c0, c1, c2⟩ := h
  simp [results, hf, go_sem, ht, c0, c1, c2]

/-- A block of cells of the call's own. -/
def Blk (W : World) (g : Nat) (cs : Array Value) (t : TypeId) : Prop := W.heap[g]? = some (.cells cs t (0, 0))

theorem blk_new (W : World) (cs : Array Value) (t : TypeId) : Blk (W.alloc (.cells cs t)) W.heap.size cs t := World.alloc_heap_new _ _
theorem Blk.lt {W : World} {g : Nat} {cs : Array Value} {t : TypeId} (h : Blk W g cs t) : g < W.heap.size := by
  unfold Blk at h
  exact (Array.getElem?_eq_some_iff.1 h).1
theorem Blk.below {W W' : World} {g : Nat} {cs : Array Value} {t : TypeId} (h : Blk W g cs t) (hb : Below W.heap.size W W') : Blk W' g cs t := (hb.block g h.lt).trans h
theorem Blk.cell {W : World} {g : Nat} {cs : Array Value} {t : TypeId} (h : Blk W g cs t) (i : Nat) : W.cell? ⟨g, i, none⟩ = cs[i]? := cell_of_row W g i cs t (0, 0) h
theorem Blk.frozen {W : World} {g : Nat} {cs : Array Value} {t : TypeId} (h : Blk W g cs t) (i : Nat) : W.frozen? ⟨g, i, none⟩ = false := frozen_of_row W g i cs t h
theorem Blk.set {W : World} {g : Nat} {cs : Array Value} {t : TypeId} (h : Blk W g cs t) (i : Nat) (u : Value) : Blk (W.setCell ⟨g, i, none⟩ u) g (cs.setIfInBounds i u) t := heap_setCell_same W g i cs t u h
theorem Blk.setOther {W : World} {g : Nat} {cs : Array Value} {t : TypeId} (h : Blk W g cs t) (a : Addr) (u : Value) (ha : g ≠ a.block) : Blk (W.setCell a u) g cs t := (heap_setCell_other W a g u ha).trans h

theorem flatN_take_set : ∀ (ns : List Nd) (i : Nat) (n : Nd) (zs : List Value), ns[i]? = some n → 3 ≤ zs.length →
    (((flatN (ns.take i) ++ zs).set (i * 3) (.string n.p)).set (i * 3 + 1) (.int .i64 n.k)).set (i * 3 + 2) (.int .i64 n.v) = flatN (ns.take (i + 1)) ++ zs.drop 3 := by
  intro ns i n zs hn hz
  have hi := (List.getElem?_eq_some_iff.1 hn).1
  have hl : (flatN (ns.take i)).length = i * 3 := by rw [flatN_length, List.length_take]; omega
  rw [List.take_add_one, hn, flatN_append]
  match zs, hz with
  | a :: b :: c :: r, _ =>
    show _ = (flatN (ns.take i) ++ [.string n.p, .int .i64 n.k, .int .i64 n.v]) ++ r
    rw [List.set_append_right _ _ (by omega), hl, show i * 3 - i * 3 = 0 by omega]
    rw [List.set_append_right _ _ (by omega), hl, show i * 3 + 1 - i * 3 = 1 by omega]
    rw [List.set_append_right _ _ (by omega), hl, show i * 3 + 2 - i * 3 = 2 by omega]
    simp

theorem below_of_none {W w : World} (h : W.grownBy w none) : Below W.heap.size W w := ⟨h.os, h.tape, h.output, h.size, fun k hk => h.block k hk (by simp)⟩

theorem stored3 {W : World} {base : Nat} {e : TypeId} {g cap n : Nat} {xs : List Value} (h : W.ownsRow base e 3 (.slice (some ⟨g, 0, none⟩) n cap) n xs) (j : Nat) (u v x : Value) :
    (((W.setCell ⟨g, j, none⟩ u).setCell ⟨g, j + 1, none⟩ v).setCell ⟨g, j + 2, none⟩ x).ownsRow base e 3 (.slice (some ⟨g, 0, none⟩) n cap) n (((xs.set j u).set (j + 1) v).set (j + 2) x) :=
  ((((h.stored j u).1.stored (j + 1) v).1).stored (j + 2) x).1

def ToRel (ns : List Nd) (len : Nat) (W : World) (i : Value) (wr : World) : Prop :=
  ∃ (n : Nat) (zs : List Value), i = .int .i64 n ∧ n ≤ len ∧ zs.length = (len - n) * 3 ∧ wr.ownsRow W.heap.size 96 3 (.slice (some ⟨W.heap.size, 0, none⟩) len len) len (flatN (ns.take n) ++ zs) ∧ Hid (Below W.heap.size W wr)

end Go.Proofs.Ytkaokncaockjkaa

/-
  WALKS: lists of commands in the laws: laws.toCommandS, szCommandS, eqCommandS, sameLog.
-/
namespace Go.Proofs.Ytkaokncaockjkaa
open Go.RowKit
set_option linter.unusedVariables false

theorem flatC_take_set : ∀ (cs : List Cmd) (i : Nat) (c : Cmd) (zs : List Value), cs[i]? = some c → 5 ≤ zs.length →
    (((((flatC (cs.take i) ++ zs).set (i * 5) (.string c.p)).set (i * 5 + 1) (.int .i64 c.fk)).set (i * 5 + 2) (.int .i64 c.fv)).set (i * 5 + 3) (.int .i64 c.tk)).set (i * 5 + 4) (.int .i64 c.tv) = flatC (cs.take (i + 1)) ++ zs.drop 5 := by
  intro cs i c zs hn hz
  have hi := (List.getElem?_eq_some_iff.1 hn).1
  have hl : (flatC (cs.take i)).length = i * 5 := by rw [flatC_length, List.length_take]; omega
  rw [List.take_add_one, hn, flatC_append]
  match zs, hz with
  | a :: b :: c' :: d :: e :: r, _ =>
    show _ = (flatC (cs.take i) ++ [.string c.p, .int .i64 c.fk, .int .i64 c.fv, .int .i64 c.tk, .int .i64 c.tv]) ++ r
    rw [List.set_append_right _ _ (by omega), hl, show i * 5 - i * 5 = 0 by omega]
    rw [List.set_append_right _ _ (by omega), hl, show i * 5 + 1 - i * 5 = 1 by omega]
    rw [List.set_append_right _ _ (by omega), hl, show i * 5 + 2 - i * 5 = 2 by omega]
    rw [List.set_append_right _ _ (by omega), hl, show i * 5 + 3 - i * 5 = 3 by omega]
    rw [List.set_append_right _ _ (by omega), hl, show i * 5 + 4 - i * 5 = 4 by omega]
    simp

theorem stored5 {W : World} {base : Nat} {e : TypeId} {g cap n : Nat} {xs : List Value} (h : W.ownsRow base e 5 (.slice (some ⟨g, 0, none⟩) n cap) n xs) (j : Nat) (u v x y z : Value) :
    (((((W.setCell ⟨g, j, none⟩ u).setCell ⟨g, j + 1, none⟩ v).setCell ⟨g, j + 2, none⟩ x).setCell ⟨g, j + 3, none⟩ y).setCell ⟨g, j + 4, none⟩ z).ownsRow base e 5 (.slice (some ⟨g, 0, none⟩) n cap) n (((((xs.set j u).set (j + 1) v).set (j + 2) x).set (j + 3) y).set (j + 4) z) :=
  ((((((h.stored j u).1.stored (j + 1) v).1).stored (j + 2) x).1.stored (j + 3) y).1.stored (j + 4) z).1

def ToRelC (cs : List Cmd) (len : Nat) (W : World) (i : Value) (wr : World) : Prop :=
  ∃ (n : Nat) (zs : List Value), i = .int .i64 n ∧ n ≤ len ∧ zs.length = (len - n) * 5 ∧ wr.ownsRow W.heap.size 32 5 (.slice (some ⟨W.heap.size, 0, none⟩) len len) len (flatC (cs.take n) ++ zs) ∧ Hid (Below W.heap.size W wr)

set_option maxHeartbeats 2000000 in
set_option maxRecDepth 100000 in
theorem toCommandS_c (a : Option Addr) (len cap : Nat) (cs : List Cmd) (hl : len ≤ 2097152) (W : World) (hN : CmdsAt W a len cs) :
    Calls Try.prog 15 #[.slice a len cap] W (CmdsPost cs W) := by
  obtain ⟨i0, hi, hz0, hz1, hz2⟩ := info_parts infoCmd
  have HN := Lib.hid hN
  have HE := Lib.hid hN.1
  have HT := Lib.hid (fun c w => toCommand_c c w)
  have HL := Lib.hid hl
  clear hN
  go_enter Try.func15, Try.ntmps15
  go_wp2_with (refine wpList_make_full _ rfl _ _ 23 rfl W.heap.size 32 i0 (.agg #[.string ⟨#[]⟩, .int .i64 0, .int .i64 0, .int .i64 0, .int .i64 0]) 5 Try.underlying23 hi hz0 hz1 .i64 .i64 _ _ len rfl rfl rfl rfl (by rw [hz2]; omega) (by unfold maxLen; omega) (Nat.le_refl _) ?_; intro w1 hown1 hg1)
  have hb1 := below_of_none hg1
  clear hg1
  go_loopw [4] (fun i wr => ToRelC cs len W i wr) (fun i _ => len - (intOf i).toNat)
  case atStart =>
    refine ⟨0, _, rfl, by omega, ?_, (by simpa [flatC_nil] using hown1), hb1⟩
    have := hown1.1
    omega
  case round =>
    obtain ⟨i, zs, rfl, hi1, hzl, hown, HB⟩ := hrel
    by_cases hlt : i < len
    · obtain ⟨b, off, n, rfl, hn, c0, c1, c2, c3, c4⟩ := (HN.out.keep HB.out).node hlt
      have hlt' : (i : Int) < len := by omega
      have HLT := Lib.hid hlt
      have HNN := Lib.hid hn
      have hz3 : 5 ≤ zs.length := by omega
      have HZ := Lib.hid (And.intro hzl hz3)
      obtain ⟨p, fk, fv, tk, tv⟩ := n
      have HTN := Lib.hid (fun w => HT.out ⟨p, fk, fv, tk, tv⟩ w)
      unfold CmdPost cmdV at HTN
      simp only at c0 c1 c2 c3 c4 HTN
      clear hi1 hlt hn hzl hz3 hown1
      go_wp2_with fail
      refine (HTN.out _).mono ?_; rintro e W2 ⟨rfl, hb2⟩
      have HO2 := Lib.hid (own_below hown hb2)
      have HB2 := Lib.hid (below_next HB.out hb2)
      clear hown hb2 c0 c1 c2 c3 c4
      have hll : (flatC (cs.take i)).length = i * 5 := by rw [flatC_length, List.length_take]; have := HE.out; have := HLT.out; omega
      have cell : ∀ j, j < 5 → ∃ u, W2.cell? ⟨W.heap.size, i * 5 + j, none⟩ = some u := by
        intro j hj
        have hx := HZ.out.1
        have hy := HLT.out
        rw [HO2.out.cellAt _ (by omega)]
        exact ⟨_, List.getElem?_eq_getElem (by rw [List.length_append, hll]; omega)⟩
      obtain ⟨u0, e0⟩ := cell 0 (by omega)
      replace e0 : W2.cell? ⟨W.heap.size, i * 5, none⟩ = some u0 := e0
      obtain ⟨u1, e1⟩ := cell 1 (by omega)
      obtain ⟨u2, e2⟩ := cell 2 (by omega)
      obtain ⟨u3, e3⟩ := cell 3 (by omega)
      obtain ⟨u4, e4⟩ := cell 4 (by omega)
      have y0 := HO2.out.frozenAt (i * 5)
      have y1 := HO2.out.frozenAt (i * 5 + 1)
      have y2 := HO2.out.frozenAt (i * 5 + 2)
      have y3 := HO2.out.frozenAt (i * 5 + 3)
      have y4 := HO2.out.frozenAt (i * 5 + 4)
      clear cell hll
      go_wp2
      have HS3 := stored5 HO2.out (i * 5) (.string p) (.int .i64 fk) (.int .i64 fv) (.int .i64 tk) (.int .i64 tv)
      rw [flatC_take_set cs i ⟨p, fk, fv, tk, tv⟩ zs HNN.out HZ.out.2] at HS3
      go_roundw
      case rel => exact ⟨i + 1, zs.drop 5, by go_num, by have := HLT.out; omega, by rw [List.length_drop]; have h1 := HZ.out.1; have h2 := HZ.out.2; have h3 := HLT.out; omega, HS3, below_setCell (below_setCell (below_setCell (below_setCell (below_setCell HB2.out _ _ (Nat.le_refl _)) _ _ (Nat.le_refl _)) _ _ (Nat.le_refl _)) _ _ (Nat.le_refl _)) _ _ (Nat.le_refl _)⟩
      case measure => have := HLT.out; simp [intOf]; omega
    · have hge : (len : Int) ≤ i := by omega
      have hz0' : zs = [] := List.eq_nil_of_length_eq_zero (by omega)
      subst hz0'
      rw [List.append_nil, List.take_of_length_le (by have := HE.out; omega)] at hown
      clear hi1 hlt
      go_wp2
      go_ret
      exact ⟨⟨_, rfl, by have h := HE.out; rw [h]; exact hown⟩, HB.out⟩

/-- What is left; if anything is, the list and its texts are of modest length. -/
def SzCmds (len : Nat) (cs : List Cmd) (w : World) (e : Ending) (w' : World) : Prop := ∃ z : Int, e = .returned (.int .i64 z) ∧ z ≤ 1048576 ∧ (0 ≤ z → len ≤ 1048576 ∧ ShortC 1048576 cs) ∧ Below w.heap.size w w'

def SzRelC (len : Nat) (cs : List Cmd) (w : World) (l i : Value) (wr : World) : Prop :=
  ∃ (n : Nat) (z : Int), i = .int .i64 n ∧ n ≤ len ∧ l = .int .i64 z ∧ Hid (0 ≤ z ∧ z ≤ 1048576) ∧ Hid (∀ j m, j < n → cs[j]? = some m → m.p.size ≤ 1048576) ∧ Hid (Below w.heap.size w wr)

set_option maxHeartbeats 1000000 in
theorem szCommandS_c (l0 : Int) (hl0 : 0 ≤ l0) (hl1 : l0 ≤ 1048576) (a : Option Addr) (len cap : Nat) (cs : List Cmd) (hlen : len ≤ maxLen) (hm : ShortC maxLen cs) (w : World) (hN : CmdsAt w a len cs) :
    Calls Try.prog 14 #[.slice a len cap, .int .i64 l0] w (SzCmds len cs w) := by
  have HN := Lib.hid hN
  have HE := Lib.hid hN.1
  have HM := Lib.hid hm
  have hl : len ≤ 9223372036854775807 := Nat.le_trans hlen (by unfold maxLen; omega)
  have hw0 : IntKind.i64.wrap (l0 - (len : Int)) = l0 - len := IntWalk.i64_in _ (by omega)
  clear hN hm hlen
  by_cases h : (len : Int) ≤ l0
  · obtain ⟨z, hz⟩ : ∃ z, l0 - len = z := ⟨_, rfl⟩
    have hzp : 0 ≤ z := by omega
    have HZ := Lib.hid (show 0 ≤ z ∧ z ≤ 1048576 by omega)
    have hw := hw0.trans hz
    have HL := Lib.hid (show len ≤ 1048576 by omega)
    have hl2 : (len : Int) ≤ 1048576 := by omega
    clear hz hl h hw0
    go_enter Try.func14, Try.ntmps14
    go_wp2
    clear hzp hw
    go_loopw [1, 5] (fun l i wr => SzRelC len cs w l i wr) (fun _ i _ => len - (intOf i).toNat)
    case atStart => exact ⟨0, z, rfl, by omega, rfl, HZ, Lib.hid (fun j m h _ => absurd h (by omega)), Below.refl _ _⟩
    case round =>
      obtain ⟨i, l, rfl, hi, rfl, HLL, HP, HB⟩ := hrel
      by_cases hlt : i < len
      · obtain ⟨b, off, n, rfl, hn, c0, c1, c2, c3, c4⟩ := (HN.out.keep HB.out).node hlt
        have hlt' : (i : Int) < len := by omega
        have HO := Lib.hid (fun w => szCommand_c n l HLL.out.1 HLL.out.2 (HM.out n (List.mem_of_getElem? hn)) w)
        have HNN := Lib.hid hn
        have HLT := Lib.hid hlt
        obtain ⟨p, fk, fv, tk, tv⟩ := n
        unfold SzCmd cmdV at HO
        simp only at c0 c1 c2 c3 c4 HO
        clear hi hlt hn
        go_wp2_with fail
        refine (HO.out _).mono ?_; rintro e W2 ⟨z2, rfl, hz0, hz1, hz2, hb2⟩
        have HB2 := Lib.hid (below_next HB.out hb2)
        clear c0 c1 c2 c3 c4 hb2
        by_cases hneg : z2 < 0
        · clear hz0 hz1 hz2
          go_wp2
          go_ret
          exact ⟨-1, rfl, by omega, fun h => absurd h (by omega), HB2.out⟩
        · have hpos : 0 ≤ z2 := by omega
          have HZ2 := Lib.hid (And.intro hpos (And.intro hz1 (hz2 hpos)))
          clear hz0 hz1 hz2 hneg
          go_wp2
          go_roundw
          case rel =>
            refine ⟨i + 1, z2, by go_num, by have := HLT.out; omega, rfl, ⟨HZ2.out.1, HZ2.out.2.1⟩, ?_, HB2⟩
            intro j m hj hm
            by_cases hji : j < i
            · exact HP.out j m hji hm
            · have : j = i := by omega
              subst this
              rw [HNN.out] at hm
              obtain rfl := Option.some.inj hm
              exact HZ2.out.2.2
          case measure => have := HLT.out; simp [intOf]; omega
      · have hge : (len : Int) ≤ i := by omega
        have HQ := Lib.hid (show len ≤ i by omega)
        clear hi hlt
        go_wp2
        go_ret
        exact ⟨l, rfl, HLL.out.2, fun _ => ⟨HL.out, fun n hn => by
          obtain ⟨j, hj⟩ := List.getElem?_of_mem hn
          exact HP.out j n (by have h1 := (List.getElem?_eq_some_iff.1 hj).1; have h2 := HE.out; have h3 := HQ.out; omega) hj⟩, HB.out⟩
  · have hz : l0 - len < 0 := by omega
    obtain ⟨z, hz'⟩ : ∃ z, l0 - len = z := ⟨_, rfl⟩
    have hw := hw0.trans hz'
    rw [hz'] at hz
    clear hz' hl h hw0
    go_enter Try.func14, Try.ntmps14
    go_wp2
    go_ret
    exact ⟨-1, rfl, by omega, fun h => absurd h (by omega), Below.refl _ _⟩

/-- Two lists of commands that read alike. -/
def EqRelC (len : Nat) (W : World) (i : Value) (wr : World) : Prop := ∃ n : Nat, i = .int .i64 n ∧ n ≤ len ∧ Hid (Below W.heap.size W wr)

set_option maxHeartbeats 2000000 in
set_option maxRecDepth 100000 in
theorem eqCommandS_c (a1 a2 : Option Addr) (len c1 c2 : Nat) (cs : List Cmd) (hl : len ≤ 2097152) (W : World) (h1 : CmdsAt W a1 len cs) (h2 : CmdsAt W a2 len cs) :
    Calls Try.prog 16 #[.slice a1 len c1, .slice a2 len c2] W (BoolPost true W) := by
  have H1 := Lib.hid h1
  have H2 := Lib.hid h2
  have HC := Lib.hid (fun c w => eqCommand_c c w)
  unfold cmdV at HC
  have hl' : (len : Int) ≤ 2097152 := by omega
  clear h1 h2
  go_enter Try.func16, Try.ntmps16
  go_wp2
  go_loopw [5] (fun i wr => EqRelC len W i wr) (fun i _ => len - (intOf i).toNat)
  case atStart => exact ⟨0, rfl, by omega, Below.refl _ _⟩
  case round =>
    obtain ⟨i, rfl, hi, HB⟩ := hrel
    by_cases hlt : i < len
    · obtain ⟨b, off, n, HA1, hn1, c0, c1, c2, c3, c4⟩ := (H1.out.keep HB.out).node hlt
      obtain ⟨b', off', n', HA2, hn2, d0, d1, d2, d3, d4⟩ := (H2.out.keep HB.out).node hlt
      obtain rfl : n' = n := by rw [hn1] at hn2; exact (Option.some.inj hn2).symm
      have hlt' : (i : Int) < len := by omega
      have hil : (i : Int) ≤ 2097152 := by omega
      have HLT := Lib.hid hlt
      obtain rfl := HA1
      obtain rfl := HA2
      obtain ⟨p, fk, fv, tk, tv⟩ := n'
      simp only at c0 c1 c2 c3 c4 d0 d1 d2 d3 d4
      have HS0 := Lib.hid (show wr.drew.cell? ⟨b, off + i * 5, none⟩ = some (.string p) ∧ wr.drew.cell? ⟨b, off + i * 5 + 1, none⟩ = some (.int .i64 fk) ∧ wr.drew.cell? ⟨b, off + i * 5 + 2, none⟩ = some (.int .i64 fv) ∧ wr.drew.cell? ⟨b, off + i * 5 + 3, none⟩ = some (.int .i64 tk) ∧ wr.drew.cell? ⟨b, off + i * 5 + 4, none⟩ = some (.int .i64 tv) ∧ wr.drew.cell? ⟨b', off' + i * 5, none⟩ = some (.string p) ∧ wr.drew.cell? ⟨b', off' + i * 5 + 1, none⟩ = some (.int .i64 fk) ∧ wr.drew.cell? ⟨b', off' + i * 5 + 2, none⟩ = some (.int .i64 fv) ∧ wr.drew.cell? ⟨b', off' + i * 5 + 3, none⟩ = some (.int .i64 tk) ∧ wr.drew.cell? ⟨b', off' + i * 5 + 4, none⟩ = some (.int .i64 tv) ∧ Below W.heap.size W wr.drew from ⟨c0, c1, c2, c3, c4, d0, d1, d2, d3, d4, HB.out.drew⟩)
      have HCX := Lib.hid (HC.out ⟨p, fk, fv, tk, tv⟩ wr.drew)
      simp only at HCX
      have HKP := Lib.hid (fun (u1 u2 : World) (h : u1.cell? ⟨b, off + i * 5, none⟩ = some (.string p) ∧ u1.cell? ⟨b, off + i * 5 + 1, none⟩ = some (.int .i64 fk) ∧ u1.cell? ⟨b, off + i * 5 + 2, none⟩ = some (.int .i64 fv) ∧ u1.cell? ⟨b, off + i * 5 + 3, none⟩ = some (.int .i64 tk) ∧ u1.cell? ⟨b, off + i * 5 + 4, none⟩ = some (.int .i64 tv) ∧ u1.cell? ⟨b', off' + i * 5, none⟩ = some (.string p) ∧ u1.cell? ⟨b', off' + i * 5 + 1, none⟩ = some (.int .i64 fk) ∧ u1.cell? ⟨b', off' + i * 5 + 2, none⟩ = some (.int .i64 fv) ∧ u1.cell? ⟨b', off' + i * 5 + 3, none⟩ = some (.int .i64 tk) ∧ u1.cell? ⟨b', off' + i * 5 + 4, none⟩ = some (.int .i64 tv) ∧ Below W.heap.size W u1) (hb : Below u1.heap.size u1 u2) => show u2.cell? ⟨b, off + i * 5, none⟩ = some (.string p) ∧ u2.cell? ⟨b, off + i * 5 + 1, none⟩ = some (.int .i64 fk) ∧ u2.cell? ⟨b, off + i * 5 + 2, none⟩ = some (.int .i64 fv) ∧ u2.cell? ⟨b, off + i * 5 + 3, none⟩ = some (.int .i64 tk) ∧ u2.cell? ⟨b, off + i * 5 + 4, none⟩ = some (.int .i64 tv) ∧ u2.cell? ⟨b', off' + i * 5, none⟩ = some (.string p) ∧ u2.cell? ⟨b', off' + i * 5 + 1, none⟩ = some (.int .i64 fk) ∧ u2.cell? ⟨b', off' + i * 5 + 2, none⟩ = some (.int .i64 fv) ∧ u2.cell? ⟨b', off' + i * 5 + 3, none⟩ = some (.int .i64 tk) ∧ u2.cell? ⟨b', off' + i * 5 + 4, none⟩ = some (.int .i64 tv) ∧ Below W.heap.size W u2 from ⟨cell_kept hb h.1, cell_kept hb h.2.1, cell_kept hb h.2.2.1, cell_kept hb h.2.2.2.1, cell_kept hb h.2.2.2.2.1, cell_kept hb h.2.2.2.2.2.1, cell_kept hb h.2.2.2.2.2.2.1, cell_kept hb h.2.2.2.2.2.2.2.1, cell_kept hb h.2.2.2.2.2.2.2.2.1, cell_kept hb h.2.2.2.2.2.2.2.2.2.1, below_next h.2.2.2.2.2.2.2.2.2.2 hb⟩)
      clear hlt hi hn1 hn2 c0 c1 c2 c3 c4 d0 d1 d2 d3 d4
      go_upto_region 6 with (fail)
      go_region_held3 (fun w' => w'.cell? ⟨b, off + i * 5, none⟩ = some (.string p) ∧ w'.cell? ⟨b, off + i * 5 + 1, none⟩ = some (.int .i64 fk) ∧ w'.cell? ⟨b, off + i * 5 + 2, none⟩ = some (.int .i64 fv) ∧ w'.cell? ⟨b, off + i * 5 + 3, none⟩ = some (.int .i64 tk) ∧ w'.cell? ⟨b, off + i * 5 + 4, none⟩ = some (.int .i64 tv) ∧ w'.cell? ⟨b', off' + i * 5, none⟩ = some (.string p) ∧ w'.cell? ⟨b', off' + i * 5 + 1, none⟩ = some (.int .i64 fk) ∧ w'.cell? ⟨b', off' + i * 5 + 2, none⟩ = some (.int .i64 fv) ∧ w'.cell? ⟨b', off' + i * 5 + 3, none⟩ = some (.int .i64 tk) ∧ w'.cell? ⟨b', off' + i * 5 + 4, none⟩ = some (.int .i64 tv) ∧ Below W.heap.size W w')
        (first | exact HS0.out | exact HKP.out _ _ HS0.out hb7)
        (first | (go_at_call 29; (with_reducible refine (HCX.out).mono ?_); rintro e W7 ⟨rfl, hb7⟩))
      rename_i hS
      have HB7 := Lib.hid hS.2.2.2.2.2.2.2.2.2.2
      clear hS
      go_wp2
      go_roundw
      case rel => exact ⟨i + 1, by go_num, by have := HLT.out; omega, HB7.out⟩
      case measure => have := HLT.out; simp [intOf]; omega
    · have hge : (len : Int) ≤ i := by omega
      clear hi hlt
      go_wp2
      go_ret
      exact ⟨rfl, HB.out⟩

set_option maxHeartbeats 2000000 in
set_option maxRecDepth 100000 in
theorem sameLog_c (a1 a2 : Option Addr) (len c1 c2 : Nat) (cs : List Cmd) (hl : len ≤ 2097152) (W : World) (h1 : CmdsAt W a1 len cs) (h2 : CmdsAt W a2 len cs) :
    Calls Try.prog 10 #[.slice a1 len c1, .slice a2 len c2] W (BoolPost true W) := by
  have H1 := Lib.hid h1
  have H2 := Lib.hid h2
  clear h1 h2
  go_enter Try.func10, Try.ntmps10
  go_wp2
  go_loopw [5] (fun i wr => ∃ n : Nat, i = .int .i64 n ∧ n ≤ len ∧ Hid (Below W.heap.size W wr)) (fun i _ => len - (intOf i).toNat)
  case atStart => exact ⟨0, rfl, by omega, Below.refl _ _⟩
  case round =>
    obtain ⟨i, rfl, hi, HB⟩ := hrel
    by_cases hlt : i < len
    · obtain ⟨b, off, n, rfl, hn, c0, c1, c2, c3, c4⟩ := (H1.out.keep HB.out).node hlt
      obtain ⟨b', off', n', rfl, hn', d0, d1, d2, d3, d4⟩ := (H2.out.keep HB.out).node hlt
      obtain rfl : n = n' := Option.some.inj (hn.symm.trans hn')
      have hlt' : (i : Int) < len := by omega
      have hi0 : (0 : Int) ≤ i := by omega
      have HLT := Lib.hid hlt
      obtain ⟨p, fk, fv, tk, tv⟩ := n
      simp only at c0 c1 c2 c3 c4 d0 d1 d2 d3 d4
      have hne := fun w => cmdNeS p fk fv tk tv w
      clear hi hlt hn hn'
      go_wp2
      go_quiet (fail)
      have HB2 := Lib.hid (below_drewN HB.out nq)
      clear c0 c1 c2 c3 c4 d0 d1 d2 d3 d4
      go_wp2
      go_roundw
      case rel => exact ⟨i + 1, by go_num, by have := HLT.out; omega, HB2⟩
      case measure => have := HLT.out; simp [intOf]; omega
    · have hge : (len : Int) ≤ i := by omega
      clear hi hlt
      go_wp2
      go_ret
      exact ⟨rfl, HB.out⟩

end Go.Proofs.Ytkaokncaockjkaa

/-
  WALKS: the reader's 'of' (a text out of a list). For any seat.
-/
namespace Go.Proofs.Ytkaokncaockjkaa
open Go.RowKit
set_option linter.unusedVariables false

/-- One of the texts of a list, the reader one place on. -/
def OfPost (N0 B p : Nat) (xs : List ByteArray) (W : World) (e : Ending) (W' : World) : Prop :=
  ∃ x ∈ xs, e = .returned (.string x) ∧ RdAt N0 W' B (p + 1) ∧ W.grownBy W' (some B)

set_option maxHeartbeats 1000000 in
theorem of_c (N0 B p L c : Nat) (xs : List ByteArray) (hx : 1 ≤ xs.length) (hx2 : xs.length ≤ 1000) (hLB : L ≠ B) (W : World) (hp : p < 30000) (hR : RdAt N0 W B p)
    (hc : ∀ j x, xs[j]? = some x → W.cell? ⟨L, j, none⟩ = some (.string x)) :
    Calls Try.prog 39 #[.pointer (some ⟨B, 0, none⟩), .slice (some ⟨L, 0, none⟩) xs.length c] W (OfPost N0 B p xs W) := by
  have HP := Lib.hid (fun W hR => pick_c N0 B p xs.length (by omega) (by omega) W hp hR)
  have HC := Lib.hid hc
  clear hc
  go_enter Try.func39, Try.ntmps39
  go_wp2_with fail
  refine (HP.out W hR).mono ?_
  rintro e W1 ⟨r, rfl, h0, h1, hR1, hg⟩
  obtain ⟨k, rfl⟩ := Int.eq_ofNat_of_zero_le h0
  have hk : k < xs.length := by omega
  obtain ⟨x, hxk⟩ : ∃ x, xs[k]? = some x := ⟨xs[k], List.getElem?_eq_getElem hk⟩
  have hcell : W1.cell? ⟨L, k, none⟩ = some (.string x) := hg.cell (HC.out k x hxk) (by simpa using hLB)
  have HX := Lib.hid hxk
  clear hxk h0 h1 hR
  go_wp2
  go_ret
  exact ⟨x, List.mem_of_getElem? HX.out, rfl, hR1, hg⟩

/-- 'of' at a list that is written out on the spot. -/
theorem of_lit (N0 B p : Nat) (xs : List ByteArray) (n : Nat) (hn : xs.length = n) (hx : 1 ≤ n) (hx2 : n ≤ 1000) (W : World) (hp : p < 30000) (hR : RdAt N0 W B p) (cs : Array Value) (hcs : cs = (xs.map Value.string).toArray) :
    Calls Try.prog 39 #[.pointer (some ⟨B, 0, none⟩), .slice (some ⟨W.heap.size, 0, none⟩) n n] (W.alloc (.cells cs 9)) (OfPost N0 B p xs W) := by
  have hg : W.grownBy (W.alloc (.cells cs 9)) none := World.grownBy_alloc W _ none
  subst hn
  refine (of_c N0 B p W.heap.size xs.length xs hx hx2 (by have := hR.lt; omega) _ hp (hR.keep (Below.refl W.heap.size W |>.alloc (Nat.le_refl _) _)) ?_).mono ?_
  · intro j x hj
    subst hcs
    rw [World.cell?_alloc_new]
    simp [hj]
  · rintro e W' ⟨x, hx, he, hR', hg'⟩
    exact ⟨x, hx, he, hR', grownBy_trans (grownBy_none hg _) hg'⟩

/-- A text of modest length; the reader some places on. -/
def StrPost (N0 B p d m : Nat) (W : World) (e : Ending) (W' : World) : Prop :=
  ∃ (s : ByteArray) (q : Nat), e = .returned (.string s) ∧ s.size ≤ m ∧ q ≤ p + d ∧ RdAt N0 W' B q ∧ W.grownBy W' (some B)

end Go.Proofs.Ytkaokncaockjkaa

/-
  WALKS: paths that are drawn (spec.l91Path). For any seat.
-/
namespace Go.Proofs.Ytkaokncaockjkaa
open Go.RowKit
set_option linter.unusedVariables false

def oddTexts : List ByteArray := [⟨#[]⟩, ⟨#[47]⟩, ⟨#[97]⟩, ⟨#[47, 101]⟩, ⟨#[47, 97, 47]⟩, ⟨#[47, 47, 97]⟩, ⟨#[47, 97, 47, 98, 47, 99, 47, 100, 47, 97]⟩, ⟨#[47, 97, 98]⟩]
def letterTexts : List ByteArray := [⟨#[97]⟩, ⟨#[98]⟩, ⟨#[97]⟩, ⟨#[98]⟩, ⟨#[99]⟩, ⟨#[100]⟩]

def PathRel (N0 B p : Nat) (n : Int) (W : World) (out i : Value) (wr : World) : Prop :=
  ∃ (k : Nat) (s : ByteArray), i = .int .i64 k ∧ k ≤ 4 ∧ (k : Int) ≤ 1 + n ∧ out = .string s ∧ s.size = 2 * k ∧ RdAt N0 wr B (p + 3 + k) ∧ W.grownBy wr (some B)

set_option maxHeartbeats 1000000 in
set_option maxRecDepth 100000 in
theorem l91Path_c (N0 B p : Nat) (W : World) (hp : p < 29000) (hR : RdAt N0 W B p) :
    Calls Try.prog 41 #[.pointer (some ⟨B, 0, none⟩)] W (StrPost N0 B p 7 64 W) := by
  have HP1 := Lib.hid (fun W hR => pick_c N0 B p 24 (by omega) (by omega) W (by omega) hR)
  go_enter Try.func41, Try.ntmps41
  go_wp2_with fail
  refine (HP1.out W hR).mono ?_
  rintro e W1 ⟨r, rfl, h0, h1, hR1, hg1⟩
  by_cases hr : r = 0
  · subst hr
    clear h0 h1 hR
    have HO := Lib.hid (of_lit N0 B (p + 1) oddTexts 8 rfl (by omega) (by omega) W1 (by omega) hR1 _ rfl)
    simp only [oddTexts, List.map_cons, List.map_nil] at HO
    go_wp2_with fail
    refine HO.out.mono ?_
    rintro e W2 ⟨x, hx, rfl, hR2, hg2⟩
    go_wp2
    go_ret
    refine ⟨x, p + 1 + 1, rfl, ?_, by omega, hR2, grownBy_trans hg1 hg2⟩
    simp at hx
    rcases hx with rfl | rfl | rfl | rfl | rfl | rfl | rfl | rfl <;> decide
  · have hr' : (r == 0) = false := by simpa using hr
    have HP2 := Lib.hid (fun W hR => pick_c N0 B (p + 1) 4 (by omega) (by omega) W (by omega) hR)
    have HP3 := Lib.hid (fun W hR => pick_c N0 B (p + 1 + 1) 2 (by omega) (by omega) W (by omega) hR)
    clear h0 h1 hR hr
    go_wp2_with fail
    refine (HP2.out W1 hR1).mono ?_
    rintro e W2 ⟨a, rfl, a0, a1, hR2, hg2⟩
    go_wp2_with fail
    refine (HP3.out W2 hR2).mono ?_
    rintro e W3 ⟨b, rfl, b0, b1, hR3, hg3⟩
    have hg : W.grownBy W3 (some B) := grownBy_trans hg1 (grownBy_trans hg2 hg3)
    have hn : IntKind.i64.wrap (a * b) = a * b := by
      have hb : b = 0 ∨ b = 1 := by omega
      rcases hb with rfl | rfl
      · simp [IntKind.wrap_i64]
      · rw [Int.mul_one]; exact IntWalk.i64_in _ (by omega)
    have hab : 0 ≤ a * b ∧ a * b ≤ 3 := by
      have hb : b = 0 ∨ b = 1 := by omega
      rcases hb with rfl | rfl <;> omega
    obtain ⟨hab0, hab3⟩ := hab
    clear hg1 hg2 hg3 hR1 hR2 a0 a1 b0 b1 hr'
    go_wp2
    go_loopw [4, 5] (fun out i wr => PathRel N0 B p (a * b) W out i wr) (fun _ i _ => (1 + a * b - intOf i).toNat)
    case atStart => exact ⟨0, ⟨#[]⟩, rfl, by omega, by omega, rfl, rfl, hR3, hg⟩
    case round =>
      obtain ⟨k, s, rfl, hk4, hkn, rfl, hs, hRk, hgk⟩ := hrel
      by_cases hlt : (k : Int) < 1 + a * b
      · have hk3 : k ≤ 3 := by omega
        have HO := Lib.hid (of_lit N0 B (p + 3 + k) letterTexts 6 rfl (by omega) (by omega) wr (by omega) hRk _ rfl)
        simp only [letterTexts, List.map_cons, List.map_nil] at HO
        have HS := Lib.hid hs
        have hs8 : s.size ≤ 8 := by omega
        clear hs
        go_wp2_with fail
        refine HO.out.mono ?_
        rintro e W5 ⟨x, hx, rfl, hR5, hg5⟩
        have hx1 : x.size = 1 := by
          simp at hx
          rcases hx with rfl | rfl | rfl | rfl | rfl | rfl <;> rfl
        have HX := Lib.hid hx1
        have hx8 : x.size ≤ 1 := by omega
        clear hx hx1
        go_wp2
        refine ⟨⟨k + 1, s ++ ⟨#[47]⟩ ++ x, by go_num, by omega, by omega, rfl, ?_, hR5, grownBy_trans hgk hg5⟩, ?_⟩
        · rw [ByteArray.size_append, ByteArray.size_append, HS.out, HX.out]
          show 2 * k + 1 + 1 = _
          omega
        · simp [intOf]; omega
      · have hk : (1 : Int) + a * b ≤ k := by omega
        have HS := Lib.hid hs
        clear hs hlt
        go_wp2
        go_ret
        refine ⟨s, p + 3 + k, rfl, by have := HS.out; omega, by omega, hRk, hgk⟩

end Go.Proofs.Ytkaokncaockjkaa

/-
  WALKS: trees that are drawn (spec.l91Tree).
-/
namespace Go.Proofs.Ytkaokncaockjkaa
open Go.RowKit
set_option linter.unusedVariables false

/-- A drawn list of nodes, of the call's own. -/
def TreeDraw (N0 B p m c d : Nat) (W : World) (ok : List Nd → Prop) (e : Ending) (W' : World) : Prop :=
  ∃ (sl : Value) (out : List Nd) (q : Nat), e = .returned sl ∧ W'.ownsRow W.heap.size 96 3 sl out.length (flatN out) ∧ ok out ∧ out.length ≤ c ∧ Short m out ∧ q ≤ p + d ∧ RdAt N0 W' B q ∧ W.grownBy W' (some B)

def TreeRel (N0 B p : Nat) (n : Int) (W : World) (o i : Value) (wr : World) : Prop :=
  ∃ (acc : List Nd) (j q : Nat), i = .int .i64 j ∧ (j : Int) ≤ n ∧ wr.ownsRow W.heap.size 96 3 o acc.length (flatN acc) ∧ Hid (validT acc = true) ∧ Hid (Short 64 acc) ∧ Hid (q ≤ p + 11 * j) ∧ RdAt N0 wr B q ∧ Hid (W.grownBy wr (some B))

set_option maxHeartbeats 2000000 in
set_option maxRecDepth 100000 in
theorem l91Tree_c (N0 B p : Nat) (n : Int) (hn0 : 0 ≤ n) (hn : n ≤ 60) (W : World) (hp : p < 20000) (hR : RdAt N0 W B p) :
    Calls Try.prog 26 #[.pointer (some ⟨B, 0, none⟩), .int .i64 n] W (TreeDraw N0 B p 64 10 660 W (fun out => validT out = true)) := by
  have HLT := Lib.hid hR.lt
  have HP := Lib.hid (fun q W hq hR => l91Path_c N0 B q W hq hR)
  have HC := Lib.hid (fun q W hq hR => l91Content_c N0 B q W hq hR)
  have HPP := Lib.hid hp
  have HN := Lib.hid hn
  go_enter Try.func26, Try.ntmps26
  go_wp2
  go_loopw [5, 6, 7, 8] (fun o i _ _ wr => TreeRel N0 B p n W o i wr) (fun _ i _ _ _ => (n - intOf i).toNat)
  case atStart => exact ⟨[], 0, p, rfl, hn0, World.ownsRow_lit (e := 96) (size := 3) W #[] 0 (Nat.le_refl _) (by simp [maxLen]) rfl, (by show validT [] = true; rfl), (by intro x hx; cases hx), (by show p ≤ _; omega), hR.alloc _, grownBy_new _ _ _⟩
  case round =>
    obtain ⟨acc, j, q, rfl, hj, hrow, HV, HS, HQ, hRq, HG⟩ := hrel
    by_cases hlt : (j : Int) < n
    · have HJ := Lib.hid hlt
      clear hj hR
      go_wp2_with fail
      refine (HP.out q _ (by have h5 := HQ.out; have h6 := HPP.out; have h7 := HN.out; omega) hRq).mono ?_; rintro e W2 ⟨s, q2, rfl, hs, hq2, hR2, hg2⟩
      have hrow2 := own_reader hrow HLT.out hg2
      have HS2 := Lib.hid (And.intro hs hq2)
      clear hs hq2 hrow hRq
      go_wp2_with fail
      refine (HC.out q2 _ (by have h5 := HQ.out; have h6 := HPP.out; have h7 := HN.out; have h8 := HS2.out.2; omega) hR2).mono ?_; rintro e W3 ⟨k, v, q3, rfl, -, -, -, -, hq3, hR3, hg3⟩
      have hrow3 := own_reader hrow2 HLT.out hg3
      have HQ3 := Lib.hid hq3
      have HG3 := Lib.hid (grownBy_trans HG.out (grownBy_trans hg2 hg3))
      obtain ⟨ao, co, rfl, hNo⟩ := nodes_of_own hrow3
      have hlen := ((validT_iff acc).1 HV.out).2.2
      have HTP := Lib.hid (specTreePut_c ao acc.length co acc s k v (by omega) (fun n hn => by have := HS.out n hn; omega) (by have := HS2.out.1; omega) W3 hNo)
      clear hq3 hrow2 hR2 hg2 hg3 hNo hlen
      go_wp2_with fail
      refine HTP.out.mono ?_; rintro e W4 ⟨sl, out, b, rfl, hb, hown, hb4⟩
      have HR4 := Lib.hid (hR3.keep hb4)
      have HG4 := Lib.hid (grownBy_below HG3.out hb4)
      cases b with
      | true =>
        have hr : treePut acc s k v = some out := by
          rcases hb with ⟨-, h⟩ | ⟨h, -⟩
          · exact h
          · cases h
        obtain ⟨-, -, -, h5, h6⟩ := treePut_some hr
        have HV4 : Hid (validT out = true) := h6
        have HS4 : Hid (Short 64 out) := by show Short 64 out; rw [h5]; exact short_put HS.out HS2.out.1
        have hown4 := own_mono hown HG3.out.size
        clear hb hr h5 h6 hown hb4 hrow3 hR3
        go_wp2
        go_roundw
        case rel => exact ⟨out, j + 1, q3, by go_num, by have := HJ.out; omega, hown4, HV4, HS4, (by show q3 ≤ _; have h5 := HQ.out; have h6 := HQ3.out; have h7 := HS2.out.2; omega), HR4.out, HG4⟩
        case measure => have := HJ.out; simp [intOf]; omega
      | false =>
        have hown4 := own_below hrow3 hb4
        clear hb hown hb4 hrow3 hR3
        go_wp2
        go_roundw
        case rel => exact ⟨acc, j + 1, q3, by go_num, by have := HJ.out; omega, hown4, HV, HS, (by show q3 ≤ _; have h5 := HQ.out; have h6 := HQ3.out; have h7 := HS2.out.2; omega), HR4.out, HG4⟩
        case measure => have := HJ.out; simp [intOf]; omega
    · have hge : n ≤ (j : Int) := by omega
      have HJ := Lib.hid hj
      clear hj hR
      go_wp2
      go_ret
      exact ⟨_, acc, q, rfl, hrow, HV.out, ((validT_iff acc).1 HV.out).2.2, HS.out, by have h5 := HQ.out; have h6 := HJ.out; have h7 := HN.out; omega, hRq, HG.out⟩

end Go.Proofs.Ytkaokncaockjkaa

/-
  WALKS: trees that are drawn, seldom invalid ones (spec.l91Any).
-/
namespace Go.Proofs.Ytkaokncaockjkaa
open Go.RowKit
set_option linter.unusedVariables false

theorem flatN_set : ∀ (ns : List Nd) (i : Nat) (n : Nd) (k v : Int), ns[i]? = some n → ((flatN ns).set (i * 3 + 1) (.int .i64 k)).set (i * 3 + 2) (.int .i64 v) = flatN (ns.set i ⟨n.p, k, v⟩)
  | [], i, n, k, v, h => by simp at h
  | m :: r, 0, n, k, v, h => by
    simp at h
    subst h
    rfl
  | m :: r, i + 1, n, k, v, h => by
    have ih := flatN_set r i n k v (by simpa using h)
    have e : ∀ (x : Nd) (t : List Nd), flatN (x :: t) = .string x.p :: .int .i64 x.k :: .int .i64 x.v :: flatN t := fun _ _ => rfl
    rw [List.set_cons_succ, e m r, e m (r.set i _), ← ih, show (i + 1) * 3 + 1 = (i * 3 + 1) + 3 by omega, show (i + 1) * 3 + 2 = (i * 3 + 2) + 3 by omega]
    rfl

theorem own_set {W : World} {base : Nat} {e : TypeId} {g cap : Nat} {ns : List Nd} {i : Nat} {n : Nd} (h : W.ownsRow base e 3 (.slice (some ⟨g, 0, none⟩) ns.length cap) ns.length (flatN ns)) (hn : ns[i]? = some n) (k v : Int) :
    ((W.setCell ⟨g, i * 3 + 1, none⟩ (.int .i64 k)).setCell ⟨g, i * 3 + 1 + 1, none⟩ (.int .i64 v)).ownsRow base e 3 (.slice (some ⟨g, 0, none⟩) ns.length cap) (ns.set i ⟨n.p, k, v⟩).length (flatN (ns.set i ⟨n.p, k, v⟩)) := by
  have := ((h.stored (i * 3 + 1) (.int .i64 k)).1.stored (i * 3 + 2) (.int .i64 v)).1
  rw [flatN_set ns i n k v hn] at this
  rw [List.length_set]
  exact this

theorem own_slice {W : World} {base : Nat} {e : TypeId} {v : Value} {ns : List Nd} (h : W.ownsRow base e 3 v ns.length (flatN ns)) (h0 : 0 < ns.length) : ∃ g cap, v = .slice (some ⟨g, 0, none⟩) ns.length cap ∧ base ≤ g ∧ g < W.heap.size := by
  rcases h.2 with ⟨_, h1⟩ | ⟨g, cap, cur, rfl, h1, h2, _⟩
  · omega
  · exact ⟨g, cap, rfl, h1, by rw [Array.getElem?_eq_some_iff] at h2; exact h2.1⟩

theorem short_set {m : Nat} {ns : List Nd} {i : Nat} {n : Nd} {k v : Int} (h : Short m ns) (hn : ns[i]? = some n) : Short m (ns.set i ⟨n.p, k, v⟩) := by
  intro x hx
  rcases List.mem_or_eq_of_mem_set hx with h1 | rfl
  · exact h x h1
  · exact h n (List.mem_of_getElem? hn)

end Go.Proofs.Ytkaokncaockjkaa

/-
  WALKS: spec.l91In: a path of a drawn tree, or any path.
-/
namespace Go.Proofs.Ytkaokncaockjkaa
open Go.RowKit
set_option linter.unusedVariables false

def twoLetters : List ByteArray := [⟨#[97]⟩, ⟨#[98]⟩]

set_option maxHeartbeats 2000000 in
set_option maxRecDepth 100000 in
theorem l91In_c (N0 B p base : Nat) (sl : Value) (ns : List Nd) (hlen : ns.length ≤ 1000) (hs : Short 64 ns) (hb : B < base) (W : World) (hown : W.ownsRow base 96 3 sl ns.length (flatN ns)) (hp : p < 20000) (hR : RdAt N0 W B p) :
    Calls Try.prog 58 #[.pointer (some ⟨B, 0, none⟩), sl] W (StrPost N0 B p 8 66 W) := by
  have HPath := Lib.hid (fun q W hq hR => l91Path_c N0 B q W hq hR)
  have HPK := Lib.hid (fun q n h0 h1 W hq hR => pick_c N0 B q n h0 h1 W hq hR)
  have HPP := Lib.hid hp
  have HS := Lib.hid hs
  have HB := Lib.hid hb
  have HLN := Lib.hid hlen
  clear hp hs hb hlen
  by_cases h0 : ns.length = 0
  · obtain ⟨a, cap, rfl, -⟩ := nodes_of_own hown
    have h0' : (ns.length : Int) = 0 := by omega
    clear h0 hown
    go_enter Try.func58, Try.ntmps58
    go_wp2_with fail
    refine (HPath.out p _ (by have := HPP.out; omega) hR).mono ?_; rintro e W1 ⟨s, q, rfl, hs, hq, hR1, hg1⟩
    have HX := Lib.hid (And.intro hs hq)
    clear hs hq hR
    go_wp2
    go_ret
    exact ⟨s, q, rfl, by have := HX.out.1; omega, by have := HX.out.2; omega, hR1, hg1⟩
  · obtain ⟨g, cap, rfl, hgb, hgw⟩ := own_slice hown (by omega)
    have hl1 : (0 : Int) < ns.length := by omega
    have HL0 := Lib.hid (show 0 < ns.length by omega)
    clear h0 hgb hgw
    go_enter Try.func58, Try.ntmps58
    go_wp2_with fail
    refine (HPK.out p 4 (by omega) (by omega) _ (by have := HPP.out; omega) hR).mono ?_; rintro e W1 ⟨r, rfl, r0, r1, hR1, hg1⟩
    have hown1 := own_reader hown HB.out hg1
    have HG1 := Lib.hid hg1
    clear hown hR hg1
    by_cases hr : 0 < r
    · have hr' : decide (0 < r) = true := decide_eq_true hr
      clear r0 r1
      go_wp2_with fail
      refine (HPK.out (p + 1) ns.length (by have := HL0.out; omega) (by have := HLN.out; omega) _ (by have := HPP.out; omega) hR1).mono ?_; rintro e W2 ⟨k', rfl, k0, k1, hR2, hg2⟩
      obtain ⟨k, rfl⟩ := Int.eq_ofNat_of_zero_le k0
      have HK := Lib.hid (show k < ns.length by omega)
      have HO2 := Lib.hid (own_reader hown1 HB.out hg2)
      have HG2 := Lib.hid (grownBy_trans HG1.out hg2)
      obtain ⟨x, hx⟩ : ∃ x, ns[k]? = some x := ⟨_, List.getElem?_eq_getElem HK.out⟩
      have hsz : x.p.size ≤ 64 := HS.out x (List.mem_of_getElem? hx)
      have c0 : W2.cell? ⟨g, k * 3, none⟩ = some (.string x.p) := by rw [HO2.out.cellAt _ (by have := HK.out; omega)]; exact (flatN_get ns k x hx).1
      have hkl : (k : Int) < ns.length := by have := HK.out; omega
      generalize x.p = s at hsz c0
      clear k0 k1 hown1 hR1 hg2 hx
      go_wp2_with fail
      refine (HPK.out (p + 1 + 1) 4 (by omega) (by omega) _ (by have := HPP.out; omega) hR2).mono ?_; rintro e W3 ⟨t, rfl, t0, t1, hR3, hg3⟩
      have HG3 := Lib.hid (grownBy_trans HG2.out hg3)
      have HSZ := Lib.hid hsz
      clear c0 hR2 hg3 hkl
      by_cases ht : t = 0
      · subst ht
        clear t0 t1
        have HO := Lib.hid (of_lit N0 B (p + 1 + 1 + 1) twoLetters 2 rfl (by omega) (by omega) W3 (by have := HPP.out; omega) hR3 _ rfl)
        simp only [twoLetters, List.map_cons, List.map_nil] at HO
        go_wp2_with fail
        refine HO.out.mono ?_; rintro e W4 ⟨y, hy, rfl, hR4, hg4⟩
        have hy1 : y.size ≤ 1 := by
          simp at hy
          rcases hy with rfl | rfl <;> decide
        clear hy hR3
        go_wp2
        go_ret
        exact ⟨_, p + 1 + 1 + 1 + 1, rfl, by rw [ByteArray.size_append, ByteArray.size_append]; show s.size + 1 + _ ≤ 66; omega, by omega, hR4, grownBy_trans HG3.out hg4⟩
      · have ht' : (t == 0) = false := beq_eq_false_iff_ne.2 ht
        clear t0 t1 ht
        go_wp2
        go_ret
        exact ⟨_, p + 1 + 1 + 1, rfl, by omega, by omega, hR3, HG3.out⟩
    · have hr' : decide (0 < r) = false := decide_eq_false hr
      clear r0 r1
      go_wp2_with fail
      refine (HPath.out (p + 1) _ (by have := HPP.out; omega) hR1).mono ?_; rintro e W2 ⟨s, q, rfl, hs, hq, hR2, hg2⟩
      have HX := Lib.hid (And.intro hs hq)
      clear hs hq hR1
      go_wp2
      go_ret
      exact ⟨s, q, rfl, by have := HX.out.1; omega, by have := HX.out.2; omega, hR2, grownBy_trans HG1.out hg2⟩

end Go.Proofs.Ytkaokncaockjkaa

/-
  WALKS: spec.DrawTreeValid, DrawTreeGet, DrawTreePut, DrawTreeUnder.
-/
namespace Go.Proofs.Ytkaokncaockjkaa
open Go.RowKit
set_option linter.unusedVariables false

/-- A drawn list of nodes, in memory of the call's own. -/
def Drawn (W W' : World) (sl : Value) (ns : List Nd) : Prop :=
  W'.ownsRow W.heap.size 96 3 sl ns.length (flatN ns) ∧ ns.length ≤ 11 ∧ Short 64 ns ∧ Below W.heap.size W W'

def ListPost (W : World) (e : Ending) (W' : World) : Prop := ∃ sl ns, e = .returned sl ∧ Drawn W W' sl ns
def ListPathPost (W : World) (e : Ending) (W' : World) : Prop := ∃ sl ns s, e = .returned (.tuple #[sl, .string s]) ∧ s.size ≤ 66 ∧ Drawn W W' sl ns
def ListPutPost (W : World) (e : Ending) (W' : World) : Prop := ∃ sl ns s, ∃ k v : Int, e = .returned (.tuple #[sl, .string s, con k v]) ∧ s.size ≤ 66 ∧ Drawn W W' sl ns

theorem triple_results (fn : Func) (hf : fn.results = #[.tmp 2, .tmp 3, .cell 4 30]) (W : World) (n : Nat) (k v : Int) (sl x : Value) (tmps : Array Value) (h2 : tmps[2]? = some sl) (h3 : tmps[3]? = some x) (ht : tmps[4]? = some (.pointer (some ⟨n, 0, none⟩)))
    (h : W.cell? ⟨n, 0, none⟩ = some (.int .i64 k) ∧ W.cell? ⟨n, 1, none⟩ = some (.int .i64 v)) : (results fn tmps).run Try.prog W = .ok (.tuple #[sl, x, con k v]) W := by
  obtain ⟨c0, c1⟩ := h
  simp [results, hf, go_sem, h2, h3, ht, c0, c1]

theorem own_setOther {W : World} {base : Nat} {e : TypeId} {size n : Nat} {v : Value} {xs : List Value} (h : W.ownsRow base e size v n xs) (a : Addr) (u : Value) (ha : a.block < base) : (W.setCell a u).ownsRow base e size v n xs := by
  refine h.kept (row := some a.block) ⟨rfl, rfl, rfl, by simp [World.setCell], fun k _ hk => Below.heap_setCell _ _ _ _ (fun e => hk (by rw [e]))⟩ ?_
  cases hv : v.ownBlock with
  | none => exact .inl rfl
  | some k =>
    right
    have := (h.lt k hv).1
    simp; omega

/-- END OF PUT -/
theorem drewN_heap (W : World) (n : Nat) : (W.drewN n).heap = W.heap := (drewN_cell W n ⟨0, 0, none⟩).2.2
theorem drawn_drewN {W W' : World} {sl : Value} {ns : List Nd} (h : Drawn W W' sl ns) (n : Nat) : Drawn W (W'.drewN n) sl ns := by
  obtain ⟨h1, h2, h3, h4⟩ := h
  have hb : Below W'.heap.size W' (W'.drewN n) := ⟨rfl, rfl, rfl, by rw [drewN_heap]; exact Nat.le_refl _, fun k _ => by rw [drewN_heap]⟩
  exact ⟨own_below h1 hb, h2, h3, below_next h4 hb⟩

end Go.Proofs.Ytkaokncaockjkaa

/-
  WALKS: commands that are drawn: spec.l91Command, DrawCommandValid, DrawCommandUndo, DrawCommandText, DrawCommandApply, DrawCommandParse.
-/
namespace Go.Proofs.Ytkaokncaockjkaa
open Go.RowKit
set_option linter.unusedVariables false

/-- A drawn command: its path is short; the reader some places on. -/
def CmdDraw (N0 B p : Nat) (W : World) (e : Ending) (W' : World) : Prop :=
  ∃ (c : Cmd) (q : Nat), e = .returned (cmdV c) ∧ c.p.size ≤ 66 ∧ q ≤ p + 17 ∧ RdAt N0 W' B q ∧ W.grownBy W' (some B)

theorem cmd_draw {N0 B p q : Nat} {W W' : World} {t : ByteArray} {fk fv tk tv : Int} (hs : t.size ≤ 66) (hq : q ≤ p + 17) (hR : RdAt N0 W' B q) (hg : W.grownBy W' (some B)) (hL : N0 ≤ W.heap.size) :
    CmdDraw N0 B p W (.returned (cmdV ⟨t, fk, fv, tk, tv⟩)) (((((W'.setCell ⟨W.heap.size, 0, none⟩ (.string t)).setCell ⟨W.heap.size, 1, none⟩ (.int .i64 fk)).setCell ⟨W.heap.size, 2, none⟩ (.int .i64 fv)).setCell ⟨W.heap.size, 3, none⟩ (.int .i64 tk)).setCell ⟨W.heap.size, 4, none⟩ (.int .i64 tv)) :=
  ⟨⟨t, fk, fv, tk, tv⟩, q, rfl, hs, hq, ((((hR.setNew _ _ hL).setNew _ _ hL).setNew _ _ hL).setNew _ _ hL).setNew _ _ hL,
    grownBy_setCell_new (grownBy_setCell_new (grownBy_setCell_new (grownBy_setCell_new (grownBy_setCell_new hg _ _ (Nat.le_refl _)) _ _ (Nat.le_refl _)) _ _ (Nat.le_refl _)) _ _ (Nat.le_refl _)) _ _ (Nat.le_refl _)⟩

set_option maxHeartbeats 2000000 in
set_option maxRecDepth 100000 in
theorem l91Command_c (N0 B p base : Nat) (sl : Value) (ns : List Nd) (hlen : ns.length ≤ 11) (hs : Short 64 ns) (hb : B < base) (W : World) (hown : W.ownsRow base 96 3 sl ns.length (flatN ns)) (hp : p < 19000) (hR : RdAt N0 W B p) :
    Calls Try.prog 49 #[.pointer (some ⟨B, 0, none⟩), sl] W (CmdDraw N0 B p W) := by
  have HI := Lib.hid (fun W' h1 h2 => l91In_c N0 B p base sl ns (by omega) hs hb W' h1 (by omega) h2)
  have HC := Lib.hid (fun q W1 hq hR => l91Content_c N0 B q W1 hq hR)
  have HPK := Lib.hid (fun q n h0 h1 W hq hR => pick_c N0 B q n h0 h1 W hq hR)
  have HLT := Lib.hid hR.lt
  have HLE := Lib.hid hR.le
  have HO := Lib.hid hown
  have HR := Lib.hid hR
  have HB := Lib.hid hb
  have HP := Lib.hid hp
  obtain ⟨a, cap, rfl, hN⟩ := nodes_of_own hown
  have HN := Lib.hid hN
  have HG := Lib.hid (fun x W' (h : NodesAt W' a ns.length ns) => l3Get_c a ns.length cap ns x (by omega) W' h)
  clear hR hown hs hb hp hN hlen
  go_enter Try.func49, Try.ntmps49
  go_wp2_with fail
  refine (HI.out _ (own_below HO.out (below_box W _)) (HR.out.alloc _)).mono ?_
  rintro e W1 ⟨s, q1, rfl, hs1, hq1, hR1, hg1⟩
  have T1 := Lib.hid (five_grown hg1 HLT.out)
  have G1 := Lib.hid (grownBy_trans (grownBy_new W _ (some B)) hg1)
  have Q1 := Lib.hid (And.intro hs1 hq1)
  have HR1 := Lib.hid hR1
  clear hs1 hq1 hR1 hg1
  go_wp2_with fail
  refine (HC.out q1 _ (by have := HP.out; have := Q1.out.2; omega) HR1.out).mono ?_
  rintro e W2 ⟨k, v, q2, rfl, -, -, -, -, hq2, hR2, hg2⟩
  have T2 := Lib.hid (T1.out.keep hg2 (by have := HLT.out; omega))
  have G2 := Lib.hid (grownBy_trans G1.out hg2)
  have Q2 := Lib.hid hq2
  have HR2 := Lib.hid hR2
  have O2 := Lib.hid (own_reader HO.out HB.out G2.out)
  clear hq2 hR2 hg2 T1 G1 HR1
  go_wp2_with fail
  obtain ⟨⟨gk, gv⟩, hg⟩ : ∃ g, getT ns s = g := ⟨_, rfl⟩
  obtain ⟨a', cap', ee, hN2⟩ := nodes_of_own O2.out
  cases ee
  have HG2 := Lib.hid (show Calls Try.prog 59 #[.slice a ns.length cap, .string s] (W2.alloc (.cells #[.string s, .int .i64 0, .int .i64 0, .int .i64 k, .int .i64 v] 32)) (ConRet gk gv (W2.alloc (.cells #[.string s, .int .i64 0, .int .i64 0, .int .i64 k, .int .i64 v] 32))) by
    have := HG.out s _ (hN2.keep (below_box W2 (.cells #[.string s, .int .i64 0, .int .i64 0, .int .i64 k, .int .i64 v] 32)))
    rw [hg] at this
    exact this)
  clear hg hN2
  refine HG2.out.mono ?_
  rintro e W3 ⟨rfl, hb3⟩
  have F3 := Lib.hid ((five_new W2 _ _ _ _ _ _).below hb3)
  have T3 := Lib.hid ((T2.out.alloc _).below hb3)
  have G3 := Lib.hid (grownBy_below (grownBy_trans G2.out (grownBy_new W2 _ (some B))) hb3)
  have R3 := Lib.hid ((HR2.out.alloc _).keep hb3)
  have HZ := Lib.hid (And.intro HR2.out.le HR2.out.lt)
  have HW := Lib.hid (show W.heap.size < W2.heap.size from T2.out.2.2.2.2.2.2.2.2.2.2)
  clear hb3 HG2 T2 G2 O2 HR2
  obtain ⟨c0, c1, c2, c3, c4, f0, f1, f2, f3, f4, -⟩ := F3.out
  unfold con
  go_wp2_with fail
  refine (HPK.out q2 12 (by omega) (by omega) _ (by have := HP.out; have := Q1.out.2; have := Q2.out; omega) ((R3.out.setNew _ _ (by exact HZ.out.1)).setNew _ _ (by exact HZ.out.1))).mono ?_
  rintro e W4 ⟨r, rfl, r0, -, hR4, hg4⟩
  have F4 := Lib.hid ((F3.out.set1 (x := .int .i64 gk)).set2 (x := .int .i64 gv) |>.keep hg4 (by have := HZ.out.2; omega))
  have T4 := Lib.hid (((T3.out.setOther (x := ⟨W2.heap.size, 1, none⟩) (v := .int .i64 gk) (by have := HW.out; simp; omega)).setOther (x := ⟨W2.heap.size, 2, none⟩) (v := .int .i64 gv) (by have := HW.out; simp; omega)).keep hg4 (by have := HLT.out; omega))
  have G4 := Lib.hid (grownBy_trans (grownBy_setCell_new (grownBy_setCell_new G3.out ⟨W2.heap.size, 1, none⟩ (.int .i64 gk) (by have := HW.out; simp; omega)) ⟨W2.heap.size, 2, none⟩ (.int .i64 gv) (by have := HW.out; simp; omega)) hg4)
  have R4 := Lib.hid hR4
  clear hR4 hg4 F3 T3 G3 R3 c0 c1 c2 c3 c4 f0 f1 f2 f3 f4
  by_cases hr : r = 0
  · subst hr
    clear r0
    go_wp2_with fail
    refine (HC.out _ _ (by have := HP.out; have := Q1.out.2; have := Q2.out; omega) R4.out).mono ?_
    rintro e W5 ⟨k5, v5, q5, rfl, -, -, -, -, hq5, hR5, hg5⟩
    have F5 := Lib.hid (F4.out.keep hg5 (by have := HZ.out.2; omega))
    have T5 := Lib.hid (T4.out.keep hg5 (by have := HLT.out; omega))
    have G5 := Lib.hid (grownBy_trans G4.out hg5)
    have F6 := Lib.hid ((F5.out.set1 (x := .int .i64 k5)).set2 (x := .int .i64 v5))
    have T6 := Lib.hid ((T5.out.setOther (x := ⟨W2.heap.size, 1, none⟩) (v := .int .i64 k5) (by have := HW.out; simp; omega)).setOther (x := ⟨W2.heap.size, 2, none⟩) (v := .int .i64 v5) (by have := HW.out; simp; omega))
    have G6 := Lib.hid (grownBy_setCell_new (grownBy_setCell_new G5.out ⟨W2.heap.size, 1, none⟩ (.int .i64 k5) (by have := HW.out; simp; omega)) ⟨W2.heap.size, 2, none⟩ (.int .i64 v5) (by have := HW.out; simp; omega))
    have R6 := Lib.hid ((hR5.setNew ⟨W2.heap.size, 1, none⟩ (.int .i64 k5) (by exact HZ.out.1)).setNew ⟨W2.heap.size, 2, none⟩ (.int .i64 v5) (by exact HZ.out.1))
    have HQ5 := Lib.hid hq5
    obtain ⟨c0, c1, c2, c3, c4, f0, f1, f2, f3, f4, -⟩ := F5.out
    clear hq5 hR5 hg5
    unfold con
    go_upto_region 5 with (fail)
    clear c0 c1 c2 c3 c4 f0 f1 f2 f3 f4
    generalize (W5.setCell ⟨W2.heap.size, 1, none⟩ (.int .i64 k5)).setCell ⟨W2.heap.size, 2, none⟩ (.int .i64 v5) = W6 at F6 T6 G6 R6 ⊢
    obtain ⟨c0, c1, c2, c3, c4, -⟩ := F6.out
    obtain ⟨t0, t1, t2, t3, t4, f0, f1, f2, f3, f4, -⟩ := T6.out
    go_wp2
    exact bodyPost_ret (cmd_results _ rfl _ W.heap.size ⟨s, k5, v5, k, v⟩ _ rfl T6.out.setAll) rfl (cmd_draw Q1.out.1 (by have := Q1.out.2; have := Q2.out; have := HQ5.out; omega) R6.out G6.out (HLE.out))
  · have hb0 : (r == 0) = false := beq_eq_false_iff_ne.2 hr
    clear r0 hr
    obtain ⟨c0, c1, c2, c3, c4, -⟩ := F4.out
    obtain ⟨t0, t1, t2, t3, t4, f0, f1, f2, f3, f4, -⟩ := T4.out
    go_wp2
    exact bodyPost_ret (cmd_results _ rfl _ W.heap.size ⟨s, gk, gv, k, v⟩ _ rfl T4.out.setAll) rfl (cmd_draw Q1.out.1 (by have := Q1.out.2; have := Q2.out; omega) R4.out G4.out (HLE.out))

end Go.Proofs.Ytkaokncaockjkaa

/-
  WALKS: logs that are drawn: spec.l91Log.
-/
namespace Go.Proofs.Ytkaokncaockjkaa
open Go.RowKit
set_option linter.unusedVariables false

/-- A drawn list of commands, of the call's own. -/
def LogDraw (N0 B p c d : Nat) (W : World) (e : Ending) (W' : World) : Prop :=
  ∃ (sl : Value) (out : List Cmd) (q : Nat), e = .returned sl ∧ W'.ownsRow W.heap.size 32 5 sl out.length (flatC out) ∧ out.length ≤ c ∧ ShortC 66 out ∧ q ≤ p + d ∧ RdAt N0 W' B q ∧ W.grownBy W' (some B)

theorem push_reader {N0 B q : Nat} {W w5 w6 : World} {v : Value} (hv : ∀ k, v.ownBlock = some k → W.heap.size ≤ k) (hle : N0 ≤ W.heap.size) (hR : RdAt N0 w5 B q) (hg : w5.grownBy w6 v.ownBlock) : RdAt N0 w6 B q :=
  hR.kept ⟨hg.os, hg.tape, hg.output, hg.size, fun b hb => hg.block b (Nat.lt_of_lt_of_le hb hR.le) (fun e => by have := hv b e.symm; omega)⟩

theorem push_grown {B : Nat} {W w5 w6 : World} {v : Value} (hv : ∀ k, v.ownBlock = some k → W.heap.size ≤ k) (hG : W.grownBy w5 (some B)) (hg : w5.grownBy w6 v.ownBlock) : W.grownBy w6 (some B) :=
  ⟨hg.os.trans hG.os, hg.tape.trans hG.tape, hg.output.trans hG.output, Nat.le_trans hG.size hg.size, fun b hb hne => (hg.block b (Nat.lt_of_lt_of_le hb hG.size) (fun e => by have := hv b e.symm; omega)).trans (hG.block b hb hne)⟩

theorem apply_short64 {ns out : List Nd} {c : Cmd} (h : applyC ns c = (out, true)) (hs : Short 64 ns) : Short 64 out ∧ out.length ≤ 10 := by
  obtain ⟨_, h2, _, h4⟩ := applyC_some h
  obtain ⟨_, _, _, h5, h6⟩ := treePut_some h4
  have hp := pathB_size ((validC_iff c).1 h2).1
  refine ⟨?_, ((validT_iff out).1 h6).2.2⟩
  rw [h5]
  exact short_put hs (by omega)

theorem shortC_push {m : Nat} {cs : List Cmd} {c : Cmd} (h : ShortC m cs) (hc : c.p.size ≤ m) : ShortC m (cs ++ [c]) := by
  intro x hx
  rcases List.mem_append.1 hx with hx | hx
  · exact h x hx
  · rw [List.mem_singleton.1 hx]; exact hc

def LogRel (N0 B p base : Nat) (n : Int) (W : World) (o tv i : Value) (wr : World) : Prop :=
  ∃ (acc : List Cmd) (t : List Nd) (j q : Nat), i = .int .i64 j ∧ (j : Int) ≤ n ∧ acc.length ≤ 20 ∧ wr.ownsRow W.heap.size 32 5 o acc.length (flatC acc) ∧ wr.ownsRow base 96 3 tv t.length (flatN t) ∧ Hid (t.length ≤ 11) ∧ Hid (Short 64 t) ∧ Hid (ShortC 66 acc) ∧ Hid (q ≤ p + 17 * j) ∧ RdAt N0 wr B q ∧ Hid (W.grownBy wr (some B))

set_option maxHeartbeats 4000000 in
set_option maxRecDepth 100000 in
theorem l91Log_c (N0 B p base : Nat) (sl : Value) (ns : List Nd) (n : Int) (hn0 : 0 ≤ n) (hn : n ≤ 60) (hlen : ns.length ≤ 11) (hs : Short 64 ns) (hb : B < base) (W : World) (hbW : base ≤ W.heap.size) (hown : W.ownsRow base 96 3 sl ns.length (flatN ns)) (hp : p < 15000) (hR : RdAt N0 W B p) :
    Calls Try.prog 37 #[.pointer (some ⟨B, 0, none⟩), sl, .int .i64 n] W (LogDraw N0 B p 20 1020 W) := by
  have HLT := Lib.hid hR.lt
  have HLE := Lib.hid hR.le
  have HC := Lib.hid (fun q tv t (h1 : t.length ≤ 11) (h2 : Short 64 t) W' h3 hq hR => l91Command_c N0 B q base tv t h1 h2 hb W' h3 hq hR)
  have HPP := Lib.hid hp
  have HN := Lib.hid hn
  have HB := Lib.hid hb
  have HBW := Lib.hid hbW
  have HL := Lib.hid hlen
  have HS := Lib.hid hs
  have HO := Lib.hid hown
  have HRD := Lib.hid hR
  clear hp hb hbW hlen hs hown hR
  go_enter Try.func37, Try.ntmps37
  go_wp2
  go_loopw [7, 8, 9, 10, 11, 12] (fun o tv i _ _ _ wr => LogRel N0 B p base n W o tv i wr) (fun _ _ i _ _ _ _ => (n - intOf i).toNat)
  case atStart => exact ⟨[], ns, 0, p, rfl, hn0, by simp, World.ownsRow_lit (e := 32) (size := 5) W #[] 0 (Nat.le_refl _) (by simp [maxLen]) rfl, HO.out.alloc _, HL, HS, (by intro x hx; cases hx), (by show p ≤ _; omega), HRD.out.alloc _, grownBy_new _ _ _⟩
  case round =>
    obtain ⟨acc, t, j, q, rfl, hj, hal, hrow, htree, HTL, HTS, HAS, HQ, hRq, HG⟩ := hrel
    by_cases hlt : (j : Int) < n
    · by_cases hfull : acc.length < 20
      · have HJ := Lib.hid hlt
        have HF := Lib.hid hfull
        have hfl : (acc.length : Int) < 20 := by omega
        have HROW := Lib.hid hrow
        have HTR := Lib.hid htree
        have HRQ := Lib.hid hRq
        obtain ⟨ao, co, rfl, -⟩ := cmds_of_own hrow
        have HVB := Lib.hid (fun k (e : (Value.slice ao acc.length co).ownBlock = some k) => (hrow.lt k e).1)
        clear hj hal hrow htree hRq hfull
        go_wp2_with fail
        refine (HC.out q _ t HTL.out HTS.out _ HTR.out (by have h5 := HQ.out; have h6 := HPP.out; have h7 := HN.out; have h8 := HJ.out; omega) HRQ.out).mono ?_
        rintro e W2 ⟨c, q2, rfl, hc66, hq2, hR2, hg2⟩
        have HROW2 := Lib.hid (own_reader HROW.out HLT.out hg2)
        have HTR2 := Lib.hid (own_reader HTR.out HB.out hg2)
        have HG2 := Lib.hid (grownBy_trans HG.out hg2)
        have HR2 := Lib.hid hR2
        have HQ2 := Lib.hid (And.intro hc66 hq2)
        obtain ⟨ta, tc, rfl, htn⟩ := nodes_of_own HTR2.out
        obtain ⟨⟨out, ok⟩, hr⟩ : ∃ r, applyC t c = r := ⟨_, rfl⟩
        have HA := Lib.hid (fun W' (hb : Below W2.heap.size W2 W') => show Calls Try.prog 50 #[.slice ta t.length tc, cmdV c] W' (fun e w' => ∃ sl, e = .returned (.tuple #[sl, .bool ok]) ∧ w'.ownsRow W'.heap.size 96 3 sl out.length (flatN out) ∧ Below W'.heap.size W' w') by
          have := specCmdApply_c ta t.length tc t c (by have := HTL.out; omega) (fun n hn => by have := HTS.out n hn; omega) (by omega) W' (htn.keep hb)
          rw [hr] at this; exact this)
        have HRR := Lib.hid hr
        obtain ⟨p', fk, fv, tk, tv⟩ := c
        unfold cmdV at HA ⊢
        simp only at HA HQ2
        clear hc66 hq2 hR2 hg2 htn hr
        go_wp2_with fail
        refine (HA.out _ (below_box _ _)).mono ?_
        rintro e W3 ⟨sl3, rfl, ho3, hb3⟩
        have F3 := Lib.hid ((five_new W2 (.string p') (.int .i64 fk) (.int .i64 fv) (.int .i64 tk) (.int .i64 tv) 32).below hb3)
        have hbb := below_next (below_box W2 (.cells #[.string p', .int .i64 fk, .int .i64 fv, .int .i64 tk, .int .i64 tv] 32)) hb3
        have HROW3 := Lib.hid (own_below HROW2.out hbb)
        have HTR3 := Lib.hid (own_below HTR2.out hbb)
        have HG3 := Lib.hid (grownBy_below HG2.out hbb)
        have HR3 := Lib.hid (HR2.out.keep hbb)
        have HO3 := Lib.hid (own_mono ho3 (show base ≤ (W2.alloc (.cells #[.string p', .int .i64 fk, .int .i64 fv, .int .i64 tk, .int .i64 tv] 32)).heap.size by have h1 := HBW.out; have h2 := HG2.out.size; simp; omega))
        clear ho3 hb3 hbb
        cases ok with
        | false =>
          go_wp2
          go_roundw
          case rel => exact ⟨acc, t, j + 1, q2, by go_num, by have := HJ.out; omega, by have := HF.out; omega, HROW3.out, HTR3.out, HTL, HTS, HAS, (by show q2 ≤ _; have h5 := HQ.out; have h6 := HQ2.out.2; omega), HR3.out, HG3⟩
          case measure => have := HJ.out; simp [intOf]; omega
        | true =>
          have HSS := Lib.hid (apply_short64 HRR.out HTS.out)
          obtain ⟨c0, c1, c2, c3, c4, -⟩ := F3.out
          go_wp2_with (at_builtin; refine wpList_append_cmds rfl _ _ rfl W.heap.size _ acc rfl (HROW3.out.alloc _) _ _ _ [⟨p', fk, fv, tk, tv⟩] rfl (cmds_lit W3 ⟨p', fk, fv, tk, tv⟩) (by have := HF.out; simp; omega) (by have := HG3.out.size; simp; omega) ?_; intro v4 w4 ho4 hg4)
          have hg4' := grownBy_trans (grownBy_new W3 (.cells #[.string p', .int .i64 fk, .int .i64 fv, .int .i64 tk, .int .i64 tv] 32) _) hg4
          have HR4 := Lib.hid (push_reader HVB.out HLE.out HR3.out hg4')
          have HG4 := Lib.hid (push_grown HVB.out HG3.out hg4')
          have HT4 := Lib.hid (apart_type HO3.out HROW3.out (by decide) hg4')
          clear hg4 hg4' c0 c1 c2 c3 c4
          go_roundw
          case rel => exact ⟨acc ++ [⟨p', fk, fv, tk, tv⟩], out, j + 1, q2, by go_num, by have := HJ.out; omega, by have := HF.out; simp; omega, ho4, HT4.out, (by show out.length ≤ 11; have := HSS.out.2; omega), HSS.out.1, shortC_push HAS.out HQ2.out.1, (by show q2 ≤ _; have h5 := HQ.out; have h6 := HQ2.out.2; omega), HR4.out, HG4⟩
          case measure => have := HJ.out; simp [intOf]; omega
      · have hge : (20 : Int) ≤ acc.length := by omega
        have HJ := Lib.hid hj
        obtain ⟨ao, co, rfl, -⟩ := cmds_of_own hrow
        clear hj hfull
        go_wp2
        go_ret
        exact ⟨_, acc, q, rfl, hrow, hal, HAS.out, by have h5 := HQ.out; have h6 := HJ.out; have h7 := HN.out; omega, hRq, HG.out⟩
    · have hge : n ≤ (j : Int) := by omega
      have HJ := Lib.hid hj
      obtain ⟨ao, co, rfl, -⟩ := cmds_of_own hrow
      clear hj hlt
      go_wp2
      go_ret
      exact ⟨_, acc, q, rfl, hrow, hal, HAS.out, by have h5 := HQ.out; have h6 := HJ.out; have h7 := HN.out; omega, hRq, HG.out⟩

end Go.Proofs.Ytkaokncaockjkaa

/-
  WALKS: logs that are drawn, seldom broken ones (spec.l91Broken); spec.DrawLogValid, DrawLogUndo, DrawLogApply, DrawLogFits.
-/
namespace Go.Proofs.Ytkaokncaockjkaa
open Go.RowKit
set_option linter.unusedVariables false

theorem flatC_cons (c : Cmd) (t : List Cmd) : flatC (c :: t) = .string c.p :: .int .i64 c.fk :: .int .i64 c.fv :: .int .i64 c.tk :: .int .i64 c.tv :: flatC t := rfl

theorem flatC_setTo : ∀ (cs : List Cmd) (i : Nat) (c : Cmd) (k v : Int), cs[i]? = some c → ((flatC cs).set (i * 5 + 3) (.int .i64 k)).set (i * 5 + 4) (.int .i64 v) = flatC (cs.set i ⟨c.p, c.fk, c.fv, k, v⟩)
  | [], i, c, k, v, h => by simp at h
  | m :: r, 0, c, k, v, h => by
    simp at h
    subst h
    rfl
  | m :: r, i + 1, c, k, v, h => by
    have ih := flatC_setTo r i c k v (by simpa using h)
    rw [List.set_cons_succ, flatC_cons m r, flatC_cons m (r.set i _), ← ih, show (i + 1) * 5 + 3 = (i * 5 + 3) + 5 by omega, show (i + 1) * 5 + 4 = (i * 5 + 4) + 5 by omega]
    rfl

theorem flatC_setPath : ∀ (cs : List Cmd) (i : Nat) (c : Cmd) (s : ByteArray), cs[i]? = some c → (flatC cs).set (i * 5) (.string s) = flatC (cs.set i ⟨s, c.fk, c.fv, c.tk, c.tv⟩)
  | [], i, c, s, h => by simp at h
  | m :: r, 0, c, s, h => by
    simp at h
    subst h
    rfl
  | m :: r, i + 1, c, s, h => by
    have ih := flatC_setPath r i c s (by simpa using h)
    rw [List.set_cons_succ, flatC_cons m r, flatC_cons m (r.set i _), ← ih, show (i + 1) * 5 = i * 5 + 5 by omega]
    rfl

theorem own_setTo {W : World} {base : Nat} {e : TypeId} {g cap : Nat} {cs : List Cmd} {i : Nat} {c : Cmd} (h : W.ownsRow base e 5 (.slice (some ⟨g, 0, none⟩) cs.length cap) cs.length (flatC cs)) (hn : cs[i]? = some c) (k v : Int) :
    ((W.setCell ⟨g, i * 5 + 3, none⟩ (.int .i64 k)).setCell ⟨g, i * 5 + 3 + 1, none⟩ (.int .i64 v)).ownsRow base e 5 (.slice (some ⟨g, 0, none⟩) cs.length cap) (cs.set i ⟨c.p, c.fk, c.fv, k, v⟩).length (flatC (cs.set i ⟨c.p, c.fk, c.fv, k, v⟩)) := by
  have := ((h.stored (i * 5 + 3) (.int .i64 k)).1.stored (i * 5 + 4) (.int .i64 v)).1
  rw [flatC_setTo cs i c k v hn] at this
  rw [List.length_set]
  exact this

theorem own_setPath {W : World} {base : Nat} {e : TypeId} {g cap : Nat} {cs : List Cmd} {i : Nat} {c : Cmd} (h : W.ownsRow base e 5 (.slice (some ⟨g, 0, none⟩) cs.length cap) cs.length (flatC cs)) (hn : cs[i]? = some c) (s : ByteArray) :
    (W.setCell ⟨g, i * 5, none⟩ (.string s)).ownsRow base e 5 (.slice (some ⟨g, 0, none⟩) cs.length cap) (cs.set i ⟨s, c.fk, c.fv, c.tk, c.tv⟩).length (flatC (cs.set i ⟨s, c.fk, c.fv, c.tk, c.tv⟩)) := by
  have := (h.stored (i * 5) (.string s)).1
  rw [flatC_setPath cs i c s hn] at this
  rw [List.length_set]
  exact this

theorem flatC_take (cs : List Cmd) (k : Nat) : (flatC cs).take (k * 5) = flatC (cs.take k) := by
  induction cs generalizing k with
  | nil => simp [flatC]
  | cons c r ih =>
    cases k with
    | zero => rfl
    | succ k =>
      rw [List.take_succ_cons, flatC_cons, flatC_cons, show (k + 1) * 5 = k * 5 + 5 by omega, ← ih k]
      rfl

/-- The first commands of a list of the call's own. -/
theorem own_takeC {W : World} {base : Nat} {e : TypeId} {g cap : Nat} {cs : List Cmd} (h : W.ownsRow base e 5 (.slice (some ⟨g, 0, none⟩) cs.length cap) cs.length (flatC cs)) (k : Nat) (hk : k ≤ cs.length) : W.ownsRow base e 5 (.slice (some ⟨g, 0, none⟩) k cap) (cs.take k).length (flatC (cs.take k)) := by
  have hl : (cs.take k).length = k := by rw [List.length_take]; omega
  rw [hl]
  obtain ⟨h1, h2⟩ := h
  refine ⟨by rw [flatC_length, hl], .inr ?_⟩
  rcases h2 with ⟨h3, _⟩ | ⟨g', cap', cur, h3, h4, h5, h6, h7, h8, h9⟩
  · cases h3
  · cases h3
    refine ⟨g, cap, cur, rfl, h4, h5, by omega, h7, h8, ?_⟩
    rw [← flatC_take, ← h9, List.take_take]
    congr 1
    omega

theorem own_sliceC {W : World} {base : Nat} {e : TypeId} {v : Value} {cs : List Cmd} (h : W.ownsRow base e 5 v cs.length (flatC cs)) (h0 : 0 < cs.length) : ∃ g cap, v = .slice (some ⟨g, 0, none⟩) cs.length cap ∧ base ≤ g ∧ cs.length ≤ cap ∧ cap ≤ maxLen := by
  rcases h.2 with ⟨_, h1⟩ | ⟨g, cap, cur, rfl, h1, h2, h3, h4, _⟩
  · omega
  · exact ⟨g, cap, rfl, h1, h3, h4⟩

/-- The last commands of a list of the call's own. -/
theorem own_tailC {W : World} {base : Nat} {e : TypeId} {g cap : Nat} {cs : List Cmd} (h : W.ownsRow base e 5 (.slice (some ⟨g, 0, none⟩) cs.length cap) cs.length (flatC cs)) (m : Nat) (hm : m ≤ cs.length) (o : Nat) (ho : o = m * 5 ∨ cs.length = m) : CmdsAt W (some ⟨g, o, none⟩) (cs.length - m) (cs.drop m) := by
  refine ⟨by rw [List.length_drop], ?_⟩
  rcases ho with rfl | ho
  · have := (cmds_own h).part m cs.length hm (Nat.le_refl _)
    rw [Nat.zero_add, show (cs.drop m).take (cs.length - m) = cs.drop m from List.take_of_length_le (by rw [List.length_drop]; exact Nat.le_refl _)] at this
    exact this.2
  · left; omega

theorem shortC_set {m : Nat} {cs : List Cmd} {i : Nat} {d : Cmd} (h : ShortC m cs) (hd : d.p.size ≤ m) : ShortC m (cs.set i d) := by
  intro x hx
  rcases List.mem_or_eq_of_mem_set hx with h1 | rfl
  · exact h x h1
  · exact hd

theorem shortC_part {m : Nat} {cs ds : List Cmd} (h : ShortC m cs) (hs : ∀ x ∈ ds, x ∈ cs) : ShortC m ds := fun x hx => h x (hs x hx)

def brokenPaths : List ByteArray := [⟨#[]⟩, ⟨#[47]⟩, ⟨#[47, 120]⟩]

set_option maxHeartbeats 4000000 in
set_option maxRecDepth 100000 in
theorem l91Broken_c (N0 B p base : Nat) (sl : Value) (ns : List Nd) (hlen : ns.length ≤ 11) (hs : Short 64 ns) (hb : B < base) (W : World) (hbW : base ≤ W.heap.size) (hown : W.ownsRow base 96 3 sl ns.length (flatN ns)) (hp : p < 10000) (hR : RdAt N0 W B p) :
    Calls Try.prog 25 #[.pointer (some ⟨B, 0, none⟩), sl] W (LogDraw N0 B p 21 1100 W) := by
  obtain ⟨i0, hi, hz0, hz1, hz2⟩ := info_parts infoCmd
  have HLT := Lib.hid hR.lt
  have HLE := Lib.hid hR.le
  have HP1 := Lib.hid (fun W hR => pick_c N0 B p 12 (by omega) (by omega) W (by omega) hR)
  have HP2 := Lib.hid (fun W hR => pick_c N0 B (p + 1) 10 (by omega) (by omega) W (by omega) hR)
  have HT := Lib.hid (fun n h0 h1 W' (hW : base ≤ W'.heap.size) ho hR => l91Log_c N0 B (p + 1 + 1) base sl ns n h0 h1 hlen hs hb W' hW ho (by omega) hR)
  have HPK := Lib.hid (fun q n h0 h1 W hq hR => pick_c N0 B q n h0 h1 W hq hR)
  have HC := Lib.hid (fun q W hq hR => l91Content_c N0 B q W hq hR)
  have HOF := Lib.hid (fun q W' (hq : q < 30000) hR => of_lit N0 B q brokenPaths 3 rfl (by decide) (by decide) W' hq hR #[.string ⟨#[]⟩, .string ⟨#[47]⟩, .string ⟨#[47, 120]⟩] rfl)
  have HPP := Lib.hid hp
  have HOW := Lib.hid hown
  have HBB := Lib.hid hb
  have HBW := Lib.hid hbW
  clear hp hown hb hbW hlen hs
  go_enter Try.func25, Try.ntmps25
  go_wp2_with fail
  refine (HP1.out _ hR).mono ?_; rintro e W1 ⟨n, rfl, n0, n1, hR1, hg1⟩
  have HN := Lib.hid (And.intro n0 n1)
  have HO1 := Lib.hid (own_reader HOW.out HBB.out hg1)
  clear n0 n1 hR
  go_wp2_with fail
  refine (HP2.out _ hR1).mono ?_; rintro e W2 ⟨r, rfl, r0, r1, hR2, hg2⟩
  have HG2 := Lib.hid (grownBy_trans hg1 hg2)
  have HO2 := Lib.hid (own_reader HO1.out HBB.out hg2)
  have HW2 := Lib.hid (show base ≤ W2.heap.size by have h1 := HG2.out.size; have h2 := HBW.out; omega)
  have HR2 := Lib.hid hR2
  clear hg1 hg2 hR1 hR2
  by_cases hr : r = 0
  · subst hr
    clear r0 r1
    go_wp2_with fail
    refine (HT.out 60 (by omega) (by omega) _ HW2.out HO2.out HR2.out).mono ?_; rintro e W3 ⟨v, out, q, rfl, hown0, hlen, hsh, hq, hR3, hg3⟩
    have hown := own_mono hown0 HG2.out.size
    have HG3 := Lib.hid (grownBy_trans HG2.out hg3)
    have HSH := Lib.hid hsh
    have HLN := Lib.hid hlen
    have HQ := Lib.hid hq
    have HR3 := Lib.hid hR3
    clear hown0 hg3 hsh hlen hq hR3
    by_cases hl0 : out.length = 0
    · obtain ⟨a, cap, rfl, -⟩ := cmds_of_own hown
      have HO := Lib.hid hown
      have hl0' : (out.length : Int) = 0 := by omega
      clear hl0 hown
      go_wp2
      go_ret
      exact ⟨_, out, q, rfl, HO.out, by have := HLN.out; omega, HSH.out, by have := HQ.out; omega, HR3.out, HG3.out⟩
    · have hl0 : 0 < out.length := by omega
      have hl1 : (0 : Int) < out.length := by omega
      obtain ⟨g, cap, rfl, hgb, hlc, hcm⟩ := own_sliceC hown hl0
      have HB := Lib.hid (And.intro hgb (And.intro hlc hcm))
      have HO3 := Lib.hid hown
      clear hgb hlc hcm hown
      go_wp2_with fail
      refine (HPK.out q out.length (by omega) (by have := HLN.out; omega) _ (by have := HQ.out; have := HPP.out; omega) HR3.out).mono ?_; rintro e W4 ⟨k', rfl, k0, k1, hR4, hg4⟩
      obtain ⟨k, rfl⟩ := Int.eq_ofNat_of_zero_le k0
      have HK := Lib.hid (show k < out.length by omega)
      have HO4 := Lib.hid (own_reader HO3.out HLT.out hg4)
      clear k0 k1
      go_wp2_with fail
      refine (HPK.out (q + 1) 14 (by omega) (by omega) _ (by have := HQ.out; have := HPP.out; omega) hR4).mono ?_; rintro e W5 ⟨tt, rfl, t0, t1, hR5, hg5⟩
      have HO5 := Lib.hid (own_reader HO4.out HLT.out hg5)
      have HG5 := Lib.hid (grownBy_trans HG3.out (grownBy_trans hg4 hg5))
      have HR5 := Lib.hid hR5
      obtain ⟨x, hx⟩ : ∃ x, out[k]? = some x := ⟨_, List.getElem?_eq_getElem HK.out⟩
      have HX := Lib.hid hx
      have hkl : (k : Int) < out.length := by have := HK.out; omega
      have HVB := Lib.hid (fun k (e : (Value.slice (some ⟨g, 0, none⟩) out.length cap).ownBlock = some k) => (HO5.out.lt k e).1)
      clear hx hg4 hg5 hR4 hR5 hl0
      by_cases ht : tt = 0
      · subst ht
        clear t0 t1
        go_wp2_with fail
        refine (HC.out (q + 1 + 1) _ (by have := HQ.out; have := HPP.out; omega) HR5.out).mono ?_; rintro e W6 ⟨k6, v6, q6, rfl, -, -, -, -, hq6, hR6, hg6⟩
        have HO6 := Lib.hid (own_reader HO5.out HLT.out hg6)
        have HG6 := Lib.hid (grownBy_trans HG5.out hg6)
        have HR6 := Lib.hid hR6
        have HQ6 := Lib.hid hq6
        obtain ⟨-, -, -, x3, x4⟩ := flatC_get out k x HX.out
        have c3 : W6.cell? ⟨g, k * 5 + 3, none⟩ = some (.int .i64 x.tk) := by rw [HO6.out.cellAt _ (by have := HK.out; omega)]; exact x3
        have c4 : W6.cell? ⟨g, k * 5 + 4, none⟩ = some (.int .i64 x.tv) := by rw [HO6.out.cellAt _ (by have := HK.out; omega)]; exact x4
        have z3 := HO6.out.frozenAt (k * 5 + 3)
        have z4 := HO6.out.frozenAt (k * 5 + 4)
        unfold con
        clear hq6 hR6 hg6 x3 x4
        go_wp2
        go_ret
        exact ⟨_, out.set k ⟨x.p, x.fk, x.fv, k6, v6⟩, q6, rfl, own_setTo HO6.out HX.out k6 v6, by rw [List.length_set]; have := HLN.out; omega, shortC_set HSH.out (show x.p.size ≤ 66 from HSH.out.at HX.out), by have := HQ.out; have := HQ6.out; omega,
          (HR6.out.setNew _ _ (by have := HLE.out; have := HB.out.1; show N0 ≤ g; omega)).setNew _ _ (by have := HLE.out; have := HB.out.1; show N0 ≤ g; omega), grownBy_setCell_new (grownBy_setCell_new HG6.out _ _ HB.out.1) _ _ HB.out.1⟩
      · have ht0 : (tt == 0) = false := beq_eq_false_iff_ne.2 ht
        clear ht
        by_cases ht : tt = 1
        · subst ht
          clear t0 t1
          have hk2 : (k : Int) ≤ cap := by have := HK.out; have := HB.out.2.1; omega
          have hk0 : (0 : Int) ≤ k := by omega
          have hk3 : (k : Int) + 1 ≤ out.length := by omega
          have hlc2 : (out.length : Int) ≤ cap := by have := HB.out.2.1; omega
          obtain ⟨m, hm⟩ : ∃ m, m = k + 1 := ⟨_, rfl⟩
          have hwr : IntKind.i64.wrap ((k : Int) + 1) = (m : Int) := (IntWalk.i64_in _ (by have := HLN.out; omega)).trans (by omega)
          have hm0 : (0 : Int) ≤ m := by omega
          have hm1 : (m : Int) ≤ out.length := by omega
          have hm2 : (m : Int) ≤ cap := by omega
          have hmm : m ≤ out.length := by omega
          have HM := Lib.hid (And.intro hm hmm)
          have HTK := Lib.hid (show W5.drew.ownsRow W.heap.size 32 5 (.slice (some ⟨g, 0, none⟩) k cap) k (flatC (out.take k)) by
            have := own_takeC HO5.out k (by have := HK.out; omega)
            rw [show (out.take k).length = k by rw [List.length_take]; have := HK.out; omega] at this
            exact this)
          have HFL := Lib.hid (show (flatC (out.drop m)).length = (out.length - m) * 5 by rw [flatC_length, List.length_drop])
          have HMX := Lib.hid (show k + (out.length - m) ≤ maxLen ∧ (k + (out.length - m)) * 48 ≤ 140737488355328 by unfold maxLen; have := HLN.out; have := HK.out; omega)
          have HBS := Lib.hid (show W.heap.size ≤ W5.drew.heap.size from HG5.out.size)
          have HSB := Lib.hid (show ShortC 66 (out.take k ++ out.drop m) from shortC_part HSH.out (fun y hy => by
            rcases List.mem_append.1 hy with h | h
            · exact List.mem_of_mem_take h
            · exact List.mem_of_mem_drop h))
          have HLB := Lib.hid (show (out.take k ++ out.drop m).length = k + (out.length - m) by rw [List.length_append, List.length_take, List.length_drop]; have := HK.out; omega)
          clear hm hmm
          have HVK := Lib.hid (fun k' (e : (Value.slice (some ⟨g, 0, none⟩) k cap).ownBlock = some k') => show W.heap.size ≤ k' by cases e; exact HB.out.1)
          by_cases hcap : cap = m
          · subst hcap
            have HCEL := Lib.hid (cmds_cells (show CmdsAt W5.drew (some ⟨g, 0, none⟩) (out.length - cap) (out.drop cap) from own_tailC HO5.out cap HM.out.2 0 (.inr (by have h1 := HB.out.2.1; have h2 := HM.out.2; omega))))
            have HG0 : Hid (W5.drew.grownBy W5.drew (some g)) := ⟨rfl, rfl, rfl, Nat.le_refl _, fun _ _ _ => rfl⟩
            go_upto_region 11 with (fail)
            refine wp_region_held_drew (S := (fun w' => W5.drew.grownBy w' (some g))) (by kernel_rfl) HG0.out (fun hH => ?_)
            refine wpAnyH_take (i := 0) (oi := _) (v := ?_) rfl (by kernel_rfl) (by kernel_rfl) (by kernel_rfl) (fun _ _ _ h => h) (Or.inl ⟨by rfl, ?_⟩) (by assumption) ?_
            rotate_left
            · (intro w hSw; (try dsimp only at hSw); go_simp; try with_reducible rfl)
            try simp only [Act.put, List.getElem_toArray, List.getElem_cons_zero, List.setIfInBounds_toArray, List.set_cons_zero, List.set_cons_succ]
            refine wpAnyH_take (i := 1) (oi := _) (v := ?_) rfl (by kernel_rfl) (by kernel_rfl) (by kernel_rfl) (fun _ _ _ h => h) (Or.inl ⟨by rfl, ?_⟩) (by assumption) ?_
            rotate_left
            · (intro w hSw; (try dsimp only at hSw); go_simp; try with_reducible rfl)
            try simp only [Act.put, List.getElem_toArray, List.getElem_cons_zero, List.getElem_cons_succ, List.setIfInBounds_toArray, List.set_cons_zero, List.set_cons_succ]
            refine wpAnyH_take (i := 2) (oi := _) (v := ?_) rfl (by kernel_rfl) (by kernel_rfl) (by kernel_rfl) (fun _ _ _ h => h) (Or.inl ⟨by rfl, ?_⟩) (by assumption) ?_
            rotate_left
            · (intro w hSw; (try dsimp only at hSw); go_simp; try with_reducible rfl)
            try simp only [Act.put, List.getElem_toArray, List.getElem_cons_zero, List.getElem_cons_succ, List.setIfInBounds_toArray, List.set_cons_zero, List.set_cons_succ]
            refine wpAnyH_take (i := 3) (oi := _) (v := ?_) rfl (by kernel_rfl) (by kernel_rfl) (by kernel_rfl) (fun _ _ _ h => h) (Or.inl ⟨by rfl, ?_⟩) (by assumption) ?_
            rotate_left
            · (intro w hSw; (try dsimp only at hSw); go_simp; try with_reducible rfl)
            try simp only [Act.put, List.getElem_toArray, List.getElem_cons_zero, List.getElem_cons_succ, List.setIfInBounds_toArray, List.set_cons_zero, List.set_cons_succ]
            refine wpAnyH_take (i := 4) (oi := _) (v := ?_) rfl (by kernel_rfl) (by kernel_rfl) (by kernel_rfl) (fun _ _ _ h => h) (Or.inl ⟨by rfl, ?_⟩) (by assumption) ?_
            rotate_left
            · (intro w hSw; (try dsimp only at hSw); go_simp; try with_reducible rfl)
            try simp only [Act.put, List.getElem_toArray, List.getElem_cons_zero, List.getElem_cons_succ, List.setIfInBounds_toArray, List.set_cons_zero, List.set_cons_succ]
            refine wpAnyH_take (i := 5) (oi := _) (v := ?_) rfl (by kernel_rfl) (by kernel_rfl) (by kernel_rfl) (fun _ _ _ h => h) (Or.inl ⟨by rfl, ?_⟩) (by assumption) ?_
            rotate_left
            · (intro w hSw; (try dsimp only at hSw); go_simp; try with_reducible rfl)
            try simp only [Act.put, List.getElem_toArray, List.getElem_cons_zero, List.getElem_cons_succ, List.setIfInBounds_toArray, List.set_cons_zero, List.set_cons_succ]
            refine wpAnyH_take (i := 6) (oi := _) (v := ?_) rfl (by kernel_rfl) (by kernel_rfl) (by kernel_rfl) (fun _ _ _ h => h) (Or.inl ⟨by rfl, ?_⟩) (by assumption) ?_
            rotate_left
            · (intro w hSw; (try dsimp only at hSw); go_simp; try with_reducible rfl)
            try simp only [Act.put, List.getElem_toArray, List.getElem_cons_zero, List.getElem_cons_succ, List.setIfInBounds_toArray, List.set_cons_zero, List.set_cons_succ]
            refine wpAnyH_ready (rs := [7]) (by kernel_rfl) (by simp) ?_
            refine AllReadyH.cons rfl (fun K hK => ?_) (AllReadyH.nil)
            rw [if_pos (by rfl)]
            refine wp_append_own _ _ _ 23 rfl W.heap.size 32 i0 (.agg #[.string ⟨#[]⟩, .int .i64 0, .int .i64 0, .int .i64 0, .int .i64 0]) 5 48 Try.underlying23 hi hz0 hz1 hz2 rfl (by decide) (.slice (some ⟨g, 0, none⟩) k cap) k (flatC (out.take k)) rfl HTK.out ⟨g, 0, none⟩ (out.length - cap) 0 (flatC (out.drop cap)) rfl HFL.out HCEL.out (flatC_cell1 _) HMX.out.1 HMX.out.2 HBS.out ?_
            intro v4 w4 ho4 hg4 hn4
            refine hK.out _ _ hg4 (fun hHeld => ?_)
            try simp only [Act.put, List.getElem_toArray, List.getElem_cons_zero, List.getElem_cons_succ, List.setIfInBounds_toArray, List.set_cons_zero, List.set_cons_succ]
            refine wpAnyH_take (i := 8) (oi := _) (v := ?_) rfl (by kernel_rfl) (by kernel_rfl) (by kernel_rfl) (fun _ _ _ h => h) (Or.inl ⟨by rfl, ?_⟩) (by assumption) ?_
            rotate_left
            · (intro w hSw; (try dsimp only at hSw); go_simp; try with_reducible rfl)
            try simp only [Act.put, List.getElem_toArray, List.getElem_cons_zero, List.getElem_cons_succ, List.setIfInBounds_toArray, List.set_cons_zero, List.set_cons_succ]
            refine wpAnyH_done (by kernel_rfl) ?_ _
            have hown4 : w4.ownsRow W.heap.size 32 5 v4 (out.take k ++ out.drop cap).length (flatC (out.take k ++ out.drop cap)) := by rw [HLB.out, flatC_append]; exact ho4
            have hg4' : W5.grownBy w4 (some g) := grownBy_trans (⟨rfl, rfl, rfl, Nat.le_refl _, fun _ _ _ => rfl⟩ : W5.grownBy W5.drew (some g)) hg4
            all_goals (try go_wp2)
            go_ret
            exact ⟨_, out.take k ++ out.drop cap, q + 1 + 1, rfl, hown4, by rw [HLB.out]; have := HLN.out; have := HM.out.1; have := HM.out.2; have := HK.out; omega, HSB.out, by have := HQ.out; omega, push_reader (v := .slice (some ⟨g, 0, none⟩) k cap) HVK.out HLE.out HR5.out hg4', push_grown (v := .slice (some ⟨g, 0, none⟩) k cap) HVK.out HG5.out hg4'⟩
          · have HCEL := Lib.hid (cmds_cells (show CmdsAt W5.drew (some ⟨g, m * 5, none⟩) (out.length - m) (out.drop m) from own_tailC HO5.out m HM.out.2 (m * 5) (.inl rfl)))
            have HG0 : Hid (W5.drew.grownBy W5.drew (some g)) := ⟨rfl, rfl, rfl, Nat.le_refl _, fun _ _ _ => rfl⟩
            go_upto_region 11 with (fail)
            refine wp_region_held_drew (S := (fun w' => W5.drew.grownBy w' (some g))) (by kernel_rfl) HG0.out (fun hH => ?_)
            refine wpAnyH_take (i := 0) (oi := _) (v := ?_) rfl (by kernel_rfl) (by kernel_rfl) (by kernel_rfl) (fun _ _ _ h => h) (Or.inl ⟨by rfl, ?_⟩) (by assumption) ?_
            rotate_left
            · (intro w hSw; (try dsimp only at hSw); go_simp; try with_reducible rfl)
            try simp only [Act.put, List.getElem_toArray, List.getElem_cons_zero, List.setIfInBounds_toArray, List.set_cons_zero, List.set_cons_succ]
            refine wpAnyH_take (i := 1) (oi := _) (v := ?_) rfl (by kernel_rfl) (by kernel_rfl) (by kernel_rfl) (fun _ _ _ h => h) (Or.inl ⟨by rfl, ?_⟩) (by assumption) ?_
            rotate_left
            · (intro w hSw; (try dsimp only at hSw); go_simp; try with_reducible rfl)
            try simp only [Act.put, List.getElem_toArray, List.getElem_cons_zero, List.getElem_cons_succ, List.setIfInBounds_toArray, List.set_cons_zero, List.set_cons_succ]
            refine wpAnyH_take (i := 2) (oi := _) (v := ?_) rfl (by kernel_rfl) (by kernel_rfl) (by kernel_rfl) (fun _ _ _ h => h) (Or.inl ⟨by rfl, ?_⟩) (by assumption) ?_
            rotate_left
            · (intro w hSw; (try dsimp only at hSw); go_simp; try with_reducible rfl)
            try simp only [Act.put, List.getElem_toArray, List.getElem_cons_zero, List.getElem_cons_succ, List.setIfInBounds_toArray, List.set_cons_zero, List.set_cons_succ]
            refine wpAnyH_take (i := 3) (oi := _) (v := ?_) rfl (by kernel_rfl) (by kernel_rfl) (by kernel_rfl) (fun _ _ _ h => h) (Or.inl ⟨by rfl, ?_⟩) (by assumption) ?_
            rotate_left
            · (intro w hSw; (try dsimp only at hSw); go_simp; try with_reducible rfl)
            try simp only [Act.put, List.getElem_toArray, List.getElem_cons_zero, List.getElem_cons_succ, List.setIfInBounds_toArray, List.set_cons_zero, List.set_cons_succ]
            refine wpAnyH_take (i := 4) (oi := _) (v := ?_) rfl (by kernel_rfl) (by kernel_rfl) (by kernel_rfl) (fun _ _ _ h => h) (Or.inl ⟨by rfl, ?_⟩) (by assumption) ?_
            rotate_left
            · (intro w hSw; (try dsimp only at hSw); go_simp; try with_reducible rfl)
            try simp only [Act.put, List.getElem_toArray, List.getElem_cons_zero, List.getElem_cons_succ, List.setIfInBounds_toArray, List.set_cons_zero, List.set_cons_succ]
            refine wpAnyH_take (i := 5) (oi := _) (v := ?_) rfl (by kernel_rfl) (by kernel_rfl) (by kernel_rfl) (fun _ _ _ h => h) (Or.inl ⟨by rfl, ?_⟩) (by assumption) ?_
            rotate_left
            · (intro w hSw; (try dsimp only at hSw); go_simp; try with_reducible rfl)
            try simp only [Act.put, List.getElem_toArray, List.getElem_cons_zero, List.getElem_cons_succ, List.setIfInBounds_toArray, List.set_cons_zero, List.set_cons_succ]
            refine wpAnyH_take (i := 6) (oi := _) (v := ?_) rfl (by kernel_rfl) (by kernel_rfl) (by kernel_rfl) (fun _ _ _ h => h) (Or.inl ⟨by rfl, ?_⟩) (by assumption) ?_
            rotate_left
            · (intro w hSw; (try dsimp only at hSw); go_simp; try with_reducible rfl)
            try simp only [Act.put, List.getElem_toArray, List.getElem_cons_zero, List.getElem_cons_succ, List.setIfInBounds_toArray, List.set_cons_zero, List.set_cons_succ]
            refine wpAnyH_ready (rs := [7]) (by kernel_rfl) (by simp) ?_
            refine AllReadyH.cons rfl (fun K hK => ?_) (AllReadyH.nil)
            rw [if_pos (by rfl)]
            refine wp_append_own _ _ _ 23 rfl W.heap.size 32 i0 (.agg #[.string ⟨#[]⟩, .int .i64 0, .int .i64 0, .int .i64 0, .int .i64 0]) 5 48 Try.underlying23 hi hz0 hz1 hz2 rfl (by decide) (.slice (some ⟨g, 0, none⟩) k cap) k (flatC (out.take k)) rfl HTK.out ⟨g, m * 5, none⟩ (out.length - m) (cap - m) (flatC (out.drop m)) rfl HFL.out HCEL.out (flatC_cell1 _) HMX.out.1 HMX.out.2 HBS.out ?_
            intro v4 w4 ho4 hg4 hn4
            refine hK.out _ _ hg4 (fun hHeld => ?_)
            try simp only [Act.put, List.getElem_toArray, List.getElem_cons_zero, List.getElem_cons_succ, List.setIfInBounds_toArray, List.set_cons_zero, List.set_cons_succ]
            refine wpAnyH_take (i := 8) (oi := _) (v := ?_) rfl (by kernel_rfl) (by kernel_rfl) (by kernel_rfl) (fun _ _ _ h => h) (Or.inl ⟨by rfl, ?_⟩) (by assumption) ?_
            rotate_left
            · (intro w hSw; (try dsimp only at hSw); go_simp; try with_reducible rfl)
            try simp only [Act.put, List.getElem_toArray, List.getElem_cons_zero, List.getElem_cons_succ, List.setIfInBounds_toArray, List.set_cons_zero, List.set_cons_succ]
            refine wpAnyH_done (by kernel_rfl) ?_ _
            have hown4 : w4.ownsRow W.heap.size 32 5 v4 (out.take k ++ out.drop m).length (flatC (out.take k ++ out.drop m)) := by rw [HLB.out, flatC_append]; exact ho4
            have hg4' : W5.grownBy w4 (some g) := grownBy_trans (⟨rfl, rfl, rfl, Nat.le_refl _, fun _ _ _ => rfl⟩ : W5.grownBy W5.drew (some g)) hg4
            all_goals (try go_wp2)
            go_ret
            exact ⟨_, out.take k ++ out.drop m, q + 1 + 1, rfl, hown4, by rw [HLB.out]; have := HLN.out; have := HM.out.1; have := HM.out.2; have := HK.out; omega, HSB.out, by have := HQ.out; omega, push_reader (v := .slice (some ⟨g, 0, none⟩) k cap) HVK.out HLE.out HR5.out hg4', push_grown (v := .slice (some ⟨g, 0, none⟩) k cap) HVK.out HG5.out hg4'⟩
        · have ht1 : (tt == 1) = false := beq_eq_false_iff_ne.2 ht
          clear ht
          by_cases ht : tt = 2
          · subst ht
            clear t0 t1
            obtain ⟨x0, x1, x2, x3, x4⟩ := flatC_get out k x HX.out
            have c0 : W5.cell? ⟨g, k * 5, none⟩ = some (.string x.p) := by rw [HO5.out.cellAt _ (by have := HK.out; omega)]; exact x0
            have c1 : W5.cell? ⟨g, k * 5 + 1, none⟩ = some (.int .i64 x.fk) := by rw [HO5.out.cellAt _ (by have := HK.out; omega)]; exact x1
            have c2 : W5.cell? ⟨g, k * 5 + 2, none⟩ = some (.int .i64 x.fv) := by rw [HO5.out.cellAt _ (by have := HK.out; omega)]; exact x2
            have c3 : W5.cell? ⟨g, k * 5 + 3, none⟩ = some (.int .i64 x.tk) := by rw [HO5.out.cellAt _ (by have := HK.out; omega)]; exact x3
            have c4 : W5.cell? ⟨g, k * 5 + 4, none⟩ = some (.int .i64 x.tv) := by rw [HO5.out.cellAt _ (by have := HK.out; omega)]; exact x4
            clear x0 x1 x2 x3 x4
            go_wp2_with (at_builtin; refine wpList_append_cmds rfl _ _ rfl W.heap.size _ out rfl (HO5.out.alloc _) _ _ _ [x] rfl (cmds_lit W5 x) (by have := HLN.out; simp; omega) (by have := HG5.out.size; simp; omega) ?_; intro v' w6 ho6 hg6)
            have hg6' := grownBy_trans (grownBy_new W5 (.cells #[.string x.p, .int .i64 x.fk, .int .i64 x.fv, .int .i64 x.tk, .int .i64 x.tv] 32) _) hg6
            go_ret
            exact ⟨_, out ++ [x], q + 1 + 1, rfl, ho6, by simp; have := HLN.out; omega, shortC_push HSH.out (HSH.out.at HX.out), by have := HQ.out; omega, push_reader HVB.out HLE.out HR5.out hg6', push_grown HVB.out HG5.out hg6'⟩
          · have ht2 : (tt == 2) = false := beq_eq_false_iff_ne.2 ht
            clear ht
            by_cases ht : tt = 3
            · subst ht
              clear t0 t1
              go_wp2_with fail
              refine (HOF.out (q + 1 + 1) _ (by have := HQ.out; have := HPP.out; omega) HR5.out).mono ?_
              rintro e W6 ⟨s, hm6, rfl, hR6, hg6⟩
              have HO6 := Lib.hid (own_reader HO5.out HLT.out hg6)
              have HG6 := Lib.hid (grownBy_trans HG5.out hg6)
              have HR6 := Lib.hid hR6
              have HS6 := Lib.hid (show s.size ≤ 66 by rcases (by simpa [brokenPaths] using hm6) with rfl | rfl | rfl <;> decide)
              obtain ⟨x0, -, -, -, -⟩ := flatC_get out k x HX.out
              have c0 : W6.cell? ⟨g, k * 5, none⟩ = some (.string x.p) := by rw [HO6.out.cellAt _ (by have := HK.out; omega)]; exact x0
              have z0 := HO6.out.frozenAt (k * 5)
              clear hR6 hg6 x0 hm6
              go_wp2
              go_ret
              exact ⟨_, out.set k ⟨s, x.fk, x.fv, x.tk, x.tv⟩, _, rfl, own_setPath HO6.out HX.out s, by rw [List.length_set]; have := HLN.out; omega, shortC_set HSH.out HS6.out, by have := HQ.out; omega,
                HR6.out.setNew _ _ (by have := HLE.out; have := HB.out.1; show N0 ≤ g; omega), grownBy_setCell_new HG6.out _ _ HB.out.1⟩
            · have ht3 : (tt == 3) = false := beq_eq_false_iff_ne.2 ht
              clear ht t0 t1
              go_wp2
              go_ret
              exact ⟨_, out, q + 1 + 1, rfl, HO5.out, by have := HLN.out; omega, HSH.out, by have := HQ.out; omega, HR5.out, HG5.out⟩
  · have hr' : (r == 0) = false := beq_eq_false_iff_ne.2 hr
    clear r0 r1 hr
    go_wp2_with fail
    refine (HT.out n (HN.out.1) (by have := HN.out.2; omega) _ HW2.out HO2.out HR2.out).mono ?_; rintro e W3 ⟨v, out, q, rfl, hown0, hlen, hsh, hq, hR3, hg3⟩
    have hown := own_mono hown0 HG2.out.size
    have HG3 := Lib.hid (grownBy_trans HG2.out hg3)
    have HSH := Lib.hid hsh
    have HLN := Lib.hid hlen
    have HQ := Lib.hid hq
    have HR3 := Lib.hid hR3
    clear hown0 hg3 hsh hlen hq hR3
    by_cases hl0 : out.length = 0
    · obtain ⟨a, cap, rfl, -⟩ := cmds_of_own hown
      have HO := Lib.hid hown
      have hl0' : (out.length : Int) = 0 := by omega
      clear hl0 hown
      go_wp2
      go_ret
      exact ⟨_, out, q, rfl, HO.out, by have := HLN.out; omega, HSH.out, by have := HQ.out; omega, HR3.out, HG3.out⟩
    · have hl0 : 0 < out.length := by omega
      have hl1 : (0 : Int) < out.length := by omega
      obtain ⟨g, cap, rfl, hgb, hlc, hcm⟩ := own_sliceC hown hl0
      have HB := Lib.hid (And.intro hgb (And.intro hlc hcm))
      have HO3 := Lib.hid hown
      clear hgb hlc hcm hown
      go_wp2_with fail
      refine (HPK.out q out.length (by omega) (by have := HLN.out; omega) _ (by have := HQ.out; have := HPP.out; omega) HR3.out).mono ?_; rintro e W4 ⟨k', rfl, k0, k1, hR4, hg4⟩
      obtain ⟨k, rfl⟩ := Int.eq_ofNat_of_zero_le k0
      have HK := Lib.hid (show k < out.length by omega)
      have HO4 := Lib.hid (own_reader HO3.out HLT.out hg4)
      clear k0 k1
      go_wp2_with fail
      refine (HPK.out (q + 1) 14 (by omega) (by omega) _ (by have := HQ.out; have := HPP.out; omega) hR4).mono ?_; rintro e W5 ⟨tt, rfl, t0, t1, hR5, hg5⟩
      have HO5 := Lib.hid (own_reader HO4.out HLT.out hg5)
      have HG5 := Lib.hid (grownBy_trans HG3.out (grownBy_trans hg4 hg5))
      have HR5 := Lib.hid hR5
      obtain ⟨x, hx⟩ : ∃ x, out[k]? = some x := ⟨_, List.getElem?_eq_getElem HK.out⟩
      have HX := Lib.hid hx
      have hkl : (k : Int) < out.length := by have := HK.out; omega
      have HVB := Lib.hid (fun k (e : (Value.slice (some ⟨g, 0, none⟩) out.length cap).ownBlock = some k) => (HO5.out.lt k e).1)
      clear hx hg4 hg5 hR4 hR5 hl0
      by_cases ht : tt = 0
      · subst ht
        clear t0 t1
        go_wp2_with fail
        refine (HC.out (q + 1 + 1) _ (by have := HQ.out; have := HPP.out; omega) HR5.out).mono ?_; rintro e W6 ⟨k6, v6, q6, rfl, -, -, -, -, hq6, hR6, hg6⟩
        have HO6 := Lib.hid (own_reader HO5.out HLT.out hg6)
        have HG6 := Lib.hid (grownBy_trans HG5.out hg6)
        have HR6 := Lib.hid hR6
        have HQ6 := Lib.hid hq6
        obtain ⟨-, -, -, x3, x4⟩ := flatC_get out k x HX.out
        have c3 : W6.cell? ⟨g, k * 5 + 3, none⟩ = some (.int .i64 x.tk) := by rw [HO6.out.cellAt _ (by have := HK.out; omega)]; exact x3
        have c4 : W6.cell? ⟨g, k * 5 + 4, none⟩ = some (.int .i64 x.tv) := by rw [HO6.out.cellAt _ (by have := HK.out; omega)]; exact x4
        have z3 := HO6.out.frozenAt (k * 5 + 3)
        have z4 := HO6.out.frozenAt (k * 5 + 4)
        unfold con
        clear hq6 hR6 hg6 x3 x4
        go_wp2
        go_ret
        exact ⟨_, out.set k ⟨x.p, x.fk, x.fv, k6, v6⟩, q6, rfl, own_setTo HO6.out HX.out k6 v6, by rw [List.length_set]; have := HLN.out; omega, shortC_set HSH.out (show x.p.size ≤ 66 from HSH.out.at HX.out), by have := HQ.out; have := HQ6.out; omega,
          (HR6.out.setNew _ _ (by have := HLE.out; have := HB.out.1; show N0 ≤ g; omega)).setNew _ _ (by have := HLE.out; have := HB.out.1; show N0 ≤ g; omega), grownBy_setCell_new (grownBy_setCell_new HG6.out _ _ HB.out.1) _ _ HB.out.1⟩
      · have ht0 : (tt == 0) = false := beq_eq_false_iff_ne.2 ht
        clear ht
        by_cases ht : tt = 1
        · subst ht
          clear t0 t1
          have hk2 : (k : Int) ≤ cap := by have := HK.out; have := HB.out.2.1; omega
          have hk0 : (0 : Int) ≤ k := by omega
          have hk3 : (k : Int) + 1 ≤ out.length := by omega
          have hlc2 : (out.length : Int) ≤ cap := by have := HB.out.2.1; omega
          obtain ⟨m, hm⟩ : ∃ m, m = k + 1 := ⟨_, rfl⟩
          have hwr : IntKind.i64.wrap ((k : Int) + 1) = (m : Int) := (IntWalk.i64_in _ (by have := HLN.out; omega)).trans (by omega)
          have hm0 : (0 : Int) ≤ m := by omega
          have hm1 : (m : Int) ≤ out.length := by omega
          have hm2 : (m : Int) ≤ cap := by omega
          have hmm : m ≤ out.length := by omega
          have HM := Lib.hid (And.intro hm hmm)
          have HTK := Lib.hid (show W5.drew.ownsRow W.heap.size 32 5 (.slice (some ⟨g, 0, none⟩) k cap) k (flatC (out.take k)) by
            have := own_takeC HO5.out k (by have := HK.out; omega)
            rw [show (out.take k).length = k by rw [List.length_take]; have := HK.out; omega] at this
            exact this)
          have HFL := Lib.hid (show (flatC (out.drop m)).length = (out.length - m) * 5 by rw [flatC_length, List.length_drop])
          have HMX := Lib.hid (show k + (out.length - m) ≤ maxLen ∧ (k + (out.length - m)) * 48 ≤ 140737488355328 by unfold maxLen; have := HLN.out; have := HK.out; omega)
          have HBS := Lib.hid (show W.heap.size ≤ W5.drew.heap.size from HG5.out.size)
          have HSB := Lib.hid (show ShortC 66 (out.take k ++ out.drop m) from shortC_part HSH.out (fun y hy => by
            rcases List.mem_append.1 hy with h | h
            · exact List.mem_of_mem_take h
            · exact List.mem_of_mem_drop h))
          have HLB := Lib.hid (show (out.take k ++ out.drop m).length = k + (out.length - m) by rw [List.length_append, List.length_take, List.length_drop]; have := HK.out; omega)
          clear hm hmm
          have HVK := Lib.hid (fun k' (e : (Value.slice (some ⟨g, 0, none⟩) k cap).ownBlock = some k') => show W.heap.size ≤ k' by cases e; exact HB.out.1)
          by_cases hcap : cap = m
          · subst hcap
            have HCEL := Lib.hid (cmds_cells (show CmdsAt W5.drew (some ⟨g, 0, none⟩) (out.length - cap) (out.drop cap) from own_tailC HO5.out cap HM.out.2 0 (.inr (by have h1 := HB.out.2.1; have h2 := HM.out.2; omega))))
            have HG0 : Hid (W5.drew.grownBy W5.drew (some g)) := ⟨rfl, rfl, rfl, Nat.le_refl _, fun _ _ _ => rfl⟩
            go_upto_region 11 with (fail)
            refine wp_region_held_drew (S := (fun w' => W5.drew.grownBy w' (some g))) (by kernel_rfl) HG0.out (fun hH => ?_)
            refine wpAnyH_take (i := 0) (oi := _) (v := ?_) rfl (by kernel_rfl) (by kernel_rfl) (by kernel_rfl) (fun _ _ _ h => h) (Or.inl ⟨by rfl, ?_⟩) (by assumption) ?_
            rotate_left
            · (intro w hSw; (try dsimp only at hSw); go_simp; try with_reducible rfl)
            try simp only [Act.put, List.getElem_toArray, List.getElem_cons_zero, List.setIfInBounds_toArray, List.set_cons_zero, List.set_cons_succ]
            refine wpAnyH_take (i := 1) (oi := _) (v := ?_) rfl (by kernel_rfl) (by kernel_rfl) (by kernel_rfl) (fun _ _ _ h => h) (Or.inl ⟨by rfl, ?_⟩) (by assumption) ?_
            rotate_left
            · (intro w hSw; (try dsimp only at hSw); go_simp; try with_reducible rfl)
            try simp only [Act.put, List.getElem_toArray, List.getElem_cons_zero, List.getElem_cons_succ, List.setIfInBounds_toArray, List.set_cons_zero, List.set_cons_succ]
            refine wpAnyH_take (i := 2) (oi := _) (v := ?_) rfl (by kernel_rfl) (by kernel_rfl) (by kernel_rfl) (fun _ _ _ h => h) (Or.inl ⟨by rfl, ?_⟩) (by assumption) ?_
            rotate_left
            · (intro w hSw; (try dsimp only at hSw); go_simp; try with_reducible rfl)
            try simp only [Act.put, List.getElem_toArray, List.getElem_cons_zero, List.getElem_cons_succ, List.setIfInBounds_toArray, List.set_cons_zero, List.set_cons_succ]
            refine wpAnyH_take (i := 3) (oi := _) (v := ?_) rfl (by kernel_rfl) (by kernel_rfl) (by kernel_rfl) (fun _ _ _ h => h) (Or.inl ⟨by rfl, ?_⟩) (by assumption) ?_
            rotate_left
            · (intro w hSw; (try dsimp only at hSw); go_simp; try with_reducible rfl)
            try simp only [Act.put, List.getElem_toArray, List.getElem_cons_zero, List.getElem_cons_succ, List.setIfInBounds_toArray, List.set_cons_zero, List.set_cons_succ]
            refine wpAnyH_take (i := 4) (oi := _) (v := ?_) rfl (by kernel_rfl) (by kernel_rfl) (by kernel_rfl) (fun _ _ _ h => h) (Or.inl ⟨by rfl, ?_⟩) (by assumption) ?_
            rotate_left
            · (intro w hSw; (try dsimp only at hSw); go_simp; try with_reducible rfl)
            try simp only [Act.put, List.getElem_toArray, List.getElem_cons_zero, List.getElem_cons_succ, List.setIfInBounds_toArray, List.set_cons_zero, List.set_cons_succ]
            refine wpAnyH_take (i := 5) (oi := _) (v := ?_) rfl (by kernel_rfl) (by kernel_rfl) (by kernel_rfl) (fun _ _ _ h => h) (Or.inl ⟨by rfl, ?_⟩) (by assumption) ?_
            rotate_left
            · (intro w hSw; (try dsimp only at hSw); go_simp; try with_reducible rfl)
            try simp only [Act.put, List.getElem_toArray, List.getElem_cons_zero, List.getElem_cons_succ, List.setIfInBounds_toArray, List.set_cons_zero, List.set_cons_succ]
            refine wpAnyH_take (i := 6) (oi := _) (v := ?_) rfl (by kernel_rfl) (by kernel_rfl) (by kernel_rfl) (fun _ _ _ h => h) (Or.inl ⟨by rfl, ?_⟩) (by assumption) ?_
            rotate_left
            · (intro w hSw; (try dsimp only at hSw); go_simp; try with_reducible rfl)
            try simp only [Act.put, List.getElem_toArray, List.getElem_cons_zero, List.getElem_cons_succ, List.setIfInBounds_toArray, List.set_cons_zero, List.set_cons_succ]
            refine wpAnyH_ready (rs := [7]) (by kernel_rfl) (by simp) ?_
            refine AllReadyH.cons rfl (fun K hK => ?_) (AllReadyH.nil)
            rw [if_pos (by rfl)]
            refine wp_append_own _ _ _ 23 rfl W.heap.size 32 i0 (.agg #[.string ⟨#[]⟩, .int .i64 0, .int .i64 0, .int .i64 0, .int .i64 0]) 5 48 Try.underlying23 hi hz0 hz1 hz2 rfl (by decide) (.slice (some ⟨g, 0, none⟩) k cap) k (flatC (out.take k)) rfl HTK.out ⟨g, 0, none⟩ (out.length - cap) 0 (flatC (out.drop cap)) rfl HFL.out HCEL.out (flatC_cell1 _) HMX.out.1 HMX.out.2 HBS.out ?_
            intro v4 w4 ho4 hg4 hn4
            refine hK.out _ _ hg4 (fun hHeld => ?_)
            try simp only [Act.put, List.getElem_toArray, List.getElem_cons_zero, List.getElem_cons_succ, List.setIfInBounds_toArray, List.set_cons_zero, List.set_cons_succ]
            refine wpAnyH_take (i := 8) (oi := _) (v := ?_) rfl (by kernel_rfl) (by kernel_rfl) (by kernel_rfl) (fun _ _ _ h => h) (Or.inl ⟨by rfl, ?_⟩) (by assumption) ?_
            rotate_left
            · (intro w hSw; (try dsimp only at hSw); go_simp; try with_reducible rfl)
            try simp only [Act.put, List.getElem_toArray, List.getElem_cons_zero, List.getElem_cons_succ, List.setIfInBounds_toArray, List.set_cons_zero, List.set_cons_succ]
            refine wpAnyH_done (by kernel_rfl) ?_ _
            have hown4 : w4.ownsRow W.heap.size 32 5 v4 (out.take k ++ out.drop cap).length (flatC (out.take k ++ out.drop cap)) := by rw [HLB.out, flatC_append]; exact ho4
            have hg4' : W5.grownBy w4 (some g) := grownBy_trans (⟨rfl, rfl, rfl, Nat.le_refl _, fun _ _ _ => rfl⟩ : W5.grownBy W5.drew (some g)) hg4
            all_goals (try go_wp2)
            go_ret
            exact ⟨_, out.take k ++ out.drop cap, q + 1 + 1, rfl, hown4, by rw [HLB.out]; have := HLN.out; have := HM.out.1; have := HM.out.2; have := HK.out; omega, HSB.out, by have := HQ.out; omega, push_reader (v := .slice (some ⟨g, 0, none⟩) k cap) HVK.out HLE.out HR5.out hg4', push_grown (v := .slice (some ⟨g, 0, none⟩) k cap) HVK.out HG5.out hg4'⟩
          · have HCEL := Lib.hid (cmds_cells (show CmdsAt W5.drew (some ⟨g, m * 5, none⟩) (out.length - m) (out.drop m) from own_tailC HO5.out m HM.out.2 (m * 5) (.inl rfl)))
            have HG0 : Hid (W5.drew.grownBy W5.drew (some g)) := ⟨rfl, rfl, rfl, Nat.le_refl _, fun _ _ _ => rfl⟩
            go_upto_region 11 with (fail)
            refine wp_region_held_drew (S := (fun w' => W5.drew.grownBy w' (some g))) (by kernel_rfl) HG0.out (fun hH => ?_)
            refine wpAnyH_take (i := 0) (oi := _) (v := ?_) rfl (by kernel_rfl) (by kernel_rfl) (by kernel_rfl) (fun _ _ _ h => h) (Or.inl ⟨by rfl, ?_⟩) (by assumption) ?_
            rotate_left
            · (intro w hSw; (try dsimp only at hSw); go_simp; try with_reducible rfl)
            try simp only [Act.put, List.getElem_toArray, List.getElem_cons_zero, List.setIfInBounds_toArray, List.set_cons_zero, List.set_cons_succ]
            refine wpAnyH_take (i := 1) (oi := _) (v := ?_) rfl (by kernel_rfl) (by kernel_rfl) (by kernel_rfl) (fun _ _ _ h => h) (Or.inl ⟨by rfl, ?_⟩) (by assumption) ?_
            rotate_left
            · (intro w hSw; (try dsimp only at hSw); go_simp; try with_reducible rfl)
            try simp only [Act.put, List.getElem_toArray, List.getElem_cons_zero, List.getElem_cons_succ, List.setIfInBounds_toArray, List.set_cons_zero, List.set_cons_succ]
            refine wpAnyH_take (i := 2) (oi := _) (v := ?_) rfl (by kernel_rfl) (by kernel_rfl) (by kernel_rfl) (fun _ _ _ h => h) (Or.inl ⟨by rfl, ?_⟩) (by assumption) ?_
            rotate_left
            · (intro w hSw; (try dsimp only at hSw); go_simp; try with_reducible rfl)
            try simp only [Act.put, List.getElem_toArray, List.getElem_cons_zero, List.getElem_cons_succ, List.setIfInBounds_toArray, List.set_cons_zero, List.set_cons_succ]
            refine wpAnyH_take (i := 3) (oi := _) (v := ?_) rfl (by kernel_rfl) (by kernel_rfl) (by kernel_rfl) (fun _ _ _ h => h) (Or.inl ⟨by rfl, ?_⟩) (by assumption) ?_
            rotate_left
            · (intro w hSw; (try dsimp only at hSw); go_simp; try with_reducible rfl)
            try simp only [Act.put, List.getElem_toArray, List.getElem_cons_zero, List.getElem_cons_succ, List.setIfInBounds_toArray, List.set_cons_zero, List.set_cons_succ]
            refine wpAnyH_take (i := 4) (oi := _) (v := ?_) rfl (by kernel_rfl) (by kernel_rfl) (by kernel_rfl) (fun _ _ _ h => h) (Or.inl ⟨by rfl, ?_⟩) (by assumption) ?_
            rotate_left
            · (intro w hSw; (try dsimp only at hSw); go_simp; try with_reducible rfl)
            try simp only [Act.put, List.getElem_toArray, List.getElem_cons_zero, List.getElem_cons_succ, List.setIfInBounds_toArray, List.set_cons_zero, List.set_cons_succ]
            refine wpAnyH_take (i := 5) (oi := _) (v := ?_) rfl (by kernel_rfl) (by kernel_rfl) (by kernel_rfl) (fun _ _ _ h => h) (Or.inl ⟨by rfl, ?_⟩) (by assumption) ?_
            rotate_left
            · (intro w hSw; (try dsimp only at hSw); go_simp; try with_reducible rfl)
            try simp only [Act.put, List.getElem_toArray, List.getElem_cons_zero, List.getElem_cons_succ, List.setIfInBounds_toArray, List.set_cons_zero, List.set_cons_succ]
            refine wpAnyH_take (i := 6) (oi := _) (v := ?_) rfl (by kernel_rfl) (by kernel_rfl) (by kernel_rfl) (fun _ _ _ h => h) (Or.inl ⟨by rfl, ?_⟩) (by assumption) ?_
            rotate_left
            · (intro w hSw; (try dsimp only at hSw); go_simp; try with_reducible rfl)
            try simp only [Act.put, List.getElem_toArray, List.getElem_cons_zero, List.getElem_cons_succ, List.setIfInBounds_toArray, List.set_cons_zero, List.set_cons_succ]
            refine wpAnyH_ready (rs := [7]) (by kernel_rfl) (by simp) ?_
            refine AllReadyH.cons rfl (fun K hK => ?_) (AllReadyH.nil)
            rw [if_pos (by rfl)]
            refine wp_append_own _ _ _ 23 rfl W.heap.size 32 i0 (.agg #[.string ⟨#[]⟩, .int .i64 0, .int .i64 0, .int .i64 0, .int .i64 0]) 5 48 Try.underlying23 hi hz0 hz1 hz2 rfl (by decide) (.slice (some ⟨g, 0, none⟩) k cap) k (flatC (out.take k)) rfl HTK.out ⟨g, m * 5, none⟩ (out.length - m) (cap - m) (flatC (out.drop m)) rfl HFL.out HCEL.out (flatC_cell1 _) HMX.out.1 HMX.out.2 HBS.out ?_
            intro v4 w4 ho4 hg4 hn4
            refine hK.out _ _ hg4 (fun hHeld => ?_)
            try simp only [Act.put, List.getElem_toArray, List.getElem_cons_zero, List.getElem_cons_succ, List.setIfInBounds_toArray, List.set_cons_zero, List.set_cons_succ]
            refine wpAnyH_take (i := 8) (oi := _) (v := ?_) rfl (by kernel_rfl) (by kernel_rfl) (by kernel_rfl) (fun _ _ _ h => h) (Or.inl ⟨by rfl, ?_⟩) (by assumption) ?_
            rotate_left
            · (intro w hSw; (try dsimp only at hSw); go_simp; try with_reducible rfl)
            try simp only [Act.put, List.getElem_toArray, List.getElem_cons_zero, List.getElem_cons_succ, List.setIfInBounds_toArray, List.set_cons_zero, List.set_cons_succ]
            refine wpAnyH_done (by kernel_rfl) ?_ _
            have hown4 : w4.ownsRow W.heap.size 32 5 v4 (out.take k ++ out.drop m).length (flatC (out.take k ++ out.drop m)) := by rw [HLB.out, flatC_append]; exact ho4
            have hg4' : W5.grownBy w4 (some g) := grownBy_trans (⟨rfl, rfl, rfl, Nat.le_refl _, fun _ _ _ => rfl⟩ : W5.grownBy W5.drew (some g)) hg4
            all_goals (try go_wp2)
            go_ret
            exact ⟨_, out.take k ++ out.drop m, q + 1 + 1, rfl, hown4, by rw [HLB.out]; have := HLN.out; have := HM.out.1; have := HM.out.2; have := HK.out; omega, HSB.out, by have := HQ.out; omega, push_reader (v := .slice (some ⟨g, 0, none⟩) k cap) HVK.out HLE.out HR5.out hg4', push_grown (v := .slice (some ⟨g, 0, none⟩) k cap) HVK.out HG5.out hg4'⟩
        · have ht1 : (tt == 1) = false := beq_eq_false_iff_ne.2 ht
          clear ht
          by_cases ht : tt = 2
          · subst ht
            clear t0 t1
            obtain ⟨x0, x1, x2, x3, x4⟩ := flatC_get out k x HX.out
            have c0 : W5.cell? ⟨g, k * 5, none⟩ = some (.string x.p) := by rw [HO5.out.cellAt _ (by have := HK.out; omega)]; exact x0
            have c1 : W5.cell? ⟨g, k * 5 + 1, none⟩ = some (.int .i64 x.fk) := by rw [HO5.out.cellAt _ (by have := HK.out; omega)]; exact x1
            have c2 : W5.cell? ⟨g, k * 5 + 2, none⟩ = some (.int .i64 x.fv) := by rw [HO5.out.cellAt _ (by have := HK.out; omega)]; exact x2
            have c3 : W5.cell? ⟨g, k * 5 + 3, none⟩ = some (.int .i64 x.tk) := by rw [HO5.out.cellAt _ (by have := HK.out; omega)]; exact x3
            have c4 : W5.cell? ⟨g, k * 5 + 4, none⟩ = some (.int .i64 x.tv) := by rw [HO5.out.cellAt _ (by have := HK.out; omega)]; exact x4
            clear x0 x1 x2 x3 x4
            go_wp2_with (at_builtin; refine wpList_append_cmds rfl _ _ rfl W.heap.size _ out rfl (HO5.out.alloc _) _ _ _ [x] rfl (cmds_lit W5 x) (by have := HLN.out; simp; omega) (by have := HG5.out.size; simp; omega) ?_; intro v' w6 ho6 hg6)
            have hg6' := grownBy_trans (grownBy_new W5 (.cells #[.string x.p, .int .i64 x.fk, .int .i64 x.fv, .int .i64 x.tk, .int .i64 x.tv] 32) _) hg6
            go_ret
            exact ⟨_, out ++ [x], q + 1 + 1, rfl, ho6, by simp; have := HLN.out; omega, shortC_push HSH.out (HSH.out.at HX.out), by have := HQ.out; omega, push_reader HVB.out HLE.out HR5.out hg6', push_grown HVB.out HG5.out hg6'⟩
          · have ht2 : (tt == 2) = false := beq_eq_false_iff_ne.2 ht
            clear ht
            by_cases ht : tt = 3
            · subst ht
              clear t0 t1
              go_wp2_with fail
              refine (HOF.out (q + 1 + 1) _ (by have := HQ.out; have := HPP.out; omega) HR5.out).mono ?_
              rintro e W6 ⟨s, hm6, rfl, hR6, hg6⟩
              have HO6 := Lib.hid (own_reader HO5.out HLT.out hg6)
              have HG6 := Lib.hid (grownBy_trans HG5.out hg6)
              have HR6 := Lib.hid hR6
              have HS6 := Lib.hid (show s.size ≤ 66 by rcases (by simpa [brokenPaths] using hm6) with rfl | rfl | rfl <;> decide)
              obtain ⟨x0, -, -, -, -⟩ := flatC_get out k x HX.out
              have c0 : W6.cell? ⟨g, k * 5, none⟩ = some (.string x.p) := by rw [HO6.out.cellAt _ (by have := HK.out; omega)]; exact x0
              have z0 := HO6.out.frozenAt (k * 5)
              clear hR6 hg6 x0 hm6
              go_wp2
              go_ret
              exact ⟨_, out.set k ⟨s, x.fk, x.fv, x.tk, x.tv⟩, _, rfl, own_setPath HO6.out HX.out s, by rw [List.length_set]; have := HLN.out; omega, shortC_set HSH.out HS6.out, by have := HQ.out; omega,
                HR6.out.setNew _ _ (by have := HLE.out; have := HB.out.1; show N0 ≤ g; omega), grownBy_setCell_new HG6.out _ _ HB.out.1⟩
            · have ht3 : (tt == 3) = false := beq_eq_false_iff_ne.2 ht
              clear ht t0 t1
              go_wp2
              go_ret
              exact ⟨_, out, q + 1 + 1, rfl, HO5.out, by have := HLN.out; omega, HSH.out, by have := HQ.out; omega, HR5.out, HG5.out⟩

end Go.Proofs.Ytkaokncaockjkaa

/-
  WALKS: drawn logs, out of the code: spec.DrawLogValid, DrawLogUndo, DrawLogApply, DrawLogFits.
-/
namespace Go.Proofs.Ytkaokncaockjkaa
open Go.RowKit
set_option linter.unusedVariables false

/-- A drawn log, out of the code. -/
def LogsPost (W : World) (e : Ending) (W' : World) : Prop :=
  ∃ (sl : Value) (cs : List Cmd), e = .returned sl ∧ W'.ownsRow W.heap.size 32 5 sl cs.length (flatC cs) ∧ cs.length ≤ 21 ∧ ShortC 66 cs ∧ Below W.heap.size W W'

set_option maxHeartbeats 1000000 in
set_option maxRecDepth 100000 in
theorem drawLogValid_c (a : Option Addr) (len cap : Nat) (zs : List Int) (W : World) (h : IsRow .u8 W a len cap zs) :
    Calls Try.prog 13 #[.slice a len cap] W (LogsPost W) := by
  have HO := Lib.hid (l6Open_c a len cap zs W h)
  have HT := Lib.hid (fun W1 hR => l91Tree_c (W.heap.size + 1) W.heap.size 0 8 (by omega) (by omega) W1 (by omega) hR)
  clear h
  go_enter Try.func13, Try.ntmps13
  go_wp2_with fail
  refine HO.out.mono ?_; rintro e W1 ⟨rfl, hR, hB⟩
  have HS1 := Lib.hid (show W.heap.size < W1.heap.size from hR.lt)
  have HB1 := Lib.hid hB
  clear hB
  go_wp2_with fail
  refine (HT.out _ hR).mono ?_; rintro e W2 ⟨sl, ns, q, rfl, hown, -, hl, hs, hq, hR2, hg⟩
  have HG2 := Lib.hid hg
  have HBK := Lib.hid (l91Broken_c (W.heap.size + 1) W.heap.size q W1.heap.size sl ns (by omega) hs HS1.out W2 hg.size hown (by omega) hR2)
  clear hown hl hs hg hR hq hR2
  go_wp2_with fail
  refine HBK.out.mono ?_; rintro e W3 ⟨v, out, q3, rfl, hown3, hl3, hs3, -, -, hg3⟩
  have B3 := Lib.hid (below_of_reader HB1.out (grownBy_trans HG2.out hg3))
  have HX := Lib.hid (And.intro hl3 (And.intro hs3 (own_mono hown3 (show W.heap.size ≤ W2.heap.size by have h1 := HS1.out; have h2 := HG2.out.size; omega))))
  clear hown3 hl3 hs3 hg3
  go_wp2
  go_ret
  exact ⟨_, out, rfl, HX.out.2.2, HX.out.1, HX.out.2.1, B3.out⟩

set_option maxHeartbeats 1000000 in
set_option maxRecDepth 100000 in
theorem drawLogUndo_c (a : Option Addr) (len cap : Nat) (zs : List Int) (W : World) (h : IsRow .u8 W a len cap zs) :
    Calls Try.prog 7 #[.slice a len cap] W (LogsPost W) := by
  have HV := Lib.hid (drawLogValid_c a len cap zs W h)
  clear h
  go_enter Try.func7, Try.ntmps7
  go_wp2_with fail
  refine HV.out.mono ?_; rintro e W1 ⟨sl, cs, rfl, h1, h2, h3, h4⟩
  have HX := Lib.hid (And.intro h1 (And.intro h2 (And.intro h3 h4)))
  clear h1 h2 h3 h4
  go_wp2
  go_ret
  exact ⟨_, cs, rfl, HX.out.1, HX.out.2.1, HX.out.2.2.1, HX.out.2.2.2⟩

/-- A drawn tree and a drawn log. -/
def TreeLogPost (W : World) (e : Ending) (W' : World) : Prop :=
  ∃ (sl : Value) (ns : List Nd) (v : Value) (cs : List Cmd), e = .returned (.tuple #[sl, v]) ∧ Drawn W W' sl ns ∧ W'.ownsRow W.heap.size 32 5 v cs.length (flatC cs) ∧ cs.length ≤ 21 ∧ ShortC 66 cs

end Go.Proofs.Ytkaokncaockjkaa

/-
  AN ARGUMENT THAT IS A LIST OF NODES, opened to its cells.
-/
namespace Go.Proofs.Ytkaokncaockjkaa
open Go.ChangeShapes Go.WideShapes Go.Deep

theorem len_three {α : Type} : ∀ {l : List α}, l.length = 3 → ∃ a b c, l = [a, b, c]
  | [a, b, c], _ => ⟨a, b, c, rfl⟩
theorem len_two {α : Type} : ∀ {l : List α}, l.length = 2 → ∃ a b, l = [a, b]
  | [a, b], _ => ⟨a, b, rfl⟩

theorem spot_none {w : World} {a : Addr} {v : Value} (h : w.cell? a = some v) : a.spot = none := by
  unfold World.cell? at h
  split at h
  · split at h
    · cases h
    · rename_i hs; simpa using hs
  · cases h

section
variable {H : Type} {enc : TypeId × Value → H} {w : World} {base : Nat} {spare : Nat → Bool} {held : Bool}

end

end Go.Proofs.Ytkaokncaockjkaa
