/-
  TEXTS OF COMMANDS; WALK: spec.CommandText.
-/
import Derived.Test.YtnmpbocnbcokeaaCx
import Derived.Test.YtnmpbocnbcokeaaTn
import Derived.Test.YtnmpbocnbcokeaaCt
namespace Go.Proofs.Ytnmpbocnbcokeaa
open Go.RowKit
set_option linter.unusedVariables false

def blB : ByteArray := ⟨#[32]⟩

/-- spec.CommandText. -/
def textC (c : Cmd) : ByteArray := if validC c = true then c.p ++ blB ++ conText c.fk c.fv ++ blB ++ conText c.tk c.tv else ⟨#[]⟩

theorem conSize_le (k v : Int) : (conText k v).size ≤ 3 := by
  unfold conText
  split
  · rename_i h
    split
    · decide
    · split
      · decide
      · rename_i h0 h1
        have h' := h
        unfold validB at h'
        simp [h0, h1] at h'
        rw [ByteArray.size_append]
        have := decB_size v.toNat (by omega)
        show 1 + _ ≤ 3
        omega
  · decide

theorem textC_bad {c : Cmd} (h : validC c = false) : textC c = ⟨#[]⟩ := if_neg (by rw [h]; decide)
theorem textC_ok {c : Cmd} (h : validC c = true) : textC c = c.p ++ ⟨#[32]⟩ ++ conText c.fk c.fv ++ ⟨#[32]⟩ ++ conText c.tk c.tv := if_pos h

theorem pathB_size {p : ByteArray} (h : 1 ≤ depB p) : p.size ≤ 8 := by
  obtain ⟨w, hw, rfl⟩ := vpB_word (vp_of_depth h)
  show (Pm.pathOf w).length ≤ 8
  unfold Pm.pathOf
  split
  · simp
  · rw [Pm.flat_length]; have := hw.1; omega

theorem textC_size (c : Cmd) : (textC c).size ≤ 16 := by
  cases h : validC c with
  | false => rw [textC_bad h]; decide
  | true =>
    have h1 := pathB_size ((validC_iff c).1 h).1
    have h2 := conSize_le c.fk c.fv
    have h3 := conSize_le c.tk c.tv
    rw [textC_ok h]
    simp only [ByteArray.size_append]
    have e : (⟨#[32]⟩ : ByteArray).size = 1 := rfl
    rw [e]
    omega

set_option maxHeartbeats 2000000 in
set_option maxRecDepth 100000 in
theorem specCmdText_c (c : Cmd) (hp : c.p.size ≤ 2097152) (W : World) : Calls Try.prog 17 #[cmdV c] W (TextPost (textC c) W) := by
  obtain ⟨vc, hvc⟩ : ∃ vc, validC c = vc := ⟨_, rfl⟩
  have HC := Lib.hid (fun W' => show Calls Try.prog 11 #[cmdV c] W' (BoolPost vc W') by rw [← hvc]; exact specCmdValid_c c hp W')
  cases vc with
  | false =>
    have HR := Lib.hid (textC_bad hvc)
    clear hvc
    unfold cmdV at HC ⊢
    obtain ⟨p, fk, fv, tk, tv⟩ := c
    simp only at HC ⊢
    go_enter Try.func17, Try.ntmps17
    go_wp2_with fail
    refine (HC.out _).mono ?_
    rintro e W1 ⟨rfl, hb1⟩
    have B1 := Lib.hid (below_next (below_box W _) hb1)
    clear hb1
    go_wp2
    go_ret
    exact ⟨ret_str HR.out.symm, B1.out⟩
  | true =>
    have HR := Lib.hid (textC_ok hvc)
    have hz0 := pathB_size ((validC_iff c).1 hvc).1
    have HT1 := Lib.hid (fun W' => show Calls Try.prog 28 #[con c.fk c.fv] W' (TextPost (conText c.fk c.fv) W') from specText_c _ _ W')
    have HT2 := Lib.hid (fun W' => show Calls Try.prog 28 #[con c.tk c.tv] W' (TextPost (conText c.tk c.tv) W') from specText_c _ _ W')
    have hz1 := conSize_le c.fk c.fv
    have hz2 := conSize_le c.tk c.tv
    clear hvc
    unfold cmdV at HC ⊢
    obtain ⟨p, fk, fv, tk, tv⟩ := c
    unfold con at HT1 HT2
    simp only at HC HT1 HT2 HR hz0 hz1 hz2 ⊢
    generalize conText fk fv = t1 at HT1 HR hz1
    generalize conText tk tv = t2 at HT2 HR hz2
    have y1 : ¬ 9223372036854775807 < p.size + 1 := by omega
    have y2 : ¬ 9223372036854775807 < p.size + 1 + t1.size := by omega
    have y3 : ¬ 9223372036854775807 < p.size + 1 + t1.size + 1 := by omega
    have y4 : ¬ 9223372036854775807 < p.size + 1 + t1.size + 1 + t2.size := by omega
    clear hz0 hz1 hz2
    go_enter Try.func17, Try.ntmps17
    go_wp2_with fail
    refine (HC.out _).mono ?_
    rintro e W1 ⟨rfl, hb1⟩
    have q0 := box_cell hb1 0
    have q1 := box_cell hb1 1
    have q2 := box_cell hb1 2
    have q3 := box_cell hb1 3
    have q4 := box_cell hb1 4
    simp at q0 q1 q2 q3 q4
    have B1 := Lib.hid (below_next (below_box W _) hb1)
    have HS0 : Hid (W1.drew.cell? ⟨W.heap.size, 0, none⟩ = some (.string p) ∧ W1.drew.cell? ⟨W.heap.size, 1, none⟩ = some (.int .i64 fk) ∧ W1.drew.cell? ⟨W.heap.size, 2, none⟩ = some (.int .i64 fv) ∧ W1.drew.cell? ⟨W.heap.size, 3, none⟩ = some (.int .i64 tk) ∧ W1.drew.cell? ⟨W.heap.size, 4, none⟩ = some (.int .i64 tv) ∧ Below W.heap.size W W1.drew) :=
      ⟨q0, q1, q2, q3, q4, B1.out.drew⟩
    clear hb1 q0 q1 q2 q3 q4
    go_upto_region 3 with (fail)
    go_region_held3 (fun w' => w'.cell? ⟨W.heap.size, 0, none⟩ = some (.string p) ∧ w'.cell? ⟨W.heap.size, 1, none⟩ = some (.int .i64 fk) ∧ w'.cell? ⟨W.heap.size, 2, none⟩ = some (.int .i64 fv) ∧ w'.cell? ⟨W.heap.size, 3, none⟩ = some (.int .i64 tk) ∧ w'.cell? ⟨W.heap.size, 4, none⟩ = some (.int .i64 tv) ∧ Below W.heap.size W w')
      (first | exact HS0.out | exact keepCmd HS0.out hb5 | exact keepCmd (keepCmd HS0.out hb5) hb6)
      (first | (go_at_call 28; (with_reducible refine (HT1.out _).mono ?_); rintro e W5 ⟨rfl, hb5⟩) | (go_at_call 28; (with_reducible refine (HT2.out _).mono ?_); rintro e W6 ⟨rfl, hb6⟩))
    rename_i hS
    have HB := Lib.hid hS.2.2.2.2.2
    clear hS
    go_wp2
    go_ret
    exact ⟨ret_str HR.out.symm, HB.out⟩

end Go.Proofs.Ytnmpbocnbcokeaa
