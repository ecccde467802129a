/-
  WALKS: commands of the model: spec.CommandValid.
-/
import Derived.Test.YtoipbocbgadjbaaCm
import Derived.Test.YtoipbocbgadjbaaTt
import Derived.Test.YtoipbocbgadjbaaQe
import Derived.Test.YtoipbocbgadjbaaSn
import Derived.Test.YtoipbocbgadjbaaCv
import Derived.Deep.RegionHeld3
import Derived.Deep.Cut
import Derived.StillTailTactics
namespace Go.Proofs.Ytoipbocbgadjbaa
open Go.RowKit
set_option linter.unusedVariables false

def cmdV (c : Cmd) : Value := .agg #[.string c.p, .int .i64 c.fk, .int .i64 c.fv, .int .i64 c.tk, .int .i64 c.tv]

/-- What a call leaves that ends in a command. -/
def CmdPost (c : Cmd) (W : World) (e : Ending) (w' : World) : Prop := e = .returned (cmdV c) ∧ Below W.heap.size W w'

theorem valid_parts {c : Cmd} {d b1 b2 dd : Bool} (hd : decide (1 ≤ depB c.p) = d) (h1 : validB c.fk c.fv = b1) (h2 : validB c.tk c.tv = b2) (h3 : (!sameFT c) = dd) : validC c = (d && b1 && b2 && dd) := by
  unfold validC
  rw [hd, h1, h2, h3]

set_option maxHeartbeats 2000000 in
set_option maxRecDepth 100000 in
theorem specCmdValid_c (c : Cmd) (hp : c.p.size ≤ 2097152) (W : World) : Calls Try.prog 32 #[cmdV c] W (BoolPost (validC c) W) := by
  obtain ⟨dp, hdp⟩ : ∃ dp, depB c.p = dp := ⟨_, rfl⟩
  have HD := Lib.hid (fun w => show Calls Try.prog 50 #[.string c.p] w (fun e w' => e = .returned (.int .i64 dp) ∧ Below w.heap.size w w') by rw [← hdp]; exact specDepth_c c.p hp w)
  obtain ⟨b1, h1⟩ : ∃ b, validB c.fk c.fv = b := ⟨_, rfl⟩
  obtain ⟨b2, h2⟩ : ∃ b, validB c.tk c.tv = b := ⟨_, rfl⟩
  obtain ⟨dd, h3⟩ : ∃ b, (!sameFT c) = b := ⟨_, rfl⟩
  have HF := Lib.hid (fun w => show Calls Try.prog 51 #[con c.fk c.fv] w (BoolPost b1 w) by rw [← h1]; exact specConValid_c _ _ w)
  have HT := Lib.hid (fun w => show Calls Try.prog 51 #[con c.tk c.tv] w (BoolPost b2 w) by rw [← h2]; exact specConValid_c _ _ w)
  have hne := fun w' => (conNeQ c.fk c.fv c.tk c.tv w').trans (show _ = Result.ok (Value.bool dd) w' by rw [← h3]; rfl)
  have HV := Lib.hid (valid_parts (d := decide (1 ≤ dp)) (by rw [hdp]) h1 h2 h3)
  clear h1 h2 h3 hdp
  obtain ⟨p, fk, fv, tk, tv⟩ := c
  unfold cmdV
  unfold con at HF HT
  simp only at HD HF HT hne hp ⊢
  by_cases hd : 0 < dp
  · have hdd : decide (1 ≤ dp) = true := decide_eq_true (by omega)
    rw [hdd] at HV
    clear hdd
    go_enter Try.func32, Try.ntmps32
    go_wp2_with fail
    refine (HD.out _).mono ?_
    rintro e W1 ⟨rfl, hb1⟩
    have q1 := box_cell hb1 1
    have q2 := box_cell hb1 2
    have q3 := box_cell hb1 3
    have q4 := box_cell hb1 4
    simp at q1 q2 q3 q4
    have B1 := Lib.hid (below_next (below_box W _) hb1)
    clear hb1
    go_wp2_with fail
    refine (HF.out _).mono ?_
    rintro e W2 ⟨rfl, hb2⟩
    have r1 := cell_kept hb2 q1
    have r2 := cell_kept hb2 q2
    have r3 := cell_kept hb2 q3
    have r4 := cell_kept hb2 q4
    have B2 := Lib.hid (below_next B1.out hb2)
    clear hb2 q1 q2 q3 q4
    cases b1 with
    | false =>
      clear hne
      go_wp2
      go_ret
      exact ⟨ret_bool (by rw [HV.out]; rfl), B2.out⟩
    | true =>
      go_wp2_with fail
      refine (HT.out _).mono ?_
      rintro e W3 ⟨rfl, hb3⟩
      have s1 := cell_kept hb3 r1
      have s2 := cell_kept hb3 r2
      have s3 := cell_kept hb3 r3
      have s4 := cell_kept hb3 r4
      have B3 := Lib.hid (below_next B2.out hb3)
      clear hb3 r1 r2 r3 r4
      cases b2 with
      | false =>
        clear hne
        go_wp2
        go_ret
        exact ⟨ret_bool (by rw [HV.out]; rfl), B3.out⟩
      | true =>
        go_wp2
        go_ret
        exact ⟨ret_bool (by rw [HV.out]; rfl), B3.out⟩
  · have hdd : decide (1 ≤ dp) = false := decide_eq_false (by omega)
    rw [hdd] at HV
    clear hdd hne
    go_enter Try.func32, Try.ntmps32
    go_wp2_with fail
    refine (HD.out _).mono ?_
    rintro e W1 ⟨rfl, hb1⟩
    have B1 := Lib.hid (below_next (below_box W _) hb1)
    clear hb1
    go_wp2
    go_ret
    exact ⟨ret_bool (by rw [HV.out]; rfl), B1.out⟩

theorem keepCmd {W0 w1 w2 : World} {b : Nat} {p : ByteArray} {fk fv tk tv : Int} (h : w1.cell? ⟨b, 0, none⟩ = some (.string p) ∧ w1.cell? ⟨b, 1, none⟩ = some (.int .i64 fk) ∧ w1.cell? ⟨b, 2, none⟩ = some (.int .i64 fv) ∧ w1.cell? ⟨b, 3, none⟩ = some (.int .i64 tk) ∧ w1.cell? ⟨b, 4, none⟩ = some (.int .i64 tv) ∧ Below W0.heap.size W0 w1) (hb : Below w1.heap.size w1 w2) :
    w2.cell? ⟨b, 0, none⟩ = some (.string p) ∧ w2.cell? ⟨b, 1, none⟩ = some (.int .i64 fk) ∧ w2.cell? ⟨b, 2, none⟩ = some (.int .i64 fv) ∧ w2.cell? ⟨b, 3, none⟩ = some (.int .i64 tk) ∧ w2.cell? ⟨b, 4, none⟩ = some (.int .i64 tv) ∧ Below W0.heap.size W0 w2 :=
  ⟨cell_kept hb h.1, cell_kept hb h.2.1, cell_kept hb h.2.2.1, cell_kept hb h.2.2.2.1, cell_kept hb h.2.2.2.2.1, below_next h.2.2.2.2.2 hb⟩

end Go.Proofs.Ytoipbocbgadjbaa
