/-
  WALKS: contents: spec.l6In, spec.ContentValid. For any seat.
-/
import Derived.Test.YtoipbocbgadjbaaRk
import Derived.Test.YtoipbocbgadjbaaBq
namespace Go.Proofs.Ytoipbocbgadjbaa
open Go.RowKit
set_option linter.unusedVariables false

/-- A content as a value. -/
abbrev con (k v : Int) : Value := .agg #[.int .i64 k, .int .i64 v]

def validB (k v : Int) : Bool := decide (v = 0 ∧ (k = 0 ∨ k = 1) ∨ k = 2 ∧ 0 ≤ v ∧ v ≤ 99)

/-- A content, and nothing that was there has turned. -/
def ConRet (k v : Int) (w : World) (e : Ending) (w' : World) : Prop := e = .returned (con k v) ∧ Below w.heap.size w w'

theorem bool_post {a b : Bool} (w : World) (o : Obj) (h : a = b) : BoolPost b w (.returned (.bool a)) (w.alloc o) := ⟨by rw [h], below_box _ _⟩

set_option maxHeartbeats 400000 in
theorem specConValid_c (k v : Int) (w : World) : Calls Try.prog 51 #[con k v] w (BoolPost (validB k v) w) := by
  unfold con
  by_cases hv : v = 0
  · subst hv
    by_cases h0 : k = 0
    · subst h0
      go_enter Try.func51, Try.ntmps51
      go_wp2
      go_ret
      exact bool_post _ _ rfl
    · by_cases h1 : k = 1
      · subst h1
        go_enter Try.func51, Try.ntmps51
        go_wp2
        go_ret
        exact bool_post _ _ rfl
      · have b0 : (k == 0) = false := beq_eq_false_iff_ne.2 h0
        have b1 : (k == 1) = false := beq_eq_false_iff_ne.2 h1
        by_cases h2 : k = 2
        · subst h2
          go_enter Try.func51, Try.ntmps51
          go_wp2
          go_ret
          exact bool_post _ _ rfl
        · have H := Lib.hid (show false = validB k 0 by simp [validB, h0, h1, h2])
          have b2 : (k == 2) = false := beq_eq_false_iff_ne.2 h2
          clear h0 h1 h2
          go_enter Try.func51, Try.ntmps51
          go_wp2
          go_ret
          exact bool_post _ _ H.out
  · have bv : (v == 0) = false := beq_eq_false_iff_ne.2 hv
    by_cases h2 : k = 2
    · subst h2
      have H := Lib.hid (show decide (0 ≤ v ∧ v ≤ 99) = validB 2 v by simp [validB])
      by_cases h0 : 0 ≤ v
      · by_cases h9 : v ≤ 99
        · have H := Lib.hid (show true = validB 2 v by simp [validB, h0, h9])
          have d0 : decide (0 ≤ v) = true := decide_eq_true h0
          have d9 : decide (v ≤ 99) = true := decide_eq_true h9
          clear hv h0 h9
          go_enter Try.func51, Try.ntmps51
          go_wp2
          go_ret
          exact bool_post _ _ H.out
        · have H := Lib.hid (show false = validB 2 v by simp [validB, hv, h9])
          have d0 : decide (0 ≤ v) = true := decide_eq_true h0
          have d9 : decide (v ≤ 99) = false := decide_eq_false h9
          clear hv h0 h9
          go_enter Try.func51, Try.ntmps51
          go_wp2
          go_ret
          exact bool_post _ _ H.out
      · have H := Lib.hid (show false = validB 2 v by simp [validB, hv, h0])
        have d0 : decide (0 ≤ v) = false := decide_eq_false h0
        clear hv h0
        go_enter Try.func51, Try.ntmps51
        go_wp2
        go_ret
        exact bool_post _ _ H.out
    · have H := Lib.hid (show false = validB k v by simp [validB, hv, h2])
      have b2 : (k == 2) = false := beq_eq_false_iff_ne.2 h2
      clear hv h2
      go_enter Try.func51, Try.ntmps51
      go_wp2
      go_ret
      exact bool_post _ _ H.out

end Go.Proofs.Ytoipbocbgadjbaa
