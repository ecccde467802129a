/-
  WALKS: contents: impl.contentOf, impl.ContentValid, spec.l6In, spec.ContentValid.
-/
import Derived.Test.YtmmnihgnejndjaaDoorRk
namespace Go.Proofs.YtmmnihgnejndjaaDoor
open Go.RowKit
set_option linter.unusedVariables false

/-- A content as a value. -/
abbrev con (k v : Int) : Value := .agg #[.int .i64 k, .int .i64 v]

/-- What a content stands for, and whether it is one. -/
def conOf (k v : Int) : Value × Bool :=
  if k = 0 ∧ v = 0 then (.iface 52 (.agg #[]), true)
  else if k = 1 ∧ v = 0 then (.iface 53 (.agg #[]), true)
  else if k = 2 ∧ 0 ≤ v ∧ v ≤ 99 then (.iface 55 (.agg #[.int .i64 v]), true)
  else (.nilIface, false)

def validB (k v : Int) : Bool := decide (v = 0 ∧ (k = 0 ∨ k = 1) ∨ k = 2 ∧ 0 ≤ v ∧ v ≤ 99)

theorem conOf_valid (k v : Int) : (conOf k v).2 = validB k v := by
  unfold conOf validB
  split
  · rename_i h; simp [h]
  · split
    · rename_i h; simp [h]
    · split
      · rename_i h; simp [h]
      · rename_i h1 h2 h3
        symm
        apply decide_eq_false
        rintro (⟨h, h4 | h4⟩ | h)
        · exact h1 ⟨h4, h⟩
        · exact h2 ⟨h4, h⟩
        · exact h3 h

def ConPost (k v : Int) (w : World) (e : Ending) (w' : World) : Prop :=
  e = .returned (.tuple #[(conOf k v).1, .bool (conOf k v).2]) ∧ Below w.heap.size w w'

theorem con_post (k v : Int) (w : World) (r : Value × Bool) (h : conOf k v = r) (t : TypeId) : ConPost k v w (.returned (.tuple #[r.1, .bool r.2])) (w.alloc (.cells #[.int .i64 k, .int .i64 v] t)) := by
  subst h; exact ⟨rfl, below_box _ _⟩

set_option maxHeartbeats 400000 in
theorem contentOf_c (k v : Int) (w : World) : Calls Tryd.prog 17 #[con k v] w (ConPost k v w) := by
  unfold con
  by_cases h0 : k = 0
  · subst h0
    by_cases hv : v = 0
    · subst hv
      go_enter Tryd.func17, Tryd.ntmps17
      go_wp2
      go_ret2
      exact con_post _ _ _ (_, _) rfl _
    · have H := Lib.hid (show conOf 0 v = (.nilIface, false) by unfold conOf; simp [hv])
      go_enter Tryd.func17, Tryd.ntmps17
      go_wp2
      go_ret2
      exact con_post _ _ _ (_, _) H.out _
  · by_cases h1 : k = 1
    · subst h1
      clear h0
      by_cases hv : v = 0
      · subst hv
        go_enter Tryd.func17, Tryd.ntmps17
        go_wp2
        go_ret2
        exact con_post _ _ _ (_, _) rfl _
      · have H := Lib.hid (show conOf 1 v = (.nilIface, false) by unfold conOf; simp [hv])
        go_enter Tryd.func17, Tryd.ntmps17
        go_wp2
        go_ret2
        exact con_post _ _ _ (_, _) H.out _
    · by_cases h2 : k = 2
      · subst h2
        clear h0 h1
        by_cases hv : 0 ≤ v
        · by_cases hw : v ≤ 99
          · have H := Lib.hid (show conOf 2 v = (.iface 55 (.agg #[.int .i64 v]), true) by unfold conOf; simp [hv, hw])
            go_enter Tryd.func17, Tryd.ntmps17
            go_wp2
            go_ret2
            exact con_post _ _ _ (_, _) H.out _
          · have H := Lib.hid (show conOf 2 v = (.nilIface, false) by unfold conOf; simp [hw])
            have hw' : 99 < v := by omega
            clear hw
            go_enter Tryd.func17, Tryd.ntmps17
            go_wp2
            go_ret2
            exact con_post _ _ _ (_, _) H.out _
        · have H := Lib.hid (show conOf 2 v = (.nilIface, false) by unfold conOf; simp [hv])
          have hv' : v < 0 := by omega
          clear hv
          go_enter Tryd.func17, Tryd.ntmps17
          go_wp2
          go_ret2
          exact con_post _ _ _ (_, _) H.out _
      · have H := Lib.hid (show conOf k v = (.nilIface, false) by unfold conOf; simp [h0, h1, h2])
        go_enter Tryd.func17, Tryd.ntmps17
        go_wp2
        go_ret2
        exact con_post _ _ _ (_, _) H.out _

/-- A bool, and nothing that was there has turned. -/
def BoolPost (b : Bool) (w : World) (e : Ending) (w' : World) : Prop := e = .returned (.bool b) ∧ Below w.heap.size w w'
/-- A content, and nothing that was there has turned. -/
def ConRet (k v : Int) (w : World) (e : Ending) (w' : World) : Prop := e = .returned (con k v) ∧ Below w.heap.size w w'

set_option maxHeartbeats 400000 in
theorem implValid_c (k v : Int) (w : World) : Calls Tryd.prog 11 #[con k v] w (BoolPost (validB k v) w) := by
  have H := Lib.hid (fun w => contentOf_c k v w)
  have HV := Lib.hid (conOf_valid k v)
  unfold con at H ⊢
  go_enter Tryd.func11, Tryd.ntmps11
  go_wp2_with fail
  refine (H.out _).mono ?_
  rintro e W1 ⟨rfl, hb⟩
  rw [HV.out]
  go_wp2
  go_ret
  exact ⟨rfl, below_next (below_box _ _) hb⟩

theorem bool_post {a b : Bool} (w : World) (o : Obj) (h : a = b) : BoolPost b w (.returned (.bool a)) (w.alloc o) := ⟨by rw [h], below_box _ _⟩

set_option maxHeartbeats 400000 in
theorem specValid_c (k v : Int) (w : World) : Calls Tryd.prog 18 #[con k v] w (BoolPost (validB k v) w) := by
  unfold con
  by_cases hv : v = 0
  · subst hv
    by_cases h0 : k = 0
    · subst h0
      go_enter Tryd.func18, Tryd.ntmps18
      go_wp2
      go_ret
      exact bool_post _ _ rfl
    · by_cases h1 : k = 1
      · subst h1
        go_enter Tryd.func18, Tryd.ntmps18
        go_wp2
        go_ret
        exact bool_post _ _ rfl
      · have b0 : (k == 0) = false := beq_eq_false_iff_ne.2 h0
        have b1 : (k == 1) = false := beq_eq_false_iff_ne.2 h1
        by_cases h2 : k = 2
        · subst h2
          go_enter Tryd.func18, Tryd.ntmps18
          go_wp2
          go_ret
          exact bool_post _ _ rfl
        · have H := Lib.hid (show false = validB k 0 by simp [validB, h0, h1, h2])
          have b2 : (k == 2) = false := beq_eq_false_iff_ne.2 h2
          clear h0 h1 h2
          go_enter Tryd.func18, Tryd.ntmps18
          go_wp2
          go_ret
          exact bool_post _ _ H.out
  · have bv : (v == 0) = false := beq_eq_false_iff_ne.2 hv
    by_cases h2 : k = 2
    · subst h2
      have H := Lib.hid (show decide (0 ≤ v ∧ v ≤ 99) = validB 2 v by simp [validB])
      by_cases h0 : 0 ≤ v
      · by_cases h9 : v ≤ 99
        · have H := Lib.hid (show true = validB 2 v by simp [validB, h0, h9])
          have d0 : decide (0 ≤ v) = true := decide_eq_true h0
          have d9 : decide (v ≤ 99) = true := decide_eq_true h9
          clear hv h0 h9
          go_enter Tryd.func18, Tryd.ntmps18
          go_wp2
          go_ret
          exact bool_post _ _ H.out
        · have H := Lib.hid (show false = validB 2 v by simp [validB, hv, h9])
          have d0 : decide (0 ≤ v) = true := decide_eq_true h0
          have d9 : decide (v ≤ 99) = false := decide_eq_false h9
          clear hv h0 h9
          go_enter Tryd.func18, Tryd.ntmps18
          go_wp2
          go_ret
          exact bool_post _ _ H.out
      · have H := Lib.hid (show false = validB 2 v by simp [validB, hv, h0])
        have d0 : decide (0 ≤ v) = false := decide_eq_false h0
        clear hv h0
        go_enter Tryd.func18, Tryd.ntmps18
        go_wp2
        go_ret
        exact bool_post _ _ H.out
    · have H := Lib.hid (show false = validB k v by simp [validB, hv, h2])
      have b2 : (k == 2) = false := beq_eq_false_iff_ne.2 h2
      clear hv h2
      go_enter Tryd.func18, Tryd.ntmps18
      go_wp2
      go_ret
      exact bool_post _ _ H.out

end Go.Proofs.YtmmnihgnejndjaaDoor
