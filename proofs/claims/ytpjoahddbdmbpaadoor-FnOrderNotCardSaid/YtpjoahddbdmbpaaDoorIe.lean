/-
  errors.Is, for nil and for the very error asked for, made by errors.New.
-/
import Derived.LaidEql
import Derived.Stop.Asserts
import Derived.RowKitTokens
import Derived.Test.YtpjoahddbdmbpaaDoorBn
namespace Go.Proofs.YtpjoahddbdmbpaaDoor
open Go.RowKit Go.Extern.Stop Go.Stop Go.Extern

theorem reflTypeOf (v : Value) (w : World) : (Extern.ReflectliteType.typeOf #[.iface 138 v]).run Tryd.prog w = .ok (.iface 113 (.agg #[.pointer (some ⟨3, 138, none⟩)])) w := by kernel_rfl
theorem reflComparable (w : World) : (Extern.find Tryd.f105).map (fun E => (E #[.agg #[.pointer (some ⟨3, 138, none⟩)]]).run Tryd.prog w) = some (.ok (.bool true) w) := by kernel_rfl
theorem reflMethod (v : Value) (w : World) : (Go.method 277 113 v "Comparable").run Tryd.prog w = .ok (105, v) w := by kernel_rfl
theorem infoErrP : (Tryd.prog.info? 138).map (·.comparable) = some true := by kernel_rfl
theorem infoErrS : (Tryd.prog.info? 165).map (·.size) = some 1 := by kernel_rfl

set_option maxHeartbeats 1000000 in
set_option maxRecDepth 100000 in
/-- The very error that is asked for. -/
theorem isErr_same (a : Addr) (w : World) :
    Calls Tryd.prog 36 #[.iface 138 (.pointer (some a)), .iface 138 (.pointer (some a))] w fun e w' => e = .returned (.bool true) ∧ w' = w := by
  obtain ⟨i, hi, hcmp⟩ := Option.map_eq_some_iff.1 infoErrP
  obtain ⟨j, hj, hjs⟩ := Option.map_eq_some_iff.1 infoErrS
  have hT := @run_callFunc_extern Tryd.prog 54 _ Extern.ReflectliteType.typeOf Tryd.func54 (by kernel_rfl) (by kernel_rfl) (by kernel_rfl) (by kernel_rfl)
  obtain ⟨E, hE, cT⟩ := Option.map_eq_some_iff.1 (reflComparable w)
  have hC := @run_callFunc_extern Tryd.prog 105 _ E Tryd.func105 (by kernel_rfl) (by kernel_rfl) (by kernel_rfl) hE
  have tT := reflTypeOf
  have mR := reflMethod
  have heq := run_eql_iface_ptr_same (P := Tryd.prog) w a Tryd.underlying75 Tryd.underlying138 hi hcmp hj
  go_enter Tryd.func36, Tryd.ntmps36
  go_wp2
  refine wp_loop_rounds 1 ?_
  rw [rounds_succ]
  go_wp2
  go_ret
  exact ⟨rfl, rfl⟩

set_option maxHeartbeats 1000000 in
set_option maxRecDepth 100000 in
/-- No error at all. -/
theorem isErr_nil (b : Addr) (w : World) :
    Calls Tryd.prog 36 #[.nilIface, .iface 138 (.pointer (some b))] w fun e w' => e = .returned (.bool false) ∧ w' = w := by
  have hn := run_eql_iface_nil_left (P := Tryd.prog) w 138 (.pointer (some b)) Tryd.underlying75
  go_enter Tryd.func36, Tryd.ntmps36
  go_wp2
  go_ret
  exact ⟨rfl, rfl⟩

set_option maxHeartbeats 1000000 in
set_option maxRecDepth 100000 in
/-- Another error of errors.New's make. -/
theorem isErr_other (a b : Addr) (ca cb : Array Value) (ta tb : TypeId) (w : World) (hne : a ≠ b) (ha : w.heap[a.block]? = some (.cells ca ta (0, 0))) (hb : w.heap[b.block]? = some (.cells cb tb (0, 0))) :
    Calls Tryd.prog 36 #[.iface 138 (.pointer (some a)), .iface 138 (.pointer (some b))] w fun e w' => e = .returned (.bool false) ∧ w' = w := by
  obtain ⟨i, hi, hcmp⟩ := Option.map_eq_some_iff.1 infoErrP
  obtain ⟨j, hj, hjs⟩ := Option.map_eq_some_iff.1 infoErrS
  have hT := @run_callFunc_extern Tryd.prog 54 _ Extern.ReflectliteType.typeOf Tryd.func54 (by kernel_rfl) (by kernel_rfl) (by kernel_rfl) (by kernel_rfl)
  obtain ⟨E, hE, cT⟩ := Option.map_eq_some_iff.1 (reflComparable w)
  have hC := @run_callFunc_extern Tryd.prog 105 _ E Tryd.func105 (by kernel_rfl) (by kernel_rfl) (by kernel_rfl) hE
  have tT := reflTypeOf
  have mR := reflMethod
  have nE := fun (v : Value) (xT : TypeId) (w : World) => (show (Instr.typeAssert (.iface 138 v) xT 115 true).run Tryd.prog w = .ok (.tuple #[.nilIface, .bool false]) w from run_typeAssert_lacksB Tryd.underlying115 (by kernel_rfl) (by kernel_rfl) v xT w)
  have uE := fun (v : Value) (xT : TypeId) (w : World) => (show (Instr.typeAssert (.iface 138 v) xT 118 true).run Tryd.prog w = .ok (.tuple #[.nilIface, .bool false]) w from run_typeAssert_lacksB Tryd.underlying118 (by kernel_rfl) (by kernel_rfl) v xT w)
  have vE := fun (v : Value) (xT : TypeId) (w : World) => (show (Instr.typeAssert (.iface 138 v) xT 120 true).run Tryd.prog w = .ok (.tuple #[.nilIface, .bool false]) w from run_typeAssert_lacksB Tryd.underlying120 (by kernel_rfl) (by kernel_rfl) v xT w)
  have heq := run_eql_iface_ptr_other (P := Tryd.prog) w Tryd.underlying75 Tryd.underlying138 hi hcmp hj (by rw [hjs]; decide) hne ha hb
  go_enter Tryd.func36, Tryd.ntmps36
  go_wp2
  refine wp_loop_rounds 1 ?_
  rw [rounds_succ]
  go_wp2
  go_ret
  exact ⟨rfl, rfl⟩

end Go.Proofs.YtpjoahddbdmbpaaDoor
