/-
  NARROWER THAN 'FOR EVERY INPUT', by the rows' own cells (each row's printed sentence says how): FnLogApply: ifaces, laid · FnLogBreak: ifaces, laid · FnLogUndo: ifaces, laid · FnLogFitsBegin: ifaces, laid · FnExactLogApply: ifaces, laid · FnExactLogFits: ifaces, laid.
  DERIVED. THE GIVEN ROWS OF THIS SEAT. 6 by the template 'for every input the law returns true; each argument reads behind the call as it read before'; 0 by the template 'total and deterministic' (their statements: YtkaokncaockjkaaDoorTotals.lean).
  GIVEN WITH THE SEED: the statements are not yours to turn. If you find one false, say at which input.
  Laid BY PROGRAM, IN A SANDBOX (cutbox-rows.mjs): the forced cells as the released guide's own fill.sh prints them over the translation 4035ee486123033b… (all of the seat's roots in one cut). By AI agents, Wed Nov 11 2026. No macro, syntax, notation, axiom, sorry.
-/
import Derived.Test.YtkaokncaockjkaaDoorChecked
import GoSem.Claim
import GoSem.ClaimJoined
import GoSem.ClaimMapViews
import Derived.JoinedTies
import Derived.KernelRfl
namespace Go.Proofs.YtkaokncaockjkaaDoor
/- THE CELL 'sum', in the pinned program and in every row, IS THE sha256 OF THE DUMP (.gsa) THAT YtkaokncaockjkaaDoorProg.lean LOADS. Nothing in Lean hashes anything: it is a label: what it is worth is what the hold of that sum in a sandbox is worth. -/
noncomputable def Tryd.pinned : Pinned := { name := "ytkaokncaockjkaadoor", sum := "4035ee486123033b762bce3ce602e9ef663c61429b7fe335015350ab9139ff27", checked := Tryd.checked }
namespace Rows
def none {H : Type} : Left H := { results := [], args := [] }

/- WHAT THE LISTED PACKAGE-LEVEL VARIABLES READ AS WHEN THE CALL BEGINS. Each datum BY PROGRAM (the guide's laid-datum.mjs) off the statement by which the dump's own 'gosem.cut.vars' lays the variable. In a bare row this is a premise. The card (YtkaokncaockjkaaDoorCards.lean) ties it to the program's text. -/
def laid_loop_example_filereconciler_impl_errInvalid {H : Type} : DataW H := .iface "*errors.errorString" (.ptr (.agg [.lit (.string [116, 104, 101, 32, 116, 114, 101, 101, 32, 111, 114, 32, 116, 104, 101, 32, 99, 111, 109, 109, 97, 110, 100, 32, 105, 115, 32, 105, 110, 118, 97, 108, 105, 100])]))
def laid_loop_example_filereconciler_impl_errBreaks {H : Type} : DataW H := .iface "*errors.errorString" (.ptr (.agg [.lit (.string [116, 104, 101, 32, 99, 111, 109, 109, 97, 110, 100, 32, 98, 114, 101, 97, 107, 115])]))

/-- 'laws.FnLogApply': WHATEVER THE INPUT: true; the input reads as it did. -/
def fnLogApplySpec : ChangeSpec := { name := "fnLogApply", vars := ["loop.example/filereconciler/impl.errBreaks", "loop.example/filereconciler/impl.errInvalid"], fn := fun _ => fun
  | [d1, d2, g1, g2] => { results := [.lit (.bool true)], args := [d1, d2], vars := [g1, g2] }
  | _ => none }
def fnLogApplyRow : OpenClaim := { program := "ytkaokncaockjkaadoor", sum := "4035ee486123033b762bce3ce602e9ef663c61429b7fe335015350ab9139ff27", func := "loop.example/filereconciler/laws.FnLogApply", spec := "fnLogApply", inPlace := ["internal/bytealg.IndexByteString", "internal/bytealg.IndexString", "internal/reflectlite.TypeOf"], unfollowed := true, recurses := true, named := ["internal/bytealg.MaxLen", "loop.example/filereconciler/impl.errBreaks", "loop.example/filereconciler/impl.errInvalid"], ifaces := true, apart := false, laid := [("loop.example/filereconciler/impl.errInvalid", laid_loop_example_filereconciler_impl_errInvalid), ("loop.example/filereconciler/impl.errBreaks", laid_loop_example_filereconciler_impl_errBreaks)] }
def FnLogApplySaid : Prop := fnLogApplyRow.holds Tryd.pinned (OpenSpec.ofChange fnLogApplySpec)

/-- ITS FALSE NEIGHBOUR: 'it returns false'. Refute it at one input. -/
def fnLogApplyWrong : ChangeSpec := { name := "fnLogApply", vars := ["loop.example/filereconciler/impl.errBreaks", "loop.example/filereconciler/impl.errInvalid"], fn := fun _ => fun
  | [d1, d2, g1, g2] => { results := [.lit (.bool false)], args := [d1, d2], vars := [g1, g2] }
  | _ => none }
def FnLogApplyWrongFalsely : Prop := fnLogApplyRow.holds Tryd.pinned (OpenSpec.ofChange fnLogApplyWrong)

/-- 'laws.FnLogBreak': WHATEVER THE INPUT: true; the input reads as it did. -/
def fnLogBreakSpec : ChangeSpec := { name := "fnLogBreak", vars := ["loop.example/filereconciler/impl.errBreaks", "loop.example/filereconciler/impl.errInvalid"], fn := fun _ => fun
  | [d, g1, g2] => { results := [.lit (.bool true)], args := [d], vars := [g1, g2] }
  | _ => none }
def fnLogBreakRow : OpenClaim := { program := "ytkaokncaockjkaadoor", sum := "4035ee486123033b762bce3ce602e9ef663c61429b7fe335015350ab9139ff27", func := "loop.example/filereconciler/laws.FnLogBreak", spec := "fnLogBreak", inPlace := ["internal/bytealg.IndexByteString", "internal/bytealg.IndexString", "internal/reflectlite.TypeOf"], unfollowed := true, recurses := true, named := ["internal/bytealg.MaxLen", "loop.example/filereconciler/impl.errBreaks", "loop.example/filereconciler/impl.errInvalid"], ifaces := true, apart := false, laid := [("loop.example/filereconciler/impl.errInvalid", laid_loop_example_filereconciler_impl_errInvalid), ("loop.example/filereconciler/impl.errBreaks", laid_loop_example_filereconciler_impl_errBreaks)] }
def FnLogBreakSaid : Prop := fnLogBreakRow.holds Tryd.pinned (OpenSpec.ofChange fnLogBreakSpec)

/-- ITS FALSE NEIGHBOUR: 'it returns false'. Refute it at one input. -/
def fnLogBreakWrong : ChangeSpec := { name := "fnLogBreak", vars := ["loop.example/filereconciler/impl.errBreaks", "loop.example/filereconciler/impl.errInvalid"], fn := fun _ => fun
  | [d, g1, g2] => { results := [.lit (.bool false)], args := [d], vars := [g1, g2] }
  | _ => none }
def FnLogBreakWrongFalsely : Prop := fnLogBreakRow.holds Tryd.pinned (OpenSpec.ofChange fnLogBreakWrong)

/-- 'laws.FnLogUndo': WHATEVER THE INPUT: true; the input reads as it did. -/
def fnLogUndoSpec : ChangeSpec := { name := "fnLogUndo", vars := ["loop.example/filereconciler/impl.errBreaks", "loop.example/filereconciler/impl.errInvalid"], fn := fun _ => fun
  | [d, g1, g2] => { results := [.lit (.bool true)], args := [d], vars := [g1, g2] }
  | _ => none }
def fnLogUndoRow : OpenClaim := { program := "ytkaokncaockjkaadoor", sum := "4035ee486123033b762bce3ce602e9ef663c61429b7fe335015350ab9139ff27", func := "loop.example/filereconciler/laws.FnLogUndo", spec := "fnLogUndo", inPlace := ["internal/bytealg.IndexByteString", "internal/bytealg.IndexString", "internal/reflectlite.TypeOf"], unfollowed := true, recurses := true, named := ["internal/bytealg.MaxLen", "loop.example/filereconciler/impl.errBreaks", "loop.example/filereconciler/impl.errInvalid"], ifaces := true, apart := false, laid := [("loop.example/filereconciler/impl.errInvalid", laid_loop_example_filereconciler_impl_errInvalid), ("loop.example/filereconciler/impl.errBreaks", laid_loop_example_filereconciler_impl_errBreaks)] }
def FnLogUndoSaid : Prop := fnLogUndoRow.holds Tryd.pinned (OpenSpec.ofChange fnLogUndoSpec)

/-- ITS FALSE NEIGHBOUR: 'it returns false'. Refute it at one input. -/
def fnLogUndoWrong : ChangeSpec := { name := "fnLogUndo", vars := ["loop.example/filereconciler/impl.errBreaks", "loop.example/filereconciler/impl.errInvalid"], fn := fun _ => fun
  | [d, g1, g2] => { results := [.lit (.bool false)], args := [d], vars := [g1, g2] }
  | _ => none }
def FnLogUndoWrongFalsely : Prop := fnLogUndoRow.holds Tryd.pinned (OpenSpec.ofChange fnLogUndoWrong)

/-- 'laws.FnLogFitsBegin': WHATEVER THE INPUT: true; the input reads as it did. -/
def fnLogFitsBeginSpec : ChangeSpec := { name := "fnLogFitsBegin", vars := ["loop.example/filereconciler/impl.errBreaks", "loop.example/filereconciler/impl.errInvalid"], fn := fun _ => fun
  | [d1, d2, g1, g2] => { results := [.lit (.bool true)], args := [d1, d2], vars := [g1, g2] }
  | _ => none }
def fnLogFitsBeginRow : OpenClaim := { program := "ytkaokncaockjkaadoor", sum := "4035ee486123033b762bce3ce602e9ef663c61429b7fe335015350ab9139ff27", func := "loop.example/filereconciler/laws.FnLogFitsBegin", spec := "fnLogFitsBegin", inPlace := ["internal/bytealg.IndexByteString", "internal/bytealg.IndexString", "internal/reflectlite.TypeOf"], unfollowed := true, recurses := true, named := ["internal/bytealg.MaxLen", "loop.example/filereconciler/impl.errBreaks", "loop.example/filereconciler/impl.errInvalid"], ifaces := true, apart := false, laid := [("loop.example/filereconciler/impl.errInvalid", laid_loop_example_filereconciler_impl_errInvalid), ("loop.example/filereconciler/impl.errBreaks", laid_loop_example_filereconciler_impl_errBreaks)] }
def FnLogFitsBeginSaid : Prop := fnLogFitsBeginRow.holds Tryd.pinned (OpenSpec.ofChange fnLogFitsBeginSpec)

/-- ITS FALSE NEIGHBOUR: 'it returns false'. Refute it at one input. -/
def fnLogFitsBeginWrong : ChangeSpec := { name := "fnLogFitsBegin", vars := ["loop.example/filereconciler/impl.errBreaks", "loop.example/filereconciler/impl.errInvalid"], fn := fun _ => fun
  | [d1, d2, g1, g2] => { results := [.lit (.bool false)], args := [d1, d2], vars := [g1, g2] }
  | _ => none }
def FnLogFitsBeginWrongFalsely : Prop := fnLogFitsBeginRow.holds Tryd.pinned (OpenSpec.ofChange fnLogFitsBeginWrong)

/-- 'laws.FnExactLogApply': WHATEVER THE INPUT: true; the input reads as it did. -/
def fnExactLogApplySpec : ChangeSpec := { name := "fnExactLogApply", vars := ["loop.example/filereconciler/impl.errBreaks", "loop.example/filereconciler/impl.errInvalid"], fn := fun _ => fun
  | [d1, d2, g1, g2] => { results := [.lit (.bool true)], args := [d1, d2], vars := [g1, g2] }
  | _ => none }
def fnExactLogApplyRow : OpenClaim := { program := "ytkaokncaockjkaadoor", sum := "4035ee486123033b762bce3ce602e9ef663c61429b7fe335015350ab9139ff27", func := "loop.example/filereconciler/laws.FnExactLogApply", spec := "fnExactLogApply", inPlace := ["internal/bytealg.IndexByteString", "internal/bytealg.IndexString", "internal/reflectlite.TypeOf"], unfollowed := true, recurses := true, named := ["internal/bytealg.MaxLen", "loop.example/filereconciler/impl.errBreaks", "loop.example/filereconciler/impl.errInvalid"], ifaces := true, apart := false, laid := [("loop.example/filereconciler/impl.errInvalid", laid_loop_example_filereconciler_impl_errInvalid), ("loop.example/filereconciler/impl.errBreaks", laid_loop_example_filereconciler_impl_errBreaks)] }
def FnExactLogApplySaid : Prop := fnExactLogApplyRow.holds Tryd.pinned (OpenSpec.ofChange fnExactLogApplySpec)

/-- ITS FALSE NEIGHBOUR: 'it returns false'. Refute it at one input. -/
def fnExactLogApplyWrong : ChangeSpec := { name := "fnExactLogApply", vars := ["loop.example/filereconciler/impl.errBreaks", "loop.example/filereconciler/impl.errInvalid"], fn := fun _ => fun
  | [d1, d2, g1, g2] => { results := [.lit (.bool false)], args := [d1, d2], vars := [g1, g2] }
  | _ => none }
def FnExactLogApplyWrongFalsely : Prop := fnExactLogApplyRow.holds Tryd.pinned (OpenSpec.ofChange fnExactLogApplyWrong)

/-- 'laws.FnExactLogFits': WHATEVER THE INPUT: true; the input reads as it did. -/
def fnExactLogFitsSpec : ChangeSpec := { name := "fnExactLogFits", vars := ["loop.example/filereconciler/impl.errBreaks", "loop.example/filereconciler/impl.errInvalid"], fn := fun _ => fun
  | [d1, d2, g1, g2] => { results := [.lit (.bool true)], args := [d1, d2], vars := [g1, g2] }
  | _ => none }
def fnExactLogFitsRow : OpenClaim := { program := "ytkaokncaockjkaadoor", sum := "4035ee486123033b762bce3ce602e9ef663c61429b7fe335015350ab9139ff27", func := "loop.example/filereconciler/laws.FnExactLogFits", spec := "fnExactLogFits", inPlace := ["internal/bytealg.IndexByteString", "internal/bytealg.IndexString", "internal/reflectlite.TypeOf"], unfollowed := true, recurses := true, named := ["internal/bytealg.MaxLen", "loop.example/filereconciler/impl.errBreaks", "loop.example/filereconciler/impl.errInvalid"], ifaces := true, apart := false, laid := [("loop.example/filereconciler/impl.errInvalid", laid_loop_example_filereconciler_impl_errInvalid), ("loop.example/filereconciler/impl.errBreaks", laid_loop_example_filereconciler_impl_errBreaks)] }
def FnExactLogFitsSaid : Prop := fnExactLogFitsRow.holds Tryd.pinned (OpenSpec.ofChange fnExactLogFitsSpec)

/-- ITS FALSE NEIGHBOUR: 'it returns false'. Refute it at one input. -/
def fnExactLogFitsWrong : ChangeSpec := { name := "fnExactLogFits", vars := ["loop.example/filereconciler/impl.errBreaks", "loop.example/filereconciler/impl.errInvalid"], fn := fun _ => fun
  | [d1, d2, g1, g2] => { results := [.lit (.bool false)], args := [d1, d2], vars := [g1, g2] }
  | _ => none }
def FnExactLogFitsWrongFalsely : Prop := fnExactLogFitsRow.holds Tryd.pinned (OpenSpec.ofChange fnExactLogFitsWrong)

/- THE SECOND FORM. 'bulk': how many values and letters a reading holds, each counted each time it is reached (what is shared counts as often as it is met; a slice's spare places count too). A statement '..UptoSaid' is the law's where the arguments, and the package variables that the reading takes, are together of bulk at most 1048576: NARROWER than '..Said'. Prove '..Said' where nothing that the law and all that it calls make is longer than what came in: it says more and counts as full. Else prove '..UptoSaid'. A law counts once. -/
mutual
def uptoBulk {H : Type} : DataW H → Nat
  | .lit (.string bytes) => bytes.length + 1
  | .lit _ => 1
  | .nil => 1
  | .ptr d => uptoBulk d + 1
  | .slice elems spare => uptoBulkAll elems + uptoBulkAll spare + 1
  | .agg parts => uptoBulkAll parts + 1
  | .iface _ d => uptoBulk d + 1
  | .map entries => uptoBulkEntries entries + 1
  | .held _ => 1
def uptoBulkAll {H : Type} : List (DataW H) → Nat
  | [] => 0
  | d :: r => uptoBulk d + uptoBulkAll r
def uptoBulkEntries {H : Type} : List (Lit × DataW H) → Nat
  | [] => 0
  | x :: r => uptoBulkEntry x + uptoBulkEntries r
def uptoBulkEntry {H : Type} : Lit × DataW H → Nat
  | (.string bytes, d) => bytes.length + uptoBulk d + 1
  | (_, d) => uptoBulk d + 1
 end
def uptoSmall : (H : Type) → List (DataW H) → Bool := fun _ ds => decide (uptoBulkAll ds ≤ 1048576)
def OpenSpec.upto (s : _root_.Go.ChangeSpec) : _root_.Go.OpenSpec := { _root_.Go.OpenSpec.ofChange s with cond := some uptoSmall }

/-- 'laws.FnLogApply', WHERE WHAT IT READS IS OF BULK AT MOST 1048576: true; the input reads as it did. -/
def fnLogApplyUptoRow : OpenClaim := { program := "ytkaokncaockjkaadoor", sum := "4035ee486123033b762bce3ce602e9ef663c61429b7fe335015350ab9139ff27", func := "loop.example/filereconciler/laws.FnLogApply", spec := "fnLogApply", inPlace := ["internal/bytealg.IndexByteString", "internal/bytealg.IndexString", "internal/reflectlite.TypeOf"], unfollowed := true, recurses := true, named := ["internal/bytealg.MaxLen", "loop.example/filereconciler/impl.errBreaks", "loop.example/filereconciler/impl.errInvalid"], ifaces := true, apart := false, laid := [("loop.example/filereconciler/impl.errInvalid", laid_loop_example_filereconciler_impl_errInvalid), ("loop.example/filereconciler/impl.errBreaks", laid_loop_example_filereconciler_impl_errBreaks)], narrowed := true }
def FnLogApplyUptoSaid : Prop := fnLogApplyUptoRow.holds Tryd.pinned (OpenSpec.upto fnLogApplySpec)

/-- 'laws.FnLogBreak', WHERE WHAT IT READS IS OF BULK AT MOST 1048576: true; the input reads as it did. -/
def fnLogBreakUptoRow : OpenClaim := { program := "ytkaokncaockjkaadoor", sum := "4035ee486123033b762bce3ce602e9ef663c61429b7fe335015350ab9139ff27", func := "loop.example/filereconciler/laws.FnLogBreak", spec := "fnLogBreak", inPlace := ["internal/bytealg.IndexByteString", "internal/bytealg.IndexString", "internal/reflectlite.TypeOf"], unfollowed := true, recurses := true, named := ["internal/bytealg.MaxLen", "loop.example/filereconciler/impl.errBreaks", "loop.example/filereconciler/impl.errInvalid"], ifaces := true, apart := false, laid := [("loop.example/filereconciler/impl.errInvalid", laid_loop_example_filereconciler_impl_errInvalid), ("loop.example/filereconciler/impl.errBreaks", laid_loop_example_filereconciler_impl_errBreaks)], narrowed := true }
def FnLogBreakUptoSaid : Prop := fnLogBreakUptoRow.holds Tryd.pinned (OpenSpec.upto fnLogBreakSpec)

/-- 'laws.FnLogUndo', WHERE WHAT IT READS IS OF BULK AT MOST 1048576: true; the input reads as it did. -/
def fnLogUndoUptoRow : OpenClaim := { program := "ytkaokncaockjkaadoor", sum := "4035ee486123033b762bce3ce602e9ef663c61429b7fe335015350ab9139ff27", func := "loop.example/filereconciler/laws.FnLogUndo", spec := "fnLogUndo", inPlace := ["internal/bytealg.IndexByteString", "internal/bytealg.IndexString", "internal/reflectlite.TypeOf"], unfollowed := true, recurses := true, named := ["internal/bytealg.MaxLen", "loop.example/filereconciler/impl.errBreaks", "loop.example/filereconciler/impl.errInvalid"], ifaces := true, apart := false, laid := [("loop.example/filereconciler/impl.errInvalid", laid_loop_example_filereconciler_impl_errInvalid), ("loop.example/filereconciler/impl.errBreaks", laid_loop_example_filereconciler_impl_errBreaks)], narrowed := true }
def FnLogUndoUptoSaid : Prop := fnLogUndoUptoRow.holds Tryd.pinned (OpenSpec.upto fnLogUndoSpec)

/-- 'laws.FnLogFitsBegin', WHERE WHAT IT READS IS OF BULK AT MOST 1048576: true; the input reads as it did. -/
def fnLogFitsBeginUptoRow : OpenClaim := { program := "ytkaokncaockjkaadoor", sum := "4035ee486123033b762bce3ce602e9ef663c61429b7fe335015350ab9139ff27", func := "loop.example/filereconciler/laws.FnLogFitsBegin", spec := "fnLogFitsBegin", inPlace := ["internal/bytealg.IndexByteString", "internal/bytealg.IndexString", "internal/reflectlite.TypeOf"], unfollowed := true, recurses := true, named := ["internal/bytealg.MaxLen", "loop.example/filereconciler/impl.errBreaks", "loop.example/filereconciler/impl.errInvalid"], ifaces := true, apart := false, laid := [("loop.example/filereconciler/impl.errInvalid", laid_loop_example_filereconciler_impl_errInvalid), ("loop.example/filereconciler/impl.errBreaks", laid_loop_example_filereconciler_impl_errBreaks)], narrowed := true }
def FnLogFitsBeginUptoSaid : Prop := fnLogFitsBeginUptoRow.holds Tryd.pinned (OpenSpec.upto fnLogFitsBeginSpec)

/-- 'laws.FnExactLogApply', WHERE WHAT IT READS IS OF BULK AT MOST 1048576: true; the input reads as it did. -/
def fnExactLogApplyUptoRow : OpenClaim := { program := "ytkaokncaockjkaadoor", sum := "4035ee486123033b762bce3ce602e9ef663c61429b7fe335015350ab9139ff27", func := "loop.example/filereconciler/laws.FnExactLogApply", spec := "fnExactLogApply", inPlace := ["internal/bytealg.IndexByteString", "internal/bytealg.IndexString", "internal/reflectlite.TypeOf"], unfollowed := true, recurses := true, named := ["internal/bytealg.MaxLen", "loop.example/filereconciler/impl.errBreaks", "loop.example/filereconciler/impl.errInvalid"], ifaces := true, apart := false, laid := [("loop.example/filereconciler/impl.errInvalid", laid_loop_example_filereconciler_impl_errInvalid), ("loop.example/filereconciler/impl.errBreaks", laid_loop_example_filereconciler_impl_errBreaks)], narrowed := true }
def FnExactLogApplyUptoSaid : Prop := fnExactLogApplyUptoRow.holds Tryd.pinned (OpenSpec.upto fnExactLogApplySpec)

/-- 'laws.FnExactLogFits', WHERE WHAT IT READS IS OF BULK AT MOST 1048576: true; the input reads as it did. -/
def fnExactLogFitsUptoRow : OpenClaim := { program := "ytkaokncaockjkaadoor", sum := "4035ee486123033b762bce3ce602e9ef663c61429b7fe335015350ab9139ff27", func := "loop.example/filereconciler/laws.FnExactLogFits", spec := "fnExactLogFits", inPlace := ["internal/bytealg.IndexByteString", "internal/bytealg.IndexString", "internal/reflectlite.TypeOf"], unfollowed := true, recurses := true, named := ["internal/bytealg.MaxLen", "loop.example/filereconciler/impl.errBreaks", "loop.example/filereconciler/impl.errInvalid"], ifaces := true, apart := false, laid := [("loop.example/filereconciler/impl.errInvalid", laid_loop_example_filereconciler_impl_errInvalid), ("loop.example/filereconciler/impl.errBreaks", laid_loop_example_filereconciler_impl_errBreaks)], narrowed := true }
def FnExactLogFitsUptoSaid : Prop := fnExactLogFitsUptoRow.holds Tryd.pinned (OpenSpec.upto fnExactLogFitsSpec)

end Rows
end Go.Proofs.YtkaokncaockjkaaDoor
