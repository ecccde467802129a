/-
  NARROWER THAN 'FOR EVERY INPUT', by the rows' own cells (each row's printed sentence says how): FnRemove: ifaces, laid · FnCopy: ifaces, laid.
  DERIVED. THE GIVEN ROWS OF THIS SEAT. 2 by the template 'for every input the law returns true; each argument reads behind the call as it read before'; 0 by the template 'total and deterministic' (their statements: YtncceljffcjoiaaDoorTotals.lean).
  GIVEN WITH THE SEED: the statements are not yours to turn. If you find one false, say at which input.
  Laid BY PROGRAM, IN A SANDBOX (cutbox-rows.mjs): the forced cells as the released guide's own fill.sh prints them over the translation 33b2996dc673b6a6… (all of the seat's roots in one cut). By AI agents, Wed Nov 11 2026. No macro, syntax, notation, axiom, sorry.
-/
import Derived.Test.YtncceljffcjoiaaDoorChecked
import GoSem.Claim
import GoSem.ClaimJoined
import GoSem.ClaimMapViews
import Derived.JoinedTies
import Derived.KernelRfl
namespace Go.Proofs.YtncceljffcjoiaaDoor
/- THE CELL 'sum', in the pinned program and in every row, IS THE sha256 OF THE DUMP (.gsa) THAT YtncceljffcjoiaaDoorProg.lean LOADS. Nothing in Lean hashes anything: it is a label: what it is worth is what the hold of that sum in a sandbox is worth. -/
noncomputable def Tryd.pinned : Pinned := { name := "ytncceljffcjoiaadoor", sum := "33b2996dc673b6a6cf99acd4ed4b64dbc517d28f621ab218e269f182b5760aa1", checked := Tryd.checked }
namespace Rows
def none {H : Type} : Left H := { results := [], args := [] }

/- WHAT THE LISTED PACKAGE-LEVEL VARIABLES READ AS WHEN THE CALL BEGINS. Each datum BY PROGRAM (the guide's laid-datum.mjs) off the statement by which the dump's own 'gosem.cut.vars' lays the variable. In a bare row this is a premise. The card (YtncceljffcjoiaaDoorCards.lean) ties it to the program's text. -/
def laid_loop_example_filereconciler_impl_errInvalid {H : Type} : DataW H := .iface "*errors.errorString" (.ptr (.agg [.lit (.string [116, 104, 101, 32, 116, 114, 101, 101, 32, 111, 114, 32, 116, 104, 101, 32, 99, 111, 109, 109, 97, 110, 100, 32, 105, 115, 32, 105, 110, 118, 97, 108, 105, 100])]))
def laid_loop_example_filereconciler_impl_errBreaks {H : Type} : DataW H := .iface "*errors.errorString" (.ptr (.agg [.lit (.string [116, 104, 101, 32, 99, 111, 109, 109, 97, 110, 100, 32, 98, 114, 101, 97, 107, 115])]))

/-- 'laws.FnRemove': WHATEVER THE INPUT: true; the input reads as it did. -/
def fnRemoveSpec : ChangeSpec := { name := "fnRemove", vars := ["loop.example/filereconciler/impl.errBreaks", "loop.example/filereconciler/impl.errInvalid"], fn := fun _ => fun
  | [d, g1, g2] => { results := [.lit (.bool true)], args := [d], vars := [g1, g2] }
  | _ => none }
def fnRemoveRow : OpenClaim := { program := "ytncceljffcjoiaadoor", sum := "33b2996dc673b6a6cf99acd4ed4b64dbc517d28f621ab218e269f182b5760aa1", func := "loop.example/filereconciler/laws.FnRemove", spec := "fnRemove", inPlace := ["internal/bytealg.IndexByteString", "internal/bytealg.IndexString", "internal/reflectlite.TypeOf"], unfollowed := true, recurses := true, named := ["internal/bytealg.MaxLen", "loop.example/filereconciler/impl.errBreaks", "loop.example/filereconciler/impl.errInvalid"], ifaces := true, apart := false, laid := [("loop.example/filereconciler/impl.errInvalid", laid_loop_example_filereconciler_impl_errInvalid), ("loop.example/filereconciler/impl.errBreaks", laid_loop_example_filereconciler_impl_errBreaks)] }
def FnRemoveSaid : Prop := fnRemoveRow.holds Tryd.pinned (OpenSpec.ofChange fnRemoveSpec)

/-- ITS FALSE NEIGHBOUR: 'it returns false'. Refute it at one input. -/
def fnRemoveWrong : ChangeSpec := { name := "fnRemove", vars := ["loop.example/filereconciler/impl.errBreaks", "loop.example/filereconciler/impl.errInvalid"], fn := fun _ => fun
  | [d, g1, g2] => { results := [.lit (.bool false)], args := [d], vars := [g1, g2] }
  | _ => none }
def FnRemoveWrongFalsely : Prop := fnRemoveRow.holds Tryd.pinned (OpenSpec.ofChange fnRemoveWrong)

/-- 'laws.FnCopy': WHATEVER THE INPUT: true; the input reads as it did. -/
def fnCopySpec : ChangeSpec := { name := "fnCopy", vars := ["loop.example/filereconciler/impl.errBreaks", "loop.example/filereconciler/impl.errInvalid"], fn := fun _ => fun
  | [d, g1, g2] => { results := [.lit (.bool true)], args := [d], vars := [g1, g2] }
  | _ => none }
def fnCopyRow : OpenClaim := { program := "ytncceljffcjoiaadoor", sum := "33b2996dc673b6a6cf99acd4ed4b64dbc517d28f621ab218e269f182b5760aa1", func := "loop.example/filereconciler/laws.FnCopy", spec := "fnCopy", inPlace := ["internal/bytealg.IndexByteString", "internal/bytealg.IndexString", "internal/reflectlite.TypeOf"], unfollowed := true, recurses := true, named := ["internal/bytealg.MaxLen", "loop.example/filereconciler/impl.errBreaks", "loop.example/filereconciler/impl.errInvalid"], ifaces := true, apart := false, laid := [("loop.example/filereconciler/impl.errInvalid", laid_loop_example_filereconciler_impl_errInvalid), ("loop.example/filereconciler/impl.errBreaks", laid_loop_example_filereconciler_impl_errBreaks)] }
def FnCopySaid : Prop := fnCopyRow.holds Tryd.pinned (OpenSpec.ofChange fnCopySpec)

/-- ITS FALSE NEIGHBOUR: 'it returns false'. Refute it at one input. -/
def fnCopyWrong : ChangeSpec := { name := "fnCopy", vars := ["loop.example/filereconciler/impl.errBreaks", "loop.example/filereconciler/impl.errInvalid"], fn := fun _ => fun
  | [d, g1, g2] => { results := [.lit (.bool false)], args := [d], vars := [g1, g2] }
  | _ => none }
def FnCopyWrongFalsely : Prop := fnCopyRow.holds Tryd.pinned (OpenSpec.ofChange fnCopyWrong)

/- THE SECOND FORM. 'bulk': how many values and letters a reading holds, each counted each time it is reached (what is shared counts as often as it is met; a slice's spare places count too). A statement '..UptoSaid' is the law's where the arguments, and the package variables that the reading takes, are together of bulk at most 1048576: NARROWER than '..Said'. Prove '..Said' where nothing that the law and all that it calls make is longer than what came in: it says more and counts as full. Else prove '..UptoSaid'. A law counts once. -/
mutual
def uptoBulk {H : Type} : DataW H → Nat
  | .lit (.string bytes) => bytes.length + 1
  | .lit _ => 1
  | .nil => 1
  | .ptr d => uptoBulk d + 1
  | .slice elems spare => uptoBulkAll elems + uptoBulkAll spare + 1
  | .agg parts => uptoBulkAll parts + 1
  | .iface _ d => uptoBulk d + 1
  | .map entries => uptoBulkEntries entries + 1
  | .held _ => 1
def uptoBulkAll {H : Type} : List (DataW H) → Nat
  | [] => 0
  | d :: r => uptoBulk d + uptoBulkAll r
def uptoBulkEntries {H : Type} : List (Lit × DataW H) → Nat
  | [] => 0
  | x :: r => uptoBulkEntry x + uptoBulkEntries r
def uptoBulkEntry {H : Type} : Lit × DataW H → Nat
  | (.string bytes, d) => bytes.length + uptoBulk d + 1
  | (_, d) => uptoBulk d + 1
 end
def uptoSmall : (H : Type) → List (DataW H) → Bool := fun _ ds => decide (uptoBulkAll ds ≤ 1048576)
def OpenSpec.upto (s : _root_.Go.ChangeSpec) : _root_.Go.OpenSpec := { _root_.Go.OpenSpec.ofChange s with cond := some uptoSmall }

/-- 'laws.FnRemove', WHERE WHAT IT READS IS OF BULK AT MOST 1048576: true; the input reads as it did. -/
def fnRemoveUptoRow : OpenClaim := { program := "ytncceljffcjoiaadoor", sum := "33b2996dc673b6a6cf99acd4ed4b64dbc517d28f621ab218e269f182b5760aa1", func := "loop.example/filereconciler/laws.FnRemove", spec := "fnRemove", inPlace := ["internal/bytealg.IndexByteString", "internal/bytealg.IndexString", "internal/reflectlite.TypeOf"], unfollowed := true, recurses := true, named := ["internal/bytealg.MaxLen", "loop.example/filereconciler/impl.errBreaks", "loop.example/filereconciler/impl.errInvalid"], ifaces := true, apart := false, laid := [("loop.example/filereconciler/impl.errInvalid", laid_loop_example_filereconciler_impl_errInvalid), ("loop.example/filereconciler/impl.errBreaks", laid_loop_example_filereconciler_impl_errBreaks)], narrowed := true }
def FnRemoveUptoSaid : Prop := fnRemoveUptoRow.holds Tryd.pinned (OpenSpec.upto fnRemoveSpec)

/-- 'laws.FnCopy', WHERE WHAT IT READS IS OF BULK AT MOST 1048576: true; the input reads as it did. -/
def fnCopyUptoRow : OpenClaim := { program := "ytncceljffcjoiaadoor", sum := "33b2996dc673b6a6cf99acd4ed4b64dbc517d28f621ab218e269f182b5760aa1", func := "loop.example/filereconciler/laws.FnCopy", spec := "fnCopy", inPlace := ["internal/bytealg.IndexByteString", "internal/bytealg.IndexString", "internal/reflectlite.TypeOf"], unfollowed := true, recurses := true, named := ["internal/bytealg.MaxLen", "loop.example/filereconciler/impl.errBreaks", "loop.example/filereconciler/impl.errInvalid"], ifaces := true, apart := false, laid := [("loop.example/filereconciler/impl.errInvalid", laid_loop_example_filereconciler_impl_errInvalid), ("loop.example/filereconciler/impl.errBreaks", laid_loop_example_filereconciler_impl_errBreaks)], narrowed := true }
def FnCopyUptoSaid : Prop := fnCopyUptoRow.holds Tryd.pinned (OpenSpec.upto fnCopySpec)

end Rows
end Go.Proofs.YtncceljffcjoiaaDoor
