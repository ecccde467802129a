/-
  NARROWER THAN 'FOR EVERY INPUT', by the rows' own cells (each row's printed sentence says how): FnKeepFits: ifaces, laid.
  DERIVED. THE GIVEN ROWS OF THIS SEAT. 1 by the template 'for every input the law returns true; each argument reads behind the call as it read before'; 0 by the template 'total and deterministic' (their statements: YtmlnakkfjecibaaGreatDoorTotals.lean).
  GIVEN WITH THE SEED: the statements are not yours to turn. If you find one false, say at which input.
  Laid BY PROGRAM, IN A SANDBOX (cutbox-rows.mjs): the forced cells as the released guide's own fill.sh prints them over the translation a1ebdce26f6b6803… (all of the seat's roots in one cut). By AI agents, Wed Nov 11 2026. No macro, syntax, notation, axiom, sorry.
-/
import Derived.Test.YtmlnakkfjecibaaGreatDoorChecked
import GoSem.Claim
import GoSem.ClaimJoined
import GoSem.ClaimMapViews
import Derived.JoinedTies
import Derived.KernelRfl
namespace Go.Proofs.YtmlnakkfjecibaaGreatDoor
/- THE CELL 'sum', in the pinned program and in every row, IS THE sha256 OF THE DUMP (.gsa) THAT YtmlnakkfjecibaaGreatDoorProg.lean LOADS. Nothing in Lean hashes anything: it is a label: what it is worth is what the hold of that sum in a sandbox is worth. -/
noncomputable def Tryz.pinned : Pinned := { name := "ytmlnakkfjecibaagreatdoor", sum := "a1ebdce26f6b68035c98e7a7f8672e3eb04e3dd76c7fe83e8ab45e5577351fad", checked := Tryz.checked }
namespace Rows
def none {H : Type} : Left H := { results := [], args := [] }

/- WHAT THE LISTED PACKAGE-LEVEL VARIABLES READ AS WHEN THE CALL BEGINS. Each datum BY PROGRAM (the guide's laid-datum.mjs) off the statement by which the dump's own 'gosem.cut.vars' lays the variable. In a bare row this is a premise. The card (YtmlnakkfjecibaaGreatDoorCards.lean) ties it to the program's text. -/
def laid_loop_example_filereconciler_impl_errInvalid {H : Type} : DataW H := .iface "*errors.errorString" (.ptr (.agg [.lit (.string [116, 104, 101, 32, 116, 114, 101, 101, 32, 111, 114, 32, 116, 104, 101, 32, 99, 111, 109, 109, 97, 110, 100, 32, 105, 115, 32, 105, 110, 118, 97, 108, 105, 100])]))
def laid_loop_example_filereconciler_impl_errBreaks {H : Type} : DataW H := .iface "*errors.errorString" (.ptr (.agg [.lit (.string [116, 104, 101, 32, 99, 111, 109, 109, 97, 110, 100, 32, 98, 114, 101, 97, 107, 115])]))

/-- 'laws.FnKeepFits': WHATEVER THE INPUT: true; the input reads as it did. -/
def fnKeepFitsSpec : ChangeSpec := { name := "fnKeepFits", vars := ["loop.example/filereconciler/impl.errBreaks", "loop.example/filereconciler/impl.errInvalid"], fn := fun _ => fun
  | [d1, d2, g1, g2] => { results := [.lit (.bool true)], args := [d1, d2], vars := [g1, g2] }
  | _ => none }
def fnKeepFitsRow : OpenClaim := { program := "ytmlnakkfjecibaagreatdoor", sum := "a1ebdce26f6b68035c98e7a7f8672e3eb04e3dd76c7fe83e8ab45e5577351fad", func := "loop.example/filereconciler/laws.FnKeepFits", spec := "fnKeepFits", inPlace := ["internal/bytealg.IndexByteString", "internal/bytealg.IndexString", "internal/reflectlite.TypeOf"], unfollowed := true, recurses := true, named := ["internal/bytealg.MaxLen", "loop.example/filereconciler/impl.errBreaks", "loop.example/filereconciler/impl.errInvalid"], ifaces := true, apart := false, laid := [("loop.example/filereconciler/impl.errInvalid", laid_loop_example_filereconciler_impl_errInvalid), ("loop.example/filereconciler/impl.errBreaks", laid_loop_example_filereconciler_impl_errBreaks)] }
def FnKeepFitsSaid : Prop := fnKeepFitsRow.holds Tryz.pinned (OpenSpec.ofChange fnKeepFitsSpec)

/-- ITS FALSE NEIGHBOUR: 'it returns false'. Refute it at one input. -/
def fnKeepFitsWrong : ChangeSpec := { name := "fnKeepFits", vars := ["loop.example/filereconciler/impl.errBreaks", "loop.example/filereconciler/impl.errInvalid"], fn := fun _ => fun
  | [d1, d2, g1, g2] => { results := [.lit (.bool false)], args := [d1, d2], vars := [g1, g2] }
  | _ => none }
def FnKeepFitsWrongFalsely : Prop := fnKeepFitsRow.holds Tryz.pinned (OpenSpec.ofChange fnKeepFitsWrong)

/- THE SECOND FORM. 'bulk': how many values and letters a reading holds, each counted each time it is reached (what is shared counts as often as it is met; a slice's spare places count too). A statement '..UptoSaid' is the law's where the arguments, and the package variables that the reading takes, are together of bulk at most 1048576: NARROWER than '..Said'. Prove '..Said' where nothing that the law and all that it calls make is longer than what came in: it says more and counts as full. Else prove '..UptoSaid'. A law counts once. -/
mutual
def uptoBulk {H : Type} : DataW H → Nat
  | .lit (.string bytes) => bytes.length + 1
  | .lit _ => 1
  | .nil => 1
  | .ptr d => uptoBulk d + 1
  | .slice elems spare => uptoBulkAll elems + uptoBulkAll spare + 1
  | .agg parts => uptoBulkAll parts + 1
  | .iface _ d => uptoBulk d + 1
  | .map entries => uptoBulkEntries entries + 1
  | .held _ => 1
def uptoBulkAll {H : Type} : List (DataW H) → Nat
  | [] => 0
  | d :: r => uptoBulk d + uptoBulkAll r
def uptoBulkEntries {H : Type} : List (Lit × DataW H) → Nat
  | [] => 0
  | x :: r => uptoBulkEntry x + uptoBulkEntries r
def uptoBulkEntry {H : Type} : Lit × DataW H → Nat
  | (.string bytes, d) => bytes.length + uptoBulk d + 1
  | (_, d) => uptoBulk d + 1
 end
def uptoSmall : (H : Type) → List (DataW H) → Bool := fun _ ds => decide (uptoBulkAll ds ≤ 1048576)
def OpenSpec.upto (s : _root_.Go.ChangeSpec) : _root_.Go.OpenSpec := { _root_.Go.OpenSpec.ofChange s with cond := some uptoSmall }

/-- 'laws.FnKeepFits', WHERE WHAT IT READS IS OF BULK AT MOST 1048576: true; the input reads as it did. -/
def fnKeepFitsUptoRow : OpenClaim := { program := "ytmlnakkfjecibaagreatdoor", sum := "a1ebdce26f6b68035c98e7a7f8672e3eb04e3dd76c7fe83e8ab45e5577351fad", func := "loop.example/filereconciler/laws.FnKeepFits", spec := "fnKeepFits", inPlace := ["internal/bytealg.IndexByteString", "internal/bytealg.IndexString", "internal/reflectlite.TypeOf"], unfollowed := true, recurses := true, named := ["internal/bytealg.MaxLen", "loop.example/filereconciler/impl.errBreaks", "loop.example/filereconciler/impl.errInvalid"], ifaces := true, apart := false, laid := [("loop.example/filereconciler/impl.errInvalid", laid_loop_example_filereconciler_impl_errInvalid), ("loop.example/filereconciler/impl.errBreaks", laid_loop_example_filereconciler_impl_errBreaks)], narrowed := true }
def FnKeepFitsUptoSaid : Prop := fnKeepFitsUptoRow.holds Tryz.pinned (OpenSpec.upto fnKeepFitsSpec)

end Rows
end Go.Proofs.YtmlnakkfjecibaaGreatDoor
