/-
  NARROWER THAN 'FOR EVERY INPUT', by the rows' own cells (each row's printed sentence says how): FnOrderCanon: ifaces, laid · FnOrderAll: ifaces, laid.
  DERIVED. THE GIVEN ROWS OF THIS SEAT. 2 by the template 'for every input the law returns true; each argument reads behind the call as it read before'; 0 by the template 'total and deterministic' (their statements: YtpjoahddbdmbpaaGreatDoorTotals.lean).
  GIVEN WITH THE SEED: the statements are not yours to turn. If you find one false, say at which input.
  Laid BY PROGRAM, IN A SANDBOX (cutbox-rows.mjs): the forced cells as the released guide's own fill.sh prints them over the translation 3e4f0072a3d1aa74… (all of the seat's roots in one cut). By AI agents, Wed Nov 11 2026. No macro, syntax, notation, axiom, sorry.
-/
import Derived.Test.YtpjoahddbdmbpaaGreatDoorChecked
import GoSem.Claim
import GoSem.ClaimJoined
import GoSem.ClaimMapViews
import Derived.JoinedTies
import Derived.KernelRfl
namespace Go.Proofs.YtpjoahddbdmbpaaGreatDoor
/- THE CELL 'sum', in the pinned program and in every row, IS THE sha256 OF THE DUMP (.gsa) THAT YtpjoahddbdmbpaaGreatDoorProg.lean LOADS. Nothing in Lean hashes anything: it is a label: what it is worth is what the hold of that sum in a sandbox is worth. -/
noncomputable def Tryz.pinned : Pinned := { name := "ytpjoahddbdmbpaagreatdoor", sum := "3e4f0072a3d1aa74e059d0ebc351d97b378bdc1f38482e7b4f7f3c28de58f2c2", checked := Tryz.checked }
namespace Rows
def none {H : Type} : Left H := { results := [], args := [] }

/- WHAT THE LISTED PACKAGE-LEVEL VARIABLES READ AS WHEN THE CALL BEGINS. Each datum BY PROGRAM (the guide's laid-datum.mjs) off the statement by which the dump's own 'gosem.cut.vars' lays the variable. In a bare row this is a premise. The card (YtpjoahddbdmbpaaGreatDoorCards.lean) ties it to the program's text. -/
def laid_loop_example_filereconciler_impl_errInvalid {H : Type} : DataW H := .iface "*errors.errorString" (.ptr (.agg [.lit (.string [116, 104, 101, 32, 116, 114, 101, 101, 32, 111, 114, 32, 116, 104, 101, 32, 99, 111, 109, 109, 97, 110, 100, 32, 105, 115, 32, 105, 110, 118, 97, 108, 105, 100])]))
def laid_loop_example_filereconciler_impl_errBreaks {H : Type} : DataW H := .iface "*errors.errorString" (.ptr (.agg [.lit (.string [116, 104, 101, 32, 99, 111, 109, 109, 97, 110, 100, 32, 98, 114, 101, 97, 107, 115])]))

/-- 'laws.FnOrderCanon': WHATEVER THE INPUT: true; the input reads as it did. -/
def fnOrderCanonSpec : ChangeSpec := { name := "fnOrderCanon", vars := ["loop.example/filereconciler/impl.errBreaks", "loop.example/filereconciler/impl.errInvalid"], fn := fun _ => fun
  | [d, g1, g2] => { results := [.lit (.bool true)], args := [d], vars := [g1, g2] }
  | _ => none }
def fnOrderCanonRow : OpenClaim := { program := "ytpjoahddbdmbpaagreatdoor", sum := "3e4f0072a3d1aa74e059d0ebc351d97b378bdc1f38482e7b4f7f3c28de58f2c2", func := "loop.example/filereconciler/laws.FnOrderCanon", spec := "fnOrderCanon", inPlace := ["internal/bytealg.IndexByteString", "internal/bytealg.IndexString", "internal/reflectlite.TypeOf"], unfollowed := true, recurses := true, named := ["internal/bytealg.MaxLen", "loop.example/filereconciler/impl.errBreaks", "loop.example/filereconciler/impl.errInvalid"], ifaces := true, apart := false, laid := [("loop.example/filereconciler/impl.errInvalid", laid_loop_example_filereconciler_impl_errInvalid), ("loop.example/filereconciler/impl.errBreaks", laid_loop_example_filereconciler_impl_errBreaks)] }
def FnOrderCanonSaid : Prop := fnOrderCanonRow.holds Tryz.pinned (OpenSpec.ofChange fnOrderCanonSpec)

/-- ITS FALSE NEIGHBOUR: 'it returns false'. Refute it at one input. -/
def fnOrderCanonWrong : ChangeSpec := { name := "fnOrderCanon", vars := ["loop.example/filereconciler/impl.errBreaks", "loop.example/filereconciler/impl.errInvalid"], fn := fun _ => fun
  | [d, g1, g2] => { results := [.lit (.bool false)], args := [d], vars := [g1, g2] }
  | _ => none }
def FnOrderCanonWrongFalsely : Prop := fnOrderCanonRow.holds Tryz.pinned (OpenSpec.ofChange fnOrderCanonWrong)

/-- 'laws.FnOrderAll': WHATEVER THE INPUT: true; the input reads as it did. -/
def fnOrderAllSpec : ChangeSpec := { name := "fnOrderAll", vars := ["loop.example/filereconciler/impl.errBreaks", "loop.example/filereconciler/impl.errInvalid"], fn := fun _ => fun
  | [d, g1, g2] => { results := [.lit (.bool true)], args := [d], vars := [g1, g2] }
  | _ => none }
def fnOrderAllRow : OpenClaim := { program := "ytpjoahddbdmbpaagreatdoor", sum := "3e4f0072a3d1aa74e059d0ebc351d97b378bdc1f38482e7b4f7f3c28de58f2c2", func := "loop.example/filereconciler/laws.FnOrderAll", spec := "fnOrderAll", inPlace := ["internal/bytealg.IndexByteString", "internal/bytealg.IndexString", "internal/reflectlite.TypeOf"], unfollowed := true, recurses := true, named := ["internal/bytealg.MaxLen", "loop.example/filereconciler/impl.errBreaks", "loop.example/filereconciler/impl.errInvalid"], ifaces := true, apart := false, laid := [("loop.example/filereconciler/impl.errInvalid", laid_loop_example_filereconciler_impl_errInvalid), ("loop.example/filereconciler/impl.errBreaks", laid_loop_example_filereconciler_impl_errBreaks)] }
def FnOrderAllSaid : Prop := fnOrderAllRow.holds Tryz.pinned (OpenSpec.ofChange fnOrderAllSpec)

/-- ITS FALSE NEIGHBOUR: 'it returns false'. Refute it at one input. -/
def fnOrderAllWrong : ChangeSpec := { name := "fnOrderAll", vars := ["loop.example/filereconciler/impl.errBreaks", "loop.example/filereconciler/impl.errInvalid"], fn := fun _ => fun
  | [d, g1, g2] => { results := [.lit (.bool false)], args := [d], vars := [g1, g2] }
  | _ => none }
def FnOrderAllWrongFalsely : Prop := fnOrderAllRow.holds Tryz.pinned (OpenSpec.ofChange fnOrderAllWrong)

/- THE SECOND FORM. 'bulk': how many values and letters a reading holds, each counted each time it is reached (what is shared counts as often as it is met; a slice's spare places count too). A statement '..UptoSaid' is the law's where the arguments, and the package variables that the reading takes, are together of bulk at most 1048576: NARROWER than '..Said'. Prove '..Said' where nothing that the law and all that it calls make is longer than what came in: it says more and counts as full. Else prove '..UptoSaid'. A law counts once. -/
mutual
def uptoBulk {H : Type} : DataW H → Nat
  | .lit (.string bytes) => bytes.length + 1
  | .lit _ => 1
  | .nil => 1
  | .ptr d => uptoBulk d + 1
  | .slice elems spare => uptoBulkAll elems + uptoBulkAll spare + 1
  | .agg parts => uptoBulkAll parts + 1
  | .iface _ d => uptoBulk d + 1
  | .map entries => uptoBulkEntries entries + 1
  | .held _ => 1
def uptoBulkAll {H : Type} : List (DataW H) → Nat
  | [] => 0
  | d :: r => uptoBulk d + uptoBulkAll r
def uptoBulkEntries {H : Type} : List (Lit × DataW H) → Nat
  | [] => 0
  | x :: r => uptoBulkEntry x + uptoBulkEntries r
def uptoBulkEntry {H : Type} : Lit × DataW H → Nat
  | (.string bytes, d) => bytes.length + uptoBulk d + 1
  | (_, d) => uptoBulk d + 1
 end
def uptoSmall : (H : Type) → List (DataW H) → Bool := fun _ ds => decide (uptoBulkAll ds ≤ 1048576)
def OpenSpec.upto (s : _root_.Go.ChangeSpec) : _root_.Go.OpenSpec := { _root_.Go.OpenSpec.ofChange s with cond := some uptoSmall }

/-- 'laws.FnOrderCanon', WHERE WHAT IT READS IS OF BULK AT MOST 1048576: true; the input reads as it did. -/
def fnOrderCanonUptoRow : OpenClaim := { program := "ytpjoahddbdmbpaagreatdoor", sum := "3e4f0072a3d1aa74e059d0ebc351d97b378bdc1f38482e7b4f7f3c28de58f2c2", func := "loop.example/filereconciler/laws.FnOrderCanon", spec := "fnOrderCanon", inPlace := ["internal/bytealg.IndexByteString", "internal/bytealg.IndexString", "internal/reflectlite.TypeOf"], unfollowed := true, recurses := true, named := ["internal/bytealg.MaxLen", "loop.example/filereconciler/impl.errBreaks", "loop.example/filereconciler/impl.errInvalid"], ifaces := true, apart := false, laid := [("loop.example/filereconciler/impl.errInvalid", laid_loop_example_filereconciler_impl_errInvalid), ("loop.example/filereconciler/impl.errBreaks", laid_loop_example_filereconciler_impl_errBreaks)], narrowed := true }
def FnOrderCanonUptoSaid : Prop := fnOrderCanonUptoRow.holds Tryz.pinned (OpenSpec.upto fnOrderCanonSpec)

/-- 'laws.FnOrderAll', WHERE WHAT IT READS IS OF BULK AT MOST 1048576: true; the input reads as it did. -/
def fnOrderAllUptoRow : OpenClaim := { program := "ytpjoahddbdmbpaagreatdoor", sum := "3e4f0072a3d1aa74e059d0ebc351d97b378bdc1f38482e7b4f7f3c28de58f2c2", func := "loop.example/filereconciler/laws.FnOrderAll", spec := "fnOrderAll", inPlace := ["internal/bytealg.IndexByteString", "internal/bytealg.IndexString", "internal/reflectlite.TypeOf"], unfollowed := true, recurses := true, named := ["internal/bytealg.MaxLen", "loop.example/filereconciler/impl.errBreaks", "loop.example/filereconciler/impl.errInvalid"], ifaces := true, apart := false, laid := [("loop.example/filereconciler/impl.errInvalid", laid_loop_example_filereconciler_impl_errInvalid), ("loop.example/filereconciler/impl.errBreaks", laid_loop_example_filereconciler_impl_errBreaks)], narrowed := true }
def FnOrderAllUptoSaid : Prop := fnOrderAllUptoRow.holds Tryz.pinned (OpenSpec.upto fnOrderAllSpec)

end Rows
end Go.Proofs.YtpjoahddbdmbpaaGreatDoor
