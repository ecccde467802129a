/-
  No cell of these rows narrows 'for every input' (looked for: loops, veiled, ifaces, maps, wideKeys, modest, calm, conditions, laid).
  DERIVED. THE GIVEN ROWS OF THIS SEAT. 4 by the template 'for every input the law returns true; each argument reads behind the call as it read before'; 0 by the template 'total and deterministic' (their statements: YtkaokncaockjkaaTotals.lean).
  GIVEN WITH THE SEED: the statements are not yours to turn. If you find one false, say at which input.
  Laid BY PROGRAM, IN A SANDBOX (cutbox-rows.mjs): the forced cells as the released guide's own fill.sh prints them over the translation 4ba5b47f7946d914… (all of the seat's roots in one cut). By AI agents, Wed Nov 11 2026. No macro, syntax, notation, axiom, sorry.
-/
import Derived.Test.YtkaokncaockjkaaChecked
import GoSem.Claim
import GoSem.ClaimJoined
import GoSem.ClaimMapViews
import Derived.JoinedTies
import Derived.KernelRfl
namespace Go.Proofs.Ytkaokncaockjkaa
/- THE CELL 'sum', in the pinned program and in every row, IS THE sha256 OF THE DUMP (.gsa) THAT YtkaokncaockjkaaProg.lean LOADS. Nothing in Lean hashes anything: it is a label: what it is worth is what the hold of that sum in a sandbox is worth. -/
noncomputable def Try.pinned : Pinned := { name := "ytkaokncaockjkaa", sum := "4ba5b47f7946d9141799b33a0b57e9aac761d4997b779f2ba43634cb523db7fb", checked := Try.checked }
namespace Rows
def none {H : Type} : Left H := { results := [], args := [] }

/-- 'laws.FnLogUndoTwice': WHATEVER THE INPUT: true; the input reads as it did. -/
def fnLogUndoTwiceSpec : ChangeSpec := { name := "fnLogUndoTwice", fn := fun _ => fun
  | [d] => { results := [.lit (.bool true)], args := [d] }
  | _ => none }
def fnLogUndoTwiceRow : OpenClaim := { program := "ytkaokncaockjkaa", sum := "4ba5b47f7946d9141799b33a0b57e9aac761d4997b779f2ba43634cb523db7fb", func := "loop.example/filereconciler/laws.FnLogUndoTwice", spec := "fnLogUndoTwice", inPlace := ["internal/bytealg.IndexByteString", "internal/bytealg.IndexString"], unfollowed := true, recurses := true, named := ["internal/bytealg.MaxLen"], apart := false }
def FnLogUndoTwiceSaid : Prop := fnLogUndoTwiceRow.holds Try.pinned (OpenSpec.ofChange fnLogUndoTwiceSpec)

/-- ITS FALSE NEIGHBOUR: 'it returns false'. Refute it at one input. -/
def fnLogUndoTwiceWrong : ChangeSpec := { name := "fnLogUndoTwice", fn := fun _ => fun
  | [d] => { results := [.lit (.bool false)], args := [d] }
  | _ => none }
def FnLogUndoTwiceWrongFalsely : Prop := fnLogUndoTwiceRow.holds Try.pinned (OpenSpec.ofChange fnLogUndoTwiceWrong)

/-- 'laws.FnLogPart': WHATEVER THE INPUT: true; the input reads as it did. -/
def fnLogPartSpec : ChangeSpec := { name := "fnLogPart", fn := fun _ => fun
  | [d1, d2] => { results := [.lit (.bool true)], args := [d1, d2] }
  | _ => none }
def fnLogPartRow : OpenClaim := { program := "ytkaokncaockjkaa", sum := "4ba5b47f7946d9141799b33a0b57e9aac761d4997b779f2ba43634cb523db7fb", func := "loop.example/filereconciler/laws.FnLogPart", spec := "fnLogPart", inPlace := ["internal/bytealg.IndexByteString", "internal/bytealg.IndexString"], unfollowed := true, recurses := true, named := ["internal/bytealg.MaxLen"], apart := false }
def FnLogPartSaid : Prop := fnLogPartRow.holds Try.pinned (OpenSpec.ofChange fnLogPartSpec)

/-- ITS FALSE NEIGHBOUR: 'it returns false'. Refute it at one input. -/
def fnLogPartWrong : ChangeSpec := { name := "fnLogPart", fn := fun _ => fun
  | [d1, d2] => { results := [.lit (.bool false)], args := [d1, d2] }
  | _ => none }
def FnLogPartWrongFalsely : Prop := fnLogPartRow.holds Try.pinned (OpenSpec.ofChange fnLogPartWrong)

/-- 'laws.FnExactLogValid': WHATEVER THE INPUT: true; the input reads as it did. -/
def fnExactLogValidSpec : ChangeSpec := { name := "fnExactLogValid", fn := fun _ => fun
  | [d] => { results := [.lit (.bool true)], args := [d] }
  | _ => none }
def fnExactLogValidRow : OpenClaim := { program := "ytkaokncaockjkaa", sum := "4ba5b47f7946d9141799b33a0b57e9aac761d4997b779f2ba43634cb523db7fb", func := "loop.example/filereconciler/laws.FnExactLogValid", spec := "fnExactLogValid", inPlace := ["internal/bytealg.IndexByteString", "internal/bytealg.IndexString"], unfollowed := true, recurses := true, named := ["internal/bytealg.MaxLen"], apart := false }
def FnExactLogValidSaid : Prop := fnExactLogValidRow.holds Try.pinned (OpenSpec.ofChange fnExactLogValidSpec)

/-- ITS FALSE NEIGHBOUR: 'it returns false'. Refute it at one input. -/
def fnExactLogValidWrong : ChangeSpec := { name := "fnExactLogValid", fn := fun _ => fun
  | [d] => { results := [.lit (.bool false)], args := [d] }
  | _ => none }
def FnExactLogValidWrongFalsely : Prop := fnExactLogValidRow.holds Try.pinned (OpenSpec.ofChange fnExactLogValidWrong)

/-- 'laws.FnExactLogUndo': WHATEVER THE INPUT: true; the input reads as it did. -/
def fnExactLogUndoSpec : ChangeSpec := { name := "fnExactLogUndo", fn := fun _ => fun
  | [d] => { results := [.lit (.bool true)], args := [d] }
  | _ => none }
def fnExactLogUndoRow : OpenClaim := { program := "ytkaokncaockjkaa", sum := "4ba5b47f7946d9141799b33a0b57e9aac761d4997b779f2ba43634cb523db7fb", func := "loop.example/filereconciler/laws.FnExactLogUndo", spec := "fnExactLogUndo", inPlace := ["internal/bytealg.IndexByteString", "internal/bytealg.IndexString"], unfollowed := true, recurses := true, named := ["internal/bytealg.MaxLen"], apart := false }
def FnExactLogUndoSaid : Prop := fnExactLogUndoRow.holds Try.pinned (OpenSpec.ofChange fnExactLogUndoSpec)

/-- ITS FALSE NEIGHBOUR: 'it returns false'. Refute it at one input. -/
def fnExactLogUndoWrong : ChangeSpec := { name := "fnExactLogUndo", fn := fun _ => fun
  | [d] => { results := [.lit (.bool false)], args := [d] }
  | _ => none }
def FnExactLogUndoWrongFalsely : Prop := fnExactLogUndoRow.holds Try.pinned (OpenSpec.ofChange fnExactLogUndoWrong)

/- THE SECOND FORM. 'bulk': how many values and letters a reading holds, each counted each time it is reached (what is shared counts as often as it is met; a slice's spare places count too). A statement '..UptoSaid' is the law's where the arguments, and the package variables that the reading takes, are together of bulk at most 1048576: NARROWER than '..Said'. Prove '..Said' where nothing that the law and all that it calls make is longer than what came in: it says more and counts as full. Else prove '..UptoSaid'. A law counts once. -/
mutual
def uptoBulk {H : Type} : DataW H → Nat
  | .lit (.string bytes) => bytes.length + 1
  | .lit _ => 1
  | .nil => 1
  | .ptr d => uptoBulk d + 1
  | .slice elems spare => uptoBulkAll elems + uptoBulkAll spare + 1
  | .agg parts => uptoBulkAll parts + 1
  | .iface _ d => uptoBulk d + 1
  | .map entries => uptoBulkEntries entries + 1
  | .held _ => 1
def uptoBulkAll {H : Type} : List (DataW H) → Nat
  | [] => 0
  | d :: r => uptoBulk d + uptoBulkAll r
def uptoBulkEntries {H : Type} : List (Lit × DataW H) → Nat
  | [] => 0
  | x :: r => uptoBulkEntry x + uptoBulkEntries r
def uptoBulkEntry {H : Type} : Lit × DataW H → Nat
  | (.string bytes, d) => bytes.length + uptoBulk d + 1
  | (_, d) => uptoBulk d + 1
 end
def uptoSmall : (H : Type) → List (DataW H) → Bool := fun _ ds => decide (uptoBulkAll ds ≤ 1048576)
def OpenSpec.upto (s : _root_.Go.ChangeSpec) : _root_.Go.OpenSpec := { _root_.Go.OpenSpec.ofChange s with cond := some uptoSmall }

/-- 'laws.FnLogUndoTwice', WHERE WHAT IT READS IS OF BULK AT MOST 1048576: true; the input reads as it did. -/
def fnLogUndoTwiceUptoRow : OpenClaim := { program := "ytkaokncaockjkaa", sum := "4ba5b47f7946d9141799b33a0b57e9aac761d4997b779f2ba43634cb523db7fb", func := "loop.example/filereconciler/laws.FnLogUndoTwice", spec := "fnLogUndoTwice", inPlace := ["internal/bytealg.IndexByteString", "internal/bytealg.IndexString"], unfollowed := true, recurses := true, named := ["internal/bytealg.MaxLen"], apart := false, narrowed := true }
def FnLogUndoTwiceUptoSaid : Prop := fnLogUndoTwiceUptoRow.holds Try.pinned (OpenSpec.upto fnLogUndoTwiceSpec)

/-- 'laws.FnLogPart', WHERE WHAT IT READS IS OF BULK AT MOST 1048576: true; the input reads as it did. -/
def fnLogPartUptoRow : OpenClaim := { program := "ytkaokncaockjkaa", sum := "4ba5b47f7946d9141799b33a0b57e9aac761d4997b779f2ba43634cb523db7fb", func := "loop.example/filereconciler/laws.FnLogPart", spec := "fnLogPart", inPlace := ["internal/bytealg.IndexByteString", "internal/bytealg.IndexString"], unfollowed := true, recurses := true, named := ["internal/bytealg.MaxLen"], apart := false, narrowed := true }
def FnLogPartUptoSaid : Prop := fnLogPartUptoRow.holds Try.pinned (OpenSpec.upto fnLogPartSpec)

/-- 'laws.FnExactLogValid', WHERE WHAT IT READS IS OF BULK AT MOST 1048576: true; the input reads as it did. -/
def fnExactLogValidUptoRow : OpenClaim := { program := "ytkaokncaockjkaa", sum := "4ba5b47f7946d9141799b33a0b57e9aac761d4997b779f2ba43634cb523db7fb", func := "loop.example/filereconciler/laws.FnExactLogValid", spec := "fnExactLogValid", inPlace := ["internal/bytealg.IndexByteString", "internal/bytealg.IndexString"], unfollowed := true, recurses := true, named := ["internal/bytealg.MaxLen"], apart := false, narrowed := true }
def FnExactLogValidUptoSaid : Prop := fnExactLogValidUptoRow.holds Try.pinned (OpenSpec.upto fnExactLogValidSpec)

/-- 'laws.FnExactLogUndo', WHERE WHAT IT READS IS OF BULK AT MOST 1048576: true; the input reads as it did. -/
def fnExactLogUndoUptoRow : OpenClaim := { program := "ytkaokncaockjkaa", sum := "4ba5b47f7946d9141799b33a0b57e9aac761d4997b779f2ba43634cb523db7fb", func := "loop.example/filereconciler/laws.FnExactLogUndo", spec := "fnExactLogUndo", inPlace := ["internal/bytealg.IndexByteString", "internal/bytealg.IndexString"], unfollowed := true, recurses := true, named := ["internal/bytealg.MaxLen"], apart := false, narrowed := true }
def FnExactLogUndoUptoSaid : Prop := fnExactLogUndoUptoRow.holds Try.pinned (OpenSpec.upto fnExactLogUndoSpec)

end Rows
end Go.Proofs.Ytkaokncaockjkaa
