/-
  No cell of these rows narrows 'for every input' (looked for: loops, veiled, ifaces, maps, wideKeys, modest, calm, conditions, laid).
  DERIVED. THE GIVEN ROWS OF THIS SEAT. 5 by the template 'for every input the law returns true; each argument reads behind the call as it read before'; 0 by the template 'total and deterministic' (their statements: YtnmpbocnbcokeaaTotals.lean).
  GIVEN WITH THE SEED: the statements are not yours to turn. If you find one false, say at which input.
  Laid BY PROGRAM, IN A SANDBOX (cutbox-rows.mjs): the forced cells as the released guide's own fill.sh prints them over the translation 39cdf9e0101e76f1… (all of the seat's roots in one cut). By AI agents, Wed Nov 11 2026. No macro, syntax, notation, axiom, sorry.
-/
import Derived.Test.YtnmpbocnbcokeaaChecked
import GoSem.Claim
import GoSem.ClaimJoined
import GoSem.ClaimMapViews
import Derived.JoinedTies
import Derived.KernelRfl
namespace Go.Proofs.Ytnmpbocnbcokeaa
/- THE CELL 'sum', in the pinned program and in every row, IS THE sha256 OF THE DUMP (.gsa) THAT YtnmpbocnbcokeaaProg.lean LOADS. Nothing in Lean hashes anything: it is a label: what it is worth is what the hold of that sum in a sandbox is worth. -/
noncomputable def Try.pinned : Pinned := { name := "ytnmpbocnbcokeaa", sum := "39cdf9e0101e76f1a76d1c2d4a1b93b721cdbaff740d2bce273cbbf83474ba16", checked := Try.checked }
namespace Rows
def none {H : Type} : Left H := { results := [], args := [] }

/-- 'laws.FnUndoTwice': WHATEVER THE INPUT: true; the input reads as it did. -/
def fnUndoTwiceSpec : ChangeSpec := { name := "fnUndoTwice", fn := fun _ => fun
  | [d] => { results := [.lit (.bool true)], args := [d] }
  | _ => none }
def fnUndoTwiceRow : OpenClaim := { program := "ytnmpbocnbcokeaa", sum := "39cdf9e0101e76f1a76d1c2d4a1b93b721cdbaff740d2bce273cbbf83474ba16", func := "loop.example/filereconciler/laws.FnUndoTwice", spec := "fnUndoTwice", inPlace := ["internal/bytealg.IndexByteString", "internal/bytealg.IndexString"], unfollowed := true, recurses := true, named := ["internal/bytealg.MaxLen"], apart := false }
def FnUndoTwiceSaid : Prop := fnUndoTwiceRow.holds Try.pinned (OpenSpec.ofChange fnUndoTwiceSpec)

/-- ITS FALSE NEIGHBOUR: 'it returns false'. Refute it at one input. -/
def fnUndoTwiceWrong : ChangeSpec := { name := "fnUndoTwice", fn := fun _ => fun
  | [d] => { results := [.lit (.bool false)], args := [d] }
  | _ => none }
def FnUndoTwiceWrongFalsely : Prop := fnUndoTwiceRow.holds Try.pinned (OpenSpec.ofChange fnUndoTwiceWrong)

/-- 'laws.FnCommandSame': WHATEVER THE INPUT: true; the input reads as it did. -/
def fnCommandSameSpec : ChangeSpec := { name := "fnCommandSame", fn := fun _ => fun
  | [d] => { results := [.lit (.bool true)], args := [d] }
  | _ => none }
def fnCommandSameRow : OpenClaim := { program := "ytnmpbocnbcokeaa", sum := "39cdf9e0101e76f1a76d1c2d4a1b93b721cdbaff740d2bce273cbbf83474ba16", func := "loop.example/filereconciler/laws.FnCommandSame", spec := "fnCommandSame", inPlace := ["internal/bytealg.IndexByteString", "internal/bytealg.IndexString"], unfollowed := true, recurses := true, named := ["internal/bytealg.MaxLen"], apart := false }
def FnCommandSameSaid : Prop := fnCommandSameRow.holds Try.pinned (OpenSpec.ofChange fnCommandSameSpec)

/-- ITS FALSE NEIGHBOUR: 'it returns false'. Refute it at one input. -/
def fnCommandSameWrong : ChangeSpec := { name := "fnCommandSame", fn := fun _ => fun
  | [d] => { results := [.lit (.bool false)], args := [d] }
  | _ => none }
def FnCommandSameWrongFalsely : Prop := fnCommandSameRow.holds Try.pinned (OpenSpec.ofChange fnCommandSameWrong)

/-- 'laws.FnExactCommandValid': WHATEVER THE INPUT: true; the input reads as it did. -/
def fnExactCommandValidSpec : ChangeSpec := { name := "fnExactCommandValid", fn := fun _ => fun
  | [d] => { results := [.lit (.bool true)], args := [d] }
  | _ => none }
def fnExactCommandValidRow : OpenClaim := { program := "ytnmpbocnbcokeaa", sum := "39cdf9e0101e76f1a76d1c2d4a1b93b721cdbaff740d2bce273cbbf83474ba16", func := "loop.example/filereconciler/laws.FnExactCommandValid", spec := "fnExactCommandValid", inPlace := ["internal/bytealg.IndexByteString", "internal/bytealg.IndexString"], unfollowed := true, recurses := true, named := ["internal/bytealg.MaxLen"], apart := false }
def FnExactCommandValidSaid : Prop := fnExactCommandValidRow.holds Try.pinned (OpenSpec.ofChange fnExactCommandValidSpec)

/-- ITS FALSE NEIGHBOUR: 'it returns false'. Refute it at one input. -/
def fnExactCommandValidWrong : ChangeSpec := { name := "fnExactCommandValid", fn := fun _ => fun
  | [d] => { results := [.lit (.bool false)], args := [d] }
  | _ => none }
def FnExactCommandValidWrongFalsely : Prop := fnExactCommandValidRow.holds Try.pinned (OpenSpec.ofChange fnExactCommandValidWrong)

/-- 'laws.FnExactCommandUndo': WHATEVER THE INPUT: true; the input reads as it did. -/
def fnExactCommandUndoSpec : ChangeSpec := { name := "fnExactCommandUndo", fn := fun _ => fun
  | [d] => { results := [.lit (.bool true)], args := [d] }
  | _ => none }
def fnExactCommandUndoRow : OpenClaim := { program := "ytnmpbocnbcokeaa", sum := "39cdf9e0101e76f1a76d1c2d4a1b93b721cdbaff740d2bce273cbbf83474ba16", func := "loop.example/filereconciler/laws.FnExactCommandUndo", spec := "fnExactCommandUndo", inPlace := ["internal/bytealg.IndexByteString", "internal/bytealg.IndexString"], unfollowed := true, recurses := true, named := ["internal/bytealg.MaxLen"], apart := false }
def FnExactCommandUndoSaid : Prop := fnExactCommandUndoRow.holds Try.pinned (OpenSpec.ofChange fnExactCommandUndoSpec)

/-- ITS FALSE NEIGHBOUR: 'it returns false'. Refute it at one input. -/
def fnExactCommandUndoWrong : ChangeSpec := { name := "fnExactCommandUndo", fn := fun _ => fun
  | [d] => { results := [.lit (.bool false)], args := [d] }
  | _ => none }
def FnExactCommandUndoWrongFalsely : Prop := fnExactCommandUndoRow.holds Try.pinned (OpenSpec.ofChange fnExactCommandUndoWrong)

/-- 'laws.FnExactCommandText': WHATEVER THE INPUT: true; the input reads as it did. -/
def fnExactCommandTextSpec : ChangeSpec := { name := "fnExactCommandText", fn := fun _ => fun
  | [d] => { results := [.lit (.bool true)], args := [d] }
  | _ => none }
def fnExactCommandTextRow : OpenClaim := { program := "ytnmpbocnbcokeaa", sum := "39cdf9e0101e76f1a76d1c2d4a1b93b721cdbaff740d2bce273cbbf83474ba16", func := "loop.example/filereconciler/laws.FnExactCommandText", spec := "fnExactCommandText", inPlace := ["internal/bytealg.IndexByteString", "internal/bytealg.IndexString"], unfollowed := true, recurses := true, named := ["internal/bytealg.MaxLen"], apart := false }
def FnExactCommandTextSaid : Prop := fnExactCommandTextRow.holds Try.pinned (OpenSpec.ofChange fnExactCommandTextSpec)

/-- ITS FALSE NEIGHBOUR: 'it returns false'. Refute it at one input. -/
def fnExactCommandTextWrong : ChangeSpec := { name := "fnExactCommandText", fn := fun _ => fun
  | [d] => { results := [.lit (.bool false)], args := [d] }
  | _ => none }
def FnExactCommandTextWrongFalsely : Prop := fnExactCommandTextRow.holds Try.pinned (OpenSpec.ofChange fnExactCommandTextWrong)

/- THE SECOND FORM. 'bulk': how many values and letters a reading holds, each counted each time it is reached (what is shared counts as often as it is met; a slice's spare places count too). A statement '..UptoSaid' is the law's where the arguments, and the package variables that the reading takes, are together of bulk at most 1048576: NARROWER than '..Said'. Prove '..Said' where nothing that the law and all that it calls make is longer than what came in: it says more and counts as full. Else prove '..UptoSaid'. A law counts once. -/
mutual
def uptoBulk {H : Type} : DataW H → Nat
  | .lit (.string bytes) => bytes.length + 1
  | .lit _ => 1
  | .nil => 1
  | .ptr d => uptoBulk d + 1
  | .slice elems spare => uptoBulkAll elems + uptoBulkAll spare + 1
  | .agg parts => uptoBulkAll parts + 1
  | .iface _ d => uptoBulk d + 1
  | .map entries => uptoBulkEntries entries + 1
  | .held _ => 1
def uptoBulkAll {H : Type} : List (DataW H) → Nat
  | [] => 0
  | d :: r => uptoBulk d + uptoBulkAll r
def uptoBulkEntries {H : Type} : List (Lit × DataW H) → Nat
  | [] => 0
  | x :: r => uptoBulkEntry x + uptoBulkEntries r
def uptoBulkEntry {H : Type} : Lit × DataW H → Nat
  | (.string bytes, d) => bytes.length + uptoBulk d + 1
  | (_, d) => uptoBulk d + 1
 end
def uptoSmall : (H : Type) → List (DataW H) → Bool := fun _ ds => decide (uptoBulkAll ds ≤ 1048576)
def OpenSpec.upto (s : _root_.Go.ChangeSpec) : _root_.Go.OpenSpec := { _root_.Go.OpenSpec.ofChange s with cond := some uptoSmall }

/-- 'laws.FnUndoTwice', WHERE WHAT IT READS IS OF BULK AT MOST 1048576: true; the input reads as it did. -/
def fnUndoTwiceUptoRow : OpenClaim := { program := "ytnmpbocnbcokeaa", sum := "39cdf9e0101e76f1a76d1c2d4a1b93b721cdbaff740d2bce273cbbf83474ba16", func := "loop.example/filereconciler/laws.FnUndoTwice", spec := "fnUndoTwice", inPlace := ["internal/bytealg.IndexByteString", "internal/bytealg.IndexString"], unfollowed := true, recurses := true, named := ["internal/bytealg.MaxLen"], apart := false, narrowed := true }
def FnUndoTwiceUptoSaid : Prop := fnUndoTwiceUptoRow.holds Try.pinned (OpenSpec.upto fnUndoTwiceSpec)

/-- 'laws.FnCommandSame', WHERE WHAT IT READS IS OF BULK AT MOST 1048576: true; the input reads as it did. -/
def fnCommandSameUptoRow : OpenClaim := { program := "ytnmpbocnbcokeaa", sum := "39cdf9e0101e76f1a76d1c2d4a1b93b721cdbaff740d2bce273cbbf83474ba16", func := "loop.example/filereconciler/laws.FnCommandSame", spec := "fnCommandSame", inPlace := ["internal/bytealg.IndexByteString", "internal/bytealg.IndexString"], unfollowed := true, recurses := true, named := ["internal/bytealg.MaxLen"], apart := false, narrowed := true }
def FnCommandSameUptoSaid : Prop := fnCommandSameUptoRow.holds Try.pinned (OpenSpec.upto fnCommandSameSpec)

/-- 'laws.FnExactCommandValid', WHERE WHAT IT READS IS OF BULK AT MOST 1048576: true; the input reads as it did. -/
def fnExactCommandValidUptoRow : OpenClaim := { program := "ytnmpbocnbcokeaa", sum := "39cdf9e0101e76f1a76d1c2d4a1b93b721cdbaff740d2bce273cbbf83474ba16", func := "loop.example/filereconciler/laws.FnExactCommandValid", spec := "fnExactCommandValid", inPlace := ["internal/bytealg.IndexByteString", "internal/bytealg.IndexString"], unfollowed := true, recurses := true, named := ["internal/bytealg.MaxLen"], apart := false, narrowed := true }
def FnExactCommandValidUptoSaid : Prop := fnExactCommandValidUptoRow.holds Try.pinned (OpenSpec.upto fnExactCommandValidSpec)

/-- 'laws.FnExactCommandUndo', WHERE WHAT IT READS IS OF BULK AT MOST 1048576: true; the input reads as it did. -/
def fnExactCommandUndoUptoRow : OpenClaim := { program := "ytnmpbocnbcokeaa", sum := "39cdf9e0101e76f1a76d1c2d4a1b93b721cdbaff740d2bce273cbbf83474ba16", func := "loop.example/filereconciler/laws.FnExactCommandUndo", spec := "fnExactCommandUndo", inPlace := ["internal/bytealg.IndexByteString", "internal/bytealg.IndexString"], unfollowed := true, recurses := true, named := ["internal/bytealg.MaxLen"], apart := false, narrowed := true }
def FnExactCommandUndoUptoSaid : Prop := fnExactCommandUndoUptoRow.holds Try.pinned (OpenSpec.upto fnExactCommandUndoSpec)

/-- 'laws.FnExactCommandText', WHERE WHAT IT READS IS OF BULK AT MOST 1048576: true; the input reads as it did. -/
def fnExactCommandTextUptoRow : OpenClaim := { program := "ytnmpbocnbcokeaa", sum := "39cdf9e0101e76f1a76d1c2d4a1b93b721cdbaff740d2bce273cbbf83474ba16", func := "loop.example/filereconciler/laws.FnExactCommandText", spec := "fnExactCommandText", inPlace := ["internal/bytealg.IndexByteString", "internal/bytealg.IndexString"], unfollowed := true, recurses := true, named := ["internal/bytealg.MaxLen"], apart := false, narrowed := true }
def FnExactCommandTextUptoSaid : Prop := fnExactCommandTextUptoRow.holds Try.pinned (OpenSpec.upto fnExactCommandTextSpec)

end Rows
end Go.Proofs.Ytnmpbocnbcokeaa
