/-
  No cell of these rows narrows 'for every input' (looked for: loops, veiled, ifaces, maps, wideKeys, modest, calm, conditions, laid).
  DERIVED. THE GIVEN ROWS OF THIS SEAT. 13 by the template 'for every input the law returns true; each argument reads behind the call as it read before'; 0 by the template 'total and deterministic' (their statements: YtkoopkaoojhfhaaTotals.lean).
  GIVEN WITH THE SEED: the statements are not yours to turn. If you find one false, say at which input.
  Laid BY PROGRAM, IN A SANDBOX (cutbox-rows.mjs): the forced cells as the released guide's own fill.sh prints them over the translation 26bdd690b11807d0… (all of the seat's roots in one cut). By AI agents, Wed Nov 11 2026. No macro, syntax, notation, axiom, sorry.
-/
import Derived.Test.YtkoopkaoojhfhaaChecked
import GoSem.Claim
import GoSem.ClaimJoined
import GoSem.ClaimMapViews
import Derived.JoinedTies
import Derived.KernelRfl
namespace Go.Proofs.Ytkoopkaoojhfhaa
/- THE CELL 'sum', in the pinned program and in every row, IS THE sha256 OF THE DUMP (.gsa) THAT YtkoopkaoojhfhaaProg.lean LOADS. Nothing in Lean hashes anything: it is a label: what it is worth is what the hold of that sum in a sandbox is worth. -/
noncomputable def Try.pinned : Pinned := { name := "ytkoopkaoojhfhaa", sum := "26bdd690b11807d00c01f3f961bd8c824e4a2138a7d68ed41c81c785fa1557be", checked := Try.checked }
namespace Rows
def none {H : Type} : Left H := { results := [], args := [] }

/-- 'laws.FnTreeGet': WHATEVER THE INPUT: true; the input reads as it did. -/
def fnTreeGetSpec : ChangeSpec := { name := "fnTreeGet", fn := fun _ => fun
  | [d] => { results := [.lit (.bool true)], args := [d] }
  | _ => none }
def fnTreeGetRow : OpenClaim := { program := "ytkoopkaoojhfhaa", sum := "26bdd690b11807d00c01f3f961bd8c824e4a2138a7d68ed41c81c785fa1557be", func := "loop.example/filereconciler/laws.FnTreeGet", spec := "fnTreeGet", inPlace := ["internal/bytealg.IndexByteString", "internal/bytealg.IndexString"], unfollowed := true, recurses := true, named := ["internal/bytealg.MaxLen"], apart := false }
def FnTreeGetSaid : Prop := fnTreeGetRow.holds Try.pinned (OpenSpec.ofChange fnTreeGetSpec)

/-- ITS FALSE NEIGHBOUR: 'it returns false'. Refute it at one input. -/
def fnTreeGetWrong : ChangeSpec := { name := "fnTreeGet", fn := fun _ => fun
  | [d] => { results := [.lit (.bool false)], args := [d] }
  | _ => none }
def FnTreeGetWrongFalsely : Prop := fnTreeGetRow.holds Try.pinned (OpenSpec.ofChange fnTreeGetWrong)

/-- 'laws.FnTreeParent': WHATEVER THE INPUT: true; the input reads as it did. -/
def fnTreeParentSpec : ChangeSpec := { name := "fnTreeParent", fn := fun _ => fun
  | [d] => { results := [.lit (.bool true)], args := [d] }
  | _ => none }
def fnTreeParentRow : OpenClaim := { program := "ytkoopkaoojhfhaa", sum := "26bdd690b11807d00c01f3f961bd8c824e4a2138a7d68ed41c81c785fa1557be", func := "loop.example/filereconciler/laws.FnTreeParent", spec := "fnTreeParent", inPlace := ["internal/bytealg.IndexByteString", "internal/bytealg.IndexString"], unfollowed := true, recurses := true, named := ["internal/bytealg.MaxLen"], apart := false }
def FnTreeParentSaid : Prop := fnTreeParentRow.holds Try.pinned (OpenSpec.ofChange fnTreeParentSpec)

/-- ITS FALSE NEIGHBOUR: 'it returns false'. Refute it at one input. -/
def fnTreeParentWrong : ChangeSpec := { name := "fnTreeParent", fn := fun _ => fun
  | [d] => { results := [.lit (.bool false)], args := [d] }
  | _ => none }
def FnTreeParentWrongFalsely : Prop := fnTreeParentRow.holds Try.pinned (OpenSpec.ofChange fnTreeParentWrong)

/-- 'laws.FnTreePut': WHATEVER THE INPUT: true; the input reads as it did. -/
def fnTreePutSpec : ChangeSpec := { name := "fnTreePut", fn := fun _ => fun
  | [d] => { results := [.lit (.bool true)], args := [d] }
  | _ => none }
def fnTreePutRow : OpenClaim := { program := "ytkoopkaoojhfhaa", sum := "26bdd690b11807d00c01f3f961bd8c824e4a2138a7d68ed41c81c785fa1557be", func := "loop.example/filereconciler/laws.FnTreePut", spec := "fnTreePut", inPlace := ["internal/bytealg.IndexByteString", "internal/bytealg.IndexString"], unfollowed := true, recurses := true, named := ["internal/bytealg.MaxLen"], apart := false }
def FnTreePutSaid : Prop := fnTreePutRow.holds Try.pinned (OpenSpec.ofChange fnTreePutSpec)

/-- ITS FALSE NEIGHBOUR: 'it returns false'. Refute it at one input. -/
def fnTreePutWrong : ChangeSpec := { name := "fnTreePut", fn := fun _ => fun
  | [d] => { results := [.lit (.bool false)], args := [d] }
  | _ => none }
def FnTreePutWrongFalsely : Prop := fnTreePutRow.holds Try.pinned (OpenSpec.ofChange fnTreePutWrong)

/-- 'laws.FnTreePutBack': WHATEVER THE INPUT: true; the input reads as it did. -/
def fnTreePutBackSpec : ChangeSpec := { name := "fnTreePutBack", fn := fun _ => fun
  | [d] => { results := [.lit (.bool true)], args := [d] }
  | _ => none }
def fnTreePutBackRow : OpenClaim := { program := "ytkoopkaoojhfhaa", sum := "26bdd690b11807d00c01f3f961bd8c824e4a2138a7d68ed41c81c785fa1557be", func := "loop.example/filereconciler/laws.FnTreePutBack", spec := "fnTreePutBack", inPlace := ["internal/bytealg.IndexByteString", "internal/bytealg.IndexString"], unfollowed := true, recurses := true, named := ["internal/bytealg.MaxLen"], apart := false }
def FnTreePutBackSaid : Prop := fnTreePutBackRow.holds Try.pinned (OpenSpec.ofChange fnTreePutBackSpec)

/-- ITS FALSE NEIGHBOUR: 'it returns false'. Refute it at one input. -/
def fnTreePutBackWrong : ChangeSpec := { name := "fnTreePutBack", fn := fun _ => fun
  | [d] => { results := [.lit (.bool false)], args := [d] }
  | _ => none }
def FnTreePutBackWrongFalsely : Prop := fnTreePutBackRow.holds Try.pinned (OpenSpec.ofChange fnTreePutBackWrong)

/-- 'laws.FnTreePutWhen': WHATEVER THE INPUT: true; the input reads as it did. -/
def fnTreePutWhenSpec : ChangeSpec := { name := "fnTreePutWhen", fn := fun _ => fun
  | [d] => { results := [.lit (.bool true)], args := [d] }
  | _ => none }
def fnTreePutWhenRow : OpenClaim := { program := "ytkoopkaoojhfhaa", sum := "26bdd690b11807d00c01f3f961bd8c824e4a2138a7d68ed41c81c785fa1557be", func := "loop.example/filereconciler/laws.FnTreePutWhen", spec := "fnTreePutWhen", inPlace := ["internal/bytealg.IndexByteString", "internal/bytealg.IndexString"], unfollowed := true, recurses := true, named := ["internal/bytealg.MaxLen"], apart := false }
def FnTreePutWhenSaid : Prop := fnTreePutWhenRow.holds Try.pinned (OpenSpec.ofChange fnTreePutWhenSpec)

/-- ITS FALSE NEIGHBOUR: 'it returns false'. Refute it at one input. -/
def fnTreePutWhenWrong : ChangeSpec := { name := "fnTreePutWhen", fn := fun _ => fun
  | [d] => { results := [.lit (.bool false)], args := [d] }
  | _ => none }
def FnTreePutWhenWrongFalsely : Prop := fnTreePutWhenRow.holds Try.pinned (OpenSpec.ofChange fnTreePutWhenWrong)

/-- 'laws.FnTreeUnder': WHATEVER THE INPUT: true; the input reads as it did. -/
def fnTreeUnderSpec : ChangeSpec := { name := "fnTreeUnder", fn := fun _ => fun
  | [d] => { results := [.lit (.bool true)], args := [d] }
  | _ => none }
def fnTreeUnderRow : OpenClaim := { program := "ytkoopkaoojhfhaa", sum := "26bdd690b11807d00c01f3f961bd8c824e4a2138a7d68ed41c81c785fa1557be", func := "loop.example/filereconciler/laws.FnTreeUnder", spec := "fnTreeUnder", inPlace := ["internal/bytealg.IndexByteString", "internal/bytealg.IndexString"], unfollowed := true, recurses := true, named := ["internal/bytealg.MaxLen"], apart := false }
def FnTreeUnderSaid : Prop := fnTreeUnderRow.holds Try.pinned (OpenSpec.ofChange fnTreeUnderSpec)

/-- ITS FALSE NEIGHBOUR: 'it returns false'. Refute it at one input. -/
def fnTreeUnderWrong : ChangeSpec := { name := "fnTreeUnder", fn := fun _ => fun
  | [d] => { results := [.lit (.bool false)], args := [d] }
  | _ => none }
def FnTreeUnderWrongFalsely : Prop := fnTreeUnderRow.holds Try.pinned (OpenSpec.ofChange fnTreeUnderWrong)

/-- 'laws.FnTreeUnderFile': WHATEVER THE INPUT: true; the input reads as it did. -/
def fnTreeUnderFileSpec : ChangeSpec := { name := "fnTreeUnderFile", fn := fun _ => fun
  | [d] => { results := [.lit (.bool true)], args := [d] }
  | _ => none }
def fnTreeUnderFileRow : OpenClaim := { program := "ytkoopkaoojhfhaa", sum := "26bdd690b11807d00c01f3f961bd8c824e4a2138a7d68ed41c81c785fa1557be", func := "loop.example/filereconciler/laws.FnTreeUnderFile", spec := "fnTreeUnderFile", inPlace := ["internal/bytealg.IndexByteString", "internal/bytealg.IndexString"], unfollowed := true, recurses := true, named := ["internal/bytealg.MaxLen"], apart := false }
def FnTreeUnderFileSaid : Prop := fnTreeUnderFileRow.holds Try.pinned (OpenSpec.ofChange fnTreeUnderFileSpec)

/-- ITS FALSE NEIGHBOUR: 'it returns false'. Refute it at one input. -/
def fnTreeUnderFileWrong : ChangeSpec := { name := "fnTreeUnderFile", fn := fun _ => fun
  | [d] => { results := [.lit (.bool false)], args := [d] }
  | _ => none }
def FnTreeUnderFileWrongFalsely : Prop := fnTreeUnderFileRow.holds Try.pinned (OpenSpec.ofChange fnTreeUnderFileWrong)

/-- 'laws.FnTreePart': WHATEVER THE INPUT: true; the input reads as it did. -/
def fnTreePartSpec : ChangeSpec := { name := "fnTreePart", fn := fun _ => fun
  | [d] => { results := [.lit (.bool true)], args := [d] }
  | _ => none }
def fnTreePartRow : OpenClaim := { program := "ytkoopkaoojhfhaa", sum := "26bdd690b11807d00c01f3f961bd8c824e4a2138a7d68ed41c81c785fa1557be", func := "loop.example/filereconciler/laws.FnTreePart", spec := "fnTreePart", inPlace := ["internal/bytealg.IndexByteString", "internal/bytealg.IndexString"], unfollowed := true, recurses := true, named := ["internal/bytealg.MaxLen"], apart := false }
def FnTreePartSaid : Prop := fnTreePartRow.holds Try.pinned (OpenSpec.ofChange fnTreePartSpec)

/-- ITS FALSE NEIGHBOUR: 'it returns false'. Refute it at one input. -/
def fnTreePartWrong : ChangeSpec := { name := "fnTreePart", fn := fun _ => fun
  | [d] => { results := [.lit (.bool false)], args := [d] }
  | _ => none }
def FnTreePartWrongFalsely : Prop := fnTreePartRow.holds Try.pinned (OpenSpec.ofChange fnTreePartWrong)

/-- 'laws.FnTreeTwice': WHATEVER THE INPUT: true; the input reads as it did. -/
def fnTreeTwiceSpec : ChangeSpec := { name := "fnTreeTwice", fn := fun _ => fun
  | [d1, d2] => { results := [.lit (.bool true)], args := [d1, d2] }
  | _ => none }
def fnTreeTwiceRow : OpenClaim := { program := "ytkoopkaoojhfhaa", sum := "26bdd690b11807d00c01f3f961bd8c824e4a2138a7d68ed41c81c785fa1557be", func := "loop.example/filereconciler/laws.FnTreeTwice", spec := "fnTreeTwice", inPlace := ["internal/bytealg.IndexByteString", "internal/bytealg.IndexString"], unfollowed := true, recurses := true, named := ["internal/bytealg.MaxLen"], apart := false }
def FnTreeTwiceSaid : Prop := fnTreeTwiceRow.holds Try.pinned (OpenSpec.ofChange fnTreeTwiceSpec)

/-- ITS FALSE NEIGHBOUR: 'it returns false'. Refute it at one input. -/
def fnTreeTwiceWrong : ChangeSpec := { name := "fnTreeTwice", fn := fun _ => fun
  | [d1, d2] => { results := [.lit (.bool false)], args := [d1, d2] }
  | _ => none }
def FnTreeTwiceWrongFalsely : Prop := fnTreeTwiceRow.holds Try.pinned (OpenSpec.ofChange fnTreeTwiceWrong)

/-- 'laws.FnExactTreeValid': WHATEVER THE INPUT: true; the input reads as it did. -/
def fnExactTreeValidSpec : ChangeSpec := { name := "fnExactTreeValid", fn := fun _ => fun
  | [d] => { results := [.lit (.bool true)], args := [d] }
  | _ => none }
def fnExactTreeValidRow : OpenClaim := { program := "ytkoopkaoojhfhaa", sum := "26bdd690b11807d00c01f3f961bd8c824e4a2138a7d68ed41c81c785fa1557be", func := "loop.example/filereconciler/laws.FnExactTreeValid", spec := "fnExactTreeValid", inPlace := ["internal/bytealg.IndexByteString", "internal/bytealg.IndexString"], unfollowed := true, recurses := true, named := ["internal/bytealg.MaxLen"], apart := false }
def FnExactTreeValidSaid : Prop := fnExactTreeValidRow.holds Try.pinned (OpenSpec.ofChange fnExactTreeValidSpec)

/-- ITS FALSE NEIGHBOUR: 'it returns false'. Refute it at one input. -/
def fnExactTreeValidWrong : ChangeSpec := { name := "fnExactTreeValid", fn := fun _ => fun
  | [d] => { results := [.lit (.bool false)], args := [d] }
  | _ => none }
def FnExactTreeValidWrongFalsely : Prop := fnExactTreeValidRow.holds Try.pinned (OpenSpec.ofChange fnExactTreeValidWrong)

/-- 'laws.FnExactTreeGet': WHATEVER THE INPUT: true; the input reads as it did. -/
def fnExactTreeGetSpec : ChangeSpec := { name := "fnExactTreeGet", fn := fun _ => fun
  | [d1, d2] => { results := [.lit (.bool true)], args := [d1, d2] }
  | _ => none }
def fnExactTreeGetRow : OpenClaim := { program := "ytkoopkaoojhfhaa", sum := "26bdd690b11807d00c01f3f961bd8c824e4a2138a7d68ed41c81c785fa1557be", func := "loop.example/filereconciler/laws.FnExactTreeGet", spec := "fnExactTreeGet", inPlace := ["internal/bytealg.IndexByteString", "internal/bytealg.IndexString"], unfollowed := true, recurses := true, named := ["internal/bytealg.MaxLen"], apart := false }
def FnExactTreeGetSaid : Prop := fnExactTreeGetRow.holds Try.pinned (OpenSpec.ofChange fnExactTreeGetSpec)

/-- ITS FALSE NEIGHBOUR: 'it returns false'. Refute it at one input. -/
def fnExactTreeGetWrong : ChangeSpec := { name := "fnExactTreeGet", fn := fun _ => fun
  | [d1, d2] => { results := [.lit (.bool false)], args := [d1, d2] }
  | _ => none }
def FnExactTreeGetWrongFalsely : Prop := fnExactTreeGetRow.holds Try.pinned (OpenSpec.ofChange fnExactTreeGetWrong)

/-- 'laws.FnExactTreePut': WHATEVER THE INPUT: true; the input reads as it did. -/
def fnExactTreePutSpec : ChangeSpec := { name := "fnExactTreePut", fn := fun _ => fun
  | [d1, d2, d3] => { results := [.lit (.bool true)], args := [d1, d2, d3] }
  | _ => none }
def fnExactTreePutRow : OpenClaim := { program := "ytkoopkaoojhfhaa", sum := "26bdd690b11807d00c01f3f961bd8c824e4a2138a7d68ed41c81c785fa1557be", func := "loop.example/filereconciler/laws.FnExactTreePut", spec := "fnExactTreePut", inPlace := ["internal/bytealg.IndexByteString", "internal/bytealg.IndexString"], unfollowed := true, recurses := true, named := ["internal/bytealg.MaxLen"], apart := false }
def FnExactTreePutSaid : Prop := fnExactTreePutRow.holds Try.pinned (OpenSpec.ofChange fnExactTreePutSpec)

/-- ITS FALSE NEIGHBOUR: 'it returns false'. Refute it at one input. -/
def fnExactTreePutWrong : ChangeSpec := { name := "fnExactTreePut", fn := fun _ => fun
  | [d1, d2, d3] => { results := [.lit (.bool false)], args := [d1, d2, d3] }
  | _ => none }
def FnExactTreePutWrongFalsely : Prop := fnExactTreePutRow.holds Try.pinned (OpenSpec.ofChange fnExactTreePutWrong)

/-- 'laws.FnExactTreeUnder': WHATEVER THE INPUT: true; the input reads as it did. -/
def fnExactTreeUnderSpec : ChangeSpec := { name := "fnExactTreeUnder", fn := fun _ => fun
  | [d1, d2] => { results := [.lit (.bool true)], args := [d1, d2] }
  | _ => none }
def fnExactTreeUnderRow : OpenClaim := { program := "ytkoopkaoojhfhaa", sum := "26bdd690b11807d00c01f3f961bd8c824e4a2138a7d68ed41c81c785fa1557be", func := "loop.example/filereconciler/laws.FnExactTreeUnder", spec := "fnExactTreeUnder", inPlace := ["internal/bytealg.IndexByteString", "internal/bytealg.IndexString"], unfollowed := true, recurses := true, named := ["internal/bytealg.MaxLen"], apart := false }
def FnExactTreeUnderSaid : Prop := fnExactTreeUnderRow.holds Try.pinned (OpenSpec.ofChange fnExactTreeUnderSpec)

/-- ITS FALSE NEIGHBOUR: 'it returns false'. Refute it at one input. -/
def fnExactTreeUnderWrong : ChangeSpec := { name := "fnExactTreeUnder", fn := fun _ => fun
  | [d1, d2] => { results := [.lit (.bool false)], args := [d1, d2] }
  | _ => none }
def FnExactTreeUnderWrongFalsely : Prop := fnExactTreeUnderRow.holds Try.pinned (OpenSpec.ofChange fnExactTreeUnderWrong)

/- THE SECOND FORM. 'bulk': how many values and letters a reading holds, each counted each time it is reached (what is shared counts as often as it is met; a slice's spare places count too). A statement '..UptoSaid' is the law's where the arguments, and the package variables that the reading takes, are together of bulk at most 1048576: NARROWER than '..Said'. Prove '..Said' where nothing that the law and all that it calls make is longer than what came in: it says more and counts as full. Else prove '..UptoSaid'. A law counts once. -/
mutual
def uptoBulk {H : Type} : DataW H → Nat
  | .lit (.string bytes) => bytes.length + 1
  | .lit _ => 1
  | .nil => 1
  | .ptr d => uptoBulk d + 1
  | .slice elems spare => uptoBulkAll elems + uptoBulkAll spare + 1
  | .agg parts => uptoBulkAll parts + 1
  | .iface _ d => uptoBulk d + 1
  | .map entries => uptoBulkEntries entries + 1
  | .held _ => 1
def uptoBulkAll {H : Type} : List (DataW H) → Nat
  | [] => 0
  | d :: r => uptoBulk d + uptoBulkAll r
def uptoBulkEntries {H : Type} : List (Lit × DataW H) → Nat
  | [] => 0
  | x :: r => uptoBulkEntry x + uptoBulkEntries r
def uptoBulkEntry {H : Type} : Lit × DataW H → Nat
  | (.string bytes, d) => bytes.length + uptoBulk d + 1
  | (_, d) => uptoBulk d + 1
 end
def uptoSmall : (H : Type) → List (DataW H) → Bool := fun _ ds => decide (uptoBulkAll ds ≤ 1048576)
def OpenSpec.upto (s : _root_.Go.ChangeSpec) : _root_.Go.OpenSpec := { _root_.Go.OpenSpec.ofChange s with cond := some uptoSmall }

/-- 'laws.FnTreeGet', WHERE WHAT IT READS IS OF BULK AT MOST 1048576: true; the input reads as it did. -/
def fnTreeGetUptoRow : OpenClaim := { program := "ytkoopkaoojhfhaa", sum := "26bdd690b11807d00c01f3f961bd8c824e4a2138a7d68ed41c81c785fa1557be", func := "loop.example/filereconciler/laws.FnTreeGet", spec := "fnTreeGet", inPlace := ["internal/bytealg.IndexByteString", "internal/bytealg.IndexString"], unfollowed := true, recurses := true, named := ["internal/bytealg.MaxLen"], apart := false, narrowed := true }
def FnTreeGetUptoSaid : Prop := fnTreeGetUptoRow.holds Try.pinned (OpenSpec.upto fnTreeGetSpec)

/-- 'laws.FnTreeParent', WHERE WHAT IT READS IS OF BULK AT MOST 1048576: true; the input reads as it did. -/
def fnTreeParentUptoRow : OpenClaim := { program := "ytkoopkaoojhfhaa", sum := "26bdd690b11807d00c01f3f961bd8c824e4a2138a7d68ed41c81c785fa1557be", func := "loop.example/filereconciler/laws.FnTreeParent", spec := "fnTreeParent", inPlace := ["internal/bytealg.IndexByteString", "internal/bytealg.IndexString"], unfollowed := true, recurses := true, named := ["internal/bytealg.MaxLen"], apart := false, narrowed := true }
def FnTreeParentUptoSaid : Prop := fnTreeParentUptoRow.holds Try.pinned (OpenSpec.upto fnTreeParentSpec)

/-- 'laws.FnTreePut', WHERE WHAT IT READS IS OF BULK AT MOST 1048576: true; the input reads as it did. -/
def fnTreePutUptoRow : OpenClaim := { program := "ytkoopkaoojhfhaa", sum := "26bdd690b11807d00c01f3f961bd8c824e4a2138a7d68ed41c81c785fa1557be", func := "loop.example/filereconciler/laws.FnTreePut", spec := "fnTreePut", inPlace := ["internal/bytealg.IndexByteString", "internal/bytealg.IndexString"], unfollowed := true, recurses := true, named := ["internal/bytealg.MaxLen"], apart := false, narrowed := true }
def FnTreePutUptoSaid : Prop := fnTreePutUptoRow.holds Try.pinned (OpenSpec.upto fnTreePutSpec)

/-- 'laws.FnTreePutBack', WHERE WHAT IT READS IS OF BULK AT MOST 1048576: true; the input reads as it did. -/
def fnTreePutBackUptoRow : OpenClaim := { program := "ytkoopkaoojhfhaa", sum := "26bdd690b11807d00c01f3f961bd8c824e4a2138a7d68ed41c81c785fa1557be", func := "loop.example/filereconciler/laws.FnTreePutBack", spec := "fnTreePutBack", inPlace := ["internal/bytealg.IndexByteString", "internal/bytealg.IndexString"], unfollowed := true, recurses := true, named := ["internal/bytealg.MaxLen"], apart := false, narrowed := true }
def FnTreePutBackUptoSaid : Prop := fnTreePutBackUptoRow.holds Try.pinned (OpenSpec.upto fnTreePutBackSpec)

/-- 'laws.FnTreePutWhen', WHERE WHAT IT READS IS OF BULK AT MOST 1048576: true; the input reads as it did. -/
def fnTreePutWhenUptoRow : OpenClaim := { program := "ytkoopkaoojhfhaa", sum := "26bdd690b11807d00c01f3f961bd8c824e4a2138a7d68ed41c81c785fa1557be", func := "loop.example/filereconciler/laws.FnTreePutWhen", spec := "fnTreePutWhen", inPlace := ["internal/bytealg.IndexByteString", "internal/bytealg.IndexString"], unfollowed := true, recurses := true, named := ["internal/bytealg.MaxLen"], apart := false, narrowed := true }
def FnTreePutWhenUptoSaid : Prop := fnTreePutWhenUptoRow.holds Try.pinned (OpenSpec.upto fnTreePutWhenSpec)

/-- 'laws.FnTreeUnder', WHERE WHAT IT READS IS OF BULK AT MOST 1048576: true; the input reads as it did. -/
def fnTreeUnderUptoRow : OpenClaim := { program := "ytkoopkaoojhfhaa", sum := "26bdd690b11807d00c01f3f961bd8c824e4a2138a7d68ed41c81c785fa1557be", func := "loop.example/filereconciler/laws.FnTreeUnder", spec := "fnTreeUnder", inPlace := ["internal/bytealg.IndexByteString", "internal/bytealg.IndexString"], unfollowed := true, recurses := true, named := ["internal/bytealg.MaxLen"], apart := false, narrowed := true }
def FnTreeUnderUptoSaid : Prop := fnTreeUnderUptoRow.holds Try.pinned (OpenSpec.upto fnTreeUnderSpec)

/-- 'laws.FnTreeUnderFile', WHERE WHAT IT READS IS OF BULK AT MOST 1048576: true; the input reads as it did. -/
def fnTreeUnderFileUptoRow : OpenClaim := { program := "ytkoopkaoojhfhaa", sum := "26bdd690b11807d00c01f3f961bd8c824e4a2138a7d68ed41c81c785fa1557be", func := "loop.example/filereconciler/laws.FnTreeUnderFile", spec := "fnTreeUnderFile", inPlace := ["internal/bytealg.IndexByteString", "internal/bytealg.IndexString"], unfollowed := true, recurses := true, named := ["internal/bytealg.MaxLen"], apart := false, narrowed := true }
def FnTreeUnderFileUptoSaid : Prop := fnTreeUnderFileUptoRow.holds Try.pinned (OpenSpec.upto fnTreeUnderFileSpec)

/-- 'laws.FnTreePart', WHERE WHAT IT READS IS OF BULK AT MOST 1048576: true; the input reads as it did. -/
def fnTreePartUptoRow : OpenClaim := { program := "ytkoopkaoojhfhaa", sum := "26bdd690b11807d00c01f3f961bd8c824e4a2138a7d68ed41c81c785fa1557be", func := "loop.example/filereconciler/laws.FnTreePart", spec := "fnTreePart", inPlace := ["internal/bytealg.IndexByteString", "internal/bytealg.IndexString"], unfollowed := true, recurses := true, named := ["internal/bytealg.MaxLen"], apart := false, narrowed := true }
def FnTreePartUptoSaid : Prop := fnTreePartUptoRow.holds Try.pinned (OpenSpec.upto fnTreePartSpec)

/-- 'laws.FnTreeTwice', WHERE WHAT IT READS IS OF BULK AT MOST 1048576: true; the input reads as it did. -/
def fnTreeTwiceUptoRow : OpenClaim := { program := "ytkoopkaoojhfhaa", sum := "26bdd690b11807d00c01f3f961bd8c824e4a2138a7d68ed41c81c785fa1557be", func := "loop.example/filereconciler/laws.FnTreeTwice", spec := "fnTreeTwice", inPlace := ["internal/bytealg.IndexByteString", "internal/bytealg.IndexString"], unfollowed := true, recurses := true, named := ["internal/bytealg.MaxLen"], apart := false, narrowed := true }
def FnTreeTwiceUptoSaid : Prop := fnTreeTwiceUptoRow.holds Try.pinned (OpenSpec.upto fnTreeTwiceSpec)

/-- 'laws.FnExactTreeValid', WHERE WHAT IT READS IS OF BULK AT MOST 1048576: true; the input reads as it did. -/
def fnExactTreeValidUptoRow : OpenClaim := { program := "ytkoopkaoojhfhaa", sum := "26bdd690b11807d00c01f3f961bd8c824e4a2138a7d68ed41c81c785fa1557be", func := "loop.example/filereconciler/laws.FnExactTreeValid", spec := "fnExactTreeValid", inPlace := ["internal/bytealg.IndexByteString", "internal/bytealg.IndexString"], unfollowed := true, recurses := true, named := ["internal/bytealg.MaxLen"], apart := false, narrowed := true }
def FnExactTreeValidUptoSaid : Prop := fnExactTreeValidUptoRow.holds Try.pinned (OpenSpec.upto fnExactTreeValidSpec)

/-- 'laws.FnExactTreeGet', WHERE WHAT IT READS IS OF BULK AT MOST 1048576: true; the input reads as it did. -/
def fnExactTreeGetUptoRow : OpenClaim := { program := "ytkoopkaoojhfhaa", sum := "26bdd690b11807d00c01f3f961bd8c824e4a2138a7d68ed41c81c785fa1557be", func := "loop.example/filereconciler/laws.FnExactTreeGet", spec := "fnExactTreeGet", inPlace := ["internal/bytealg.IndexByteString", "internal/bytealg.IndexString"], unfollowed := true, recurses := true, named := ["internal/bytealg.MaxLen"], apart := false, narrowed := true }
def FnExactTreeGetUptoSaid : Prop := fnExactTreeGetUptoRow.holds Try.pinned (OpenSpec.upto fnExactTreeGetSpec)

/-- 'laws.FnExactTreePut', WHERE WHAT IT READS IS OF BULK AT MOST 1048576: true; the input reads as it did. -/
def fnExactTreePutUptoRow : OpenClaim := { program := "ytkoopkaoojhfhaa", sum := "26bdd690b11807d00c01f3f961bd8c824e4a2138a7d68ed41c81c785fa1557be", func := "loop.example/filereconciler/laws.FnExactTreePut", spec := "fnExactTreePut", inPlace := ["internal/bytealg.IndexByteString", "internal/bytealg.IndexString"], unfollowed := true, recurses := true, named := ["internal/bytealg.MaxLen"], apart := false, narrowed := true }
def FnExactTreePutUptoSaid : Prop := fnExactTreePutUptoRow.holds Try.pinned (OpenSpec.upto fnExactTreePutSpec)

/-- 'laws.FnExactTreeUnder', WHERE WHAT IT READS IS OF BULK AT MOST 1048576: true; the input reads as it did. -/
def fnExactTreeUnderUptoRow : OpenClaim := { program := "ytkoopkaoojhfhaa", sum := "26bdd690b11807d00c01f3f961bd8c824e4a2138a7d68ed41c81c785fa1557be", func := "loop.example/filereconciler/laws.FnExactTreeUnder", spec := "fnExactTreeUnder", inPlace := ["internal/bytealg.IndexByteString", "internal/bytealg.IndexString"], unfollowed := true, recurses := true, named := ["internal/bytealg.MaxLen"], apart := false, narrowed := true }
def FnExactTreeUnderUptoSaid : Prop := fnExactTreeUnderUptoRow.holds Try.pinned (OpenSpec.upto fnExactTreeUnderSpec)

end Rows
end Go.Proofs.Ytkoopkaoojhfhaa
