/-
  No cell of these rows narrows 'for every input' (looked for: loops, veiled, ifaces, maps, wideKeys, modest, calm, conditions, laid).
  DERIVED. THE GIVEN ROWS OF THIS SEAT. 13 by the template 'for every input the law returns true; each argument reads behind the call as it read before'; 0 by the template 'total and deterministic' (their statements: YtlnjcikoeiffgaaTotals.lean).
  GIVEN WITH THE SEED: the statements are not yours to turn. If you find one false, say at which input.
  Laid BY PROGRAM, IN A SANDBOX (cutbox-rows.mjs): the forced cells as the released guide's own fill.sh prints them over the translation 4be75fc9d395f63d… (all of the seat's roots in one cut). By AI agents, Wed Nov 11 2026. No macro, syntax, notation, axiom, sorry.
-/
import Derived.Test.YtlnjcikoeiffgaaChecked
import GoSem.Claim
import GoSem.ClaimJoined
import GoSem.ClaimMapViews
import Derived.JoinedTies
import Derived.KernelRfl
namespace Go.Proofs.Ytlnjcikoeiffgaa
/- THE CELL 'sum', in the pinned program and in every row, IS THE sha256 OF THE DUMP (.gsa) THAT YtlnjcikoeiffgaaProg.lean LOADS. Nothing in Lean hashes anything: it is a label: what it is worth is what the hold of that sum in a sandbox is worth. -/
noncomputable def Try.pinned : Pinned := { name := "ytlnjcikoeiffgaa", sum := "4be75fc9d395f63d4e2ac6798c417f58564ea6ced0f492025f89d1524de1946f", checked := Try.checked }
namespace Rows
def none {H : Type} : Left H := { results := [], args := [] }

/-- 'laws.FnPathDepth': WHATEVER THE INPUT: true; the input reads as it did. -/
def fnPathDepthSpec : ChangeSpec := { name := "fnPathDepth", fn := fun _ => fun
  | [d] => { results := [.lit (.bool true)], args := [d] }
  | _ => none }
def fnPathDepthRow : OpenClaim := { program := "ytlnjcikoeiffgaa", sum := "4be75fc9d395f63d4e2ac6798c417f58564ea6ced0f492025f89d1524de1946f", func := "loop.example/filereconciler/laws.FnPathDepth", spec := "fnPathDepth", inPlace := ["internal/bytealg.IndexByteString", "internal/bytealg.IndexString"], unfollowed := true, recurses := true, named := ["internal/bytealg.MaxLen"], apart := false }
def FnPathDepthSaid : Prop := fnPathDepthRow.holds Try.pinned (OpenSpec.ofChange fnPathDepthSpec)

/-- ITS FALSE NEIGHBOUR: 'it returns false'. Refute it at one input. -/
def fnPathDepthWrong : ChangeSpec := { name := "fnPathDepth", fn := fun _ => fun
  | [d] => { results := [.lit (.bool false)], args := [d] }
  | _ => none }
def FnPathDepthWrongFalsely : Prop := fnPathDepthRow.holds Try.pinned (OpenSpec.ofChange fnPathDepthWrong)

/-- 'laws.FnPathDepthBad': WHATEVER THE INPUT: true; the input reads as it did. -/
def fnPathDepthBadSpec : ChangeSpec := { name := "fnPathDepthBad", fn := fun _ => fun
  | [d] => { results := [.lit (.bool true)], args := [d] }
  | _ => none }
def fnPathDepthBadRow : OpenClaim := { program := "ytlnjcikoeiffgaa", sum := "4be75fc9d395f63d4e2ac6798c417f58564ea6ced0f492025f89d1524de1946f", func := "loop.example/filereconciler/laws.FnPathDepthBad", spec := "fnPathDepthBad", inPlace := ["internal/bytealg.IndexByteString", "internal/bytealg.IndexString"], unfollowed := true, recurses := true, named := ["internal/bytealg.MaxLen"], apart := false }
def FnPathDepthBadSaid : Prop := fnPathDepthBadRow.holds Try.pinned (OpenSpec.ofChange fnPathDepthBadSpec)

/-- ITS FALSE NEIGHBOUR: 'it returns false'. Refute it at one input. -/
def fnPathDepthBadWrong : ChangeSpec := { name := "fnPathDepthBad", fn := fun _ => fun
  | [d] => { results := [.lit (.bool false)], args := [d] }
  | _ => none }
def FnPathDepthBadWrongFalsely : Prop := fnPathDepthBadRow.holds Try.pinned (OpenSpec.ofChange fnPathDepthBadWrong)

/-- 'laws.FnPathParent': WHATEVER THE INPUT: true; the input reads as it did. -/
def fnPathParentSpec : ChangeSpec := { name := "fnPathParent", fn := fun _ => fun
  | [d] => { results := [.lit (.bool true)], args := [d] }
  | _ => none }
def fnPathParentRow : OpenClaim := { program := "ytlnjcikoeiffgaa", sum := "4be75fc9d395f63d4e2ac6798c417f58564ea6ced0f492025f89d1524de1946f", func := "loop.example/filereconciler/laws.FnPathParent", spec := "fnPathParent", inPlace := ["internal/bytealg.IndexByteString", "internal/bytealg.IndexString"], unfollowed := true, recurses := true, named := ["internal/bytealg.MaxLen"], apart := false }
def FnPathParentSaid : Prop := fnPathParentRow.holds Try.pinned (OpenSpec.ofChange fnPathParentSpec)

/-- ITS FALSE NEIGHBOUR: 'it returns false'. Refute it at one input. -/
def fnPathParentWrong : ChangeSpec := { name := "fnPathParent", fn := fun _ => fun
  | [d] => { results := [.lit (.bool false)], args := [d] }
  | _ => none }
def FnPathParentWrongFalsely : Prop := fnPathParentRow.holds Try.pinned (OpenSpec.ofChange fnPathParentWrong)

/-- 'laws.FnPathUnder': WHATEVER THE INPUT: true; the input reads as it did. -/
def fnPathUnderSpec : ChangeSpec := { name := "fnPathUnder", fn := fun _ => fun
  | [d] => { results := [.lit (.bool true)], args := [d] }
  | _ => none }
def fnPathUnderRow : OpenClaim := { program := "ytlnjcikoeiffgaa", sum := "4be75fc9d395f63d4e2ac6798c417f58564ea6ced0f492025f89d1524de1946f", func := "loop.example/filereconciler/laws.FnPathUnder", spec := "fnPathUnder", inPlace := ["internal/bytealg.IndexByteString", "internal/bytealg.IndexString"], unfollowed := true, recurses := true, named := ["internal/bytealg.MaxLen"], apart := false }
def FnPathUnderSaid : Prop := fnPathUnderRow.holds Try.pinned (OpenSpec.ofChange fnPathUnderSpec)

/-- ITS FALSE NEIGHBOUR: 'it returns false'. Refute it at one input. -/
def fnPathUnderWrong : ChangeSpec := { name := "fnPathUnder", fn := fun _ => fun
  | [d] => { results := [.lit (.bool false)], args := [d] }
  | _ => none }
def FnPathUnderWrongFalsely : Prop := fnPathUnderRow.holds Try.pinned (OpenSpec.ofChange fnPathUnderWrong)

/-- 'laws.FnPathUnderRoot': WHATEVER THE INPUT: true; the input reads as it did. -/
def fnPathUnderRootSpec : ChangeSpec := { name := "fnPathUnderRoot", fn := fun _ => fun
  | [d] => { results := [.lit (.bool true)], args := [d] }
  | _ => none }
def fnPathUnderRootRow : OpenClaim := { program := "ytlnjcikoeiffgaa", sum := "4be75fc9d395f63d4e2ac6798c417f58564ea6ced0f492025f89d1524de1946f", func := "loop.example/filereconciler/laws.FnPathUnderRoot", spec := "fnPathUnderRoot", inPlace := ["internal/bytealg.IndexByteString", "internal/bytealg.IndexString"], unfollowed := true, recurses := true, named := ["internal/bytealg.MaxLen"], apart := false }
def FnPathUnderRootSaid : Prop := fnPathUnderRootRow.holds Try.pinned (OpenSpec.ofChange fnPathUnderRootSpec)

/-- ITS FALSE NEIGHBOUR: 'it returns false'. Refute it at one input. -/
def fnPathUnderRootWrong : ChangeSpec := { name := "fnPathUnderRoot", fn := fun _ => fun
  | [d] => { results := [.lit (.bool false)], args := [d] }
  | _ => none }
def FnPathUnderRootWrongFalsely : Prop := fnPathUnderRootRow.holds Try.pinned (OpenSpec.ofChange fnPathUnderRootWrong)

/-- 'laws.FnPathNormal': WHATEVER THE INPUT: true; the input reads as it did. -/
def fnPathNormalSpec : ChangeSpec := { name := "fnPathNormal", fn := fun _ => fun
  | [d] => { results := [.lit (.bool true)], args := [d] }
  | _ => none }
def fnPathNormalRow : OpenClaim := { program := "ytlnjcikoeiffgaa", sum := "4be75fc9d395f63d4e2ac6798c417f58564ea6ced0f492025f89d1524de1946f", func := "loop.example/filereconciler/laws.FnPathNormal", spec := "fnPathNormal", inPlace := ["internal/bytealg.IndexByteString", "internal/bytealg.IndexString", "internal/abi.NoEscape", "internal/bytealg.MakeNoZero"], unfollowed := true, recurses := true, named := ["internal/bytealg.MaxLen"], apart := false }
def FnPathNormalSaid : Prop := fnPathNormalRow.holds Try.pinned (OpenSpec.ofChange fnPathNormalSpec)

/-- ITS FALSE NEIGHBOUR: 'it returns false'. Refute it at one input. -/
def fnPathNormalWrong : ChangeSpec := { name := "fnPathNormal", fn := fun _ => fun
  | [d] => { results := [.lit (.bool false)], args := [d] }
  | _ => none }
def FnPathNormalWrongFalsely : Prop := fnPathNormalRow.holds Try.pinned (OpenSpec.ofChange fnPathNormalWrong)

/-- 'laws.FnPathNormalDots': WHATEVER THE INPUT: true; the input reads as it did. -/
def fnPathNormalDotsSpec : ChangeSpec := { name := "fnPathNormalDots", fn := fun _ => fun
  | [d] => { results := [.lit (.bool true)], args := [d] }
  | _ => none }
def fnPathNormalDotsRow : OpenClaim := { program := "ytlnjcikoeiffgaa", sum := "4be75fc9d395f63d4e2ac6798c417f58564ea6ced0f492025f89d1524de1946f", func := "loop.example/filereconciler/laws.FnPathNormalDots", spec := "fnPathNormalDots", inPlace := ["internal/bytealg.IndexByteString", "internal/bytealg.IndexString", "internal/abi.NoEscape", "internal/bytealg.MakeNoZero"], unfollowed := true, recurses := true, named := ["internal/bytealg.MaxLen"], apart := false }
def FnPathNormalDotsSaid : Prop := fnPathNormalDotsRow.holds Try.pinned (OpenSpec.ofChange fnPathNormalDotsSpec)

/-- ITS FALSE NEIGHBOUR: 'it returns false'. Refute it at one input. -/
def fnPathNormalDotsWrong : ChangeSpec := { name := "fnPathNormalDots", fn := fun _ => fun
  | [d] => { results := [.lit (.bool false)], args := [d] }
  | _ => none }
def FnPathNormalDotsWrongFalsely : Prop := fnPathNormalDotsRow.holds Try.pinned (OpenSpec.ofChange fnPathNormalDotsWrong)

/-- 'laws.FnPathNormalSame': WHATEVER THE INPUT: true; the input reads as it did. -/
def fnPathNormalSameSpec : ChangeSpec := { name := "fnPathNormalSame", fn := fun _ => fun
  | [d] => { results := [.lit (.bool true)], args := [d] }
  | _ => none }
def fnPathNormalSameRow : OpenClaim := { program := "ytlnjcikoeiffgaa", sum := "4be75fc9d395f63d4e2ac6798c417f58564ea6ced0f492025f89d1524de1946f", func := "loop.example/filereconciler/laws.FnPathNormalSame", spec := "fnPathNormalSame", inPlace := ["internal/bytealg.IndexByteString", "internal/bytealg.IndexString", "internal/abi.NoEscape", "internal/bytealg.MakeNoZero"], unfollowed := true, recurses := true, named := ["internal/bytealg.MaxLen"], apart := false }
def FnPathNormalSameSaid : Prop := fnPathNormalSameRow.holds Try.pinned (OpenSpec.ofChange fnPathNormalSameSpec)

/-- ITS FALSE NEIGHBOUR: 'it returns false'. Refute it at one input. -/
def fnPathNormalSameWrong : ChangeSpec := { name := "fnPathNormalSame", fn := fun _ => fun
  | [d] => { results := [.lit (.bool false)], args := [d] }
  | _ => none }
def FnPathNormalSameWrongFalsely : Prop := fnPathNormalSameRow.holds Try.pinned (OpenSpec.ofChange fnPathNormalSameWrong)

/-- 'laws.FnExactPathValid': WHATEVER THE INPUT: true; the input reads as it did. -/
def fnExactPathValidSpec : ChangeSpec := { name := "fnExactPathValid", fn := fun _ => fun
  | [d] => { results := [.lit (.bool true)], args := [d] }
  | _ => none }
def fnExactPathValidRow : OpenClaim := { program := "ytlnjcikoeiffgaa", sum := "4be75fc9d395f63d4e2ac6798c417f58564ea6ced0f492025f89d1524de1946f", func := "loop.example/filereconciler/laws.FnExactPathValid", spec := "fnExactPathValid", inPlace := ["internal/bytealg.IndexByteString", "internal/bytealg.IndexString"], unfollowed := true, recurses := true, named := ["internal/bytealg.MaxLen"], apart := false }
def FnExactPathValidSaid : Prop := fnExactPathValidRow.holds Try.pinned (OpenSpec.ofChange fnExactPathValidSpec)

/-- ITS FALSE NEIGHBOUR: 'it returns false'. Refute it at one input. -/
def fnExactPathValidWrong : ChangeSpec := { name := "fnExactPathValid", fn := fun _ => fun
  | [d] => { results := [.lit (.bool false)], args := [d] }
  | _ => none }
def FnExactPathValidWrongFalsely : Prop := fnExactPathValidRow.holds Try.pinned (OpenSpec.ofChange fnExactPathValidWrong)

/-- 'laws.FnExactPathDepth': WHATEVER THE INPUT: true; the input reads as it did. -/
def fnExactPathDepthSpec : ChangeSpec := { name := "fnExactPathDepth", fn := fun _ => fun
  | [d] => { results := [.lit (.bool true)], args := [d] }
  | _ => none }
def fnExactPathDepthRow : OpenClaim := { program := "ytlnjcikoeiffgaa", sum := "4be75fc9d395f63d4e2ac6798c417f58564ea6ced0f492025f89d1524de1946f", func := "loop.example/filereconciler/laws.FnExactPathDepth", spec := "fnExactPathDepth", inPlace := ["internal/bytealg.IndexByteString", "internal/bytealg.IndexString"], unfollowed := true, recurses := true, named := ["internal/bytealg.MaxLen"], apart := false }
def FnExactPathDepthSaid : Prop := fnExactPathDepthRow.holds Try.pinned (OpenSpec.ofChange fnExactPathDepthSpec)

/-- ITS FALSE NEIGHBOUR: 'it returns false'. Refute it at one input. -/
def fnExactPathDepthWrong : ChangeSpec := { name := "fnExactPathDepth", fn := fun _ => fun
  | [d] => { results := [.lit (.bool false)], args := [d] }
  | _ => none }
def FnExactPathDepthWrongFalsely : Prop := fnExactPathDepthRow.holds Try.pinned (OpenSpec.ofChange fnExactPathDepthWrong)

/-- 'laws.FnExactPathParent': WHATEVER THE INPUT: true; the input reads as it did. -/
def fnExactPathParentSpec : ChangeSpec := { name := "fnExactPathParent", fn := fun _ => fun
  | [d] => { results := [.lit (.bool true)], args := [d] }
  | _ => none }
def fnExactPathParentRow : OpenClaim := { program := "ytlnjcikoeiffgaa", sum := "4be75fc9d395f63d4e2ac6798c417f58564ea6ced0f492025f89d1524de1946f", func := "loop.example/filereconciler/laws.FnExactPathParent", spec := "fnExactPathParent", inPlace := ["internal/bytealg.IndexByteString", "internal/bytealg.IndexString"], unfollowed := true, recurses := true, named := ["internal/bytealg.MaxLen"], apart := false }
def FnExactPathParentSaid : Prop := fnExactPathParentRow.holds Try.pinned (OpenSpec.ofChange fnExactPathParentSpec)

/-- ITS FALSE NEIGHBOUR: 'it returns false'. Refute it at one input. -/
def fnExactPathParentWrong : ChangeSpec := { name := "fnExactPathParent", fn := fun _ => fun
  | [d] => { results := [.lit (.bool false)], args := [d] }
  | _ => none }
def FnExactPathParentWrongFalsely : Prop := fnExactPathParentRow.holds Try.pinned (OpenSpec.ofChange fnExactPathParentWrong)

/-- 'laws.FnExactPathUnder': WHATEVER THE INPUT: true; the input reads as it did. -/
def fnExactPathUnderSpec : ChangeSpec := { name := "fnExactPathUnder", fn := fun _ => fun
  | [d1, d2] => { results := [.lit (.bool true)], args := [d1, d2] }
  | _ => none }
def fnExactPathUnderRow : OpenClaim := { program := "ytlnjcikoeiffgaa", sum := "4be75fc9d395f63d4e2ac6798c417f58564ea6ced0f492025f89d1524de1946f", func := "loop.example/filereconciler/laws.FnExactPathUnder", spec := "fnExactPathUnder", inPlace := ["internal/bytealg.IndexByteString", "internal/bytealg.IndexString"], unfollowed := true, recurses := true, named := ["internal/bytealg.MaxLen"], apart := false }
def FnExactPathUnderSaid : Prop := fnExactPathUnderRow.holds Try.pinned (OpenSpec.ofChange fnExactPathUnderSpec)

/-- ITS FALSE NEIGHBOUR: 'it returns false'. Refute it at one input. -/
def fnExactPathUnderWrong : ChangeSpec := { name := "fnExactPathUnder", fn := fun _ => fun
  | [d1, d2] => { results := [.lit (.bool false)], args := [d1, d2] }
  | _ => none }
def FnExactPathUnderWrongFalsely : Prop := fnExactPathUnderRow.holds Try.pinned (OpenSpec.ofChange fnExactPathUnderWrong)

/-- 'laws.FnExactPathNormal': WHATEVER THE INPUT: true; the input reads as it did. -/
def fnExactPathNormalSpec : ChangeSpec := { name := "fnExactPathNormal", fn := fun _ => fun
  | [d] => { results := [.lit (.bool true)], args := [d] }
  | _ => none }
def fnExactPathNormalRow : OpenClaim := { program := "ytlnjcikoeiffgaa", sum := "4be75fc9d395f63d4e2ac6798c417f58564ea6ced0f492025f89d1524de1946f", func := "loop.example/filereconciler/laws.FnExactPathNormal", spec := "fnExactPathNormal", inPlace := ["internal/bytealg.IndexByteString", "internal/bytealg.IndexString", "internal/abi.NoEscape", "internal/bytealg.MakeNoZero"], unfollowed := true, recurses := true, named := ["internal/bytealg.MaxLen"], apart := false }
def FnExactPathNormalSaid : Prop := fnExactPathNormalRow.holds Try.pinned (OpenSpec.ofChange fnExactPathNormalSpec)

/-- ITS FALSE NEIGHBOUR: 'it returns false'. Refute it at one input. -/
def fnExactPathNormalWrong : ChangeSpec := { name := "fnExactPathNormal", fn := fun _ => fun
  | [d] => { results := [.lit (.bool false)], args := [d] }
  | _ => none }
def FnExactPathNormalWrongFalsely : Prop := fnExactPathNormalRow.holds Try.pinned (OpenSpec.ofChange fnExactPathNormalWrong)

/- THE SECOND FORM. 'bulk': how many values and letters a reading holds, each counted each time it is reached (what is shared counts as often as it is met; a slice's spare places count too). A statement '..UptoSaid' is the law's where the arguments, and the package variables that the reading takes, are together of bulk at most 1048576: NARROWER than '..Said'. Prove '..Said' where nothing that the law and all that it calls make is longer than what came in: it says more and counts as full. Else prove '..UptoSaid'. A law counts once. -/
mutual
def uptoBulk {H : Type} : DataW H → Nat
  | .lit (.string bytes) => bytes.length + 1
  | .lit _ => 1
  | .nil => 1
  | .ptr d => uptoBulk d + 1
  | .slice elems spare => uptoBulkAll elems + uptoBulkAll spare + 1
  | .agg parts => uptoBulkAll parts + 1
  | .iface _ d => uptoBulk d + 1
  | .map entries => uptoBulkEntries entries + 1
  | .held _ => 1
def uptoBulkAll {H : Type} : List (DataW H) → Nat
  | [] => 0
  | d :: r => uptoBulk d + uptoBulkAll r
def uptoBulkEntries {H : Type} : List (Lit × DataW H) → Nat
  | [] => 0
  | x :: r => uptoBulkEntry x + uptoBulkEntries r
def uptoBulkEntry {H : Type} : Lit × DataW H → Nat
  | (.string bytes, d) => bytes.length + uptoBulk d + 1
  | (_, d) => uptoBulk d + 1
 end
def uptoSmall : (H : Type) → List (DataW H) → Bool := fun _ ds => decide (uptoBulkAll ds ≤ 1048576)
def OpenSpec.upto (s : _root_.Go.ChangeSpec) : _root_.Go.OpenSpec := { _root_.Go.OpenSpec.ofChange s with cond := some uptoSmall }

/-- 'laws.FnPathDepth', WHERE WHAT IT READS IS OF BULK AT MOST 1048576: true; the input reads as it did. -/
def fnPathDepthUptoRow : OpenClaim := { program := "ytlnjcikoeiffgaa", sum := "4be75fc9d395f63d4e2ac6798c417f58564ea6ced0f492025f89d1524de1946f", func := "loop.example/filereconciler/laws.FnPathDepth", spec := "fnPathDepth", inPlace := ["internal/bytealg.IndexByteString", "internal/bytealg.IndexString"], unfollowed := true, recurses := true, named := ["internal/bytealg.MaxLen"], apart := false, narrowed := true }
def FnPathDepthUptoSaid : Prop := fnPathDepthUptoRow.holds Try.pinned (OpenSpec.upto fnPathDepthSpec)

/-- 'laws.FnPathDepthBad', WHERE WHAT IT READS IS OF BULK AT MOST 1048576: true; the input reads as it did. -/
def fnPathDepthBadUptoRow : OpenClaim := { program := "ytlnjcikoeiffgaa", sum := "4be75fc9d395f63d4e2ac6798c417f58564ea6ced0f492025f89d1524de1946f", func := "loop.example/filereconciler/laws.FnPathDepthBad", spec := "fnPathDepthBad", inPlace := ["internal/bytealg.IndexByteString", "internal/bytealg.IndexString"], unfollowed := true, recurses := true, named := ["internal/bytealg.MaxLen"], apart := false, narrowed := true }
def FnPathDepthBadUptoSaid : Prop := fnPathDepthBadUptoRow.holds Try.pinned (OpenSpec.upto fnPathDepthBadSpec)

/-- 'laws.FnPathParent', WHERE WHAT IT READS IS OF BULK AT MOST 1048576: true; the input reads as it did. -/
def fnPathParentUptoRow : OpenClaim := { program := "ytlnjcikoeiffgaa", sum := "4be75fc9d395f63d4e2ac6798c417f58564ea6ced0f492025f89d1524de1946f", func := "loop.example/filereconciler/laws.FnPathParent", spec := "fnPathParent", inPlace := ["internal/bytealg.IndexByteString", "internal/bytealg.IndexString"], unfollowed := true, recurses := true, named := ["internal/bytealg.MaxLen"], apart := false, narrowed := true }
def FnPathParentUptoSaid : Prop := fnPathParentUptoRow.holds Try.pinned (OpenSpec.upto fnPathParentSpec)

/-- 'laws.FnPathUnder', WHERE WHAT IT READS IS OF BULK AT MOST 1048576: true; the input reads as it did. -/
def fnPathUnderUptoRow : OpenClaim := { program := "ytlnjcikoeiffgaa", sum := "4be75fc9d395f63d4e2ac6798c417f58564ea6ced0f492025f89d1524de1946f", func := "loop.example/filereconciler/laws.FnPathUnder", spec := "fnPathUnder", inPlace := ["internal/bytealg.IndexByteString", "internal/bytealg.IndexString"], unfollowed := true, recurses := true, named := ["internal/bytealg.MaxLen"], apart := false, narrowed := true }
def FnPathUnderUptoSaid : Prop := fnPathUnderUptoRow.holds Try.pinned (OpenSpec.upto fnPathUnderSpec)

/-- 'laws.FnPathUnderRoot', WHERE WHAT IT READS IS OF BULK AT MOST 1048576: true; the input reads as it did. -/
def fnPathUnderRootUptoRow : OpenClaim := { program := "ytlnjcikoeiffgaa", sum := "4be75fc9d395f63d4e2ac6798c417f58564ea6ced0f492025f89d1524de1946f", func := "loop.example/filereconciler/laws.FnPathUnderRoot", spec := "fnPathUnderRoot", inPlace := ["internal/bytealg.IndexByteString", "internal/bytealg.IndexString"], unfollowed := true, recurses := true, named := ["internal/bytealg.MaxLen"], apart := false, narrowed := true }
def FnPathUnderRootUptoSaid : Prop := fnPathUnderRootUptoRow.holds Try.pinned (OpenSpec.upto fnPathUnderRootSpec)

/-- 'laws.FnPathNormal', WHERE WHAT IT READS IS OF BULK AT MOST 1048576: true; the input reads as it did. -/
def fnPathNormalUptoRow : OpenClaim := { program := "ytlnjcikoeiffgaa", sum := "4be75fc9d395f63d4e2ac6798c417f58564ea6ced0f492025f89d1524de1946f", func := "loop.example/filereconciler/laws.FnPathNormal", spec := "fnPathNormal", inPlace := ["internal/bytealg.IndexByteString", "internal/bytealg.IndexString", "internal/abi.NoEscape", "internal/bytealg.MakeNoZero"], unfollowed := true, recurses := true, named := ["internal/bytealg.MaxLen"], apart := false, narrowed := true }
def FnPathNormalUptoSaid : Prop := fnPathNormalUptoRow.holds Try.pinned (OpenSpec.upto fnPathNormalSpec)

/-- 'laws.FnPathNormalDots', WHERE WHAT IT READS IS OF BULK AT MOST 1048576: true; the input reads as it did. -/
def fnPathNormalDotsUptoRow : OpenClaim := { program := "ytlnjcikoeiffgaa", sum := "4be75fc9d395f63d4e2ac6798c417f58564ea6ced0f492025f89d1524de1946f", func := "loop.example/filereconciler/laws.FnPathNormalDots", spec := "fnPathNormalDots", inPlace := ["internal/bytealg.IndexByteString", "internal/bytealg.IndexString", "internal/abi.NoEscape", "internal/bytealg.MakeNoZero"], unfollowed := true, recurses := true, named := ["internal/bytealg.MaxLen"], apart := false, narrowed := true }
def FnPathNormalDotsUptoSaid : Prop := fnPathNormalDotsUptoRow.holds Try.pinned (OpenSpec.upto fnPathNormalDotsSpec)

/-- 'laws.FnPathNormalSame', WHERE WHAT IT READS IS OF BULK AT MOST 1048576: true; the input reads as it did. -/
def fnPathNormalSameUptoRow : OpenClaim := { program := "ytlnjcikoeiffgaa", sum := "4be75fc9d395f63d4e2ac6798c417f58564ea6ced0f492025f89d1524de1946f", func := "loop.example/filereconciler/laws.FnPathNormalSame", spec := "fnPathNormalSame", inPlace := ["internal/bytealg.IndexByteString", "internal/bytealg.IndexString", "internal/abi.NoEscape", "internal/bytealg.MakeNoZero"], unfollowed := true, recurses := true, named := ["internal/bytealg.MaxLen"], apart := false, narrowed := true }
def FnPathNormalSameUptoSaid : Prop := fnPathNormalSameUptoRow.holds Try.pinned (OpenSpec.upto fnPathNormalSameSpec)

/-- 'laws.FnExactPathValid', WHERE WHAT IT READS IS OF BULK AT MOST 1048576: true; the input reads as it did. -/
def fnExactPathValidUptoRow : OpenClaim := { program := "ytlnjcikoeiffgaa", sum := "4be75fc9d395f63d4e2ac6798c417f58564ea6ced0f492025f89d1524de1946f", func := "loop.example/filereconciler/laws.FnExactPathValid", spec := "fnExactPathValid", inPlace := ["internal/bytealg.IndexByteString", "internal/bytealg.IndexString"], unfollowed := true, recurses := true, named := ["internal/bytealg.MaxLen"], apart := false, narrowed := true }
def FnExactPathValidUptoSaid : Prop := fnExactPathValidUptoRow.holds Try.pinned (OpenSpec.upto fnExactPathValidSpec)

/-- 'laws.FnExactPathDepth', WHERE WHAT IT READS IS OF BULK AT MOST 1048576: true; the input reads as it did. -/
def fnExactPathDepthUptoRow : OpenClaim := { program := "ytlnjcikoeiffgaa", sum := "4be75fc9d395f63d4e2ac6798c417f58564ea6ced0f492025f89d1524de1946f", func := "loop.example/filereconciler/laws.FnExactPathDepth", spec := "fnExactPathDepth", inPlace := ["internal/bytealg.IndexByteString", "internal/bytealg.IndexString"], unfollowed := true, recurses := true, named := ["internal/bytealg.MaxLen"], apart := false, narrowed := true }
def FnExactPathDepthUptoSaid : Prop := fnExactPathDepthUptoRow.holds Try.pinned (OpenSpec.upto fnExactPathDepthSpec)

/-- 'laws.FnExactPathParent', WHERE WHAT IT READS IS OF BULK AT MOST 1048576: true; the input reads as it did. -/
def fnExactPathParentUptoRow : OpenClaim := { program := "ytlnjcikoeiffgaa", sum := "4be75fc9d395f63d4e2ac6798c417f58564ea6ced0f492025f89d1524de1946f", func := "loop.example/filereconciler/laws.FnExactPathParent", spec := "fnExactPathParent", inPlace := ["internal/bytealg.IndexByteString", "internal/bytealg.IndexString"], unfollowed := true, recurses := true, named := ["internal/bytealg.MaxLen"], apart := false, narrowed := true }
def FnExactPathParentUptoSaid : Prop := fnExactPathParentUptoRow.holds Try.pinned (OpenSpec.upto fnExactPathParentSpec)

/-- 'laws.FnExactPathUnder', WHERE WHAT IT READS IS OF BULK AT MOST 1048576: true; the input reads as it did. -/
def fnExactPathUnderUptoRow : OpenClaim := { program := "ytlnjcikoeiffgaa", sum := "4be75fc9d395f63d4e2ac6798c417f58564ea6ced0f492025f89d1524de1946f", func := "loop.example/filereconciler/laws.FnExactPathUnder", spec := "fnExactPathUnder", inPlace := ["internal/bytealg.IndexByteString", "internal/bytealg.IndexString"], unfollowed := true, recurses := true, named := ["internal/bytealg.MaxLen"], apart := false, narrowed := true }
def FnExactPathUnderUptoSaid : Prop := fnExactPathUnderUptoRow.holds Try.pinned (OpenSpec.upto fnExactPathUnderSpec)

/-- 'laws.FnExactPathNormal', WHERE WHAT IT READS IS OF BULK AT MOST 1048576: true; the input reads as it did. -/
def fnExactPathNormalUptoRow : OpenClaim := { program := "ytlnjcikoeiffgaa", sum := "4be75fc9d395f63d4e2ac6798c417f58564ea6ced0f492025f89d1524de1946f", func := "loop.example/filereconciler/laws.FnExactPathNormal", spec := "fnExactPathNormal", inPlace := ["internal/bytealg.IndexByteString", "internal/bytealg.IndexString", "internal/abi.NoEscape", "internal/bytealg.MakeNoZero"], unfollowed := true, recurses := true, named := ["internal/bytealg.MaxLen"], apart := false, narrowed := true }
def FnExactPathNormalUptoSaid : Prop := fnExactPathNormalUptoRow.holds Try.pinned (OpenSpec.upto fnExactPathNormalSpec)

end Rows
end Go.Proofs.Ytlnjcikoeiffgaa
