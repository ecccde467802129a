/-
  No cell of these rows narrows 'for every input' (looked for: loops, veiled, ifaces, maps, wideKeys, modest, calm, conditions, laid).
  DERIVED. THE GIVEN ROWS OF THIS SEAT. 10 by the template 'for every input the law returns true; each argument reads behind the call as it read before'; 0 by the template 'total and deterministic' (their statements: YtdkpabnpobpdhaaTotals.lean).
  GIVEN WITH THE SEED: the statements are not yours to turn. If you find one false, say at which input.
  Laid BY PROGRAM, IN A SANDBOX (cutbox-rows.mjs): the forced cells as the released guide's own fill.sh prints them over the translation 1da08ea9cec4d1a4… (all of the seat's roots in one cut). By AI agents, Wed Nov 11 2026. No macro, syntax, notation, axiom, sorry.
-/
import Derived.Test.YtdkpabnpobpdhaaChecked
import GoSem.Claim
import GoSem.ClaimJoined
import GoSem.ClaimMapViews
import Derived.JoinedTies
import Derived.KernelRfl
namespace Go.Proofs.Ytdkpabnpobpdhaa
/- THE CELL 'sum', in the pinned program and in every row, IS THE sha256 OF THE DUMP (.gsa) THAT YtdkpabnpobpdhaaProg.lean LOADS. Nothing in Lean hashes anything: it is a label: what it is worth is what the hold of that sum in a sandbox is worth. -/
noncomputable def Try.pinned : Pinned := { name := "ytdkpabnpobpdhaa", sum := "1da08ea9cec4d1a4fda9028a7151104069234766b80fef94c069e40dc37f1af1", checked := Try.checked }
namespace Rows
def none {H : Type} : Left H := { results := [], args := [] }

/-- 'laws.FnClash': WHATEVER THE INPUT: true; the input reads as it did. -/
def fnClashSpec : ChangeSpec := { name := "fnClash", fn := fun _ => fun
  | [d] => { results := [.lit (.bool true)], args := [d] }
  | _ => none }
def fnClashRow : OpenClaim := { program := "ytdkpabnpobpdhaa", sum := "1da08ea9cec4d1a4fda9028a7151104069234766b80fef94c069e40dc37f1af1", func := "loop.example/filereconciler/laws.FnClash", spec := "fnClash", inPlace := ["internal/bytealg.IndexByteString", "internal/bytealg.IndexString"], unfollowed := true, recurses := true, named := ["internal/bytealg.MaxLen"], apart := false }
def FnClashSaid : Prop := fnClashRow.holds Try.pinned (OpenSpec.ofChange fnClashSpec)

/-- ITS FALSE NEIGHBOUR: 'it returns false'. Refute it at one input. -/
def fnClashWrong : ChangeSpec := { name := "fnClash", fn := fun _ => fun
  | [d] => { results := [.lit (.bool false)], args := [d] }
  | _ => none }
def FnClashWrongFalsely : Prop := fnClashRow.holds Try.pinned (OpenSpec.ofChange fnClashWrong)

/-- 'laws.FnClashWhen': WHATEVER THE INPUT: true; the input reads as it did. -/
def fnClashWhenSpec : ChangeSpec := { name := "fnClashWhen", fn := fun _ => fun
  | [d] => { results := [.lit (.bool true)], args := [d] }
  | _ => none }
def fnClashWhenRow : OpenClaim := { program := "ytdkpabnpobpdhaa", sum := "1da08ea9cec4d1a4fda9028a7151104069234766b80fef94c069e40dc37f1af1", func := "loop.example/filereconciler/laws.FnClashWhen", spec := "fnClashWhen", inPlace := ["internal/bytealg.IndexByteString", "internal/bytealg.IndexString"], unfollowed := true, recurses := true, named := ["internal/bytealg.MaxLen"], apart := false }
def FnClashWhenSaid : Prop := fnClashWhenRow.holds Try.pinned (OpenSpec.ofChange fnClashWhenSpec)

/-- ITS FALSE NEIGHBOUR: 'it returns false'. Refute it at one input. -/
def fnClashWhenWrong : ChangeSpec := { name := "fnClashWhen", fn := fun _ => fun
  | [d] => { results := [.lit (.bool false)], args := [d] }
  | _ => none }
def FnClashWhenWrongFalsely : Prop := fnClashWhenRow.holds Try.pinned (OpenSpec.ofChange fnClashWhenWrong)

/-- 'laws.FnClashTree': WHATEVER THE INPUT: true; the input reads as it did. -/
def fnClashTreeSpec : ChangeSpec := { name := "fnClashTree", fn := fun _ => fun
  | [d] => { results := [.lit (.bool true)], args := [d] }
  | _ => none }
def fnClashTreeRow : OpenClaim := { program := "ytdkpabnpobpdhaa", sum := "1da08ea9cec4d1a4fda9028a7151104069234766b80fef94c069e40dc37f1af1", func := "loop.example/filereconciler/laws.FnClashTree", spec := "fnClashTree", inPlace := ["internal/bytealg.IndexByteString", "internal/bytealg.IndexString"], unfollowed := true, recurses := true, named := ["internal/bytealg.MaxLen"], apart := false }
def FnClashTreeSaid : Prop := fnClashTreeRow.holds Try.pinned (OpenSpec.ofChange fnClashTreeSpec)

/-- ITS FALSE NEIGHBOUR: 'it returns false'. Refute it at one input. -/
def fnClashTreeWrong : ChangeSpec := { name := "fnClashTree", fn := fun _ => fun
  | [d] => { results := [.lit (.bool false)], args := [d] }
  | _ => none }
def FnClashTreeWrongFalsely : Prop := fnClashTreeRow.holds Try.pinned (OpenSpec.ofChange fnClashTreeWrong)

/-- 'laws.FnClashes': WHATEVER THE INPUT: true; the input reads as it did. -/
def fnClashesSpec : ChangeSpec := { name := "fnClashes", fn := fun _ => fun
  | [d] => { results := [.lit (.bool true)], args := [d] }
  | _ => none }
def fnClashesRow : OpenClaim := { program := "ytdkpabnpobpdhaa", sum := "1da08ea9cec4d1a4fda9028a7151104069234766b80fef94c069e40dc37f1af1", func := "loop.example/filereconciler/laws.FnClashes", spec := "fnClashes", inPlace := ["internal/bytealg.IndexByteString", "internal/bytealg.IndexString"], unfollowed := true, recurses := true, named := ["internal/bytealg.MaxLen"], apart := false }
def FnClashesSaid : Prop := fnClashesRow.holds Try.pinned (OpenSpec.ofChange fnClashesSpec)

/-- ITS FALSE NEIGHBOUR: 'it returns false'. Refute it at one input. -/
def fnClashesWrong : ChangeSpec := { name := "fnClashes", fn := fun _ => fun
  | [d] => { results := [.lit (.bool false)], args := [d] }
  | _ => none }
def FnClashesWrongFalsely : Prop := fnClashesRow.holds Try.pinned (OpenSpec.ofChange fnClashesWrong)

/-- 'laws.FnClashesTurned': WHATEVER THE INPUT: true; the input reads as it did. -/
def fnClashesTurnedSpec : ChangeSpec := { name := "fnClashesTurned", fn := fun _ => fun
  | [d] => { results := [.lit (.bool true)], args := [d] }
  | _ => none }
def fnClashesTurnedRow : OpenClaim := { program := "ytdkpabnpobpdhaa", sum := "1da08ea9cec4d1a4fda9028a7151104069234766b80fef94c069e40dc37f1af1", func := "loop.example/filereconciler/laws.FnClashesTurned", spec := "fnClashesTurned", inPlace := ["internal/bytealg.IndexByteString", "internal/bytealg.IndexString"], unfollowed := true, recurses := true, named := ["internal/bytealg.MaxLen"], apart := false }
def FnClashesTurnedSaid : Prop := fnClashesTurnedRow.holds Try.pinned (OpenSpec.ofChange fnClashesTurnedSpec)

/-- ITS FALSE NEIGHBOUR: 'it returns false'. Refute it at one input. -/
def fnClashesTurnedWrong : ChangeSpec := { name := "fnClashesTurned", fn := fun _ => fun
  | [d] => { results := [.lit (.bool false)], args := [d] }
  | _ => none }
def FnClashesTurnedWrongFalsely : Prop := fnClashesTurnedRow.holds Try.pinned (OpenSpec.ofChange fnClashesTurnedWrong)

/-- 'laws.FnExactCommandsClash': WHATEVER THE INPUT: true; the input reads as it did. -/
def fnExactCommandsClashSpec : ChangeSpec := { name := "fnExactCommandsClash", fn := fun _ => fun
  | [d1, d2] => { results := [.lit (.bool true)], args := [d1, d2] }
  | _ => none }
def fnExactCommandsClashRow : OpenClaim := { program := "ytdkpabnpobpdhaa", sum := "1da08ea9cec4d1a4fda9028a7151104069234766b80fef94c069e40dc37f1af1", func := "loop.example/filereconciler/laws.FnExactCommandsClash", spec := "fnExactCommandsClash", inPlace := ["internal/bytealg.IndexByteString", "internal/bytealg.IndexString"], unfollowed := true, recurses := true, named := ["internal/bytealg.MaxLen"], apart := false }
def FnExactCommandsClashSaid : Prop := fnExactCommandsClashRow.holds Try.pinned (OpenSpec.ofChange fnExactCommandsClashSpec)

/-- ITS FALSE NEIGHBOUR: 'it returns false'. Refute it at one input. -/
def fnExactCommandsClashWrong : ChangeSpec := { name := "fnExactCommandsClash", fn := fun _ => fun
  | [d1, d2] => { results := [.lit (.bool false)], args := [d1, d2] }
  | _ => none }
def FnExactCommandsClashWrongFalsely : Prop := fnExactCommandsClashRow.holds Try.pinned (OpenSpec.ofChange fnExactCommandsClashWrong)

/-- 'laws.FnExactClashesOf': WHATEVER THE INPUT: true; the input reads as it did. -/
def fnExactClashesOfSpec : ChangeSpec := { name := "fnExactClashesOf", fn := fun _ => fun
  | [d1, d2] => { results := [.lit (.bool true)], args := [d1, d2] }
  | _ => none }
def fnExactClashesOfRow : OpenClaim := { program := "ytdkpabnpobpdhaa", sum := "1da08ea9cec4d1a4fda9028a7151104069234766b80fef94c069e40dc37f1af1", func := "loop.example/filereconciler/laws.FnExactClashesOf", spec := "fnExactClashesOf", inPlace := ["internal/bytealg.IndexByteString", "internal/bytealg.IndexString"], unfollowed := true, recurses := true, named := ["internal/bytealg.MaxLen"], apart := false }
def FnExactClashesOfSaid : Prop := fnExactClashesOfRow.holds Try.pinned (OpenSpec.ofChange fnExactClashesOfSpec)

/-- ITS FALSE NEIGHBOUR: 'it returns false'. Refute it at one input. -/
def fnExactClashesOfWrong : ChangeSpec := { name := "fnExactClashesOf", fn := fun _ => fun
  | [d1, d2] => { results := [.lit (.bool false)], args := [d1, d2] }
  | _ => none }
def FnExactClashesOfWrongFalsely : Prop := fnExactClashesOfRow.holds Try.pinned (OpenSpec.ofChange fnExactClashesOfWrong)

/-- 'laws.FnExactSafeOf': WHATEVER THE INPUT: true; the input reads as it did. -/
def fnExactSafeOfSpec : ChangeSpec := { name := "fnExactSafeOf", fn := fun _ => fun
  | [d1, d2] => { results := [.lit (.bool true)], args := [d1, d2] }
  | _ => none }
def fnExactSafeOfRow : OpenClaim := { program := "ytdkpabnpobpdhaa", sum := "1da08ea9cec4d1a4fda9028a7151104069234766b80fef94c069e40dc37f1af1", func := "loop.example/filereconciler/laws.FnExactSafeOf", spec := "fnExactSafeOf", inPlace := ["internal/bytealg.IndexByteString", "internal/bytealg.IndexString"], unfollowed := true, recurses := true, named := ["internal/bytealg.MaxLen"], apart := false }
def FnExactSafeOfSaid : Prop := fnExactSafeOfRow.holds Try.pinned (OpenSpec.ofChange fnExactSafeOfSpec)

/-- ITS FALSE NEIGHBOUR: 'it returns false'. Refute it at one input. -/
def fnExactSafeOfWrong : ChangeSpec := { name := "fnExactSafeOf", fn := fun _ => fun
  | [d1, d2] => { results := [.lit (.bool false)], args := [d1, d2] }
  | _ => none }
def FnExactSafeOfWrongFalsely : Prop := fnExactSafeOfRow.holds Try.pinned (OpenSpec.ofChange fnExactSafeOfWrong)

/-- 'laws.FnExactAgreedOf': WHATEVER THE INPUT: true; the input reads as it did. -/
def fnExactAgreedOfSpec : ChangeSpec := { name := "fnExactAgreedOf", fn := fun _ => fun
  | [d1, d2] => { results := [.lit (.bool true)], args := [d1, d2] }
  | _ => none }
def fnExactAgreedOfRow : OpenClaim := { program := "ytdkpabnpobpdhaa", sum := "1da08ea9cec4d1a4fda9028a7151104069234766b80fef94c069e40dc37f1af1", func := "loop.example/filereconciler/laws.FnExactAgreedOf", spec := "fnExactAgreedOf", inPlace := ["internal/bytealg.IndexByteString", "internal/bytealg.IndexString"], unfollowed := true, recurses := true, named := ["internal/bytealg.MaxLen"], apart := false }
def FnExactAgreedOfSaid : Prop := fnExactAgreedOfRow.holds Try.pinned (OpenSpec.ofChange fnExactAgreedOfSpec)

/-- ITS FALSE NEIGHBOUR: 'it returns false'. Refute it at one input. -/
def fnExactAgreedOfWrong : ChangeSpec := { name := "fnExactAgreedOf", fn := fun _ => fun
  | [d1, d2] => { results := [.lit (.bool false)], args := [d1, d2] }
  | _ => none }
def FnExactAgreedOfWrongFalsely : Prop := fnExactAgreedOfRow.holds Try.pinned (OpenSpec.ofChange fnExactAgreedOfWrong)

/-- 'laws.FnExactLeftOf': WHATEVER THE INPUT: true; the input reads as it did. -/
def fnExactLeftOfSpec : ChangeSpec := { name := "fnExactLeftOf", fn := fun _ => fun
  | [d1, d2] => { results := [.lit (.bool true)], args := [d1, d2] }
  | _ => none }
def fnExactLeftOfRow : OpenClaim := { program := "ytdkpabnpobpdhaa", sum := "1da08ea9cec4d1a4fda9028a7151104069234766b80fef94c069e40dc37f1af1", func := "loop.example/filereconciler/laws.FnExactLeftOf", spec := "fnExactLeftOf", inPlace := ["internal/bytealg.IndexByteString", "internal/bytealg.IndexString"], unfollowed := true, recurses := true, named := ["internal/bytealg.MaxLen"], apart := false }
def FnExactLeftOfSaid : Prop := fnExactLeftOfRow.holds Try.pinned (OpenSpec.ofChange fnExactLeftOfSpec)

/-- ITS FALSE NEIGHBOUR: 'it returns false'. Refute it at one input. -/
def fnExactLeftOfWrong : ChangeSpec := { name := "fnExactLeftOf", fn := fun _ => fun
  | [d1, d2] => { results := [.lit (.bool false)], args := [d1, d2] }
  | _ => none }
def FnExactLeftOfWrongFalsely : Prop := fnExactLeftOfRow.holds Try.pinned (OpenSpec.ofChange fnExactLeftOfWrong)

/- THE SECOND FORM. 'bulk': how many values and letters a reading holds, each counted each time it is reached (what is shared counts as often as it is met; a slice's spare places count too). A statement '..UptoSaid' is the law's where the arguments, and the package variables that the reading takes, are together of bulk at most 1048576: NARROWER than '..Said'. Prove '..Said' where nothing that the law and all that it calls make is longer than what came in: it says more and counts as full. Else prove '..UptoSaid'. A law counts once. -/
mutual
def uptoBulk {H : Type} : DataW H → Nat
  | .lit (.string bytes) => bytes.length + 1
  | .lit _ => 1
  | .nil => 1
  | .ptr d => uptoBulk d + 1
  | .slice elems spare => uptoBulkAll elems + uptoBulkAll spare + 1
  | .agg parts => uptoBulkAll parts + 1
  | .iface _ d => uptoBulk d + 1
  | .map entries => uptoBulkEntries entries + 1
  | .held _ => 1
def uptoBulkAll {H : Type} : List (DataW H) → Nat
  | [] => 0
  | d :: r => uptoBulk d + uptoBulkAll r
def uptoBulkEntries {H : Type} : List (Lit × DataW H) → Nat
  | [] => 0
  | x :: r => uptoBulkEntry x + uptoBulkEntries r
def uptoBulkEntry {H : Type} : Lit × DataW H → Nat
  | (.string bytes, d) => bytes.length + uptoBulk d + 1
  | (_, d) => uptoBulk d + 1
 end
def uptoSmall : (H : Type) → List (DataW H) → Bool := fun _ ds => decide (uptoBulkAll ds ≤ 1048576)
def OpenSpec.upto (s : _root_.Go.ChangeSpec) : _root_.Go.OpenSpec := { _root_.Go.OpenSpec.ofChange s with cond := some uptoSmall }

/-- 'laws.FnClash', WHERE WHAT IT READS IS OF BULK AT MOST 1048576: true; the input reads as it did. -/
def fnClashUptoRow : OpenClaim := { program := "ytdkpabnpobpdhaa", sum := "1da08ea9cec4d1a4fda9028a7151104069234766b80fef94c069e40dc37f1af1", func := "loop.example/filereconciler/laws.FnClash", spec := "fnClash", inPlace := ["internal/bytealg.IndexByteString", "internal/bytealg.IndexString"], unfollowed := true, recurses := true, named := ["internal/bytealg.MaxLen"], apart := false, narrowed := true }
def FnClashUptoSaid : Prop := fnClashUptoRow.holds Try.pinned (OpenSpec.upto fnClashSpec)

/-- 'laws.FnClashWhen', WHERE WHAT IT READS IS OF BULK AT MOST 1048576: true; the input reads as it did. -/
def fnClashWhenUptoRow : OpenClaim := { program := "ytdkpabnpobpdhaa", sum := "1da08ea9cec4d1a4fda9028a7151104069234766b80fef94c069e40dc37f1af1", func := "loop.example/filereconciler/laws.FnClashWhen", spec := "fnClashWhen", inPlace := ["internal/bytealg.IndexByteString", "internal/bytealg.IndexString"], unfollowed := true, recurses := true, named := ["internal/bytealg.MaxLen"], apart := false, narrowed := true }
def FnClashWhenUptoSaid : Prop := fnClashWhenUptoRow.holds Try.pinned (OpenSpec.upto fnClashWhenSpec)

/-- 'laws.FnClashTree', WHERE WHAT IT READS IS OF BULK AT MOST 1048576: true; the input reads as it did. -/
def fnClashTreeUptoRow : OpenClaim := { program := "ytdkpabnpobpdhaa", sum := "1da08ea9cec4d1a4fda9028a7151104069234766b80fef94c069e40dc37f1af1", func := "loop.example/filereconciler/laws.FnClashTree", spec := "fnClashTree", inPlace := ["internal/bytealg.IndexByteString", "internal/bytealg.IndexString"], unfollowed := true, recurses := true, named := ["internal/bytealg.MaxLen"], apart := false, narrowed := true }
def FnClashTreeUptoSaid : Prop := fnClashTreeUptoRow.holds Try.pinned (OpenSpec.upto fnClashTreeSpec)

/-- 'laws.FnClashes', WHERE WHAT IT READS IS OF BULK AT MOST 1048576: true; the input reads as it did. -/
def fnClashesUptoRow : OpenClaim := { program := "ytdkpabnpobpdhaa", sum := "1da08ea9cec4d1a4fda9028a7151104069234766b80fef94c069e40dc37f1af1", func := "loop.example/filereconciler/laws.FnClashes", spec := "fnClashes", inPlace := ["internal/bytealg.IndexByteString", "internal/bytealg.IndexString"], unfollowed := true, recurses := true, named := ["internal/bytealg.MaxLen"], apart := false, narrowed := true }
def FnClashesUptoSaid : Prop := fnClashesUptoRow.holds Try.pinned (OpenSpec.upto fnClashesSpec)

/-- 'laws.FnClashesTurned', WHERE WHAT IT READS IS OF BULK AT MOST 1048576: true; the input reads as it did. -/
def fnClashesTurnedUptoRow : OpenClaim := { program := "ytdkpabnpobpdhaa", sum := "1da08ea9cec4d1a4fda9028a7151104069234766b80fef94c069e40dc37f1af1", func := "loop.example/filereconciler/laws.FnClashesTurned", spec := "fnClashesTurned", inPlace := ["internal/bytealg.IndexByteString", "internal/bytealg.IndexString"], unfollowed := true, recurses := true, named := ["internal/bytealg.MaxLen"], apart := false, narrowed := true }
def FnClashesTurnedUptoSaid : Prop := fnClashesTurnedUptoRow.holds Try.pinned (OpenSpec.upto fnClashesTurnedSpec)

/-- 'laws.FnExactCommandsClash', WHERE WHAT IT READS IS OF BULK AT MOST 1048576: true; the input reads as it did. -/
def fnExactCommandsClashUptoRow : OpenClaim := { program := "ytdkpabnpobpdhaa", sum := "1da08ea9cec4d1a4fda9028a7151104069234766b80fef94c069e40dc37f1af1", func := "loop.example/filereconciler/laws.FnExactCommandsClash", spec := "fnExactCommandsClash", inPlace := ["internal/bytealg.IndexByteString", "internal/bytealg.IndexString"], unfollowed := true, recurses := true, named := ["internal/bytealg.MaxLen"], apart := false, narrowed := true }
def FnExactCommandsClashUptoSaid : Prop := fnExactCommandsClashUptoRow.holds Try.pinned (OpenSpec.upto fnExactCommandsClashSpec)

/-- 'laws.FnExactClashesOf', WHERE WHAT IT READS IS OF BULK AT MOST 1048576: true; the input reads as it did. -/
def fnExactClashesOfUptoRow : OpenClaim := { program := "ytdkpabnpobpdhaa", sum := "1da08ea9cec4d1a4fda9028a7151104069234766b80fef94c069e40dc37f1af1", func := "loop.example/filereconciler/laws.FnExactClashesOf", spec := "fnExactClashesOf", inPlace := ["internal/bytealg.IndexByteString", "internal/bytealg.IndexString"], unfollowed := true, recurses := true, named := ["internal/bytealg.MaxLen"], apart := false, narrowed := true }
def FnExactClashesOfUptoSaid : Prop := fnExactClashesOfUptoRow.holds Try.pinned (OpenSpec.upto fnExactClashesOfSpec)

/-- 'laws.FnExactSafeOf', WHERE WHAT IT READS IS OF BULK AT MOST 1048576: true; the input reads as it did. -/
def fnExactSafeOfUptoRow : OpenClaim := { program := "ytdkpabnpobpdhaa", sum := "1da08ea9cec4d1a4fda9028a7151104069234766b80fef94c069e40dc37f1af1", func := "loop.example/filereconciler/laws.FnExactSafeOf", spec := "fnExactSafeOf", inPlace := ["internal/bytealg.IndexByteString", "internal/bytealg.IndexString"], unfollowed := true, recurses := true, named := ["internal/bytealg.MaxLen"], apart := false, narrowed := true }
def FnExactSafeOfUptoSaid : Prop := fnExactSafeOfUptoRow.holds Try.pinned (OpenSpec.upto fnExactSafeOfSpec)

/-- 'laws.FnExactAgreedOf', WHERE WHAT IT READS IS OF BULK AT MOST 1048576: true; the input reads as it did. -/
def fnExactAgreedOfUptoRow : OpenClaim := { program := "ytdkpabnpobpdhaa", sum := "1da08ea9cec4d1a4fda9028a7151104069234766b80fef94c069e40dc37f1af1", func := "loop.example/filereconciler/laws.FnExactAgreedOf", spec := "fnExactAgreedOf", inPlace := ["internal/bytealg.IndexByteString", "internal/bytealg.IndexString"], unfollowed := true, recurses := true, named := ["internal/bytealg.MaxLen"], apart := false, narrowed := true }
def FnExactAgreedOfUptoSaid : Prop := fnExactAgreedOfUptoRow.holds Try.pinned (OpenSpec.upto fnExactAgreedOfSpec)

/-- 'laws.FnExactLeftOf', WHERE WHAT IT READS IS OF BULK AT MOST 1048576: true; the input reads as it did. -/
def fnExactLeftOfUptoRow : OpenClaim := { program := "ytdkpabnpobpdhaa", sum := "1da08ea9cec4d1a4fda9028a7151104069234766b80fef94c069e40dc37f1af1", func := "loop.example/filereconciler/laws.FnExactLeftOf", spec := "fnExactLeftOf", inPlace := ["internal/bytealg.IndexByteString", "internal/bytealg.IndexString"], unfollowed := true, recurses := true, named := ["internal/bytealg.MaxLen"], apart := false, narrowed := true }
def FnExactLeftOfUptoSaid : Prop := fnExactLeftOfUptoRow.holds Try.pinned (OpenSpec.upto fnExactLeftOfSpec)

end Rows
end Go.Proofs.Ytdkpabnpobpdhaa
