/-
  No cell of these rows narrows 'for every input' (looked for: loops, veiled, ifaces, maps, wideKeys, modest, calm, conditions, laid).
  DERIVED. THE GIVEN ROWS OF THIS SEAT. 9 by the template 'for every input the law returns true; each argument reads behind the call as it read before'; 0 by the template 'total and deterministic' (their statements: YtmlnakkfjecibaaTotals.lean).
  GIVEN WITH THE SEED: the statements are not yours to turn. If you find one false, say at which input.
  Laid BY PROGRAM, IN A SANDBOX (cutbox-rows.mjs): the forced cells as the released guide's own fill.sh prints them over the translation 634beef1f43a7a7b… (all of the seat's roots in one cut). By AI agents, Wed Nov 11 2026. No macro, syntax, notation, axiom, sorry.
-/
import Derived.Test.YtmlnakkfjecibaaChecked
import GoSem.Claim
import GoSem.ClaimJoined
import GoSem.ClaimMapViews
import Derived.JoinedTies
import Derived.KernelRfl
namespace Go.Proofs.Ytmlnakkfjecibaa
/- THE CELL 'sum', in the pinned program and in every row, IS THE sha256 OF THE DUMP (.gsa) THAT YtmlnakkfjecibaaProg.lean LOADS. Nothing in Lean hashes anything: it is a label: what it is worth is what the hold of that sum in a sandbox is worth. -/
noncomputable def Try.pinned : Pinned := { name := "ytmlnakkfjecibaa", sum := "634beef1f43a7a7b3a97035a45bb54cdfb9d00f9f8bad552f664827617707ac9", checked := Try.checked }
namespace Rows
def none {H : Type} : Left H := { results := [], args := [] }

/-- 'laws.FnKeep': WHATEVER THE INPUT: true; the input reads as it did. -/
def fnKeepSpec : ChangeSpec := { name := "fnKeep", fn := fun _ => fun
  | [d] => { results := [.lit (.bool true)], args := [d] }
  | _ => none }
def fnKeepRow : OpenClaim := { program := "ytmlnakkfjecibaa", sum := "634beef1f43a7a7b3a97035a45bb54cdfb9d00f9f8bad552f664827617707ac9", func := "loop.example/filereconciler/laws.FnKeep", spec := "fnKeep", inPlace := ["internal/bytealg.IndexByteString", "internal/bytealg.IndexString"], unfollowed := true, recurses := true, named := ["internal/bytealg.MaxLen"], apart := false }
def FnKeepSaid : Prop := fnKeepRow.holds Try.pinned (OpenSpec.ofChange fnKeepSpec)

/-- ITS FALSE NEIGHBOUR: 'it returns false'. Refute it at one input. -/
def fnKeepWrong : ChangeSpec := { name := "fnKeep", fn := fun _ => fun
  | [d] => { results := [.lit (.bool false)], args := [d] }
  | _ => none }
def FnKeepWrongFalsely : Prop := fnKeepRow.holds Try.pinned (OpenSpec.ofChange fnKeepWrong)

/-- 'laws.FnKeepHold': WHATEVER THE INPUT: true; the input reads as it did. -/
def fnKeepHoldSpec : ChangeSpec := { name := "fnKeepHold", fn := fun _ => fun
  | [d] => { results := [.lit (.bool true)], args := [d] }
  | _ => none }
def fnKeepHoldRow : OpenClaim := { program := "ytmlnakkfjecibaa", sum := "634beef1f43a7a7b3a97035a45bb54cdfb9d00f9f8bad552f664827617707ac9", func := "loop.example/filereconciler/laws.FnKeepHold", spec := "fnKeepHold", inPlace := ["internal/bytealg.IndexByteString", "internal/bytealg.IndexString"], unfollowed := true, recurses := true, named := ["internal/bytealg.MaxLen"], apart := false }
def FnKeepHoldSaid : Prop := fnKeepHoldRow.holds Try.pinned (OpenSpec.ofChange fnKeepHoldSpec)

/-- ITS FALSE NEIGHBOUR: 'it returns false'. Refute it at one input. -/
def fnKeepHoldWrong : ChangeSpec := { name := "fnKeepHold", fn := fun _ => fun
  | [d] => { results := [.lit (.bool false)], args := [d] }
  | _ => none }
def FnKeepHoldWrongFalsely : Prop := fnKeepHoldRow.holds Try.pinned (OpenSpec.ofChange fnKeepHoldWrong)

/-- 'laws.FnKeepNone': WHATEVER THE INPUT: true; the input reads as it did. -/
def fnKeepNoneSpec : ChangeSpec := { name := "fnKeepNone", fn := fun _ => fun
  | [d1, d2] => { results := [.lit (.bool true)], args := [d1, d2] }
  | _ => none }
def fnKeepNoneRow : OpenClaim := { program := "ytmlnakkfjecibaa", sum := "634beef1f43a7a7b3a97035a45bb54cdfb9d00f9f8bad552f664827617707ac9", func := "loop.example/filereconciler/laws.FnKeepNone", spec := "fnKeepNone", inPlace := ["internal/bytealg.IndexByteString", "internal/bytealg.IndexString"], unfollowed := true, recurses := true, named := ["internal/bytealg.MaxLen"], apart := false }
def FnKeepNoneSaid : Prop := fnKeepNoneRow.holds Try.pinned (OpenSpec.ofChange fnKeepNoneSpec)

/-- ITS FALSE NEIGHBOUR: 'it returns false'. Refute it at one input. -/
def fnKeepNoneWrong : ChangeSpec := { name := "fnKeepNone", fn := fun _ => fun
  | [d1, d2] => { results := [.lit (.bool false)], args := [d1, d2] }
  | _ => none }
def FnKeepNoneWrongFalsely : Prop := fnKeepNoneRow.holds Try.pinned (OpenSpec.ofChange fnKeepNoneWrong)

/-- 'laws.FnFilterTree': WHATEVER THE INPUT: true; the input reads as it did. -/
def fnFilterTreeSpec : ChangeSpec := { name := "fnFilterTree", fn := fun _ => fun
  | [d] => { results := [.lit (.bool true)], args := [d] }
  | _ => none }
def fnFilterTreeRow : OpenClaim := { program := "ytmlnakkfjecibaa", sum := "634beef1f43a7a7b3a97035a45bb54cdfb9d00f9f8bad552f664827617707ac9", func := "loop.example/filereconciler/laws.FnFilterTree", spec := "fnFilterTree", inPlace := ["internal/bytealg.IndexByteString", "internal/bytealg.IndexString"], unfollowed := true, recurses := true, named := ["internal/bytealg.MaxLen"], apart := false }
def FnFilterTreeSaid : Prop := fnFilterTreeRow.holds Try.pinned (OpenSpec.ofChange fnFilterTreeSpec)

/-- ITS FALSE NEIGHBOUR: 'it returns false'. Refute it at one input. -/
def fnFilterTreeWrong : ChangeSpec := { name := "fnFilterTree", fn := fun _ => fun
  | [d] => { results := [.lit (.bool false)], args := [d] }
  | _ => none }
def FnFilterTreeWrongFalsely : Prop := fnFilterTreeRow.holds Try.pinned (OpenSpec.ofChange fnFilterTreeWrong)

/-- 'laws.FnIgnoresPart': WHATEVER THE INPUT: true; the input reads as it did. -/
def fnIgnoresPartSpec : ChangeSpec := { name := "fnIgnoresPart", fn := fun _ => fun
  | [d1, d2] => { results := [.lit (.bool true)], args := [d1, d2] }
  | _ => none }
def fnIgnoresPartRow : OpenClaim := { program := "ytmlnakkfjecibaa", sum := "634beef1f43a7a7b3a97035a45bb54cdfb9d00f9f8bad552f664827617707ac9", func := "loop.example/filereconciler/laws.FnIgnoresPart", spec := "fnIgnoresPart", inPlace := ["internal/bytealg.IndexByteString", "internal/bytealg.IndexString"], unfollowed := true, recurses := true, named := ["internal/bytealg.MaxLen"], apart := false }
def FnIgnoresPartSaid : Prop := fnIgnoresPartRow.holds Try.pinned (OpenSpec.ofChange fnIgnoresPartSpec)

/-- ITS FALSE NEIGHBOUR: 'it returns false'. Refute it at one input. -/
def fnIgnoresPartWrong : ChangeSpec := { name := "fnIgnoresPart", fn := fun _ => fun
  | [d1, d2] => { results := [.lit (.bool false)], args := [d1, d2] }
  | _ => none }
def FnIgnoresPartWrongFalsely : Prop := fnIgnoresPartRow.holds Try.pinned (OpenSpec.ofChange fnIgnoresPartWrong)

/-- 'laws.FnExactIgnoresValid': WHATEVER THE INPUT: true; the input reads as it did. -/
def fnExactIgnoresValidSpec : ChangeSpec := { name := "fnExactIgnoresValid", fn := fun _ => fun
  | [d] => { results := [.lit (.bool true)], args := [d] }
  | _ => none }
def fnExactIgnoresValidRow : OpenClaim := { program := "ytmlnakkfjecibaa", sum := "634beef1f43a7a7b3a97035a45bb54cdfb9d00f9f8bad552f664827617707ac9", func := "loop.example/filereconciler/laws.FnExactIgnoresValid", spec := "fnExactIgnoresValid", inPlace := ["internal/bytealg.IndexByteString", "internal/bytealg.IndexString"], unfollowed := true, recurses := true, named := ["internal/bytealg.MaxLen"], apart := false }
def FnExactIgnoresValidSaid : Prop := fnExactIgnoresValidRow.holds Try.pinned (OpenSpec.ofChange fnExactIgnoresValidSpec)

/-- ITS FALSE NEIGHBOUR: 'it returns false'. Refute it at one input. -/
def fnExactIgnoresValidWrong : ChangeSpec := { name := "fnExactIgnoresValid", fn := fun _ => fun
  | [d] => { results := [.lit (.bool false)], args := [d] }
  | _ => none }
def FnExactIgnoresValidWrongFalsely : Prop := fnExactIgnoresValidRow.holds Try.pinned (OpenSpec.ofChange fnExactIgnoresValidWrong)

/-- 'laws.FnExactFilterKeep': WHATEVER THE INPUT: true; the input reads as it did. -/
def fnExactFilterKeepSpec : ChangeSpec := { name := "fnExactFilterKeep", fn := fun _ => fun
  | [d1, d2] => { results := [.lit (.bool true)], args := [d1, d2] }
  | _ => none }
def fnExactFilterKeepRow : OpenClaim := { program := "ytmlnakkfjecibaa", sum := "634beef1f43a7a7b3a97035a45bb54cdfb9d00f9f8bad552f664827617707ac9", func := "loop.example/filereconciler/laws.FnExactFilterKeep", spec := "fnExactFilterKeep", inPlace := ["internal/bytealg.IndexByteString", "internal/bytealg.IndexString"], unfollowed := true, recurses := true, named := ["internal/bytealg.MaxLen"], apart := false }
def FnExactFilterKeepSaid : Prop := fnExactFilterKeepRow.holds Try.pinned (OpenSpec.ofChange fnExactFilterKeepSpec)

/-- ITS FALSE NEIGHBOUR: 'it returns false'. Refute it at one input. -/
def fnExactFilterKeepWrong : ChangeSpec := { name := "fnExactFilterKeep", fn := fun _ => fun
  | [d1, d2] => { results := [.lit (.bool false)], args := [d1, d2] }
  | _ => none }
def FnExactFilterKeepWrongFalsely : Prop := fnExactFilterKeepRow.holds Try.pinned (OpenSpec.ofChange fnExactFilterKeepWrong)

/-- 'laws.FnExactFilterHold': WHATEVER THE INPUT: true; the input reads as it did. -/
def fnExactFilterHoldSpec : ChangeSpec := { name := "fnExactFilterHold", fn := fun _ => fun
  | [d1, d2] => { results := [.lit (.bool true)], args := [d1, d2] }
  | _ => none }
def fnExactFilterHoldRow : OpenClaim := { program := "ytmlnakkfjecibaa", sum := "634beef1f43a7a7b3a97035a45bb54cdfb9d00f9f8bad552f664827617707ac9", func := "loop.example/filereconciler/laws.FnExactFilterHold", spec := "fnExactFilterHold", inPlace := ["internal/bytealg.IndexByteString", "internal/bytealg.IndexString"], unfollowed := true, recurses := true, named := ["internal/bytealg.MaxLen"], apart := false }
def FnExactFilterHoldSaid : Prop := fnExactFilterHoldRow.holds Try.pinned (OpenSpec.ofChange fnExactFilterHoldSpec)

/-- ITS FALSE NEIGHBOUR: 'it returns false'. Refute it at one input. -/
def fnExactFilterHoldWrong : ChangeSpec := { name := "fnExactFilterHold", fn := fun _ => fun
  | [d1, d2] => { results := [.lit (.bool false)], args := [d1, d2] }
  | _ => none }
def FnExactFilterHoldWrongFalsely : Prop := fnExactFilterHoldRow.holds Try.pinned (OpenSpec.ofChange fnExactFilterHoldWrong)

/-- 'laws.FnExactFilterTree': WHATEVER THE INPUT: true; the input reads as it did. -/
def fnExactFilterTreeSpec : ChangeSpec := { name := "fnExactFilterTree", fn := fun _ => fun
  | [d1, d2] => { results := [.lit (.bool true)], args := [d1, d2] }
  | _ => none }
def fnExactFilterTreeRow : OpenClaim := { program := "ytmlnakkfjecibaa", sum := "634beef1f43a7a7b3a97035a45bb54cdfb9d00f9f8bad552f664827617707ac9", func := "loop.example/filereconciler/laws.FnExactFilterTree", spec := "fnExactFilterTree", inPlace := ["internal/bytealg.IndexByteString", "internal/bytealg.IndexString"], unfollowed := true, recurses := true, named := ["internal/bytealg.MaxLen"], apart := false }
def FnExactFilterTreeSaid : Prop := fnExactFilterTreeRow.holds Try.pinned (OpenSpec.ofChange fnExactFilterTreeSpec)

/-- ITS FALSE NEIGHBOUR: 'it returns false'. Refute it at one input. -/
def fnExactFilterTreeWrong : ChangeSpec := { name := "fnExactFilterTree", fn := fun _ => fun
  | [d1, d2] => { results := [.lit (.bool false)], args := [d1, d2] }
  | _ => none }
def FnExactFilterTreeWrongFalsely : Prop := fnExactFilterTreeRow.holds Try.pinned (OpenSpec.ofChange fnExactFilterTreeWrong)

/- THE SECOND FORM. 'bulk': how many values and letters a reading holds, each counted each time it is reached (what is shared counts as often as it is met; a slice's spare places count too). A statement '..UptoSaid' is the law's where the arguments, and the package variables that the reading takes, are together of bulk at most 1048576: NARROWER than '..Said'. Prove '..Said' where nothing that the law and all that it calls make is longer than what came in: it says more and counts as full. Else prove '..UptoSaid'. A law counts once. -/
mutual
def uptoBulk {H : Type} : DataW H → Nat
  | .lit (.string bytes) => bytes.length + 1
  | .lit _ => 1
  | .nil => 1
  | .ptr d => uptoBulk d + 1
  | .slice elems spare => uptoBulkAll elems + uptoBulkAll spare + 1
  | .agg parts => uptoBulkAll parts + 1
  | .iface _ d => uptoBulk d + 1
  | .map entries => uptoBulkEntries entries + 1
  | .held _ => 1
def uptoBulkAll {H : Type} : List (DataW H) → Nat
  | [] => 0
  | d :: r => uptoBulk d + uptoBulkAll r
def uptoBulkEntries {H : Type} : List (Lit × DataW H) → Nat
  | [] => 0
  | x :: r => uptoBulkEntry x + uptoBulkEntries r
def uptoBulkEntry {H : Type} : Lit × DataW H → Nat
  | (.string bytes, d) => bytes.length + uptoBulk d + 1
  | (_, d) => uptoBulk d + 1
 end
def uptoSmall : (H : Type) → List (DataW H) → Bool := fun _ ds => decide (uptoBulkAll ds ≤ 1048576)
def OpenSpec.upto (s : _root_.Go.ChangeSpec) : _root_.Go.OpenSpec := { _root_.Go.OpenSpec.ofChange s with cond := some uptoSmall }

/-- 'laws.FnKeep', WHERE WHAT IT READS IS OF BULK AT MOST 1048576: true; the input reads as it did. -/
def fnKeepUptoRow : OpenClaim := { program := "ytmlnakkfjecibaa", sum := "634beef1f43a7a7b3a97035a45bb54cdfb9d00f9f8bad552f664827617707ac9", func := "loop.example/filereconciler/laws.FnKeep", spec := "fnKeep", inPlace := ["internal/bytealg.IndexByteString", "internal/bytealg.IndexString"], unfollowed := true, recurses := true, named := ["internal/bytealg.MaxLen"], apart := false, narrowed := true }
def FnKeepUptoSaid : Prop := fnKeepUptoRow.holds Try.pinned (OpenSpec.upto fnKeepSpec)

/-- 'laws.FnKeepHold', WHERE WHAT IT READS IS OF BULK AT MOST 1048576: true; the input reads as it did. -/
def fnKeepHoldUptoRow : OpenClaim := { program := "ytmlnakkfjecibaa", sum := "634beef1f43a7a7b3a97035a45bb54cdfb9d00f9f8bad552f664827617707ac9", func := "loop.example/filereconciler/laws.FnKeepHold", spec := "fnKeepHold", inPlace := ["internal/bytealg.IndexByteString", "internal/bytealg.IndexString"], unfollowed := true, recurses := true, named := ["internal/bytealg.MaxLen"], apart := false, narrowed := true }
def FnKeepHoldUptoSaid : Prop := fnKeepHoldUptoRow.holds Try.pinned (OpenSpec.upto fnKeepHoldSpec)

/-- 'laws.FnKeepNone', WHERE WHAT IT READS IS OF BULK AT MOST 1048576: true; the input reads as it did. -/
def fnKeepNoneUptoRow : OpenClaim := { program := "ytmlnakkfjecibaa", sum := "634beef1f43a7a7b3a97035a45bb54cdfb9d00f9f8bad552f664827617707ac9", func := "loop.example/filereconciler/laws.FnKeepNone", spec := "fnKeepNone", inPlace := ["internal/bytealg.IndexByteString", "internal/bytealg.IndexString"], unfollowed := true, recurses := true, named := ["internal/bytealg.MaxLen"], apart := false, narrowed := true }
def FnKeepNoneUptoSaid : Prop := fnKeepNoneUptoRow.holds Try.pinned (OpenSpec.upto fnKeepNoneSpec)

/-- 'laws.FnFilterTree', WHERE WHAT IT READS IS OF BULK AT MOST 1048576: true; the input reads as it did. -/
def fnFilterTreeUptoRow : OpenClaim := { program := "ytmlnakkfjecibaa", sum := "634beef1f43a7a7b3a97035a45bb54cdfb9d00f9f8bad552f664827617707ac9", func := "loop.example/filereconciler/laws.FnFilterTree", spec := "fnFilterTree", inPlace := ["internal/bytealg.IndexByteString", "internal/bytealg.IndexString"], unfollowed := true, recurses := true, named := ["internal/bytealg.MaxLen"], apart := false, narrowed := true }
def FnFilterTreeUptoSaid : Prop := fnFilterTreeUptoRow.holds Try.pinned (OpenSpec.upto fnFilterTreeSpec)

/-- 'laws.FnIgnoresPart', WHERE WHAT IT READS IS OF BULK AT MOST 1048576: true; the input reads as it did. -/
def fnIgnoresPartUptoRow : OpenClaim := { program := "ytmlnakkfjecibaa", sum := "634beef1f43a7a7b3a97035a45bb54cdfb9d00f9f8bad552f664827617707ac9", func := "loop.example/filereconciler/laws.FnIgnoresPart", spec := "fnIgnoresPart", inPlace := ["internal/bytealg.IndexByteString", "internal/bytealg.IndexString"], unfollowed := true, recurses := true, named := ["internal/bytealg.MaxLen"], apart := false, narrowed := true }
def FnIgnoresPartUptoSaid : Prop := fnIgnoresPartUptoRow.holds Try.pinned (OpenSpec.upto fnIgnoresPartSpec)

/-- 'laws.FnExactIgnoresValid', WHERE WHAT IT READS IS OF BULK AT MOST 1048576: true; the input reads as it did. -/
def fnExactIgnoresValidUptoRow : OpenClaim := { program := "ytmlnakkfjecibaa", sum := "634beef1f43a7a7b3a97035a45bb54cdfb9d00f9f8bad552f664827617707ac9", func := "loop.example/filereconciler/laws.FnExactIgnoresValid", spec := "fnExactIgnoresValid", inPlace := ["internal/bytealg.IndexByteString", "internal/bytealg.IndexString"], unfollowed := true, recurses := true, named := ["internal/bytealg.MaxLen"], apart := false, narrowed := true }
def FnExactIgnoresValidUptoSaid : Prop := fnExactIgnoresValidUptoRow.holds Try.pinned (OpenSpec.upto fnExactIgnoresValidSpec)

/-- 'laws.FnExactFilterKeep', WHERE WHAT IT READS IS OF BULK AT MOST 1048576: true; the input reads as it did. -/
def fnExactFilterKeepUptoRow : OpenClaim := { program := "ytmlnakkfjecibaa", sum := "634beef1f43a7a7b3a97035a45bb54cdfb9d00f9f8bad552f664827617707ac9", func := "loop.example/filereconciler/laws.FnExactFilterKeep", spec := "fnExactFilterKeep", inPlace := ["internal/bytealg.IndexByteString", "internal/bytealg.IndexString"], unfollowed := true, recurses := true, named := ["internal/bytealg.MaxLen"], apart := false, narrowed := true }
def FnExactFilterKeepUptoSaid : Prop := fnExactFilterKeepUptoRow.holds Try.pinned (OpenSpec.upto fnExactFilterKeepSpec)

/-- 'laws.FnExactFilterHold', WHERE WHAT IT READS IS OF BULK AT MOST 1048576: true; the input reads as it did. -/
def fnExactFilterHoldUptoRow : OpenClaim := { program := "ytmlnakkfjecibaa", sum := "634beef1f43a7a7b3a97035a45bb54cdfb9d00f9f8bad552f664827617707ac9", func := "loop.example/filereconciler/laws.FnExactFilterHold", spec := "fnExactFilterHold", inPlace := ["internal/bytealg.IndexByteString", "internal/bytealg.IndexString"], unfollowed := true, recurses := true, named := ["internal/bytealg.MaxLen"], apart := false, narrowed := true }
def FnExactFilterHoldUptoSaid : Prop := fnExactFilterHoldUptoRow.holds Try.pinned (OpenSpec.upto fnExactFilterHoldSpec)

/-- 'laws.FnExactFilterTree', WHERE WHAT IT READS IS OF BULK AT MOST 1048576: true; the input reads as it did. -/
def fnExactFilterTreeUptoRow : OpenClaim := { program := "ytmlnakkfjecibaa", sum := "634beef1f43a7a7b3a97035a45bb54cdfb9d00f9f8bad552f664827617707ac9", func := "loop.example/filereconciler/laws.FnExactFilterTree", spec := "fnExactFilterTree", inPlace := ["internal/bytealg.IndexByteString", "internal/bytealg.IndexString"], unfollowed := true, recurses := true, named := ["internal/bytealg.MaxLen"], apart := false, narrowed := true }
def FnExactFilterTreeUptoSaid : Prop := fnExactFilterTreeUptoRow.holds Try.pinned (OpenSpec.upto fnExactFilterTreeSpec)

end Rows
end Go.Proofs.Ytmlnakkfjecibaa
