/-
  No cell of these rows narrows 'for every input' (looked for: loops, veiled, ifaces, maps, wideKeys, modest, calm, conditions, laid).
  DERIVED. THE GIVEN ROWS OF THIS SEAT. 9 by the template 'for every input the law returns true; each argument reads behind the call as it read before'; 0 by the template 'total and deterministic' (their statements: YtmdidhlfpaganaaTotals.lean).
  GIVEN WITH THE SEED: the statements are not yours to turn. If you find one false, say at which input.
  Laid BY PROGRAM, IN A SANDBOX (cutbox-rows.mjs): the forced cells as the released guide's own fill.sh prints them over the translation c411e8c3e339ee8f… (all of the seat's roots in one cut). By AI agents, Wed Nov 11 2026. No macro, syntax, notation, axiom, sorry.
-/
import Derived.Test.YtmdidhlfpaganaaChecked
import GoSem.Claim
import GoSem.ClaimJoined
import GoSem.ClaimMapViews
import Derived.JoinedTies
import Derived.KernelRfl
namespace Go.Proofs.Ytmdidhlfpaganaa
/- THE CELL 'sum', in the pinned program and in every row, IS THE sha256 OF THE DUMP (.gsa) THAT YtmdidhlfpaganaaProg.lean LOADS. Nothing in Lean hashes anything: it is a label: what it is worth is what the hold of that sum in a sandbox is worth. -/
noncomputable def Try.pinned : Pinned := { name := "ytmdidhlfpaganaa", sum := "c411e8c3e339ee8f3a34f2f3b6bb6fe5d75145707206b73ccee42ad0020f739c", checked := Try.checked }
namespace Rows
def none {H : Type} : Left H := { results := [], args := [] }

/-- 'laws.FnTreeSum': WHATEVER THE INPUT: true; the input reads as it did. -/
def fnTreeSumSpec : ChangeSpec := { name := "fnTreeSum", fn := fun _ => fun
  | [d1, d2] => { results := [.lit (.bool true)], args := [d1, d2] }
  | _ => none }
def fnTreeSumRow : OpenClaim := { program := "ytmdidhlfpaganaa", sum := "c411e8c3e339ee8f3a34f2f3b6bb6fe5d75145707206b73ccee42ad0020f739c", func := "loop.example/filereconciler/laws.FnTreeSum", spec := "fnTreeSum", inPlace := ["internal/bytealg.IndexByteString", "internal/bytealg.IndexString"], unfollowed := true, recurses := true, named := ["internal/bytealg.MaxLen"], apart := false }
def FnTreeSumSaid : Prop := fnTreeSumRow.holds Try.pinned (OpenSpec.ofChange fnTreeSumSpec)

/-- ITS FALSE NEIGHBOUR: 'it returns false'. Refute it at one input. -/
def fnTreeSumWrong : ChangeSpec := { name := "fnTreeSum", fn := fun _ => fun
  | [d1, d2] => { results := [.lit (.bool false)], args := [d1, d2] }
  | _ => none }
def FnTreeSumWrongFalsely : Prop := fnTreeSumRow.holds Try.pinned (OpenSpec.ofChange fnTreeSumWrong)

/-- 'laws.FnTreeSumFile': WHATEVER THE INPUT: true; the input reads as it did. -/
def fnTreeSumFileSpec : ChangeSpec := { name := "fnTreeSumFile", fn := fun _ => fun
  | [d] => { results := [.lit (.bool true)], args := [d] }
  | _ => none }
def fnTreeSumFileRow : OpenClaim := { program := "ytmdidhlfpaganaa", sum := "c411e8c3e339ee8f3a34f2f3b6bb6fe5d75145707206b73ccee42ad0020f739c", func := "loop.example/filereconciler/laws.FnTreeSumFile", spec := "fnTreeSumFile", inPlace := ["internal/bytealg.IndexByteString", "internal/bytealg.IndexString"], unfollowed := true, recurses := true, named := ["internal/bytealg.MaxLen"], apart := false }
def FnTreeSumFileSaid : Prop := fnTreeSumFileRow.holds Try.pinned (OpenSpec.ofChange fnTreeSumFileSpec)

/-- ITS FALSE NEIGHBOUR: 'it returns false'. Refute it at one input. -/
def fnTreeSumFileWrong : ChangeSpec := { name := "fnTreeSumFile", fn := fun _ => fun
  | [d] => { results := [.lit (.bool false)], args := [d] }
  | _ => none }
def FnTreeSumFileWrongFalsely : Prop := fnTreeSumFileRow.holds Try.pinned (OpenSpec.ofChange fnTreeSumFileWrong)

/-- 'laws.FnTreeSums': WHATEVER THE INPUT: true; the input reads as it did. -/
def fnTreeSumsSpec : ChangeSpec := { name := "fnTreeSums", fn := fun _ => fun
  | [d] => { results := [.lit (.bool true)], args := [d] }
  | _ => none }
def fnTreeSumsRow : OpenClaim := { program := "ytmdidhlfpaganaa", sum := "c411e8c3e339ee8f3a34f2f3b6bb6fe5d75145707206b73ccee42ad0020f739c", func := "loop.example/filereconciler/laws.FnTreeSums", spec := "fnTreeSums", inPlace := ["internal/bytealg.IndexByteString", "internal/bytealg.IndexString"], unfollowed := true, recurses := true, named := ["internal/bytealg.MaxLen"], apart := false }
def FnTreeSumsSaid : Prop := fnTreeSumsRow.holds Try.pinned (OpenSpec.ofChange fnTreeSumsSpec)

/-- ITS FALSE NEIGHBOUR: 'it returns false'. Refute it at one input. -/
def fnTreeSumsWrong : ChangeSpec := { name := "fnTreeSums", fn := fun _ => fun
  | [d] => { results := [.lit (.bool false)], args := [d] }
  | _ => none }
def FnTreeSumsWrongFalsely : Prop := fnTreeSumsRow.holds Try.pinned (OpenSpec.ofChange fnTreeSumsWrong)

/-- 'laws.FnTreeChanged': WHATEVER THE INPUT: true; the input reads as it did. -/
def fnTreeChangedSpec : ChangeSpec := { name := "fnTreeChanged", fn := fun _ => fun
  | [d] => { results := [.lit (.bool true)], args := [d] }
  | _ => none }
def fnTreeChangedRow : OpenClaim := { program := "ytmdidhlfpaganaa", sum := "c411e8c3e339ee8f3a34f2f3b6bb6fe5d75145707206b73ccee42ad0020f739c", func := "loop.example/filereconciler/laws.FnTreeChanged", spec := "fnTreeChanged", inPlace := ["internal/bytealg.IndexByteString", "internal/bytealg.IndexString"], unfollowed := true, recurses := true, named := ["internal/bytealg.MaxLen"], apart := false }
def FnTreeChangedSaid : Prop := fnTreeChangedRow.holds Try.pinned (OpenSpec.ofChange fnTreeChangedSpec)

/-- ITS FALSE NEIGHBOUR: 'it returns false'. Refute it at one input. -/
def fnTreeChangedWrong : ChangeSpec := { name := "fnTreeChanged", fn := fun _ => fun
  | [d] => { results := [.lit (.bool false)], args := [d] }
  | _ => none }
def FnTreeChangedWrongFalsely : Prop := fnTreeChangedRow.holds Try.pinned (OpenSpec.ofChange fnTreeChangedWrong)

/-- 'laws.FnTreeChangedNone': WHATEVER THE INPUT: true; the input reads as it did. -/
def fnTreeChangedNoneSpec : ChangeSpec := { name := "fnTreeChangedNone", fn := fun _ => fun
  | [d] => { results := [.lit (.bool true)], args := [d] }
  | _ => none }
def fnTreeChangedNoneRow : OpenClaim := { program := "ytmdidhlfpaganaa", sum := "c411e8c3e339ee8f3a34f2f3b6bb6fe5d75145707206b73ccee42ad0020f739c", func := "loop.example/filereconciler/laws.FnTreeChangedNone", spec := "fnTreeChangedNone", inPlace := ["internal/bytealg.IndexByteString", "internal/bytealg.IndexString"], unfollowed := true, recurses := true, named := ["internal/bytealg.MaxLen"], apart := false }
def FnTreeChangedNoneSaid : Prop := fnTreeChangedNoneRow.holds Try.pinned (OpenSpec.ofChange fnTreeChangedNoneSpec)

/-- ITS FALSE NEIGHBOUR: 'it returns false'. Refute it at one input. -/
def fnTreeChangedNoneWrong : ChangeSpec := { name := "fnTreeChangedNone", fn := fun _ => fun
  | [d] => { results := [.lit (.bool false)], args := [d] }
  | _ => none }
def FnTreeChangedNoneWrongFalsely : Prop := fnTreeChangedNoneRow.holds Try.pinned (OpenSpec.ofChange fnTreeChangedNoneWrong)

/-- 'laws.FnTreeChangedOne': WHATEVER THE INPUT: true; the input reads as it did. -/
def fnTreeChangedOneSpec : ChangeSpec := { name := "fnTreeChangedOne", fn := fun _ => fun
  | [d] => { results := [.lit (.bool true)], args := [d] }
  | _ => none }
def fnTreeChangedOneRow : OpenClaim := { program := "ytmdidhlfpaganaa", sum := "c411e8c3e339ee8f3a34f2f3b6bb6fe5d75145707206b73ccee42ad0020f739c", func := "loop.example/filereconciler/laws.FnTreeChangedOne", spec := "fnTreeChangedOne", inPlace := ["internal/bytealg.IndexByteString", "internal/bytealg.IndexString"], unfollowed := true, recurses := true, named := ["internal/bytealg.MaxLen"], apart := false }
def FnTreeChangedOneSaid : Prop := fnTreeChangedOneRow.holds Try.pinned (OpenSpec.ofChange fnTreeChangedOneSpec)

/-- ITS FALSE NEIGHBOUR: 'it returns false'. Refute it at one input. -/
def fnTreeChangedOneWrong : ChangeSpec := { name := "fnTreeChangedOne", fn := fun _ => fun
  | [d] => { results := [.lit (.bool false)], args := [d] }
  | _ => none }
def FnTreeChangedOneWrongFalsely : Prop := fnTreeChangedOneRow.holds Try.pinned (OpenSpec.ofChange fnTreeChangedOneWrong)

/-- 'laws.FnExactTreeSum': WHATEVER THE INPUT: true; the input reads as it did. -/
def fnExactTreeSumSpec : ChangeSpec := { name := "fnExactTreeSum", fn := fun _ => fun
  | [d1, d2] => { results := [.lit (.bool true)], args := [d1, d2] }
  | _ => none }
def fnExactTreeSumRow : OpenClaim := { program := "ytmdidhlfpaganaa", sum := "c411e8c3e339ee8f3a34f2f3b6bb6fe5d75145707206b73ccee42ad0020f739c", func := "loop.example/filereconciler/laws.FnExactTreeSum", spec := "fnExactTreeSum", inPlace := ["internal/bytealg.IndexByteString", "internal/bytealg.IndexString"], unfollowed := true, recurses := true, named := ["internal/bytealg.MaxLen"], apart := false }
def FnExactTreeSumSaid : Prop := fnExactTreeSumRow.holds Try.pinned (OpenSpec.ofChange fnExactTreeSumSpec)

/-- ITS FALSE NEIGHBOUR: 'it returns false'. Refute it at one input. -/
def fnExactTreeSumWrong : ChangeSpec := { name := "fnExactTreeSum", fn := fun _ => fun
  | [d1, d2] => { results := [.lit (.bool false)], args := [d1, d2] }
  | _ => none }
def FnExactTreeSumWrongFalsely : Prop := fnExactTreeSumRow.holds Try.pinned (OpenSpec.ofChange fnExactTreeSumWrong)

/-- 'laws.FnExactTreeSums': WHATEVER THE INPUT: true; the input reads as it did. -/
def fnExactTreeSumsSpec : ChangeSpec := { name := "fnExactTreeSums", fn := fun _ => fun
  | [d] => { results := [.lit (.bool true)], args := [d] }
  | _ => none }
def fnExactTreeSumsRow : OpenClaim := { program := "ytmdidhlfpaganaa", sum := "c411e8c3e339ee8f3a34f2f3b6bb6fe5d75145707206b73ccee42ad0020f739c", func := "loop.example/filereconciler/laws.FnExactTreeSums", spec := "fnExactTreeSums", inPlace := ["internal/bytealg.IndexByteString", "internal/bytealg.IndexString"], unfollowed := true, recurses := true, named := ["internal/bytealg.MaxLen"], apart := false }
def FnExactTreeSumsSaid : Prop := fnExactTreeSumsRow.holds Try.pinned (OpenSpec.ofChange fnExactTreeSumsSpec)

/-- ITS FALSE NEIGHBOUR: 'it returns false'. Refute it at one input. -/
def fnExactTreeSumsWrong : ChangeSpec := { name := "fnExactTreeSums", fn := fun _ => fun
  | [d] => { results := [.lit (.bool false)], args := [d] }
  | _ => none }
def FnExactTreeSumsWrongFalsely : Prop := fnExactTreeSumsRow.holds Try.pinned (OpenSpec.ofChange fnExactTreeSumsWrong)

/-- 'laws.FnExactTreeChanged': WHATEVER THE INPUT: true; the input reads as it did. -/
def fnExactTreeChangedSpec : ChangeSpec := { name := "fnExactTreeChanged", fn := fun _ => fun
  | [d1, d2] => { results := [.lit (.bool true)], args := [d1, d2] }
  | _ => none }
def fnExactTreeChangedRow : OpenClaim := { program := "ytmdidhlfpaganaa", sum := "c411e8c3e339ee8f3a34f2f3b6bb6fe5d75145707206b73ccee42ad0020f739c", func := "loop.example/filereconciler/laws.FnExactTreeChanged", spec := "fnExactTreeChanged", inPlace := ["internal/bytealg.IndexByteString", "internal/bytealg.IndexString"], unfollowed := true, recurses := true, named := ["internal/bytealg.MaxLen"], apart := false }
def FnExactTreeChangedSaid : Prop := fnExactTreeChangedRow.holds Try.pinned (OpenSpec.ofChange fnExactTreeChangedSpec)

/-- ITS FALSE NEIGHBOUR: 'it returns false'. Refute it at one input. -/
def fnExactTreeChangedWrong : ChangeSpec := { name := "fnExactTreeChanged", fn := fun _ => fun
  | [d1, d2] => { results := [.lit (.bool false)], args := [d1, d2] }
  | _ => none }
def FnExactTreeChangedWrongFalsely : Prop := fnExactTreeChangedRow.holds Try.pinned (OpenSpec.ofChange fnExactTreeChangedWrong)

/- THE SECOND FORM. 'bulk': how many values and letters a reading holds, each counted each time it is reached (what is shared counts as often as it is met; a slice's spare places count too). A statement '..UptoSaid' is the law's where the arguments, and the package variables that the reading takes, are together of bulk at most 1048576: NARROWER than '..Said'. Prove '..Said' where nothing that the law and all that it calls make is longer than what came in: it says more and counts as full. Else prove '..UptoSaid'. A law counts once. -/
mutual
def uptoBulk {H : Type} : DataW H → Nat
  | .lit (.string bytes) => bytes.length + 1
  | .lit _ => 1
  | .nil => 1
  | .ptr d => uptoBulk d + 1
  | .slice elems spare => uptoBulkAll elems + uptoBulkAll spare + 1
  | .agg parts => uptoBulkAll parts + 1
  | .iface _ d => uptoBulk d + 1
  | .map entries => uptoBulkEntries entries + 1
  | .held _ => 1
def uptoBulkAll {H : Type} : List (DataW H) → Nat
  | [] => 0
  | d :: r => uptoBulk d + uptoBulkAll r
def uptoBulkEntries {H : Type} : List (Lit × DataW H) → Nat
  | [] => 0
  | x :: r => uptoBulkEntry x + uptoBulkEntries r
def uptoBulkEntry {H : Type} : Lit × DataW H → Nat
  | (.string bytes, d) => bytes.length + uptoBulk d + 1
  | (_, d) => uptoBulk d + 1
 end
def uptoSmall : (H : Type) → List (DataW H) → Bool := fun _ ds => decide (uptoBulkAll ds ≤ 1048576)
def OpenSpec.upto (s : _root_.Go.ChangeSpec) : _root_.Go.OpenSpec := { _root_.Go.OpenSpec.ofChange s with cond := some uptoSmall }

/-- 'laws.FnTreeSum', WHERE WHAT IT READS IS OF BULK AT MOST 1048576: true; the input reads as it did. -/
def fnTreeSumUptoRow : OpenClaim := { program := "ytmdidhlfpaganaa", sum := "c411e8c3e339ee8f3a34f2f3b6bb6fe5d75145707206b73ccee42ad0020f739c", func := "loop.example/filereconciler/laws.FnTreeSum", spec := "fnTreeSum", inPlace := ["internal/bytealg.IndexByteString", "internal/bytealg.IndexString"], unfollowed := true, recurses := true, named := ["internal/bytealg.MaxLen"], apart := false, narrowed := true }
def FnTreeSumUptoSaid : Prop := fnTreeSumUptoRow.holds Try.pinned (OpenSpec.upto fnTreeSumSpec)

/-- 'laws.FnTreeSumFile', WHERE WHAT IT READS IS OF BULK AT MOST 1048576: true; the input reads as it did. -/
def fnTreeSumFileUptoRow : OpenClaim := { program := "ytmdidhlfpaganaa", sum := "c411e8c3e339ee8f3a34f2f3b6bb6fe5d75145707206b73ccee42ad0020f739c", func := "loop.example/filereconciler/laws.FnTreeSumFile", spec := "fnTreeSumFile", inPlace := ["internal/bytealg.IndexByteString", "internal/bytealg.IndexString"], unfollowed := true, recurses := true, named := ["internal/bytealg.MaxLen"], apart := false, narrowed := true }
def FnTreeSumFileUptoSaid : Prop := fnTreeSumFileUptoRow.holds Try.pinned (OpenSpec.upto fnTreeSumFileSpec)

/-- 'laws.FnTreeSums', WHERE WHAT IT READS IS OF BULK AT MOST 1048576: true; the input reads as it did. -/
def fnTreeSumsUptoRow : OpenClaim := { program := "ytmdidhlfpaganaa", sum := "c411e8c3e339ee8f3a34f2f3b6bb6fe5d75145707206b73ccee42ad0020f739c", func := "loop.example/filereconciler/laws.FnTreeSums", spec := "fnTreeSums", inPlace := ["internal/bytealg.IndexByteString", "internal/bytealg.IndexString"], unfollowed := true, recurses := true, named := ["internal/bytealg.MaxLen"], apart := false, narrowed := true }
def FnTreeSumsUptoSaid : Prop := fnTreeSumsUptoRow.holds Try.pinned (OpenSpec.upto fnTreeSumsSpec)

/-- 'laws.FnTreeChanged', WHERE WHAT IT READS IS OF BULK AT MOST 1048576: true; the input reads as it did. -/
def fnTreeChangedUptoRow : OpenClaim := { program := "ytmdidhlfpaganaa", sum := "c411e8c3e339ee8f3a34f2f3b6bb6fe5d75145707206b73ccee42ad0020f739c", func := "loop.example/filereconciler/laws.FnTreeChanged", spec := "fnTreeChanged", inPlace := ["internal/bytealg.IndexByteString", "internal/bytealg.IndexString"], unfollowed := true, recurses := true, named := ["internal/bytealg.MaxLen"], apart := false, narrowed := true }
def FnTreeChangedUptoSaid : Prop := fnTreeChangedUptoRow.holds Try.pinned (OpenSpec.upto fnTreeChangedSpec)

/-- 'laws.FnTreeChangedNone', WHERE WHAT IT READS IS OF BULK AT MOST 1048576: true; the input reads as it did. -/
def fnTreeChangedNoneUptoRow : OpenClaim := { program := "ytmdidhlfpaganaa", sum := "c411e8c3e339ee8f3a34f2f3b6bb6fe5d75145707206b73ccee42ad0020f739c", func := "loop.example/filereconciler/laws.FnTreeChangedNone", spec := "fnTreeChangedNone", inPlace := ["internal/bytealg.IndexByteString", "internal/bytealg.IndexString"], unfollowed := true, recurses := true, named := ["internal/bytealg.MaxLen"], apart := false, narrowed := true }
def FnTreeChangedNoneUptoSaid : Prop := fnTreeChangedNoneUptoRow.holds Try.pinned (OpenSpec.upto fnTreeChangedNoneSpec)

/-- 'laws.FnTreeChangedOne', WHERE WHAT IT READS IS OF BULK AT MOST 1048576: true; the input reads as it did. -/
def fnTreeChangedOneUptoRow : OpenClaim := { program := "ytmdidhlfpaganaa", sum := "c411e8c3e339ee8f3a34f2f3b6bb6fe5d75145707206b73ccee42ad0020f739c", func := "loop.example/filereconciler/laws.FnTreeChangedOne", spec := "fnTreeChangedOne", inPlace := ["internal/bytealg.IndexByteString", "internal/bytealg.IndexString"], unfollowed := true, recurses := true, named := ["internal/bytealg.MaxLen"], apart := false, narrowed := true }
def FnTreeChangedOneUptoSaid : Prop := fnTreeChangedOneUptoRow.holds Try.pinned (OpenSpec.upto fnTreeChangedOneSpec)

/-- 'laws.FnExactTreeSum', WHERE WHAT IT READS IS OF BULK AT MOST 1048576: true; the input reads as it did. -/
def fnExactTreeSumUptoRow : OpenClaim := { program := "ytmdidhlfpaganaa", sum := "c411e8c3e339ee8f3a34f2f3b6bb6fe5d75145707206b73ccee42ad0020f739c", func := "loop.example/filereconciler/laws.FnExactTreeSum", spec := "fnExactTreeSum", inPlace := ["internal/bytealg.IndexByteString", "internal/bytealg.IndexString"], unfollowed := true, recurses := true, named := ["internal/bytealg.MaxLen"], apart := false, narrowed := true }
def FnExactTreeSumUptoSaid : Prop := fnExactTreeSumUptoRow.holds Try.pinned (OpenSpec.upto fnExactTreeSumSpec)

/-- 'laws.FnExactTreeSums', WHERE WHAT IT READS IS OF BULK AT MOST 1048576: true; the input reads as it did. -/
def fnExactTreeSumsUptoRow : OpenClaim := { program := "ytmdidhlfpaganaa", sum := "c411e8c3e339ee8f3a34f2f3b6bb6fe5d75145707206b73ccee42ad0020f739c", func := "loop.example/filereconciler/laws.FnExactTreeSums", spec := "fnExactTreeSums", inPlace := ["internal/bytealg.IndexByteString", "internal/bytealg.IndexString"], unfollowed := true, recurses := true, named := ["internal/bytealg.MaxLen"], apart := false, narrowed := true }
def FnExactTreeSumsUptoSaid : Prop := fnExactTreeSumsUptoRow.holds Try.pinned (OpenSpec.upto fnExactTreeSumsSpec)

/-- 'laws.FnExactTreeChanged', WHERE WHAT IT READS IS OF BULK AT MOST 1048576: true; the input reads as it did. -/
def fnExactTreeChangedUptoRow : OpenClaim := { program := "ytmdidhlfpaganaa", sum := "c411e8c3e339ee8f3a34f2f3b6bb6fe5d75145707206b73ccee42ad0020f739c", func := "loop.example/filereconciler/laws.FnExactTreeChanged", spec := "fnExactTreeChanged", inPlace := ["internal/bytealg.IndexByteString", "internal/bytealg.IndexString"], unfollowed := true, recurses := true, named := ["internal/bytealg.MaxLen"], apart := false, narrowed := true }
def FnExactTreeChangedUptoSaid : Prop := fnExactTreeChangedUptoRow.holds Try.pinned (OpenSpec.upto fnExactTreeChangedSpec)

end Rows
end Go.Proofs.Ytmdidhlfpaganaa
