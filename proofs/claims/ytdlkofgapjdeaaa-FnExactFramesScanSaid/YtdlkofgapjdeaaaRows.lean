/-
  No cell of these rows narrows 'for every input' (looked for: loops, veiled, ifaces, maps, wideKeys, modest, calm, conditions, laid).
  DERIVED. THE GIVEN ROWS OF THIS SEAT. 12 by the template 'for every input the law returns true; each argument reads behind the call as it read before'; 0 by the template 'total and deterministic' (their statements: YtdlkofgapjdeaaaTotals.lean).
  GIVEN WITH THE SEED: the statements are not yours to turn. If you find one false, say at which input.
  Laid BY PROGRAM, IN A SANDBOX (cutbox-rows.mjs): the forced cells as the released guide's own fill.sh prints them over the translation 72ee6448b0bd5e61… (all of the seat's roots in one cut). By AI agents, Wed Nov 11 2026. No macro, syntax, notation, axiom, sorry.
-/
import Derived.Test.YtdlkofgapjdeaaaChecked
import GoSem.Claim
import GoSem.ClaimJoined
import GoSem.ClaimMapViews
import Derived.JoinedTies
import Derived.KernelRfl
namespace Go.Proofs.Ytdlkofgapjdeaaa
/- THE CELL 'sum', in the pinned program and in every row, IS THE sha256 OF THE DUMP (.gsa) THAT YtdlkofgapjdeaaaProg.lean LOADS. Nothing in Lean hashes anything: it is a label: what it is worth is what the hold of that sum in a sandbox is worth. -/
noncomputable def Try.pinned : Pinned := { name := "ytdlkofgapjdeaaa", sum := "72ee6448b0bd5e61dca83f43a1124f560d7dfd96cdad0f1017375aeaf7002584", checked := Try.checked }
namespace Rows
def none {H : Type} : Left H := { results := [], args := [] }

/-- 'laws.FnSum': WHATEVER THE INPUT: true; the input reads as it did. -/
def fnSumSpec : ChangeSpec := { name := "fnSum", fn := fun _ => fun
  | [d1, d2] => { results := [.lit (.bool true)], args := [d1, d2] }
  | _ => none }
def fnSumRow : OpenClaim := { program := "ytdlkofgapjdeaaa", sum := "72ee6448b0bd5e61dca83f43a1124f560d7dfd96cdad0f1017375aeaf7002584", func := "loop.example/filereconciler/laws.FnSum", spec := "fnSum", apart := false }
def FnSumSaid : Prop := fnSumRow.holds Try.pinned (OpenSpec.ofChange fnSumSpec)

/-- ITS FALSE NEIGHBOUR: 'it returns false'. Refute it at one input. -/
def fnSumWrong : ChangeSpec := { name := "fnSum", fn := fun _ => fun
  | [d1, d2] => { results := [.lit (.bool false)], args := [d1, d2] }
  | _ => none }
def FnSumWrongFalsely : Prop := fnSumRow.holds Try.pinned (OpenSpec.ofChange fnSumWrong)

/-- 'laws.FnFrame': WHATEVER THE INPUT: true; the input reads as it did. -/
def fnFrameSpec : ChangeSpec := { name := "fnFrame", fn := fun _ => fun
  | [d] => { results := [.lit (.bool true)], args := [d] }
  | _ => none }
def fnFrameRow : OpenClaim := { program := "ytdlkofgapjdeaaa", sum := "72ee6448b0bd5e61dca83f43a1124f560d7dfd96cdad0f1017375aeaf7002584", func := "loop.example/filereconciler/laws.FnFrame", spec := "fnFrame", apart := false }
def FnFrameSaid : Prop := fnFrameRow.holds Try.pinned (OpenSpec.ofChange fnFrameSpec)

/-- ITS FALSE NEIGHBOUR: 'it returns false'. Refute it at one input. -/
def fnFrameWrong : ChangeSpec := { name := "fnFrame", fn := fun _ => fun
  | [d] => { results := [.lit (.bool false)], args := [d] }
  | _ => none }
def FnFrameWrongFalsely : Prop := fnFrameRow.holds Try.pinned (OpenSpec.ofChange fnFrameWrong)

/-- 'laws.FnFrames': WHATEVER THE INPUT: true; the input reads as it did. -/
def fnFramesSpec : ChangeSpec := { name := "fnFrames", fn := fun _ => fun
  | [d] => { results := [.lit (.bool true)], args := [d] }
  | _ => none }
def fnFramesRow : OpenClaim := { program := "ytdlkofgapjdeaaa", sum := "72ee6448b0bd5e61dca83f43a1124f560d7dfd96cdad0f1017375aeaf7002584", func := "loop.example/filereconciler/laws.FnFrames", spec := "fnFrames", apart := false }
def FnFramesSaid : Prop := fnFramesRow.holds Try.pinned (OpenSpec.ofChange fnFramesSpec)

/-- ITS FALSE NEIGHBOUR: 'it returns false'. Refute it at one input. -/
def fnFramesWrong : ChangeSpec := { name := "fnFrames", fn := fun _ => fun
  | [d] => { results := [.lit (.bool false)], args := [d] }
  | _ => none }
def FnFramesWrongFalsely : Prop := fnFramesRow.holds Try.pinned (OpenSpec.ofChange fnFramesWrong)

/-- 'laws.FnFramesTorn': WHATEVER THE INPUT: true; the input reads as it did. -/
def fnFramesTornSpec : ChangeSpec := { name := "fnFramesTorn", fn := fun _ => fun
  | [d] => { results := [.lit (.bool true)], args := [d] }
  | _ => none }
def fnFramesTornRow : OpenClaim := { program := "ytdlkofgapjdeaaa", sum := "72ee6448b0bd5e61dca83f43a1124f560d7dfd96cdad0f1017375aeaf7002584", func := "loop.example/filereconciler/laws.FnFramesTorn", spec := "fnFramesTorn", apart := false }
def FnFramesTornSaid : Prop := fnFramesTornRow.holds Try.pinned (OpenSpec.ofChange fnFramesTornSpec)

/-- ITS FALSE NEIGHBOUR: 'it returns false'. Refute it at one input. -/
def fnFramesTornWrong : ChangeSpec := { name := "fnFramesTorn", fn := fun _ => fun
  | [d] => { results := [.lit (.bool false)], args := [d] }
  | _ => none }
def FnFramesTornWrongFalsely : Prop := fnFramesTornRow.holds Try.pinned (OpenSpec.ofChange fnFramesTornWrong)

/-- 'laws.FnScan': WHATEVER THE INPUT: true; the input reads as it did. -/
def fnScanSpec : ChangeSpec := { name := "fnScan", fn := fun _ => fun
  | [d] => { results := [.lit (.bool true)], args := [d] }
  | _ => none }
def fnScanRow : OpenClaim := { program := "ytdlkofgapjdeaaa", sum := "72ee6448b0bd5e61dca83f43a1124f560d7dfd96cdad0f1017375aeaf7002584", func := "loop.example/filereconciler/laws.FnScan", spec := "fnScan", apart := false }
def FnScanSaid : Prop := fnScanRow.holds Try.pinned (OpenSpec.ofChange fnScanSpec)

/-- ITS FALSE NEIGHBOUR: 'it returns false'. Refute it at one input. -/
def fnScanWrong : ChangeSpec := { name := "fnScan", fn := fun _ => fun
  | [d] => { results := [.lit (.bool false)], args := [d] }
  | _ => none }
def FnScanWrongFalsely : Prop := fnScanRow.holds Try.pinned (OpenSpec.ofChange fnScanWrong)

/-- 'laws.FnScanPart': WHATEVER THE INPUT: true; the input reads as it did. -/
def fnScanPartSpec : ChangeSpec := { name := "fnScanPart", fn := fun _ => fun
  | [d1, d2] => { results := [.lit (.bool true)], args := [d1, d2] }
  | _ => none }
def fnScanPartRow : OpenClaim := { program := "ytdlkofgapjdeaaa", sum := "72ee6448b0bd5e61dca83f43a1124f560d7dfd96cdad0f1017375aeaf7002584", func := "loop.example/filereconciler/laws.FnScanPart", spec := "fnScanPart", apart := false }
def FnScanPartSaid : Prop := fnScanPartRow.holds Try.pinned (OpenSpec.ofChange fnScanPartSpec)

/-- ITS FALSE NEIGHBOUR: 'it returns false'. Refute it at one input. -/
def fnScanPartWrong : ChangeSpec := { name := "fnScanPart", fn := fun _ => fun
  | [d1, d2] => { results := [.lit (.bool false)], args := [d1, d2] }
  | _ => none }
def FnScanPartWrongFalsely : Prop := fnScanPartRow.holds Try.pinned (OpenSpec.ofChange fnScanPartWrong)

/-- 'laws.FnScanMore': WHATEVER THE INPUT: true; the input reads as it did. -/
def fnScanMoreSpec : ChangeSpec := { name := "fnScanMore", fn := fun _ => fun
  | [d] => { results := [.lit (.bool true)], args := [d] }
  | _ => none }
def fnScanMoreRow : OpenClaim := { program := "ytdlkofgapjdeaaa", sum := "72ee6448b0bd5e61dca83f43a1124f560d7dfd96cdad0f1017375aeaf7002584", func := "loop.example/filereconciler/laws.FnScanMore", spec := "fnScanMore", apart := false }
def FnScanMoreSaid : Prop := fnScanMoreRow.holds Try.pinned (OpenSpec.ofChange fnScanMoreSpec)

/-- ITS FALSE NEIGHBOUR: 'it returns false'. Refute it at one input. -/
def fnScanMoreWrong : ChangeSpec := { name := "fnScanMore", fn := fun _ => fun
  | [d] => { results := [.lit (.bool false)], args := [d] }
  | _ => none }
def FnScanMoreWrongFalsely : Prop := fnScanMoreRow.holds Try.pinned (OpenSpec.ofChange fnScanMoreWrong)

/-- 'laws.FnFramesMany': WHATEVER THE INPUT: true; the input reads as it did. -/
def fnFramesManySpec : ChangeSpec := { name := "fnFramesMany", fn := fun _ => fun
  | [d1, d2] => { results := [.lit (.bool true)], args := [d1, d2] }
  | _ => none }
def fnFramesManyRow : OpenClaim := { program := "ytdlkofgapjdeaaa", sum := "72ee6448b0bd5e61dca83f43a1124f560d7dfd96cdad0f1017375aeaf7002584", func := "loop.example/filereconciler/laws.FnFramesMany", spec := "fnFramesMany", apart := false }
def FnFramesManySaid : Prop := fnFramesManyRow.holds Try.pinned (OpenSpec.ofChange fnFramesManySpec)

/-- ITS FALSE NEIGHBOUR: 'it returns false'. Refute it at one input. -/
def fnFramesManyWrong : ChangeSpec := { name := "fnFramesMany", fn := fun _ => fun
  | [d1, d2] => { results := [.lit (.bool false)], args := [d1, d2] }
  | _ => none }
def FnFramesManyWrongFalsely : Prop := fnFramesManyRow.holds Try.pinned (OpenSpec.ofChange fnFramesManyWrong)

/-- 'laws.FnExactBodySum': WHATEVER THE INPUT: true; the input reads as it did. -/
def fnExactBodySumSpec : ChangeSpec := { name := "fnExactBodySum", fn := fun _ => fun
  | [d] => { results := [.lit (.bool true)], args := [d] }
  | _ => none }
def fnExactBodySumRow : OpenClaim := { program := "ytdlkofgapjdeaaa", sum := "72ee6448b0bd5e61dca83f43a1124f560d7dfd96cdad0f1017375aeaf7002584", func := "loop.example/filereconciler/laws.FnExactBodySum", spec := "fnExactBodySum", apart := false }
def FnExactBodySumSaid : Prop := fnExactBodySumRow.holds Try.pinned (OpenSpec.ofChange fnExactBodySumSpec)

/-- ITS FALSE NEIGHBOUR: 'it returns false'. Refute it at one input. -/
def fnExactBodySumWrong : ChangeSpec := { name := "fnExactBodySum", fn := fun _ => fun
  | [d] => { results := [.lit (.bool false)], args := [d] }
  | _ => none }
def FnExactBodySumWrongFalsely : Prop := fnExactBodySumRow.holds Try.pinned (OpenSpec.ofChange fnExactBodySumWrong)

/-- 'laws.FnExactFrameOf': WHATEVER THE INPUT: true; the input reads as it did. -/
def fnExactFrameOfSpec : ChangeSpec := { name := "fnExactFrameOf", fn := fun _ => fun
  | [d] => { results := [.lit (.bool true)], args := [d] }
  | _ => none }
def fnExactFrameOfRow : OpenClaim := { program := "ytdlkofgapjdeaaa", sum := "72ee6448b0bd5e61dca83f43a1124f560d7dfd96cdad0f1017375aeaf7002584", func := "loop.example/filereconciler/laws.FnExactFrameOf", spec := "fnExactFrameOf", apart := false }
def FnExactFrameOfSaid : Prop := fnExactFrameOfRow.holds Try.pinned (OpenSpec.ofChange fnExactFrameOfSpec)

/-- ITS FALSE NEIGHBOUR: 'it returns false'. Refute it at one input. -/
def fnExactFrameOfWrong : ChangeSpec := { name := "fnExactFrameOf", fn := fun _ => fun
  | [d] => { results := [.lit (.bool false)], args := [d] }
  | _ => none }
def FnExactFrameOfWrongFalsely : Prop := fnExactFrameOfRow.holds Try.pinned (OpenSpec.ofChange fnExactFrameOfWrong)

/-- 'laws.FnExactFramesOf': WHATEVER THE INPUT: true; the input reads as it did. -/
def fnExactFramesOfSpec : ChangeSpec := { name := "fnExactFramesOf", fn := fun _ => fun
  | [d] => { results := [.lit (.bool true)], args := [d] }
  | _ => none }
def fnExactFramesOfRow : OpenClaim := { program := "ytdlkofgapjdeaaa", sum := "72ee6448b0bd5e61dca83f43a1124f560d7dfd96cdad0f1017375aeaf7002584", func := "loop.example/filereconciler/laws.FnExactFramesOf", spec := "fnExactFramesOf", apart := false }
def FnExactFramesOfSaid : Prop := fnExactFramesOfRow.holds Try.pinned (OpenSpec.ofChange fnExactFramesOfSpec)

/-- ITS FALSE NEIGHBOUR: 'it returns false'. Refute it at one input. -/
def fnExactFramesOfWrong : ChangeSpec := { name := "fnExactFramesOf", fn := fun _ => fun
  | [d] => { results := [.lit (.bool false)], args := [d] }
  | _ => none }
def FnExactFramesOfWrongFalsely : Prop := fnExactFramesOfRow.holds Try.pinned (OpenSpec.ofChange fnExactFramesOfWrong)

/-- 'laws.FnExactFramesScan': WHATEVER THE INPUT: true; the input reads as it did. -/
def fnExactFramesScanSpec : ChangeSpec := { name := "fnExactFramesScan", fn := fun _ => fun
  | [d] => { results := [.lit (.bool true)], args := [d] }
  | _ => none }
def fnExactFramesScanRow : OpenClaim := { program := "ytdlkofgapjdeaaa", sum := "72ee6448b0bd5e61dca83f43a1124f560d7dfd96cdad0f1017375aeaf7002584", func := "loop.example/filereconciler/laws.FnExactFramesScan", spec := "fnExactFramesScan", apart := false }
def FnExactFramesScanSaid : Prop := fnExactFramesScanRow.holds Try.pinned (OpenSpec.ofChange fnExactFramesScanSpec)

/-- ITS FALSE NEIGHBOUR: 'it returns false'. Refute it at one input. -/
def fnExactFramesScanWrong : ChangeSpec := { name := "fnExactFramesScan", fn := fun _ => fun
  | [d] => { results := [.lit (.bool false)], args := [d] }
  | _ => none }
def FnExactFramesScanWrongFalsely : Prop := fnExactFramesScanRow.holds Try.pinned (OpenSpec.ofChange fnExactFramesScanWrong)

/- THE SECOND FORM. 'bulk': how many values and letters a reading holds, each counted each time it is reached (what is shared counts as often as it is met; a slice's spare places count too). A statement '..UptoSaid' is the law's where the arguments, and the package variables that the reading takes, are together of bulk at most 1048576: NARROWER than '..Said'. Prove '..Said' where nothing that the law and all that it calls make is longer than what came in: it says more and counts as full. Else prove '..UptoSaid'. A law counts once. -/
mutual
def uptoBulk {H : Type} : DataW H → Nat
  | .lit (.string bytes) => bytes.length + 1
  | .lit _ => 1
  | .nil => 1
  | .ptr d => uptoBulk d + 1
  | .slice elems spare => uptoBulkAll elems + uptoBulkAll spare + 1
  | .agg parts => uptoBulkAll parts + 1
  | .iface _ d => uptoBulk d + 1
  | .map entries => uptoBulkEntries entries + 1
  | .held _ => 1
def uptoBulkAll {H : Type} : List (DataW H) → Nat
  | [] => 0
  | d :: r => uptoBulk d + uptoBulkAll r
def uptoBulkEntries {H : Type} : List (Lit × DataW H) → Nat
  | [] => 0
  | x :: r => uptoBulkEntry x + uptoBulkEntries r
def uptoBulkEntry {H : Type} : Lit × DataW H → Nat
  | (.string bytes, d) => bytes.length + uptoBulk d + 1
  | (_, d) => uptoBulk d + 1
 end
def uptoSmall : (H : Type) → List (DataW H) → Bool := fun _ ds => decide (uptoBulkAll ds ≤ 1048576)
def OpenSpec.upto (s : _root_.Go.ChangeSpec) : _root_.Go.OpenSpec := { _root_.Go.OpenSpec.ofChange s with cond := some uptoSmall }

/-- 'laws.FnSum', WHERE WHAT IT READS IS OF BULK AT MOST 1048576: true; the input reads as it did. -/
def fnSumUptoRow : OpenClaim := { program := "ytdlkofgapjdeaaa", sum := "72ee6448b0bd5e61dca83f43a1124f560d7dfd96cdad0f1017375aeaf7002584", func := "loop.example/filereconciler/laws.FnSum", spec := "fnSum", apart := false, narrowed := true }
def FnSumUptoSaid : Prop := fnSumUptoRow.holds Try.pinned (OpenSpec.upto fnSumSpec)

/-- 'laws.FnFrame', WHERE WHAT IT READS IS OF BULK AT MOST 1048576: true; the input reads as it did. -/
def fnFrameUptoRow : OpenClaim := { program := "ytdlkofgapjdeaaa", sum := "72ee6448b0bd5e61dca83f43a1124f560d7dfd96cdad0f1017375aeaf7002584", func := "loop.example/filereconciler/laws.FnFrame", spec := "fnFrame", apart := false, narrowed := true }
def FnFrameUptoSaid : Prop := fnFrameUptoRow.holds Try.pinned (OpenSpec.upto fnFrameSpec)

/-- 'laws.FnFrames', WHERE WHAT IT READS IS OF BULK AT MOST 1048576: true; the input reads as it did. -/
def fnFramesUptoRow : OpenClaim := { program := "ytdlkofgapjdeaaa", sum := "72ee6448b0bd5e61dca83f43a1124f560d7dfd96cdad0f1017375aeaf7002584", func := "loop.example/filereconciler/laws.FnFrames", spec := "fnFrames", apart := false, narrowed := true }
def FnFramesUptoSaid : Prop := fnFramesUptoRow.holds Try.pinned (OpenSpec.upto fnFramesSpec)

/-- 'laws.FnFramesTorn', WHERE WHAT IT READS IS OF BULK AT MOST 1048576: true; the input reads as it did. -/
def fnFramesTornUptoRow : OpenClaim := { program := "ytdlkofgapjdeaaa", sum := "72ee6448b0bd5e61dca83f43a1124f560d7dfd96cdad0f1017375aeaf7002584", func := "loop.example/filereconciler/laws.FnFramesTorn", spec := "fnFramesTorn", apart := false, narrowed := true }
def FnFramesTornUptoSaid : Prop := fnFramesTornUptoRow.holds Try.pinned (OpenSpec.upto fnFramesTornSpec)

/-- 'laws.FnScan', WHERE WHAT IT READS IS OF BULK AT MOST 1048576: true; the input reads as it did. -/
def fnScanUptoRow : OpenClaim := { program := "ytdlkofgapjdeaaa", sum := "72ee6448b0bd5e61dca83f43a1124f560d7dfd96cdad0f1017375aeaf7002584", func := "loop.example/filereconciler/laws.FnScan", spec := "fnScan", apart := false, narrowed := true }
def FnScanUptoSaid : Prop := fnScanUptoRow.holds Try.pinned (OpenSpec.upto fnScanSpec)

/-- 'laws.FnScanPart', WHERE WHAT IT READS IS OF BULK AT MOST 1048576: true; the input reads as it did. -/
def fnScanPartUptoRow : OpenClaim := { program := "ytdlkofgapjdeaaa", sum := "72ee6448b0bd5e61dca83f43a1124f560d7dfd96cdad0f1017375aeaf7002584", func := "loop.example/filereconciler/laws.FnScanPart", spec := "fnScanPart", apart := false, narrowed := true }
def FnScanPartUptoSaid : Prop := fnScanPartUptoRow.holds Try.pinned (OpenSpec.upto fnScanPartSpec)

/-- 'laws.FnScanMore', WHERE WHAT IT READS IS OF BULK AT MOST 1048576: true; the input reads as it did. -/
def fnScanMoreUptoRow : OpenClaim := { program := "ytdlkofgapjdeaaa", sum := "72ee6448b0bd5e61dca83f43a1124f560d7dfd96cdad0f1017375aeaf7002584", func := "loop.example/filereconciler/laws.FnScanMore", spec := "fnScanMore", apart := false, narrowed := true }
def FnScanMoreUptoSaid : Prop := fnScanMoreUptoRow.holds Try.pinned (OpenSpec.upto fnScanMoreSpec)

/-- 'laws.FnFramesMany', WHERE WHAT IT READS IS OF BULK AT MOST 1048576: true; the input reads as it did. -/
def fnFramesManyUptoRow : OpenClaim := { program := "ytdlkofgapjdeaaa", sum := "72ee6448b0bd5e61dca83f43a1124f560d7dfd96cdad0f1017375aeaf7002584", func := "loop.example/filereconciler/laws.FnFramesMany", spec := "fnFramesMany", apart := false, narrowed := true }
def FnFramesManyUptoSaid : Prop := fnFramesManyUptoRow.holds Try.pinned (OpenSpec.upto fnFramesManySpec)

/-- 'laws.FnExactBodySum', WHERE WHAT IT READS IS OF BULK AT MOST 1048576: true; the input reads as it did. -/
def fnExactBodySumUptoRow : OpenClaim := { program := "ytdlkofgapjdeaaa", sum := "72ee6448b0bd5e61dca83f43a1124f560d7dfd96cdad0f1017375aeaf7002584", func := "loop.example/filereconciler/laws.FnExactBodySum", spec := "fnExactBodySum", apart := false, narrowed := true }
def FnExactBodySumUptoSaid : Prop := fnExactBodySumUptoRow.holds Try.pinned (OpenSpec.upto fnExactBodySumSpec)

/-- 'laws.FnExactFrameOf', WHERE WHAT IT READS IS OF BULK AT MOST 1048576: true; the input reads as it did. -/
def fnExactFrameOfUptoRow : OpenClaim := { program := "ytdlkofgapjdeaaa", sum := "72ee6448b0bd5e61dca83f43a1124f560d7dfd96cdad0f1017375aeaf7002584", func := "loop.example/filereconciler/laws.FnExactFrameOf", spec := "fnExactFrameOf", apart := false, narrowed := true }
def FnExactFrameOfUptoSaid : Prop := fnExactFrameOfUptoRow.holds Try.pinned (OpenSpec.upto fnExactFrameOfSpec)

/-- 'laws.FnExactFramesOf', WHERE WHAT IT READS IS OF BULK AT MOST 1048576: true; the input reads as it did. -/
def fnExactFramesOfUptoRow : OpenClaim := { program := "ytdlkofgapjdeaaa", sum := "72ee6448b0bd5e61dca83f43a1124f560d7dfd96cdad0f1017375aeaf7002584", func := "loop.example/filereconciler/laws.FnExactFramesOf", spec := "fnExactFramesOf", apart := false, narrowed := true }
def FnExactFramesOfUptoSaid : Prop := fnExactFramesOfUptoRow.holds Try.pinned (OpenSpec.upto fnExactFramesOfSpec)

/-- 'laws.FnExactFramesScan', WHERE WHAT IT READS IS OF BULK AT MOST 1048576: true; the input reads as it did. -/
def fnExactFramesScanUptoRow : OpenClaim := { program := "ytdlkofgapjdeaaa", sum := "72ee6448b0bd5e61dca83f43a1124f560d7dfd96cdad0f1017375aeaf7002584", func := "loop.example/filereconciler/laws.FnExactFramesScan", spec := "fnExactFramesScan", apart := false, narrowed := true }
def FnExactFramesScanUptoSaid : Prop := fnExactFramesScanUptoRow.holds Try.pinned (OpenSpec.upto fnExactFramesScanSpec)

end Rows
end Go.Proofs.Ytdlkofgapjdeaaa
