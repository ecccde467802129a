/-
  No cell of these rows narrows 'for every input' (looked for: loops, veiled, ifaces, maps, wideKeys, modest, calm, conditions, laid).
  DERIVED. THE GIVEN ROWS OF THIS SEAT. 4 by the template 'for every input the law returns true; each argument reads behind the call as it read before'; 0 by the template 'total and deterministic' (their statements: YtmmnihgnejndjaaTotals.lean).
  GIVEN WITH THE SEED: the statements are not yours to turn. If you find one false, say at which input.
  Laid BY PROGRAM, IN A SANDBOX (cutbox-rows.mjs): the forced cells as the released guide's own fill.sh prints them over the translation 0ecda902925f1a01… (all of the seat's roots in one cut). By AI agents, Wed Nov 11 2026. No macro, syntax, notation, axiom, sorry.
-/
import Derived.Test.YtmmnihgnejndjaaChecked
import GoSem.Claim
import GoSem.ClaimJoined
import GoSem.ClaimMapViews
import Derived.JoinedTies
import Derived.KernelRfl
namespace Go.Proofs.Ytmmnihgnejndjaa
/- THE CELL 'sum', in the pinned program and in every row, IS THE sha256 OF THE DUMP (.gsa) THAT YtmmnihgnejndjaaProg.lean LOADS. Nothing in Lean hashes anything: it is a label: what it is worth is what the hold of that sum in a sandbox is worth. -/
noncomputable def Try.pinned : Pinned := { name := "ytmmnihgnejndjaa", sum := "0ecda902925f1a01a71fcc0a02980bd80cff68341971671a58962aa749581213", checked := Try.checked }
namespace Rows
def none {H : Type} : Left H := { results := [], args := [] }

/-- 'laws.FnContentTextBad': WHATEVER THE INPUT: true; the input reads as it did. -/
def fnContentTextBadSpec : ChangeSpec := { name := "fnContentTextBad", fn := fun _ => fun
  | [d] => { results := [.lit (.bool true)], args := [d] }
  | _ => none }
def fnContentTextBadRow : OpenClaim := { program := "ytmmnihgnejndjaa", sum := "0ecda902925f1a01a71fcc0a02980bd80cff68341971671a58962aa749581213", func := "loop.example/filereconciler/laws.FnContentTextBad", spec := "fnContentTextBad", unfollowed := true, recurses := true, apart := false }
def FnContentTextBadSaid : Prop := fnContentTextBadRow.holds Try.pinned (OpenSpec.ofChange fnContentTextBadSpec)

/-- ITS FALSE NEIGHBOUR: 'it returns false'. Refute it at one input. -/
def fnContentTextBadWrong : ChangeSpec := { name := "fnContentTextBad", fn := fun _ => fun
  | [d] => { results := [.lit (.bool false)], args := [d] }
  | _ => none }
def FnContentTextBadWrongFalsely : Prop := fnContentTextBadRow.holds Try.pinned (OpenSpec.ofChange fnContentTextBadWrong)

/-- 'laws.FnContentValue': WHATEVER THE INPUT: true; the input reads as it did. -/
def fnContentValueSpec : ChangeSpec := { name := "fnContentValue", fn := fun _ => fun
  | [d1, d2] => { results := [.lit (.bool true)], args := [d1, d2] }
  | _ => none }
def fnContentValueRow : OpenClaim := { program := "ytmmnihgnejndjaa", sum := "0ecda902925f1a01a71fcc0a02980bd80cff68341971671a58962aa749581213", func := "loop.example/filereconciler/laws.FnContentValue", spec := "fnContentValue", apart := false }
def FnContentValueSaid : Prop := fnContentValueRow.holds Try.pinned (OpenSpec.ofChange fnContentValueSpec)

/-- ITS FALSE NEIGHBOUR: 'it returns false'. Refute it at one input. -/
def fnContentValueWrong : ChangeSpec := { name := "fnContentValue", fn := fun _ => fun
  | [d1, d2] => { results := [.lit (.bool false)], args := [d1, d2] }
  | _ => none }
def FnContentValueWrongFalsely : Prop := fnContentValueRow.holds Try.pinned (OpenSpec.ofChange fnContentValueWrong)

/-- 'laws.FnExactContentValid': WHATEVER THE INPUT: true; the input reads as it did. -/
def fnExactContentValidSpec : ChangeSpec := { name := "fnExactContentValid", fn := fun _ => fun
  | [d] => { results := [.lit (.bool true)], args := [d] }
  | _ => none }
def fnExactContentValidRow : OpenClaim := { program := "ytmmnihgnejndjaa", sum := "0ecda902925f1a01a71fcc0a02980bd80cff68341971671a58962aa749581213", func := "loop.example/filereconciler/laws.FnExactContentValid", spec := "fnExactContentValid", apart := false }
def FnExactContentValidSaid : Prop := fnExactContentValidRow.holds Try.pinned (OpenSpec.ofChange fnExactContentValidSpec)

/-- ITS FALSE NEIGHBOUR: 'it returns false'. Refute it at one input. -/
def fnExactContentValidWrong : ChangeSpec := { name := "fnExactContentValid", fn := fun _ => fun
  | [d] => { results := [.lit (.bool false)], args := [d] }
  | _ => none }
def FnExactContentValidWrongFalsely : Prop := fnExactContentValidRow.holds Try.pinned (OpenSpec.ofChange fnExactContentValidWrong)

/-- 'laws.FnExactContentText': WHATEVER THE INPUT: true; the input reads as it did. -/
def fnExactContentTextSpec : ChangeSpec := { name := "fnExactContentText", fn := fun _ => fun
  | [d] => { results := [.lit (.bool true)], args := [d] }
  | _ => none }
def fnExactContentTextRow : OpenClaim := { program := "ytmmnihgnejndjaa", sum := "0ecda902925f1a01a71fcc0a02980bd80cff68341971671a58962aa749581213", func := "loop.example/filereconciler/laws.FnExactContentText", spec := "fnExactContentText", unfollowed := true, recurses := true, apart := false }
def FnExactContentTextSaid : Prop := fnExactContentTextRow.holds Try.pinned (OpenSpec.ofChange fnExactContentTextSpec)

/-- ITS FALSE NEIGHBOUR: 'it returns false'. Refute it at one input. -/
def fnExactContentTextWrong : ChangeSpec := { name := "fnExactContentText", fn := fun _ => fun
  | [d] => { results := [.lit (.bool false)], args := [d] }
  | _ => none }
def FnExactContentTextWrongFalsely : Prop := fnExactContentTextRow.holds Try.pinned (OpenSpec.ofChange fnExactContentTextWrong)

/- THE SECOND FORM. 'bulk': how many values and letters a reading holds, each counted each time it is reached (what is shared counts as often as it is met; a slice's spare places count too). A statement '..UptoSaid' is the law's where the arguments, and the package variables that the reading takes, are together of bulk at most 1048576: NARROWER than '..Said'. Prove '..Said' where nothing that the law and all that it calls make is longer than what came in: it says more and counts as full. Else prove '..UptoSaid'. A law counts once. -/
mutual
def uptoBulk {H : Type} : DataW H → Nat
  | .lit (.string bytes) => bytes.length + 1
  | .lit _ => 1
  | .nil => 1
  | .ptr d => uptoBulk d + 1
  | .slice elems spare => uptoBulkAll elems + uptoBulkAll spare + 1
  | .agg parts => uptoBulkAll parts + 1
  | .iface _ d => uptoBulk d + 1
  | .map entries => uptoBulkEntries entries + 1
  | .held _ => 1
def uptoBulkAll {H : Type} : List (DataW H) → Nat
  | [] => 0
  | d :: r => uptoBulk d + uptoBulkAll r
def uptoBulkEntries {H : Type} : List (Lit × DataW H) → Nat
  | [] => 0
  | x :: r => uptoBulkEntry x + uptoBulkEntries r
def uptoBulkEntry {H : Type} : Lit × DataW H → Nat
  | (.string bytes, d) => bytes.length + uptoBulk d + 1
  | (_, d) => uptoBulk d + 1
 end
def uptoSmall : (H : Type) → List (DataW H) → Bool := fun _ ds => decide (uptoBulkAll ds ≤ 1048576)
def OpenSpec.upto (s : _root_.Go.ChangeSpec) : _root_.Go.OpenSpec := { _root_.Go.OpenSpec.ofChange s with cond := some uptoSmall }

/-- 'laws.FnContentTextBad', WHERE WHAT IT READS IS OF BULK AT MOST 1048576: true; the input reads as it did. -/
def fnContentTextBadUptoRow : OpenClaim := { program := "ytmmnihgnejndjaa", sum := "0ecda902925f1a01a71fcc0a02980bd80cff68341971671a58962aa749581213", func := "loop.example/filereconciler/laws.FnContentTextBad", spec := "fnContentTextBad", unfollowed := true, recurses := true, apart := false, narrowed := true }
def FnContentTextBadUptoSaid : Prop := fnContentTextBadUptoRow.holds Try.pinned (OpenSpec.upto fnContentTextBadSpec)

/-- 'laws.FnContentValue', WHERE WHAT IT READS IS OF BULK AT MOST 1048576: true; the input reads as it did. -/
def fnContentValueUptoRow : OpenClaim := { program := "ytmmnihgnejndjaa", sum := "0ecda902925f1a01a71fcc0a02980bd80cff68341971671a58962aa749581213", func := "loop.example/filereconciler/laws.FnContentValue", spec := "fnContentValue", apart := false, narrowed := true }
def FnContentValueUptoSaid : Prop := fnContentValueUptoRow.holds Try.pinned (OpenSpec.upto fnContentValueSpec)

/-- 'laws.FnExactContentValid', WHERE WHAT IT READS IS OF BULK AT MOST 1048576: true; the input reads as it did. -/
def fnExactContentValidUptoRow : OpenClaim := { program := "ytmmnihgnejndjaa", sum := "0ecda902925f1a01a71fcc0a02980bd80cff68341971671a58962aa749581213", func := "loop.example/filereconciler/laws.FnExactContentValid", spec := "fnExactContentValid", apart := false, narrowed := true }
def FnExactContentValidUptoSaid : Prop := fnExactContentValidUptoRow.holds Try.pinned (OpenSpec.upto fnExactContentValidSpec)

/-- 'laws.FnExactContentText', WHERE WHAT IT READS IS OF BULK AT MOST 1048576: true; the input reads as it did. -/
def fnExactContentTextUptoRow : OpenClaim := { program := "ytmmnihgnejndjaa", sum := "0ecda902925f1a01a71fcc0a02980bd80cff68341971671a58962aa749581213", func := "loop.example/filereconciler/laws.FnExactContentText", spec := "fnExactContentText", unfollowed := true, recurses := true, apart := false, narrowed := true }
def FnExactContentTextUptoSaid : Prop := fnExactContentTextUptoRow.holds Try.pinned (OpenSpec.upto fnExactContentTextSpec)

end Rows
end Go.Proofs.Ytmmnihgnejndjaa
