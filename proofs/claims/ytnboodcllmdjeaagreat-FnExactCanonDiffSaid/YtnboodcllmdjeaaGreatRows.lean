/-
  No cell of these rows narrows 'for every input' (looked for: loops, veiled, ifaces, maps, wideKeys, modest, calm, conditions, laid).
  DERIVED. THE GIVEN ROWS OF THIS SEAT. 2 by the template 'for every input the law returns true; each argument reads behind the call as it read before'; 0 by the template 'total and deterministic' (their statements: YtnboodcllmdjeaaGreatTotals.lean).
  GIVEN WITH THE SEED: the statements are not yours to turn. If you find one false, say at which input.
  Laid BY PROGRAM, IN A SANDBOX (cutbox-rows.mjs): the forced cells as the released guide's own fill.sh prints them over the translation 4d9e36e69f9acf06… (all of the seat's roots in one cut). By AI agents, Wed Nov 11 2026. No macro, syntax, notation, axiom, sorry.
-/
import Derived.Test.YtnboodcllmdjeaaGreatChecked
import GoSem.Claim
import GoSem.ClaimJoined
import GoSem.ClaimMapViews
import Derived.JoinedTies
import Derived.KernelRfl
namespace Go.Proofs.YtnboodcllmdjeaaGreat
/- THE CELL 'sum', in the pinned program and in every row, IS THE sha256 OF THE DUMP (.gsa) THAT YtnboodcllmdjeaaGreatProg.lean LOADS. Nothing in Lean hashes anything: it is a label: what it is worth is what the hold of that sum in a sandbox is worth. -/
noncomputable def Tryz.pinned : Pinned := { name := "ytnboodcllmdjeaagreat", sum := "4d9e36e69f9acf060e9bbf6e07326f64753e6578bf06b860704255ec71dd715e", checked := Tryz.checked }
namespace Rows
def none {H : Type} : Left H := { results := [], args := [] }

/-- 'laws.FnCanonDiffTurned': WHATEVER THE INPUT: true; the input reads as it did. -/
def fnCanonDiffTurnedSpec : ChangeSpec := { name := "fnCanonDiffTurned", fn := fun _ => fun
  | [d] => { results := [.lit (.bool true)], args := [d] }
  | _ => none }
def fnCanonDiffTurnedRow : OpenClaim := { program := "ytnboodcllmdjeaagreat", sum := "4d9e36e69f9acf060e9bbf6e07326f64753e6578bf06b860704255ec71dd715e", func := "loop.example/filereconciler/laws.FnCanonDiffTurned", spec := "fnCanonDiffTurned", inPlace := ["internal/bytealg.IndexByteString", "internal/bytealg.IndexString"], unfollowed := true, recurses := true, named := ["internal/bytealg.MaxLen"], apart := false }
def FnCanonDiffTurnedSaid : Prop := fnCanonDiffTurnedRow.holds Tryz.pinned (OpenSpec.ofChange fnCanonDiffTurnedSpec)

/-- ITS FALSE NEIGHBOUR: 'it returns false'. Refute it at one input. -/
def fnCanonDiffTurnedWrong : ChangeSpec := { name := "fnCanonDiffTurned", fn := fun _ => fun
  | [d] => { results := [.lit (.bool false)], args := [d] }
  | _ => none }
def FnCanonDiffTurnedWrongFalsely : Prop := fnCanonDiffTurnedRow.holds Tryz.pinned (OpenSpec.ofChange fnCanonDiffTurnedWrong)

/-- 'laws.FnExactCanonDiff': WHATEVER THE INPUT: true; the input reads as it did. -/
def fnExactCanonDiffSpec : ChangeSpec := { name := "fnExactCanonDiff", fn := fun _ => fun
  | [d1, d2] => { results := [.lit (.bool true)], args := [d1, d2] }
  | _ => none }
def fnExactCanonDiffRow : OpenClaim := { program := "ytnboodcllmdjeaagreat", sum := "4d9e36e69f9acf060e9bbf6e07326f64753e6578bf06b860704255ec71dd715e", func := "loop.example/filereconciler/laws.FnExactCanonDiff", spec := "fnExactCanonDiff", inPlace := ["internal/bytealg.IndexByteString", "internal/bytealg.IndexString"], unfollowed := true, recurses := true, named := ["internal/bytealg.MaxLen"], apart := false }
def FnExactCanonDiffSaid : Prop := fnExactCanonDiffRow.holds Tryz.pinned (OpenSpec.ofChange fnExactCanonDiffSpec)

/-- ITS FALSE NEIGHBOUR: 'it returns false'. Refute it at one input. -/
def fnExactCanonDiffWrong : ChangeSpec := { name := "fnExactCanonDiff", fn := fun _ => fun
  | [d1, d2] => { results := [.lit (.bool false)], args := [d1, d2] }
  | _ => none }
def FnExactCanonDiffWrongFalsely : Prop := fnExactCanonDiffRow.holds Tryz.pinned (OpenSpec.ofChange fnExactCanonDiffWrong)

/- THE SECOND FORM. 'bulk': how many values and letters a reading holds, each counted each time it is reached (what is shared counts as often as it is met; a slice's spare places count too). A statement '..UptoSaid' is the law's where the arguments, and the package variables that the reading takes, are together of bulk at most 1048576: NARROWER than '..Said'. Prove '..Said' where nothing that the law and all that it calls make is longer than what came in: it says more and counts as full. Else prove '..UptoSaid'. A law counts once. -/
mutual
def uptoBulk {H : Type} : DataW H → Nat
  | .lit (.string bytes) => bytes.length + 1
  | .lit _ => 1
  | .nil => 1
  | .ptr d => uptoBulk d + 1
  | .slice elems spare => uptoBulkAll elems + uptoBulkAll spare + 1
  | .agg parts => uptoBulkAll parts + 1
  | .iface _ d => uptoBulk d + 1
  | .map entries => uptoBulkEntries entries + 1
  | .held _ => 1
def uptoBulkAll {H : Type} : List (DataW H) → Nat
  | [] => 0
  | d :: r => uptoBulk d + uptoBulkAll r
def uptoBulkEntries {H : Type} : List (Lit × DataW H) → Nat
  | [] => 0
  | x :: r => uptoBulkEntry x + uptoBulkEntries r
def uptoBulkEntry {H : Type} : Lit × DataW H → Nat
  | (.string bytes, d) => bytes.length + uptoBulk d + 1
  | (_, d) => uptoBulk d + 1
 end
def uptoSmall : (H : Type) → List (DataW H) → Bool := fun _ ds => decide (uptoBulkAll ds ≤ 1048576)
def OpenSpec.upto (s : _root_.Go.ChangeSpec) : _root_.Go.OpenSpec := { _root_.Go.OpenSpec.ofChange s with cond := some uptoSmall }

/-- 'laws.FnCanonDiffTurned', WHERE WHAT IT READS IS OF BULK AT MOST 1048576: true; the input reads as it did. -/
def fnCanonDiffTurnedUptoRow : OpenClaim := { program := "ytnboodcllmdjeaagreat", sum := "4d9e36e69f9acf060e9bbf6e07326f64753e6578bf06b860704255ec71dd715e", func := "loop.example/filereconciler/laws.FnCanonDiffTurned", spec := "fnCanonDiffTurned", inPlace := ["internal/bytealg.IndexByteString", "internal/bytealg.IndexString"], unfollowed := true, recurses := true, named := ["internal/bytealg.MaxLen"], apart := false, narrowed := true }
def FnCanonDiffTurnedUptoSaid : Prop := fnCanonDiffTurnedUptoRow.holds Tryz.pinned (OpenSpec.upto fnCanonDiffTurnedSpec)

/-- 'laws.FnExactCanonDiff', WHERE WHAT IT READS IS OF BULK AT MOST 1048576: true; the input reads as it did. -/
def fnExactCanonDiffUptoRow : OpenClaim := { program := "ytnboodcllmdjeaagreat", sum := "4d9e36e69f9acf060e9bbf6e07326f64753e6578bf06b860704255ec71dd715e", func := "loop.example/filereconciler/laws.FnExactCanonDiff", spec := "fnExactCanonDiff", inPlace := ["internal/bytealg.IndexByteString", "internal/bytealg.IndexString"], unfollowed := true, recurses := true, named := ["internal/bytealg.MaxLen"], apart := false, narrowed := true }
def FnExactCanonDiffUptoSaid : Prop := fnExactCanonDiffUptoRow.holds Tryz.pinned (OpenSpec.upto fnExactCanonDiffSpec)

end Rows
end Go.Proofs.YtnboodcllmdjeaaGreat
