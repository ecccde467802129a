/-
  No cell of these rows narrows 'for every input' (looked for: loops, veiled, ifaces, maps, wideKeys, modest, calm, conditions, laid).
  DERIVED. THE GIVEN ROWS OF THIS SEAT. 7 by the template 'for every input the law returns true; each argument reads behind the call as it read before'; 0 by the template 'total and deterministic' (their statements: YtnboodcllmdjeaaTotals.lean).
  GIVEN WITH THE SEED: the statements are not yours to turn. If you find one false, say at which input.
  Laid BY PROGRAM, IN A SANDBOX (cutbox-rows.mjs): the forced cells as the released guide's own fill.sh prints them over the translation 7de5fce0019982e6… (all of the seat's roots in one cut). By AI agents, Wed Nov 11 2026. No macro, syntax, notation, axiom, sorry.
-/
import Derived.Test.YtnboodcllmdjeaaChecked
import GoSem.Claim
import GoSem.ClaimJoined
import GoSem.ClaimMapViews
import Derived.JoinedTies
import Derived.KernelRfl
namespace Go.Proofs.Ytnboodcllmdjeaa
/- THE CELL 'sum', in the pinned program and in every row, IS THE sha256 OF THE DUMP (.gsa) THAT YtnboodcllmdjeaaProg.lean LOADS. Nothing in Lean hashes anything: it is a label: what it is worth is what the hold of that sum in a sandbox is worth. -/
noncomputable def Try.pinned : Pinned := { name := "ytnboodcllmdjeaa", sum := "7de5fce0019982e66002eaf06dd4696abecb690617853f4662b9241c40b1182a", checked := Try.checked }
namespace Rows
def none {H : Type} : Left H := { results := [], args := [] }

/-- 'laws.FnCanonOnce': WHATEVER THE INPUT: true; the input reads as it did. -/
def fnCanonOnceSpec : ChangeSpec := { name := "fnCanonOnce", fn := fun _ => fun
  | [d] => { results := [.lit (.bool true)], args := [d] }
  | _ => none }
def fnCanonOnceRow : OpenClaim := { program := "ytnboodcllmdjeaa", sum := "7de5fce0019982e66002eaf06dd4696abecb690617853f4662b9241c40b1182a", func := "loop.example/filereconciler/laws.FnCanonOnce", spec := "fnCanonOnce", inPlace := ["internal/bytealg.IndexByteString", "internal/bytealg.IndexString"], unfollowed := true, recurses := true, named := ["internal/bytealg.MaxLen"], apart := false }
def FnCanonOnceSaid : Prop := fnCanonOnceRow.holds Try.pinned (OpenSpec.ofChange fnCanonOnceSpec)

/-- ITS FALSE NEIGHBOUR: 'it returns false'. Refute it at one input. -/
def fnCanonOnceWrong : ChangeSpec := { name := "fnCanonOnce", fn := fun _ => fun
  | [d] => { results := [.lit (.bool false)], args := [d] }
  | _ => none }
def FnCanonOnceWrongFalsely : Prop := fnCanonOnceRow.holds Try.pinned (OpenSpec.ofChange fnCanonOnceWrong)

/-- 'laws.FnCanonJoin': WHATEVER THE INPUT: true; the input reads as it did. -/
def fnCanonJoinSpec : ChangeSpec := { name := "fnCanonJoin", fn := fun _ => fun
  | [d] => { results := [.lit (.bool true)], args := [d] }
  | _ => none }
def fnCanonJoinRow : OpenClaim := { program := "ytnboodcllmdjeaa", sum := "7de5fce0019982e66002eaf06dd4696abecb690617853f4662b9241c40b1182a", func := "loop.example/filereconciler/laws.FnCanonJoin", spec := "fnCanonJoin", inPlace := ["internal/bytealg.IndexByteString", "internal/bytealg.IndexString"], unfollowed := true, recurses := true, named := ["internal/bytealg.MaxLen"], apart := false }
def FnCanonJoinSaid : Prop := fnCanonJoinRow.holds Try.pinned (OpenSpec.ofChange fnCanonJoinSpec)

/-- ITS FALSE NEIGHBOUR: 'it returns false'. Refute it at one input. -/
def fnCanonJoinWrong : ChangeSpec := { name := "fnCanonJoin", fn := fun _ => fun
  | [d] => { results := [.lit (.bool false)], args := [d] }
  | _ => none }
def FnCanonJoinWrongFalsely : Prop := fnCanonJoinRow.holds Try.pinned (OpenSpec.ofChange fnCanonJoinWrong)

/-- 'laws.FnCanonPaths': WHATEVER THE INPUT: true; the input reads as it did. -/
def fnCanonPathsSpec : ChangeSpec := { name := "fnCanonPaths", fn := fun _ => fun
  | [d] => { results := [.lit (.bool true)], args := [d] }
  | _ => none }
def fnCanonPathsRow : OpenClaim := { program := "ytnboodcllmdjeaa", sum := "7de5fce0019982e66002eaf06dd4696abecb690617853f4662b9241c40b1182a", func := "loop.example/filereconciler/laws.FnCanonPaths", spec := "fnCanonPaths", inPlace := ["internal/bytealg.IndexByteString", "internal/bytealg.IndexString"], unfollowed := true, recurses := true, named := ["internal/bytealg.MaxLen"], apart := false }
def FnCanonPathsSaid : Prop := fnCanonPathsRow.holds Try.pinned (OpenSpec.ofChange fnCanonPathsSpec)

/-- ITS FALSE NEIGHBOUR: 'it returns false'. Refute it at one input. -/
def fnCanonPathsWrong : ChangeSpec := { name := "fnCanonPaths", fn := fun _ => fun
  | [d] => { results := [.lit (.bool false)], args := [d] }
  | _ => none }
def FnCanonPathsWrongFalsely : Prop := fnCanonPathsRow.holds Try.pinned (OpenSpec.ofChange fnCanonPathsWrong)

/-- 'laws.FnCanonPart': WHATEVER THE INPUT: true; the input reads as it did. -/
def fnCanonPartSpec : ChangeSpec := { name := "fnCanonPart", fn := fun _ => fun
  | [d1, d2] => { results := [.lit (.bool true)], args := [d1, d2] }
  | _ => none }
def fnCanonPartRow : OpenClaim := { program := "ytnboodcllmdjeaa", sum := "7de5fce0019982e66002eaf06dd4696abecb690617853f4662b9241c40b1182a", func := "loop.example/filereconciler/laws.FnCanonPart", spec := "fnCanonPart", inPlace := ["internal/bytealg.IndexByteString", "internal/bytealg.IndexString"], unfollowed := true, recurses := true, named := ["internal/bytealg.MaxLen"], apart := false }
def FnCanonPartSaid : Prop := fnCanonPartRow.holds Try.pinned (OpenSpec.ofChange fnCanonPartSpec)

/-- ITS FALSE NEIGHBOUR: 'it returns false'. Refute it at one input. -/
def fnCanonPartWrong : ChangeSpec := { name := "fnCanonPart", fn := fun _ => fun
  | [d1, d2] => { results := [.lit (.bool false)], args := [d1, d2] }
  | _ => none }
def FnCanonPartWrongFalsely : Prop := fnCanonPartRow.holds Try.pinned (OpenSpec.ofChange fnCanonPartWrong)

/-- 'laws.FnExactLogCanon': WHATEVER THE INPUT: true; the input reads as it did. -/
def fnExactLogCanonSpec : ChangeSpec := { name := "fnExactLogCanon", fn := fun _ => fun
  | [d] => { results := [.lit (.bool true)], args := [d] }
  | _ => none }
def fnExactLogCanonRow : OpenClaim := { program := "ytnboodcllmdjeaa", sum := "7de5fce0019982e66002eaf06dd4696abecb690617853f4662b9241c40b1182a", func := "loop.example/filereconciler/laws.FnExactLogCanon", spec := "fnExactLogCanon", inPlace := ["internal/bytealg.IndexByteString", "internal/bytealg.IndexString"], unfollowed := true, recurses := true, named := ["internal/bytealg.MaxLen"], apart := false }
def FnExactLogCanonSaid : Prop := fnExactLogCanonRow.holds Try.pinned (OpenSpec.ofChange fnExactLogCanonSpec)

/-- ITS FALSE NEIGHBOUR: 'it returns false'. Refute it at one input. -/
def fnExactLogCanonWrong : ChangeSpec := { name := "fnExactLogCanon", fn := fun _ => fun
  | [d] => { results := [.lit (.bool false)], args := [d] }
  | _ => none }
def FnExactLogCanonWrongFalsely : Prop := fnExactLogCanonRow.holds Try.pinned (OpenSpec.ofChange fnExactLogCanonWrong)

/-- 'laws.FnExactCanonValid': WHATEVER THE INPUT: true; the input reads as it did. -/
def fnExactCanonValidSpec : ChangeSpec := { name := "fnExactCanonValid", fn := fun _ => fun
  | [d] => { results := [.lit (.bool true)], args := [d] }
  | _ => none }
def fnExactCanonValidRow : OpenClaim := { program := "ytnboodcllmdjeaa", sum := "7de5fce0019982e66002eaf06dd4696abecb690617853f4662b9241c40b1182a", func := "loop.example/filereconciler/laws.FnExactCanonValid", spec := "fnExactCanonValid", inPlace := ["internal/bytealg.IndexByteString", "internal/bytealg.IndexString"], unfollowed := true, recurses := true, named := ["internal/bytealg.MaxLen"], apart := false }
def FnExactCanonValidSaid : Prop := fnExactCanonValidRow.holds Try.pinned (OpenSpec.ofChange fnExactCanonValidSpec)

/-- ITS FALSE NEIGHBOUR: 'it returns false'. Refute it at one input. -/
def fnExactCanonValidWrong : ChangeSpec := { name := "fnExactCanonValid", fn := fun _ => fun
  | [d] => { results := [.lit (.bool false)], args := [d] }
  | _ => none }
def FnExactCanonValidWrongFalsely : Prop := fnExactCanonValidRow.holds Try.pinned (OpenSpec.ofChange fnExactCanonValidWrong)

/-- 'laws.FnExactCanonJoin': WHATEVER THE INPUT: true; the input reads as it did. -/
def fnExactCanonJoinSpec : ChangeSpec := { name := "fnExactCanonJoin", fn := fun _ => fun
  | [d1, d2] => { results := [.lit (.bool true)], args := [d1, d2] }
  | _ => none }
def fnExactCanonJoinRow : OpenClaim := { program := "ytnboodcllmdjeaa", sum := "7de5fce0019982e66002eaf06dd4696abecb690617853f4662b9241c40b1182a", func := "loop.example/filereconciler/laws.FnExactCanonJoin", spec := "fnExactCanonJoin", inPlace := ["internal/bytealg.IndexByteString", "internal/bytealg.IndexString"], unfollowed := true, recurses := true, named := ["internal/bytealg.MaxLen"], apart := false }
def FnExactCanonJoinSaid : Prop := fnExactCanonJoinRow.holds Try.pinned (OpenSpec.ofChange fnExactCanonJoinSpec)

/-- ITS FALSE NEIGHBOUR: 'it returns false'. Refute it at one input. -/
def fnExactCanonJoinWrong : ChangeSpec := { name := "fnExactCanonJoin", fn := fun _ => fun
  | [d1, d2] => { results := [.lit (.bool false)], args := [d1, d2] }
  | _ => none }
def FnExactCanonJoinWrongFalsely : Prop := fnExactCanonJoinRow.holds Try.pinned (OpenSpec.ofChange fnExactCanonJoinWrong)

/- THE SECOND FORM. 'bulk': how many values and letters a reading holds, each counted each time it is reached (what is shared counts as often as it is met; a slice's spare places count too). A statement '..UptoSaid' is the law's where the arguments, and the package variables that the reading takes, are together of bulk at most 1048576: NARROWER than '..Said'. Prove '..Said' where nothing that the law and all that it calls make is longer than what came in: it says more and counts as full. Else prove '..UptoSaid'. A law counts once. -/
mutual
def uptoBulk {H : Type} : DataW H → Nat
  | .lit (.string bytes) => bytes.length + 1
  | .lit _ => 1
  | .nil => 1
  | .ptr d => uptoBulk d + 1
  | .slice elems spare => uptoBulkAll elems + uptoBulkAll spare + 1
  | .agg parts => uptoBulkAll parts + 1
  | .iface _ d => uptoBulk d + 1
  | .map entries => uptoBulkEntries entries + 1
  | .held _ => 1
def uptoBulkAll {H : Type} : List (DataW H) → Nat
  | [] => 0
  | d :: r => uptoBulk d + uptoBulkAll r
def uptoBulkEntries {H : Type} : List (Lit × DataW H) → Nat
  | [] => 0
  | x :: r => uptoBulkEntry x + uptoBulkEntries r
def uptoBulkEntry {H : Type} : Lit × DataW H → Nat
  | (.string bytes, d) => bytes.length + uptoBulk d + 1
  | (_, d) => uptoBulk d + 1
 end
def uptoSmall : (H : Type) → List (DataW H) → Bool := fun _ ds => decide (uptoBulkAll ds ≤ 1048576)
def OpenSpec.upto (s : _root_.Go.ChangeSpec) : _root_.Go.OpenSpec := { _root_.Go.OpenSpec.ofChange s with cond := some uptoSmall }

/-- 'laws.FnCanonOnce', WHERE WHAT IT READS IS OF BULK AT MOST 1048576: true; the input reads as it did. -/
def fnCanonOnceUptoRow : OpenClaim := { program := "ytnboodcllmdjeaa", sum := "7de5fce0019982e66002eaf06dd4696abecb690617853f4662b9241c40b1182a", func := "loop.example/filereconciler/laws.FnCanonOnce", spec := "fnCanonOnce", inPlace := ["internal/bytealg.IndexByteString", "internal/bytealg.IndexString"], unfollowed := true, recurses := true, named := ["internal/bytealg.MaxLen"], apart := false, narrowed := true }
def FnCanonOnceUptoSaid : Prop := fnCanonOnceUptoRow.holds Try.pinned (OpenSpec.upto fnCanonOnceSpec)

/-- 'laws.FnCanonJoin', WHERE WHAT IT READS IS OF BULK AT MOST 1048576: true; the input reads as it did. -/
def fnCanonJoinUptoRow : OpenClaim := { program := "ytnboodcllmdjeaa", sum := "7de5fce0019982e66002eaf06dd4696abecb690617853f4662b9241c40b1182a", func := "loop.example/filereconciler/laws.FnCanonJoin", spec := "fnCanonJoin", inPlace := ["internal/bytealg.IndexByteString", "internal/bytealg.IndexString"], unfollowed := true, recurses := true, named := ["internal/bytealg.MaxLen"], apart := false, narrowed := true }
def FnCanonJoinUptoSaid : Prop := fnCanonJoinUptoRow.holds Try.pinned (OpenSpec.upto fnCanonJoinSpec)

/-- 'laws.FnCanonPaths', WHERE WHAT IT READS IS OF BULK AT MOST 1048576: true; the input reads as it did. -/
def fnCanonPathsUptoRow : OpenClaim := { program := "ytnboodcllmdjeaa", sum := "7de5fce0019982e66002eaf06dd4696abecb690617853f4662b9241c40b1182a", func := "loop.example/filereconciler/laws.FnCanonPaths", spec := "fnCanonPaths", inPlace := ["internal/bytealg.IndexByteString", "internal/bytealg.IndexString"], unfollowed := true, recurses := true, named := ["internal/bytealg.MaxLen"], apart := false, narrowed := true }
def FnCanonPathsUptoSaid : Prop := fnCanonPathsUptoRow.holds Try.pinned (OpenSpec.upto fnCanonPathsSpec)

/-- 'laws.FnCanonPart', WHERE WHAT IT READS IS OF BULK AT MOST 1048576: true; the input reads as it did. -/
def fnCanonPartUptoRow : OpenClaim := { program := "ytnboodcllmdjeaa", sum := "7de5fce0019982e66002eaf06dd4696abecb690617853f4662b9241c40b1182a", func := "loop.example/filereconciler/laws.FnCanonPart", spec := "fnCanonPart", inPlace := ["internal/bytealg.IndexByteString", "internal/bytealg.IndexString"], unfollowed := true, recurses := true, named := ["internal/bytealg.MaxLen"], apart := false, narrowed := true }
def FnCanonPartUptoSaid : Prop := fnCanonPartUptoRow.holds Try.pinned (OpenSpec.upto fnCanonPartSpec)

/-- 'laws.FnExactLogCanon', WHERE WHAT IT READS IS OF BULK AT MOST 1048576: true; the input reads as it did. -/
def fnExactLogCanonUptoRow : OpenClaim := { program := "ytnboodcllmdjeaa", sum := "7de5fce0019982e66002eaf06dd4696abecb690617853f4662b9241c40b1182a", func := "loop.example/filereconciler/laws.FnExactLogCanon", spec := "fnExactLogCanon", inPlace := ["internal/bytealg.IndexByteString", "internal/bytealg.IndexString"], unfollowed := true, recurses := true, named := ["internal/bytealg.MaxLen"], apart := false, narrowed := true }
def FnExactLogCanonUptoSaid : Prop := fnExactLogCanonUptoRow.holds Try.pinned (OpenSpec.upto fnExactLogCanonSpec)

/-- 'laws.FnExactCanonValid', WHERE WHAT IT READS IS OF BULK AT MOST 1048576: true; the input reads as it did. -/
def fnExactCanonValidUptoRow : OpenClaim := { program := "ytnboodcllmdjeaa", sum := "7de5fce0019982e66002eaf06dd4696abecb690617853f4662b9241c40b1182a", func := "loop.example/filereconciler/laws.FnExactCanonValid", spec := "fnExactCanonValid", inPlace := ["internal/bytealg.IndexByteString", "internal/bytealg.IndexString"], unfollowed := true, recurses := true, named := ["internal/bytealg.MaxLen"], apart := false, narrowed := true }
def FnExactCanonValidUptoSaid : Prop := fnExactCanonValidUptoRow.holds Try.pinned (OpenSpec.upto fnExactCanonValidSpec)

/-- 'laws.FnExactCanonJoin', WHERE WHAT IT READS IS OF BULK AT MOST 1048576: true; the input reads as it did. -/
def fnExactCanonJoinUptoRow : OpenClaim := { program := "ytnboodcllmdjeaa", sum := "7de5fce0019982e66002eaf06dd4696abecb690617853f4662b9241c40b1182a", func := "loop.example/filereconciler/laws.FnExactCanonJoin", spec := "fnExactCanonJoin", inPlace := ["internal/bytealg.IndexByteString", "internal/bytealg.IndexString"], unfollowed := true, recurses := true, named := ["internal/bytealg.MaxLen"], apart := false, narrowed := true }
def FnExactCanonJoinUptoSaid : Prop := fnExactCanonJoinUptoRow.holds Try.pinned (OpenSpec.upto fnExactCanonJoinSpec)

end Rows
end Go.Proofs.Ytnboodcllmdjeaa
