/-
  No cell of these rows narrows 'for every input' (looked for: loops, veiled, ifaces, maps, wideKeys, modest, calm, conditions, laid).
  DERIVED. THE GIVEN ROWS OF THIS SEAT. 11 by the template 'for every input the law returns true; each argument reads behind the call as it read before'; 0 by the template 'total and deterministic' (their statements: YtpjoahddbdmbpaaTotals.lean).
  GIVEN WITH THE SEED: the statements are not yours to turn. If you find one false, say at which input.
  Laid BY PROGRAM, IN A SANDBOX (cutbox-rows.mjs): the forced cells as the released guide's own fill.sh prints them over the translation b55505ba34533a31… (all of the seat's roots in one cut). By AI agents, Wed Nov 11 2026. No macro, syntax, notation, axiom, sorry.
-/
import Derived.Test.YtpjoahddbdmbpaaChecked
import GoSem.Claim
import GoSem.ClaimJoined
import GoSem.ClaimMapViews
import Derived.JoinedTies
import Derived.KernelRfl
namespace Go.Proofs.Ytpjoahddbdmbpaa
/- THE CELL 'sum', in the pinned program and in every row, IS THE sha256 OF THE DUMP (.gsa) THAT YtpjoahddbdmbpaaProg.lean LOADS. Nothing in Lean hashes anything: it is a label: what it is worth is what the hold of that sum in a sandbox is worth. -/
noncomputable def Try.pinned : Pinned := { name := "ytpjoahddbdmbpaa", sum := "b55505ba34533a31e7b0f811ebd098bc34aea8c25a3eb3ab0ddd156195b10dea", checked := Try.checked }
namespace Rows
def none {H : Type} : Left H := { results := [], args := [] }

/-- 'laws.FnMust': WHATEVER THE INPUT: true; the input reads as it did. -/
def fnMustSpec : ChangeSpec := { name := "fnMust", fn := fun _ => fun
  | [d] => { results := [.lit (.bool true)], args := [d] }
  | _ => none }
def fnMustRow : OpenClaim := { program := "ytpjoahddbdmbpaa", sum := "b55505ba34533a31e7b0f811ebd098bc34aea8c25a3eb3ab0ddd156195b10dea", func := "loop.example/filereconciler/laws.FnMust", spec := "fnMust", inPlace := ["internal/bytealg.IndexByteString", "internal/bytealg.IndexString"], unfollowed := true, recurses := true, named := ["internal/bytealg.MaxLen"], apart := false }
def FnMustSaid : Prop := fnMustRow.holds Try.pinned (OpenSpec.ofChange fnMustSpec)

/-- ITS FALSE NEIGHBOUR: 'it returns false'. Refute it at one input. -/
def fnMustWrong : ChangeSpec := { name := "fnMust", fn := fun _ => fun
  | [d] => { results := [.lit (.bool false)], args := [d] }
  | _ => none }
def FnMustWrongFalsely : Prop := fnMustRow.holds Try.pinned (OpenSpec.ofChange fnMustWrong)

/-- 'laws.FnMustWhen': WHATEVER THE INPUT: true; the input reads as it did. -/
def fnMustWhenSpec : ChangeSpec := { name := "fnMustWhen", fn := fun _ => fun
  | [d] => { results := [.lit (.bool true)], args := [d] }
  | _ => none }
def fnMustWhenRow : OpenClaim := { program := "ytpjoahddbdmbpaa", sum := "b55505ba34533a31e7b0f811ebd098bc34aea8c25a3eb3ab0ddd156195b10dea", func := "loop.example/filereconciler/laws.FnMustWhen", spec := "fnMustWhen", inPlace := ["internal/bytealg.IndexByteString", "internal/bytealg.IndexString"], unfollowed := true, recurses := true, named := ["internal/bytealg.MaxLen"], apart := false }
def FnMustWhenSaid : Prop := fnMustWhenRow.holds Try.pinned (OpenSpec.ofChange fnMustWhenSpec)

/-- ITS FALSE NEIGHBOUR: 'it returns false'. Refute it at one input. -/
def fnMustWhenWrong : ChangeSpec := { name := "fnMustWhen", fn := fun _ => fun
  | [d] => { results := [.lit (.bool false)], args := [d] }
  | _ => none }
def FnMustWhenWrongFalsely : Prop := fnMustWhenRow.holds Try.pinned (OpenSpec.ofChange fnMustWhenWrong)

/-- 'laws.FnSwap': WHATEVER THE INPUT: true; the input reads as it did. -/
def fnSwapSpec : ChangeSpec := { name := "fnSwap", fn := fun _ => fun
  | [d] => { results := [.lit (.bool true)], args := [d] }
  | _ => none }
def fnSwapRow : OpenClaim := { program := "ytpjoahddbdmbpaa", sum := "b55505ba34533a31e7b0f811ebd098bc34aea8c25a3eb3ab0ddd156195b10dea", func := "loop.example/filereconciler/laws.FnSwap", spec := "fnSwap", inPlace := ["internal/bytealg.IndexByteString", "internal/bytealg.IndexString"], unfollowed := true, recurses := true, named := ["internal/bytealg.MaxLen"], apart := false }
def FnSwapSaid : Prop := fnSwapRow.holds Try.pinned (OpenSpec.ofChange fnSwapSpec)

/-- ITS FALSE NEIGHBOUR: 'it returns false'. Refute it at one input. -/
def fnSwapWrong : ChangeSpec := { name := "fnSwap", fn := fun _ => fun
  | [d] => { results := [.lit (.bool false)], args := [d] }
  | _ => none }
def FnSwapWrongFalsely : Prop := fnSwapRow.holds Try.pinned (OpenSpec.ofChange fnSwapWrong)

/-- 'laws.FnSwapWhen': WHATEVER THE INPUT: true; the input reads as it did. -/
def fnSwapWhenSpec : ChangeSpec := { name := "fnSwapWhen", fn := fun _ => fun
  | [d] => { results := [.lit (.bool true)], args := [d] }
  | _ => none }
def fnSwapWhenRow : OpenClaim := { program := "ytpjoahddbdmbpaa", sum := "b55505ba34533a31e7b0f811ebd098bc34aea8c25a3eb3ab0ddd156195b10dea", func := "loop.example/filereconciler/laws.FnSwapWhen", spec := "fnSwapWhen", inPlace := ["internal/bytealg.IndexByteString", "internal/bytealg.IndexString"], unfollowed := true, recurses := true, named := ["internal/bytealg.MaxLen"], apart := false }
def FnSwapWhenSaid : Prop := fnSwapWhenRow.holds Try.pinned (OpenSpec.ofChange fnSwapWhenSpec)

/-- ITS FALSE NEIGHBOUR: 'it returns false'. Refute it at one input. -/
def fnSwapWhenWrong : ChangeSpec := { name := "fnSwapWhen", fn := fun _ => fun
  | [d] => { results := [.lit (.bool false)], args := [d] }
  | _ => none }
def FnSwapWhenWrongFalsely : Prop := fnSwapWhenRow.holds Try.pinned (OpenSpec.ofChange fnSwapWhenWrong)

/-- 'laws.FnOrdersCount': WHATEVER THE INPUT: true; the input reads as it did. -/
def fnOrdersCountSpec : ChangeSpec := { name := "fnOrdersCount", fn := fun _ => fun
  | [d] => { results := [.lit (.bool true)], args := [d] }
  | _ => none }
def fnOrdersCountRow : OpenClaim := { program := "ytpjoahddbdmbpaa", sum := "b55505ba34533a31e7b0f811ebd098bc34aea8c25a3eb3ab0ddd156195b10dea", func := "loop.example/filereconciler/laws.FnOrdersCount", spec := "fnOrdersCount", inPlace := ["internal/bytealg.IndexByteString", "internal/bytealg.IndexString"], unfollowed := true, recurses := true, named := ["internal/bytealg.MaxLen"], apart := false }
def FnOrdersCountSaid : Prop := fnOrdersCountRow.holds Try.pinned (OpenSpec.ofChange fnOrdersCountSpec)

/-- ITS FALSE NEIGHBOUR: 'it returns false'. Refute it at one input. -/
def fnOrdersCountWrong : ChangeSpec := { name := "fnOrdersCount", fn := fun _ => fun
  | [d] => { results := [.lit (.bool false)], args := [d] }
  | _ => none }
def FnOrdersCountWrongFalsely : Prop := fnOrdersCountRow.holds Try.pinned (OpenSpec.ofChange fnOrdersCountWrong)

/-- 'laws.FnOrdersCountSwap': WHATEVER THE INPUT: true; the input reads as it did. -/
def fnOrdersCountSwapSpec : ChangeSpec := { name := "fnOrdersCountSwap", fn := fun _ => fun
  | [d] => { results := [.lit (.bool true)], args := [d] }
  | _ => none }
def fnOrdersCountSwapRow : OpenClaim := { program := "ytpjoahddbdmbpaa", sum := "b55505ba34533a31e7b0f811ebd098bc34aea8c25a3eb3ab0ddd156195b10dea", func := "loop.example/filereconciler/laws.FnOrdersCountSwap", spec := "fnOrdersCountSwap", inPlace := ["internal/bytealg.IndexByteString", "internal/bytealg.IndexString"], unfollowed := true, recurses := true, named := ["internal/bytealg.MaxLen"], apart := false }
def FnOrdersCountSwapSaid : Prop := fnOrdersCountSwapRow.holds Try.pinned (OpenSpec.ofChange fnOrdersCountSwapSpec)

/-- ITS FALSE NEIGHBOUR: 'it returns false'. Refute it at one input. -/
def fnOrdersCountSwapWrong : ChangeSpec := { name := "fnOrdersCountSwap", fn := fun _ => fun
  | [d] => { results := [.lit (.bool false)], args := [d] }
  | _ => none }
def FnOrdersCountSwapWrongFalsely : Prop := fnOrdersCountSwapRow.holds Try.pinned (OpenSpec.ofChange fnOrdersCountSwapWrong)

/-- 'laws.FnMustUndo': WHATEVER THE INPUT: true; the input reads as it did. -/
def fnMustUndoSpec : ChangeSpec := { name := "fnMustUndo", fn := fun _ => fun
  | [d] => { results := [.lit (.bool true)], args := [d] }
  | _ => none }
def fnMustUndoRow : OpenClaim := { program := "ytpjoahddbdmbpaa", sum := "b55505ba34533a31e7b0f811ebd098bc34aea8c25a3eb3ab0ddd156195b10dea", func := "loop.example/filereconciler/laws.FnMustUndo", spec := "fnMustUndo", inPlace := ["internal/bytealg.IndexByteString", "internal/bytealg.IndexString"], unfollowed := true, recurses := true, named := ["internal/bytealg.MaxLen"], apart := false }
def FnMustUndoSaid : Prop := fnMustUndoRow.holds Try.pinned (OpenSpec.ofChange fnMustUndoSpec)

/-- ITS FALSE NEIGHBOUR: 'it returns false'. Refute it at one input. -/
def fnMustUndoWrong : ChangeSpec := { name := "fnMustUndo", fn := fun _ => fun
  | [d] => { results := [.lit (.bool false)], args := [d] }
  | _ => none }
def FnMustUndoWrongFalsely : Prop := fnMustUndoRow.holds Try.pinned (OpenSpec.ofChange fnMustUndoWrong)

/-- 'laws.FnExactMustPrecede': WHATEVER THE INPUT: true; the input reads as it did. -/
def fnExactMustPrecedeSpec : ChangeSpec := { name := "fnExactMustPrecede", fn := fun _ => fun
  | [d1, d2] => { results := [.lit (.bool true)], args := [d1, d2] }
  | _ => none }
def fnExactMustPrecedeRow : OpenClaim := { program := "ytpjoahddbdmbpaa", sum := "b55505ba34533a31e7b0f811ebd098bc34aea8c25a3eb3ab0ddd156195b10dea", func := "loop.example/filereconciler/laws.FnExactMustPrecede", spec := "fnExactMustPrecede", inPlace := ["internal/bytealg.IndexByteString", "internal/bytealg.IndexString"], unfollowed := true, recurses := true, named := ["internal/bytealg.MaxLen"], apart := false }
def FnExactMustPrecedeSaid : Prop := fnExactMustPrecedeRow.holds Try.pinned (OpenSpec.ofChange fnExactMustPrecedeSpec)

/-- ITS FALSE NEIGHBOUR: 'it returns false'. Refute it at one input. -/
def fnExactMustPrecedeWrong : ChangeSpec := { name := "fnExactMustPrecede", fn := fun _ => fun
  | [d1, d2] => { results := [.lit (.bool false)], args := [d1, d2] }
  | _ => none }
def FnExactMustPrecedeWrongFalsely : Prop := fnExactMustPrecedeRow.holds Try.pinned (OpenSpec.ofChange fnExactMustPrecedeWrong)

/-- 'laws.FnExactOrderFits': WHATEVER THE INPUT: true; the input reads as it did. -/
def fnExactOrderFitsSpec : ChangeSpec := { name := "fnExactOrderFits", fn := fun _ => fun
  | [d] => { results := [.lit (.bool true)], args := [d] }
  | _ => none }
def fnExactOrderFitsRow : OpenClaim := { program := "ytpjoahddbdmbpaa", sum := "b55505ba34533a31e7b0f811ebd098bc34aea8c25a3eb3ab0ddd156195b10dea", func := "loop.example/filereconciler/laws.FnExactOrderFits", spec := "fnExactOrderFits", inPlace := ["internal/bytealg.IndexByteString", "internal/bytealg.IndexString"], unfollowed := true, recurses := true, named := ["internal/bytealg.MaxLen"], apart := false }
def FnExactOrderFitsSaid : Prop := fnExactOrderFitsRow.holds Try.pinned (OpenSpec.ofChange fnExactOrderFitsSpec)

/-- ITS FALSE NEIGHBOUR: 'it returns false'. Refute it at one input. -/
def fnExactOrderFitsWrong : ChangeSpec := { name := "fnExactOrderFits", fn := fun _ => fun
  | [d] => { results := [.lit (.bool false)], args := [d] }
  | _ => none }
def FnExactOrderFitsWrongFalsely : Prop := fnExactOrderFitsRow.holds Try.pinned (OpenSpec.ofChange fnExactOrderFitsWrong)

/-- 'laws.FnExactOrderSwap': WHATEVER THE INPUT: true; the input reads as it did. -/
def fnExactOrderSwapSpec : ChangeSpec := { name := "fnExactOrderSwap", fn := fun _ => fun
  | [d1, d2] => { results := [.lit (.bool true)], args := [d1, d2] }
  | _ => none }
def fnExactOrderSwapRow : OpenClaim := { program := "ytpjoahddbdmbpaa", sum := "b55505ba34533a31e7b0f811ebd098bc34aea8c25a3eb3ab0ddd156195b10dea", func := "loop.example/filereconciler/laws.FnExactOrderSwap", spec := "fnExactOrderSwap", inPlace := ["internal/bytealg.IndexByteString", "internal/bytealg.IndexString"], unfollowed := true, recurses := true, named := ["internal/bytealg.MaxLen"], apart := false }
def FnExactOrderSwapSaid : Prop := fnExactOrderSwapRow.holds Try.pinned (OpenSpec.ofChange fnExactOrderSwapSpec)

/-- ITS FALSE NEIGHBOUR: 'it returns false'. Refute it at one input. -/
def fnExactOrderSwapWrong : ChangeSpec := { name := "fnExactOrderSwap", fn := fun _ => fun
  | [d1, d2] => { results := [.lit (.bool false)], args := [d1, d2] }
  | _ => none }
def FnExactOrderSwapWrongFalsely : Prop := fnExactOrderSwapRow.holds Try.pinned (OpenSpec.ofChange fnExactOrderSwapWrong)

/-- 'laws.FnExactOrdersCount': WHATEVER THE INPUT: true; the input reads as it did. -/
def fnExactOrdersCountSpec : ChangeSpec := { name := "fnExactOrdersCount", fn := fun _ => fun
  | [d] => { results := [.lit (.bool true)], args := [d] }
  | _ => none }
def fnExactOrdersCountRow : OpenClaim := { program := "ytpjoahddbdmbpaa", sum := "b55505ba34533a31e7b0f811ebd098bc34aea8c25a3eb3ab0ddd156195b10dea", func := "loop.example/filereconciler/laws.FnExactOrdersCount", spec := "fnExactOrdersCount", inPlace := ["internal/bytealg.IndexByteString", "internal/bytealg.IndexString"], unfollowed := true, recurses := true, named := ["internal/bytealg.MaxLen"], apart := false }
def FnExactOrdersCountSaid : Prop := fnExactOrdersCountRow.holds Try.pinned (OpenSpec.ofChange fnExactOrdersCountSpec)

/-- ITS FALSE NEIGHBOUR: 'it returns false'. Refute it at one input. -/
def fnExactOrdersCountWrong : ChangeSpec := { name := "fnExactOrdersCount", fn := fun _ => fun
  | [d] => { results := [.lit (.bool false)], args := [d] }
  | _ => none }
def FnExactOrdersCountWrongFalsely : Prop := fnExactOrdersCountRow.holds Try.pinned (OpenSpec.ofChange fnExactOrdersCountWrong)

/- THE SECOND FORM. 'bulk': how many values and letters a reading holds, each counted each time it is reached (what is shared counts as often as it is met; a slice's spare places count too). A statement '..UptoSaid' is the law's where the arguments, and the package variables that the reading takes, are together of bulk at most 1048576: NARROWER than '..Said'. Prove '..Said' where nothing that the law and all that it calls make is longer than what came in: it says more and counts as full. Else prove '..UptoSaid'. A law counts once. -/
mutual
def uptoBulk {H : Type} : DataW H → Nat
  | .lit (.string bytes) => bytes.length + 1
  | .lit _ => 1
  | .nil => 1
  | .ptr d => uptoBulk d + 1
  | .slice elems spare => uptoBulkAll elems + uptoBulkAll spare + 1
  | .agg parts => uptoBulkAll parts + 1
  | .iface _ d => uptoBulk d + 1
  | .map entries => uptoBulkEntries entries + 1
  | .held _ => 1
def uptoBulkAll {H : Type} : List (DataW H) → Nat
  | [] => 0
  | d :: r => uptoBulk d + uptoBulkAll r
def uptoBulkEntries {H : Type} : List (Lit × DataW H) → Nat
  | [] => 0
  | x :: r => uptoBulkEntry x + uptoBulkEntries r
def uptoBulkEntry {H : Type} : Lit × DataW H → Nat
  | (.string bytes, d) => bytes.length + uptoBulk d + 1
  | (_, d) => uptoBulk d + 1
 end
def uptoSmall : (H : Type) → List (DataW H) → Bool := fun _ ds => decide (uptoBulkAll ds ≤ 1048576)
def OpenSpec.upto (s : _root_.Go.ChangeSpec) : _root_.Go.OpenSpec := { _root_.Go.OpenSpec.ofChange s with cond := some uptoSmall }

/-- 'laws.FnMust', WHERE WHAT IT READS IS OF BULK AT MOST 1048576: true; the input reads as it did. -/
def fnMustUptoRow : OpenClaim := { program := "ytpjoahddbdmbpaa", sum := "b55505ba34533a31e7b0f811ebd098bc34aea8c25a3eb3ab0ddd156195b10dea", func := "loop.example/filereconciler/laws.FnMust", spec := "fnMust", inPlace := ["internal/bytealg.IndexByteString", "internal/bytealg.IndexString"], unfollowed := true, recurses := true, named := ["internal/bytealg.MaxLen"], apart := false, narrowed := true }
def FnMustUptoSaid : Prop := fnMustUptoRow.holds Try.pinned (OpenSpec.upto fnMustSpec)

/-- 'laws.FnMustWhen', WHERE WHAT IT READS IS OF BULK AT MOST 1048576: true; the input reads as it did. -/
def fnMustWhenUptoRow : OpenClaim := { program := "ytpjoahddbdmbpaa", sum := "b55505ba34533a31e7b0f811ebd098bc34aea8c25a3eb3ab0ddd156195b10dea", func := "loop.example/filereconciler/laws.FnMustWhen", spec := "fnMustWhen", inPlace := ["internal/bytealg.IndexByteString", "internal/bytealg.IndexString"], unfollowed := true, recurses := true, named := ["internal/bytealg.MaxLen"], apart := false, narrowed := true }
def FnMustWhenUptoSaid : Prop := fnMustWhenUptoRow.holds Try.pinned (OpenSpec.upto fnMustWhenSpec)

/-- 'laws.FnSwap', WHERE WHAT IT READS IS OF BULK AT MOST 1048576: true; the input reads as it did. -/
def fnSwapUptoRow : OpenClaim := { program := "ytpjoahddbdmbpaa", sum := "b55505ba34533a31e7b0f811ebd098bc34aea8c25a3eb3ab0ddd156195b10dea", func := "loop.example/filereconciler/laws.FnSwap", spec := "fnSwap", inPlace := ["internal/bytealg.IndexByteString", "internal/bytealg.IndexString"], unfollowed := true, recurses := true, named := ["internal/bytealg.MaxLen"], apart := false, narrowed := true }
def FnSwapUptoSaid : Prop := fnSwapUptoRow.holds Try.pinned (OpenSpec.upto fnSwapSpec)

/-- 'laws.FnSwapWhen', WHERE WHAT IT READS IS OF BULK AT MOST 1048576: true; the input reads as it did. -/
def fnSwapWhenUptoRow : OpenClaim := { program := "ytpjoahddbdmbpaa", sum := "b55505ba34533a31e7b0f811ebd098bc34aea8c25a3eb3ab0ddd156195b10dea", func := "loop.example/filereconciler/laws.FnSwapWhen", spec := "fnSwapWhen", inPlace := ["internal/bytealg.IndexByteString", "internal/bytealg.IndexString"], unfollowed := true, recurses := true, named := ["internal/bytealg.MaxLen"], apart := false, narrowed := true }
def FnSwapWhenUptoSaid : Prop := fnSwapWhenUptoRow.holds Try.pinned (OpenSpec.upto fnSwapWhenSpec)

/-- 'laws.FnOrdersCount', WHERE WHAT IT READS IS OF BULK AT MOST 1048576: true; the input reads as it did. -/
def fnOrdersCountUptoRow : OpenClaim := { program := "ytpjoahddbdmbpaa", sum := "b55505ba34533a31e7b0f811ebd098bc34aea8c25a3eb3ab0ddd156195b10dea", func := "loop.example/filereconciler/laws.FnOrdersCount", spec := "fnOrdersCount", inPlace := ["internal/bytealg.IndexByteString", "internal/bytealg.IndexString"], unfollowed := true, recurses := true, named := ["internal/bytealg.MaxLen"], apart := false, narrowed := true }
def FnOrdersCountUptoSaid : Prop := fnOrdersCountUptoRow.holds Try.pinned (OpenSpec.upto fnOrdersCountSpec)

/-- 'laws.FnOrdersCountSwap', WHERE WHAT IT READS IS OF BULK AT MOST 1048576: true; the input reads as it did. -/
def fnOrdersCountSwapUptoRow : OpenClaim := { program := "ytpjoahddbdmbpaa", sum := "b55505ba34533a31e7b0f811ebd098bc34aea8c25a3eb3ab0ddd156195b10dea", func := "loop.example/filereconciler/laws.FnOrdersCountSwap", spec := "fnOrdersCountSwap", inPlace := ["internal/bytealg.IndexByteString", "internal/bytealg.IndexString"], unfollowed := true, recurses := true, named := ["internal/bytealg.MaxLen"], apart := false, narrowed := true }
def FnOrdersCountSwapUptoSaid : Prop := fnOrdersCountSwapUptoRow.holds Try.pinned (OpenSpec.upto fnOrdersCountSwapSpec)

/-- 'laws.FnMustUndo', WHERE WHAT IT READS IS OF BULK AT MOST 1048576: true; the input reads as it did. -/
def fnMustUndoUptoRow : OpenClaim := { program := "ytpjoahddbdmbpaa", sum := "b55505ba34533a31e7b0f811ebd098bc34aea8c25a3eb3ab0ddd156195b10dea", func := "loop.example/filereconciler/laws.FnMustUndo", spec := "fnMustUndo", inPlace := ["internal/bytealg.IndexByteString", "internal/bytealg.IndexString"], unfollowed := true, recurses := true, named := ["internal/bytealg.MaxLen"], apart := false, narrowed := true }
def FnMustUndoUptoSaid : Prop := fnMustUndoUptoRow.holds Try.pinned (OpenSpec.upto fnMustUndoSpec)

/-- 'laws.FnExactMustPrecede', WHERE WHAT IT READS IS OF BULK AT MOST 1048576: true; the input reads as it did. -/
def fnExactMustPrecedeUptoRow : OpenClaim := { program := "ytpjoahddbdmbpaa", sum := "b55505ba34533a31e7b0f811ebd098bc34aea8c25a3eb3ab0ddd156195b10dea", func := "loop.example/filereconciler/laws.FnExactMustPrecede", spec := "fnExactMustPrecede", inPlace := ["internal/bytealg.IndexByteString", "internal/bytealg.IndexString"], unfollowed := true, recurses := true, named := ["internal/bytealg.MaxLen"], apart := false, narrowed := true }
def FnExactMustPrecedeUptoSaid : Prop := fnExactMustPrecedeUptoRow.holds Try.pinned (OpenSpec.upto fnExactMustPrecedeSpec)

/-- 'laws.FnExactOrderFits', WHERE WHAT IT READS IS OF BULK AT MOST 1048576: true; the input reads as it did. -/
def fnExactOrderFitsUptoRow : OpenClaim := { program := "ytpjoahddbdmbpaa", sum := "b55505ba34533a31e7b0f811ebd098bc34aea8c25a3eb3ab0ddd156195b10dea", func := "loop.example/filereconciler/laws.FnExactOrderFits", spec := "fnExactOrderFits", inPlace := ["internal/bytealg.IndexByteString", "internal/bytealg.IndexString"], unfollowed := true, recurses := true, named := ["internal/bytealg.MaxLen"], apart := false, narrowed := true }
def FnExactOrderFitsUptoSaid : Prop := fnExactOrderFitsUptoRow.holds Try.pinned (OpenSpec.upto fnExactOrderFitsSpec)

/-- 'laws.FnExactOrderSwap', WHERE WHAT IT READS IS OF BULK AT MOST 1048576: true; the input reads as it did. -/
def fnExactOrderSwapUptoRow : OpenClaim := { program := "ytpjoahddbdmbpaa", sum := "b55505ba34533a31e7b0f811ebd098bc34aea8c25a3eb3ab0ddd156195b10dea", func := "loop.example/filereconciler/laws.FnExactOrderSwap", spec := "fnExactOrderSwap", inPlace := ["internal/bytealg.IndexByteString", "internal/bytealg.IndexString"], unfollowed := true, recurses := true, named := ["internal/bytealg.MaxLen"], apart := false, narrowed := true }
def FnExactOrderSwapUptoSaid : Prop := fnExactOrderSwapUptoRow.holds Try.pinned (OpenSpec.upto fnExactOrderSwapSpec)

/-- 'laws.FnExactOrdersCount', WHERE WHAT IT READS IS OF BULK AT MOST 1048576: true; the input reads as it did. -/
def fnExactOrdersCountUptoRow : OpenClaim := { program := "ytpjoahddbdmbpaa", sum := "b55505ba34533a31e7b0f811ebd098bc34aea8c25a3eb3ab0ddd156195b10dea", func := "loop.example/filereconciler/laws.FnExactOrdersCount", spec := "fnExactOrdersCount", inPlace := ["internal/bytealg.IndexByteString", "internal/bytealg.IndexString"], unfollowed := true, recurses := true, named := ["internal/bytealg.MaxLen"], apart := false, narrowed := true }
def FnExactOrdersCountUptoSaid : Prop := fnExactOrdersCountUptoRow.holds Try.pinned (OpenSpec.upto fnExactOrdersCountSpec)

end Rows
end Go.Proofs.Ytpjoahddbdmbpaa
