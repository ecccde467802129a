/-
  DERIVED. GIVEN WITH THE SEED: THE CARDS: each row of YtncceljffcjoiaaDoorRows.lean that lists a variable, with what it lists TIED to the program's text (the seventh form; the later family's looks); each row that meets fmt, with fmt's text TOLD by the authors' own Lean function (tested against real Go, not proved from fmt's source: count such statements apart). THE CARD IS WHAT COUNTS. Prove the row's statement (the work); the ties are given (YtncceljffcjoiaaDoorTie.lean); close each card by the builder's one call (the guide's Derived/Test/ToyasCard.lean, 'card_holds'). Laid BY PROGRAM, IN A SANDBOX (cutbox-door.mjs). By AI agents, Wed Nov 11 2026. No macro, syntax, notation, axiom, sorry.
-/
import Derived.Test.YtncceljffcjoiaaDoorRows
import GoSem.ClaimSeven
namespace Go.Proofs.YtncceljffcjoiaaDoor
namespace Rows

/-- THE TIED CARD OF 'laws.FnRemove'. -/
def fnRemoveCard : Claim7 := { stood := { row := fnRemoveRow, standIns := [], harness := (true, "649885b5d6cf94d1dca9f991c4322d306971519c86dfa4e4a0fb14282ad18fcd"), looks := true }, kinds := [], alts := [], laidByText := true, laidKinds := [.sentinel, .sentinel], laidTests := true, laidLooks := .later }
def FnRemoveCardSaid : Prop := Claim7.holds Tryd.pinned (.plain (OpenSpec.ofChange fnRemoveSpec)) fnRemoveCard

/-- THE TIED CARD OF 'laws.FnCopy'. -/
def fnCopyCard : Claim7 := { stood := { row := fnCopyRow, standIns := [], harness := (true, "649885b5d6cf94d1dca9f991c4322d306971519c86dfa4e4a0fb14282ad18fcd"), looks := true }, kinds := [], alts := [], laidByText := true, laidKinds := [.sentinel, .sentinel], laidTests := true, laidLooks := .later }
def FnCopyCardSaid : Prop := Claim7.holds Tryd.pinned (.plain (OpenSpec.ofChange fnCopySpec)) fnCopyCard

/-- THE SECOND FORM's CARD OF 'laws.FnRemove'. -/
def fnRemoveUptoCard : Claim7 := { stood := { row := fnRemoveUptoRow, standIns := [], harness := (true, "649885b5d6cf94d1dca9f991c4322d306971519c86dfa4e4a0fb14282ad18fcd"), looks := true }, kinds := [], alts := [], laidByText := true, laidKinds := [.sentinel, .sentinel], laidTests := true, laidLooks := .later }
def FnRemoveUptoCardSaid : Prop := Claim7.holds Tryd.pinned (.plain (OpenSpec.upto fnRemoveSpec)) fnRemoveUptoCard

/-- THE SECOND FORM's CARD OF 'laws.FnCopy'. -/
def fnCopyUptoCard : Claim7 := { stood := { row := fnCopyUptoRow, standIns := [], harness := (true, "649885b5d6cf94d1dca9f991c4322d306971519c86dfa4e4a0fb14282ad18fcd"), looks := true }, kinds := [], alts := [], laidByText := true, laidKinds := [.sentinel, .sentinel], laidTests := true, laidLooks := .later }
def FnCopyUptoCardSaid : Prop := Claim7.holds Tryd.pinned (.plain (OpenSpec.upto fnCopySpec)) fnCopyUptoCard
end Rows
end Go.Proofs.YtncceljffcjoiaaDoor
