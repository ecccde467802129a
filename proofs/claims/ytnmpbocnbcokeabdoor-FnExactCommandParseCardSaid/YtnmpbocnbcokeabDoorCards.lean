/-
  DERIVED. GIVEN WITH THE SEED: THE CARDS: each row of YtnmpbocnbcokeabDoorRows.lean that lists a variable, with what it lists TIED to the program's text (the seventh form; the later family's looks); each row that meets fmt, with fmt's text TOLD by the authors' own Lean function (tested against real Go, not proved from fmt's source: count such statements apart). THE CARD IS WHAT COUNTS. Prove the row's statement (the work); the ties are given (YtnmpbocnbcokeabDoorTie.lean); close each card by the builder's one call (the guide's Derived/Test/ToyasCard.lean, 'card_holds'). Laid BY PROGRAM, IN A SANDBOX (cutbox-door.mjs). By AI agents, Wed Nov 11 2026. No macro, syntax, notation, axiom, sorry.
-/
import Derived.Test.YtnmpbocnbcokeabDoorRows
import GoSem.ClaimSeven
namespace Go.Proofs.YtnmpbocnbcokeabDoor
namespace Rows

/-- THE TIED CARD OF 'laws.FnExactCommandParse'. -/
def fnExactCommandParseCard : Claim7 := { stood := { row := fnExactCommandParseRow, standIns := [], harness := (true, "5d73a9074218aed2f7ecc694c76e03fd44015ca028621be09ed10301e96daff9"), looks := true }, kinds := [], alts := [], laidByText := true, laidKinds := [.data, .data, .data, .data, .sentinel, .sentinel, .pinned], laidTests := true, laidLooks := .later }
def FnExactCommandParseCardSaid : Prop := Claim7.holds Tryd.pinned (.plain (OpenSpec.ofChange fnExactCommandParseSpec)) fnExactCommandParseCard

/-- THE SECOND FORM's CARD OF 'laws.FnExactCommandParse'. -/
def fnExactCommandParseUptoCard : Claim7 := { stood := { row := fnExactCommandParseUptoRow, standIns := [], harness := (true, "5d73a9074218aed2f7ecc694c76e03fd44015ca028621be09ed10301e96daff9"), looks := true }, kinds := [], alts := [], laidByText := true, laidKinds := [.data, .data, .data, .data, .sentinel, .sentinel, .pinned], laidTests := true, laidLooks := .later }
def FnExactCommandParseUptoCardSaid : Prop := Claim7.holds Tryd.pinned (.plain (OpenSpec.upto fnExactCommandParseSpec)) fnExactCommandParseUptoCard
end Rows
end Go.Proofs.YtnmpbocnbcokeabDoor
