/-
  DERIVED. GIVEN WITH THE SEED: THE CARDS: each row of YtkaokncaockjkaaGreatDoorRows.lean that lists a variable, with what it lists TIED to the program's text (the seventh form; the later family's looks); each row that meets fmt, with fmt's text TOLD by the authors' own Lean function (tested against real Go, not proved from fmt's source: count such statements apart). THE CARD IS WHAT COUNTS. Prove the row's statement (the work); the ties are given (YtkaokncaockjkaaGreatDoorTie.lean); close each card by the builder's one call (the guide's Derived/Test/ToyasCard.lean, 'card_holds'). Laid BY PROGRAM, IN A SANDBOX (cutbox-door.mjs). By AI agents, Wed Nov 11 2026. No macro, syntax, notation, axiom, sorry.
-/
import Derived.Test.YtkaokncaockjkaaGreatDoorRows
import GoSem.ClaimSeven
namespace Go.Proofs.YtkaokncaockjkaaGreatDoor
namespace Rows

/-- THE TIED CARD OF 'laws.FnLogTree'. -/
def fnLogTreeCard : Claim7 := { stood := { row := fnLogTreeRow, standIns := [], harness := (true, "685a126acfe59b8282dd9bea74aa64a16036bc475e4edd6a230a4c576ae88df1"), looks := true }, kinds := [], alts := [], laidByText := true, laidKinds := [.sentinel, .sentinel], laidTests := true, laidLooks := .later }
def FnLogTreeCardSaid : Prop := Claim7.holds Tryz.pinned (.plain (OpenSpec.ofChange fnLogTreeSpec)) fnLogTreeCard

/-- THE SECOND FORM's CARD OF 'laws.FnLogTree'. -/
def fnLogTreeUptoCard : Claim7 := { stood := { row := fnLogTreeUptoRow, standIns := [], harness := (true, "685a126acfe59b8282dd9bea74aa64a16036bc475e4edd6a230a4c576ae88df1"), looks := true }, kinds := [], alts := [], laidByText := true, laidKinds := [.sentinel, .sentinel], laidTests := true, laidLooks := .later }
def FnLogTreeUptoCardSaid : Prop := Claim7.holds Tryz.pinned (.plain (OpenSpec.upto fnLogTreeSpec)) fnLogTreeUptoCard
end Rows
end Go.Proofs.YtkaokncaockjkaaGreatDoor
