/-
  DERIVED. GIVEN WITH THE SEED: THE CARDS: each row of YtmlnakkfjecibaaGreatDoorRows.lean that lists a variable, with what it lists TIED to the program's text (the seventh form; the later family's looks); each row that meets fmt, with fmt's text TOLD by the authors' own Lean function (tested against real Go, not proved from fmt's source: count such statements apart). THE CARD IS WHAT COUNTS. Prove the row's statement (the work); the ties are given (YtmlnakkfjecibaaGreatDoorTie.lean); close each card by the builder's one call (the guide's Derived/Test/ToyasCard.lean, 'card_holds'). Laid BY PROGRAM, IN A SANDBOX (cutbox-door.mjs). By AI agents, Wed Nov 11 2026. No macro, syntax, notation, axiom, sorry.
-/
import Derived.Test.YtmlnakkfjecibaaGreatDoorRows
import GoSem.ClaimSeven
namespace Go.Proofs.YtmlnakkfjecibaaGreatDoor
namespace Rows

/-- THE TIED CARD OF 'laws.FnKeepFits'. -/
def fnKeepFitsCard : Claim7 := { stood := { row := fnKeepFitsRow, standIns := [], harness := (true, "b313f2daeb45013517c72025d00a7e980eff129700ee2e140ae13963e7475224"), looks := true }, kinds := [], alts := [], laidByText := true, laidKinds := [.sentinel, .sentinel], laidTests := true, laidLooks := .later }
def FnKeepFitsCardSaid : Prop := Claim7.holds Tryz.pinned (.plain (OpenSpec.ofChange fnKeepFitsSpec)) fnKeepFitsCard

/-- THE SECOND FORM's CARD OF 'laws.FnKeepFits'. -/
def fnKeepFitsUptoCard : Claim7 := { stood := { row := fnKeepFitsUptoRow, standIns := [], harness := (true, "b313f2daeb45013517c72025d00a7e980eff129700ee2e140ae13963e7475224"), looks := true }, kinds := [], alts := [], laidByText := true, laidKinds := [.sentinel, .sentinel], laidTests := true, laidLooks := .later }
def FnKeepFitsUptoCardSaid : Prop := Claim7.holds Tryz.pinned (.plain (OpenSpec.upto fnKeepFitsSpec)) fnKeepFitsUptoCard
end Rows
end Go.Proofs.YtmlnakkfjecibaaGreatDoor
