/-
  DERIVED. GIVEN WITH THE SEED: THE CARDS: each row of YtpjoahddbdmbpaaDoorRows.lean that lists a variable, with what it lists TIED to the program's text (the seventh form; the later family's looks); each row that meets fmt, with fmt's text TOLD by the authors' own Lean function (tested against real Go, not proved from fmt's source: count such statements apart). THE CARD IS WHAT COUNTS. Prove the row's statement (the work); the ties are given (YtpjoahddbdmbpaaDoorTie.lean); close each card by the builder's one call (the guide's Derived/Test/ToyasCard.lean, 'card_holds'). Laid BY PROGRAM, IN A SANDBOX (cutbox-door.mjs). By AI agents, Wed Nov 11 2026. No macro, syntax, notation, axiom, sorry.
-/
import Derived.Test.YtpjoahddbdmbpaaDoorRows
import GoSem.ClaimSeven
namespace Go.Proofs.YtpjoahddbdmbpaaDoor
namespace Rows

/-- THE TIED CARD OF 'laws.FnOrderNot'. -/
def fnOrderNotCard : Claim7 := { stood := { row := fnOrderNotRow, standIns := [], harness := (true, "f5c3c276b4a1ac9f74edb0e7cc7cd3be0d659d0351a805968995fd505a656062"), looks := true }, kinds := [], alts := [], laidByText := true, laidKinds := [.sentinel, .sentinel], laidTests := true, laidLooks := .later }
def FnOrderNotCardSaid : Prop := Claim7.holds Tryd.pinned (.plain (OpenSpec.ofChange fnOrderNotSpec)) fnOrderNotCard

/-- THE SECOND FORM's CARD OF 'laws.FnOrderNot'. -/
def fnOrderNotUptoCard : Claim7 := { stood := { row := fnOrderNotUptoRow, standIns := [], harness := (true, "f5c3c276b4a1ac9f74edb0e7cc7cd3be0d659d0351a805968995fd505a656062"), looks := true }, kinds := [], alts := [], laidByText := true, laidKinds := [.sentinel, .sentinel], laidTests := true, laidLooks := .later }
def FnOrderNotUptoCardSaid : Prop := Claim7.holds Tryd.pinned (.plain (OpenSpec.upto fnOrderNotSpec)) fnOrderNotUptoCard
end Rows
end Go.Proofs.YtpjoahddbdmbpaaDoor
