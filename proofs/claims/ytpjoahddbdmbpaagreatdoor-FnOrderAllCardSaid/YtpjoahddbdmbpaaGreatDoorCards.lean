/-
  DERIVED. GIVEN WITH THE SEED: THE CARDS: each row of YtpjoahddbdmbpaaGreatDoorRows.lean that lists a variable, with what it lists TIED to the program's text (the seventh form; the later family's looks); each row that meets fmt, with fmt's text TOLD by the authors' own Lean function (tested against real Go, not proved from fmt's source: count such statements apart). THE CARD IS WHAT COUNTS. Prove the row's statement (the work); the ties are given (YtpjoahddbdmbpaaGreatDoorTie.lean); close each card by the builder's one call (the guide's Derived/Test/ToyasCard.lean, 'card_holds'). Laid BY PROGRAM, IN A SANDBOX (cutbox-door.mjs). By AI agents, Wed Nov 11 2026. No macro, syntax, notation, axiom, sorry.
-/
import Derived.Test.YtpjoahddbdmbpaaGreatDoorRows
import GoSem.ClaimSeven
namespace Go.Proofs.YtpjoahddbdmbpaaGreatDoor
namespace Rows

/-- THE TIED CARD OF 'laws.FnOrderCanon'. -/
def fnOrderCanonCard : Claim7 := { stood := { row := fnOrderCanonRow, standIns := [], harness := (true, "e1a97e1e4d245a8c0c689f6eb83a2132bd3d5403d167506f2fe87343ae51abbc"), looks := true }, kinds := [], alts := [], laidByText := true, laidKinds := [.sentinel, .sentinel], laidTests := true, laidLooks := .later }
def FnOrderCanonCardSaid : Prop := Claim7.holds Tryz.pinned (.plain (OpenSpec.ofChange fnOrderCanonSpec)) fnOrderCanonCard

/-- THE TIED CARD OF 'laws.FnOrderAll'. -/
def fnOrderAllCard : Claim7 := { stood := { row := fnOrderAllRow, standIns := [], harness := (true, "e1a97e1e4d245a8c0c689f6eb83a2132bd3d5403d167506f2fe87343ae51abbc"), looks := true }, kinds := [], alts := [], laidByText := true, laidKinds := [.sentinel, .sentinel], laidTests := true, laidLooks := .later }
def FnOrderAllCardSaid : Prop := Claim7.holds Tryz.pinned (.plain (OpenSpec.ofChange fnOrderAllSpec)) fnOrderAllCard

/-- THE SECOND FORM's CARD OF 'laws.FnOrderCanon'. -/
def fnOrderCanonUptoCard : Claim7 := { stood := { row := fnOrderCanonUptoRow, standIns := [], harness := (true, "e1a97e1e4d245a8c0c689f6eb83a2132bd3d5403d167506f2fe87343ae51abbc"), looks := true }, kinds := [], alts := [], laidByText := true, laidKinds := [.sentinel, .sentinel], laidTests := true, laidLooks := .later }
def FnOrderCanonUptoCardSaid : Prop := Claim7.holds Tryz.pinned (.plain (OpenSpec.upto fnOrderCanonSpec)) fnOrderCanonUptoCard

/-- THE SECOND FORM's CARD OF 'laws.FnOrderAll'. -/
def fnOrderAllUptoCard : Claim7 := { stood := { row := fnOrderAllUptoRow, standIns := [], harness := (true, "e1a97e1e4d245a8c0c689f6eb83a2132bd3d5403d167506f2fe87343ae51abbc"), looks := true }, kinds := [], alts := [], laidByText := true, laidKinds := [.sentinel, .sentinel], laidTests := true, laidLooks := .later }
def FnOrderAllUptoCardSaid : Prop := Claim7.holds Tryz.pinned (.plain (OpenSpec.upto fnOrderAllSpec)) fnOrderAllUptoCard
end Rows
end Go.Proofs.YtpjoahddbdmbpaaGreatDoor
