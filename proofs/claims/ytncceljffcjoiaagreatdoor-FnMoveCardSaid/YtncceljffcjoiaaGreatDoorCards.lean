/-
  DERIVED. GIVEN WITH THE SEED: THE CARDS: each row of YtncceljffcjoiaaGreatDoorRows.lean that lists a variable, with what it lists TIED to the program's text (the seventh form; the later family's looks); each row that meets fmt, with fmt's text TOLD by the authors' own Lean function (tested against real Go, not proved from fmt's source: count such statements apart). THE CARD IS WHAT COUNTS. Prove the row's statement (the work); the ties are given (YtncceljffcjoiaaGreatDoorTie.lean); close each card by the builder's one call (the guide's Derived/Test/ToyasCard.lean, 'card_holds'). Laid BY PROGRAM, IN A SANDBOX (cutbox-door.mjs). By AI agents, Wed Nov 11 2026. No macro, syntax, notation, axiom, sorry.
-/
import Derived.Test.YtncceljffcjoiaaGreatDoorRows
import GoSem.ClaimSeven
namespace Go.Proofs.YtncceljffcjoiaaGreatDoor
namespace Rows

/-- THE TIED CARD OF 'laws.FnCopySum'. -/
def fnCopySumCard : Claim7 := { stood := { row := fnCopySumRow, standIns := [], harness := (true, "63822ef692ec7436ce78e5940efe25a00bafed77305f825ed76d7a44647dd3b2"), looks := true }, kinds := [], alts := [], laidByText := true, laidKinds := [.sentinel, .sentinel], laidTests := true, laidLooks := .later }
def FnCopySumCardSaid : Prop := Claim7.holds Tryz.pinned (.plain (OpenSpec.ofChange fnCopySumSpec)) fnCopySumCard

/-- THE TIED CARD OF 'laws.FnMove'. -/
def fnMoveCard : Claim7 := { stood := { row := fnMoveRow, standIns := [], harness := (true, "63822ef692ec7436ce78e5940efe25a00bafed77305f825ed76d7a44647dd3b2"), looks := true }, kinds := [], alts := [], laidByText := true, laidKinds := [.sentinel, .sentinel], laidTests := true, laidLooks := .later }
def FnMoveCardSaid : Prop := Claim7.holds Tryz.pinned (.plain (OpenSpec.ofChange fnMoveSpec)) fnMoveCard

/-- THE TIED CARD OF 'laws.FnMoveBack'. -/
def fnMoveBackCard : Claim7 := { stood := { row := fnMoveBackRow, standIns := [], harness := (true, "63822ef692ec7436ce78e5940efe25a00bafed77305f825ed76d7a44647dd3b2"), looks := true }, kinds := [], alts := [], laidByText := true, laidKinds := [.sentinel, .sentinel], laidTests := true, laidLooks := .later }
def FnMoveBackCardSaid : Prop := Claim7.holds Tryz.pinned (.plain (OpenSpec.ofChange fnMoveBackSpec)) fnMoveBackCard

/-- THE TIED CARD OF 'laws.FnExactCopyAll'. -/
def fnExactCopyAllCard : Claim7 := { stood := { row := fnExactCopyAllRow, standIns := [], harness := (true, "63822ef692ec7436ce78e5940efe25a00bafed77305f825ed76d7a44647dd3b2"), looks := true }, kinds := [], alts := [], laidByText := true, laidKinds := [.sentinel, .sentinel], laidTests := true, laidLooks := .later }
def FnExactCopyAllCardSaid : Prop := Claim7.holds Tryz.pinned (.plain (OpenSpec.ofChange fnExactCopyAllSpec)) fnExactCopyAllCard

/-- THE TIED CARD OF 'laws.FnExactMoveAll'. -/
def fnExactMoveAllCard : Claim7 := { stood := { row := fnExactMoveAllRow, standIns := [], harness := (true, "63822ef692ec7436ce78e5940efe25a00bafed77305f825ed76d7a44647dd3b2"), looks := true }, kinds := [], alts := [], laidByText := true, laidKinds := [.sentinel, .sentinel], laidTests := true, laidLooks := .later }
def FnExactMoveAllCardSaid : Prop := Claim7.holds Tryz.pinned (.plain (OpenSpec.ofChange fnExactMoveAllSpec)) fnExactMoveAllCard

/-- THE SECOND FORM's CARD OF 'laws.FnCopySum'. -/
def fnCopySumUptoCard : Claim7 := { stood := { row := fnCopySumUptoRow, standIns := [], harness := (true, "63822ef692ec7436ce78e5940efe25a00bafed77305f825ed76d7a44647dd3b2"), looks := true }, kinds := [], alts := [], laidByText := true, laidKinds := [.sentinel, .sentinel], laidTests := true, laidLooks := .later }
def FnCopySumUptoCardSaid : Prop := Claim7.holds Tryz.pinned (.plain (OpenSpec.upto fnCopySumSpec)) fnCopySumUptoCard

/-- THE SECOND FORM's CARD OF 'laws.FnMove'. -/
def fnMoveUptoCard : Claim7 := { stood := { row := fnMoveUptoRow, standIns := [], harness := (true, "63822ef692ec7436ce78e5940efe25a00bafed77305f825ed76d7a44647dd3b2"), looks := true }, kinds := [], alts := [], laidByText := true, laidKinds := [.sentinel, .sentinel], laidTests := true, laidLooks := .later }
def FnMoveUptoCardSaid : Prop := Claim7.holds Tryz.pinned (.plain (OpenSpec.upto fnMoveSpec)) fnMoveUptoCard

/-- THE SECOND FORM's CARD OF 'laws.FnMoveBack'. -/
def fnMoveBackUptoCard : Claim7 := { stood := { row := fnMoveBackUptoRow, standIns := [], harness := (true, "63822ef692ec7436ce78e5940efe25a00bafed77305f825ed76d7a44647dd3b2"), looks := true }, kinds := [], alts := [], laidByText := true, laidKinds := [.sentinel, .sentinel], laidTests := true, laidLooks := .later }
def FnMoveBackUptoCardSaid : Prop := Claim7.holds Tryz.pinned (.plain (OpenSpec.upto fnMoveBackSpec)) fnMoveBackUptoCard

/-- THE SECOND FORM's CARD OF 'laws.FnExactCopyAll'. -/
def fnExactCopyAllUptoCard : Claim7 := { stood := { row := fnExactCopyAllUptoRow, standIns := [], harness := (true, "63822ef692ec7436ce78e5940efe25a00bafed77305f825ed76d7a44647dd3b2"), looks := true }, kinds := [], alts := [], laidByText := true, laidKinds := [.sentinel, .sentinel], laidTests := true, laidLooks := .later }
def FnExactCopyAllUptoCardSaid : Prop := Claim7.holds Tryz.pinned (.plain (OpenSpec.upto fnExactCopyAllSpec)) fnExactCopyAllUptoCard

/-- THE SECOND FORM's CARD OF 'laws.FnExactMoveAll'. -/
def fnExactMoveAllUptoCard : Claim7 := { stood := { row := fnExactMoveAllUptoRow, standIns := [], harness := (true, "63822ef692ec7436ce78e5940efe25a00bafed77305f825ed76d7a44647dd3b2"), looks := true }, kinds := [], alts := [], laidByText := true, laidKinds := [.sentinel, .sentinel], laidTests := true, laidLooks := .later }
def FnExactMoveAllUptoCardSaid : Prop := Claim7.holds Tryz.pinned (.plain (OpenSpec.upto fnExactMoveAllSpec)) fnExactMoveAllUptoCard
end Rows
end Go.Proofs.YtncceljffcjoiaaGreatDoor
