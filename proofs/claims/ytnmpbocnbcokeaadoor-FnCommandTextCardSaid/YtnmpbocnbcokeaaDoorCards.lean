/-
  DERIVED. GIVEN WITH THE SEED: THE CARDS: each row of YtnmpbocnbcokeaaDoorRows.lean that lists a variable, with what it lists TIED to the program's text (the seventh form; the later family's looks); each row that meets fmt, with fmt's text TOLD by the authors' own Lean function (tested against real Go, not proved from fmt's source: count such statements apart). THE CARD IS WHAT COUNTS. Prove the row's statement (the work); the ties are given (YtnmpbocnbcokeaaDoorTie.lean); close each card by the builder's one call (the guide's Derived/Test/ToyasCard.lean, 'card_holds'). Laid BY PROGRAM, IN A SANDBOX (cutbox-door.mjs). By AI agents, Wed Nov 11 2026. No macro, syntax, notation, axiom, sorry.
-/
import Derived.Test.YtnmpbocnbcokeaaDoorRows
import GoSem.ClaimSeven
namespace Go.Proofs.YtnmpbocnbcokeaaDoor
namespace Rows

/-- THE TIED CARD OF 'laws.FnApplyBreak'. -/
def fnApplyBreakCard : Claim7 := { stood := { row := fnApplyBreakRow, standIns := [], harness := (true, "08ff9f3a2ab5f77b55d9742c2f6718f8748541ac59fe003dc7f9c45f3183e8d6"), looks := true }, kinds := [], alts := [], laidByText := true, laidKinds := [.sentinel, .sentinel], laidTests := true, laidLooks := .later }
def FnApplyBreakCardSaid : Prop := Claim7.holds Tryd.pinned (.plain (OpenSpec.ofChange fnApplyBreakSpec)) fnApplyBreakCard

/-- THE TIED CARD OF 'laws.FnUndo'. -/
def fnUndoCard : Claim7 := { stood := { row := fnUndoRow, standIns := [], harness := (true, "08ff9f3a2ab5f77b55d9742c2f6718f8748541ac59fe003dc7f9c45f3183e8d6"), looks := true }, kinds := [], alts := [], laidByText := true, laidKinds := [.sentinel, .sentinel], laidTests := true, laidLooks := .later }
def FnUndoCardSaid : Prop := Claim7.holds Tryd.pinned (.plain (OpenSpec.ofChange fnUndoSpec)) fnUndoCard

/-- THE TIED CARD OF 'laws.FnApplyTwice'. -/
def fnApplyTwiceCard : Claim7 := { stood := { row := fnApplyTwiceRow, standIns := [], harness := (true, "08ff9f3a2ab5f77b55d9742c2f6718f8748541ac59fe003dc7f9c45f3183e8d6"), looks := true }, kinds := [], alts := [], laidByText := true, laidKinds := [.sentinel, .sentinel], laidTests := true, laidLooks := .later }
def FnApplyTwiceCardSaid : Prop := Claim7.holds Tryd.pinned (.plain (OpenSpec.ofChange fnApplyTwiceSpec)) fnApplyTwiceCard

/-- THE TIED CARD OF 'laws.FnCommandText'. -/
def fnCommandTextCard : Claim7 := { stood := { row := fnCommandTextRow, standIns := [], harness := (true, "08ff9f3a2ab5f77b55d9742c2f6718f8748541ac59fe003dc7f9c45f3183e8d6"), looks := true }, kinds := [], alts := [], laidByText := true, laidKinds := [.data, .data, .data, .data, .sentinel, .sentinel, .pinned], laidTests := true, laidLooks := .later }
def FnCommandTextCardSaid : Prop := Claim7.holds Tryd.pinned (.plain (OpenSpec.ofChange fnCommandTextSpec)) fnCommandTextCard

/-- THE TIED CARD OF 'laws.FnCommandParse'. -/
def fnCommandParseCard : Claim7 := { stood := { row := fnCommandParseRow, standIns := [], harness := (true, "08ff9f3a2ab5f77b55d9742c2f6718f8748541ac59fe003dc7f9c45f3183e8d6"), looks := true }, kinds := [], alts := [], laidByText := true, laidKinds := [.data, .data, .data, .data, .sentinel, .sentinel, .pinned], laidTests := true, laidLooks := .later }
def FnCommandParseCardSaid : Prop := Claim7.holds Tryd.pinned (.plain (OpenSpec.ofChange fnCommandParseSpec)) fnCommandParseCard

/-- THE TIED CARD OF 'laws.FnExactCommandApply'. -/
def fnExactCommandApplyCard : Claim7 := { stood := { row := fnExactCommandApplyRow, standIns := [], harness := (true, "08ff9f3a2ab5f77b55d9742c2f6718f8748541ac59fe003dc7f9c45f3183e8d6"), looks := true }, kinds := [], alts := [], laidByText := true, laidKinds := [.sentinel, .sentinel], laidTests := true, laidLooks := .later }
def FnExactCommandApplyCardSaid : Prop := Claim7.holds Tryd.pinned (.plain (OpenSpec.ofChange fnExactCommandApplySpec)) fnExactCommandApplyCard

/-- THE SECOND FORM's CARD OF 'laws.FnApplyBreak'. -/
def fnApplyBreakUptoCard : Claim7 := { stood := { row := fnApplyBreakUptoRow, standIns := [], harness := (true, "08ff9f3a2ab5f77b55d9742c2f6718f8748541ac59fe003dc7f9c45f3183e8d6"), looks := true }, kinds := [], alts := [], laidByText := true, laidKinds := [.sentinel, .sentinel], laidTests := true, laidLooks := .later }
def FnApplyBreakUptoCardSaid : Prop := Claim7.holds Tryd.pinned (.plain (OpenSpec.upto fnApplyBreakSpec)) fnApplyBreakUptoCard

/-- THE SECOND FORM's CARD OF 'laws.FnUndo'. -/
def fnUndoUptoCard : Claim7 := { stood := { row := fnUndoUptoRow, standIns := [], harness := (true, "08ff9f3a2ab5f77b55d9742c2f6718f8748541ac59fe003dc7f9c45f3183e8d6"), looks := true }, kinds := [], alts := [], laidByText := true, laidKinds := [.sentinel, .sentinel], laidTests := true, laidLooks := .later }
def FnUndoUptoCardSaid : Prop := Claim7.holds Tryd.pinned (.plain (OpenSpec.upto fnUndoSpec)) fnUndoUptoCard

/-- THE SECOND FORM's CARD OF 'laws.FnApplyTwice'. -/
def fnApplyTwiceUptoCard : Claim7 := { stood := { row := fnApplyTwiceUptoRow, standIns := [], harness := (true, "08ff9f3a2ab5f77b55d9742c2f6718f8748541ac59fe003dc7f9c45f3183e8d6"), looks := true }, kinds := [], alts := [], laidByText := true, laidKinds := [.sentinel, .sentinel], laidTests := true, laidLooks := .later }
def FnApplyTwiceUptoCardSaid : Prop := Claim7.holds Tryd.pinned (.plain (OpenSpec.upto fnApplyTwiceSpec)) fnApplyTwiceUptoCard

/-- THE SECOND FORM's CARD OF 'laws.FnCommandText'. -/
def fnCommandTextUptoCard : Claim7 := { stood := { row := fnCommandTextUptoRow, standIns := [], harness := (true, "08ff9f3a2ab5f77b55d9742c2f6718f8748541ac59fe003dc7f9c45f3183e8d6"), looks := true }, kinds := [], alts := [], laidByText := true, laidKinds := [.data, .data, .data, .data, .sentinel, .sentinel, .pinned], laidTests := true, laidLooks := .later }
def FnCommandTextUptoCardSaid : Prop := Claim7.holds Tryd.pinned (.plain (OpenSpec.upto fnCommandTextSpec)) fnCommandTextUptoCard

/-- THE SECOND FORM's CARD OF 'laws.FnCommandParse'. -/
def fnCommandParseUptoCard : Claim7 := { stood := { row := fnCommandParseUptoRow, standIns := [], harness := (true, "08ff9f3a2ab5f77b55d9742c2f6718f8748541ac59fe003dc7f9c45f3183e8d6"), looks := true }, kinds := [], alts := [], laidByText := true, laidKinds := [.data, .data, .data, .data, .sentinel, .sentinel, .pinned], laidTests := true, laidLooks := .later }
def FnCommandParseUptoCardSaid : Prop := Claim7.holds Tryd.pinned (.plain (OpenSpec.upto fnCommandParseSpec)) fnCommandParseUptoCard

/-- THE SECOND FORM's CARD OF 'laws.FnExactCommandApply'. -/
def fnExactCommandApplyUptoCard : Claim7 := { stood := { row := fnExactCommandApplyUptoRow, standIns := [], harness := (true, "08ff9f3a2ab5f77b55d9742c2f6718f8748541ac59fe003dc7f9c45f3183e8d6"), looks := true }, kinds := [], alts := [], laidByText := true, laidKinds := [.sentinel, .sentinel], laidTests := true, laidLooks := .later }
def FnExactCommandApplyUptoCardSaid : Prop := Claim7.holds Tryd.pinned (.plain (OpenSpec.upto fnExactCommandApplySpec)) fnExactCommandApplyUptoCard
end Rows
end Go.Proofs.YtnmpbocnbcokeaaDoor
