/-
  DERIVED. GIVEN WITH THE SEED: THE CARDS: each row of YtkaokncaockjkaaDoorRows.lean that lists a variable, with what it lists TIED to the program's text (the seventh form; the later family's looks); each row that meets fmt, with fmt's text TOLD by the authors' own Lean function (tested against real Go, not proved from fmt's source: count such statements apart). THE CARD IS WHAT COUNTS. Prove the row's statement (the work); the ties are given (YtkaokncaockjkaaDoorTie.lean); close each card by the builder's one call (the guide's Derived/Test/ToyasCard.lean, 'card_holds'). Laid BY PROGRAM, IN A SANDBOX (cutbox-door.mjs). By AI agents, Wed Nov 11 2026. No macro, syntax, notation, axiom, sorry.
-/
import Derived.Test.YtkaokncaockjkaaDoorRows
import GoSem.ClaimSeven
namespace Go.Proofs.YtkaokncaockjkaaDoor
namespace Rows

/-- THE TIED CARD OF 'laws.FnLogApply'. -/
def fnLogApplyCard : Claim7 := { stood := { row := fnLogApplyRow, standIns := [], harness := (true, "226d556ae471b328e9ff2199978d45e1c9e40ef8df524acc1c6fbc587f3090b8"), looks := true }, kinds := [], alts := [], laidByText := true, laidKinds := [.sentinel, .sentinel], laidTests := true, laidLooks := .later }
def FnLogApplyCardSaid : Prop := Claim7.holds Tryd.pinned (.plain (OpenSpec.ofChange fnLogApplySpec)) fnLogApplyCard

/-- THE TIED CARD OF 'laws.FnLogBreak'. -/
def fnLogBreakCard : Claim7 := { stood := { row := fnLogBreakRow, standIns := [], harness := (true, "226d556ae471b328e9ff2199978d45e1c9e40ef8df524acc1c6fbc587f3090b8"), looks := true }, kinds := [], alts := [], laidByText := true, laidKinds := [.sentinel, .sentinel], laidTests := true, laidLooks := .later }
def FnLogBreakCardSaid : Prop := Claim7.holds Tryd.pinned (.plain (OpenSpec.ofChange fnLogBreakSpec)) fnLogBreakCard

/-- THE TIED CARD OF 'laws.FnLogUndo'. -/
def fnLogUndoCard : Claim7 := { stood := { row := fnLogUndoRow, standIns := [], harness := (true, "226d556ae471b328e9ff2199978d45e1c9e40ef8df524acc1c6fbc587f3090b8"), looks := true }, kinds := [], alts := [], laidByText := true, laidKinds := [.sentinel, .sentinel], laidTests := true, laidLooks := .later }
def FnLogUndoCardSaid : Prop := Claim7.holds Tryd.pinned (.plain (OpenSpec.ofChange fnLogUndoSpec)) fnLogUndoCard

/-- THE TIED CARD OF 'laws.FnLogFitsBegin'. -/
def fnLogFitsBeginCard : Claim7 := { stood := { row := fnLogFitsBeginRow, standIns := [], harness := (true, "226d556ae471b328e9ff2199978d45e1c9e40ef8df524acc1c6fbc587f3090b8"), looks := true }, kinds := [], alts := [], laidByText := true, laidKinds := [.sentinel, .sentinel], laidTests := true, laidLooks := .later }
def FnLogFitsBeginCardSaid : Prop := Claim7.holds Tryd.pinned (.plain (OpenSpec.ofChange fnLogFitsBeginSpec)) fnLogFitsBeginCard

/-- THE TIED CARD OF 'laws.FnExactLogApply'. -/
def fnExactLogApplyCard : Claim7 := { stood := { row := fnExactLogApplyRow, standIns := [], harness := (true, "226d556ae471b328e9ff2199978d45e1c9e40ef8df524acc1c6fbc587f3090b8"), looks := true }, kinds := [], alts := [], laidByText := true, laidKinds := [.sentinel, .sentinel], laidTests := true, laidLooks := .later }
def FnExactLogApplyCardSaid : Prop := Claim7.holds Tryd.pinned (.plain (OpenSpec.ofChange fnExactLogApplySpec)) fnExactLogApplyCard

/-- THE TIED CARD OF 'laws.FnExactLogFits'. -/
def fnExactLogFitsCard : Claim7 := { stood := { row := fnExactLogFitsRow, standIns := [], harness := (true, "226d556ae471b328e9ff2199978d45e1c9e40ef8df524acc1c6fbc587f3090b8"), looks := true }, kinds := [], alts := [], laidByText := true, laidKinds := [.sentinel, .sentinel], laidTests := true, laidLooks := .later }
def FnExactLogFitsCardSaid : Prop := Claim7.holds Tryd.pinned (.plain (OpenSpec.ofChange fnExactLogFitsSpec)) fnExactLogFitsCard

/-- THE SECOND FORM's CARD OF 'laws.FnLogApply'. -/
def fnLogApplyUptoCard : Claim7 := { stood := { row := fnLogApplyUptoRow, standIns := [], harness := (true, "226d556ae471b328e9ff2199978d45e1c9e40ef8df524acc1c6fbc587f3090b8"), looks := true }, kinds := [], alts := [], laidByText := true, laidKinds := [.sentinel, .sentinel], laidTests := true, laidLooks := .later }
def FnLogApplyUptoCardSaid : Prop := Claim7.holds Tryd.pinned (.plain (OpenSpec.upto fnLogApplySpec)) fnLogApplyUptoCard

/-- THE SECOND FORM's CARD OF 'laws.FnLogBreak'. -/
def fnLogBreakUptoCard : Claim7 := { stood := { row := fnLogBreakUptoRow, standIns := [], harness := (true, "226d556ae471b328e9ff2199978d45e1c9e40ef8df524acc1c6fbc587f3090b8"), looks := true }, kinds := [], alts := [], laidByText := true, laidKinds := [.sentinel, .sentinel], laidTests := true, laidLooks := .later }
def FnLogBreakUptoCardSaid : Prop := Claim7.holds Tryd.pinned (.plain (OpenSpec.upto fnLogBreakSpec)) fnLogBreakUptoCard

/-- THE SECOND FORM's CARD OF 'laws.FnLogUndo'. -/
def fnLogUndoUptoCard : Claim7 := { stood := { row := fnLogUndoUptoRow, standIns := [], harness := (true, "226d556ae471b328e9ff2199978d45e1c9e40ef8df524acc1c6fbc587f3090b8"), looks := true }, kinds := [], alts := [], laidByText := true, laidKinds := [.sentinel, .sentinel], laidTests := true, laidLooks := .later }
def FnLogUndoUptoCardSaid : Prop := Claim7.holds Tryd.pinned (.plain (OpenSpec.upto fnLogUndoSpec)) fnLogUndoUptoCard

/-- THE SECOND FORM's CARD OF 'laws.FnLogFitsBegin'. -/
def fnLogFitsBeginUptoCard : Claim7 := { stood := { row := fnLogFitsBeginUptoRow, standIns := [], harness := (true, "226d556ae471b328e9ff2199978d45e1c9e40ef8df524acc1c6fbc587f3090b8"), looks := true }, kinds := [], alts := [], laidByText := true, laidKinds := [.sentinel, .sentinel], laidTests := true, laidLooks := .later }
def FnLogFitsBeginUptoCardSaid : Prop := Claim7.holds Tryd.pinned (.plain (OpenSpec.upto fnLogFitsBeginSpec)) fnLogFitsBeginUptoCard

/-- THE SECOND FORM's CARD OF 'laws.FnExactLogApply'. -/
def fnExactLogApplyUptoCard : Claim7 := { stood := { row := fnExactLogApplyUptoRow, standIns := [], harness := (true, "226d556ae471b328e9ff2199978d45e1c9e40ef8df524acc1c6fbc587f3090b8"), looks := true }, kinds := [], alts := [], laidByText := true, laidKinds := [.sentinel, .sentinel], laidTests := true, laidLooks := .later }
def FnExactLogApplyUptoCardSaid : Prop := Claim7.holds Tryd.pinned (.plain (OpenSpec.upto fnExactLogApplySpec)) fnExactLogApplyUptoCard

/-- THE SECOND FORM's CARD OF 'laws.FnExactLogFits'. -/
def fnExactLogFitsUptoCard : Claim7 := { stood := { row := fnExactLogFitsUptoRow, standIns := [], harness := (true, "226d556ae471b328e9ff2199978d45e1c9e40ef8df524acc1c6fbc587f3090b8"), looks := true }, kinds := [], alts := [], laidByText := true, laidKinds := [.sentinel, .sentinel], laidTests := true, laidLooks := .later }
def FnExactLogFitsUptoCardSaid : Prop := Claim7.holds Tryd.pinned (.plain (OpenSpec.upto fnExactLogFitsSpec)) fnExactLogFitsUptoCard
end Rows
end Go.Proofs.YtkaokncaockjkaaDoor
