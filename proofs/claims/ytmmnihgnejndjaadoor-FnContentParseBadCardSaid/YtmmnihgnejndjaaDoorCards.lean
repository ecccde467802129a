/-
  DERIVED. GIVEN WITH THE SEED: THE CARDS: each row of YtmmnihgnejndjaaDoorRows.lean that lists a variable, with what it lists TIED to the program's text (the seventh form; the later family's looks); each row that meets fmt, with fmt's text TOLD by the authors' own Lean function (tested against real Go, not proved from fmt's source: count such statements apart). THE CARD IS WHAT COUNTS. Prove the row's statement (the work); the ties are given (YtmmnihgnejndjaaDoorTie.lean); close each card by the builder's one call (the guide's Derived/Test/ToyasCard.lean, 'card_holds'). Laid BY PROGRAM, IN A SANDBOX (cutbox-door.mjs). By AI agents, Wed Nov 11 2026. No macro, syntax, notation, axiom, sorry.
-/
import Derived.Test.YtmmnihgnejndjaaDoorRows
import GoSem.ClaimSeven
namespace Go.Proofs.YtmmnihgnejndjaaDoor
namespace Rows

/-- THE TIED CARD OF 'laws.FnContentText'. -/
def fnContentTextCard : Claim7 := { stood := { row := fnContentTextRow, standIns := [], harness := (true, "407ab0a7bb4421d69dfcdb7aff14819bd4e327d65ae178a43bf54683e4e7e29b"), looks := true }, kinds := [], alts := [], laidByText := true, laidKinds := [.data, .data, .data, .sentinel, .sentinel], laidTests := true, laidLooks := .later }
def FnContentTextCardSaid : Prop := Claim7.holds Tryd.pinned (.plain (OpenSpec.ofChange fnContentTextSpec)) fnContentTextCard

/-- THE TIED CARD OF 'laws.FnContentParse'. -/
def fnContentParseCard : Claim7 := { stood := { row := fnContentParseRow, standIns := [], harness := (true, "407ab0a7bb4421d69dfcdb7aff14819bd4e327d65ae178a43bf54683e4e7e29b"), looks := true }, kinds := [], alts := [], laidByText := true, laidKinds := [.data, .data, .data, .sentinel, .sentinel], laidTests := true, laidLooks := .later }
def FnContentParseCardSaid : Prop := Claim7.holds Tryd.pinned (.plain (OpenSpec.ofChange fnContentParseSpec)) fnContentParseCard

/-- THE TIED CARD OF 'laws.FnContentParseBad'. -/
def fnContentParseBadCard : Claim7 := { stood := { row := fnContentParseBadRow, standIns := [], harness := (true, "407ab0a7bb4421d69dfcdb7aff14819bd4e327d65ae178a43bf54683e4e7e29b"), looks := true }, kinds := [], alts := [], laidByText := true, laidKinds := [.data, .data, .data, .sentinel, .sentinel], laidTests := true, laidLooks := .later }
def FnContentParseBadCardSaid : Prop := Claim7.holds Tryd.pinned (.plain (OpenSpec.ofChange fnContentParseBadSpec)) fnContentParseBadCard

/-- THE TIED CARD OF 'laws.FnExactContentParse'. -/
def fnExactContentParseCard : Claim7 := { stood := { row := fnExactContentParseRow, standIns := [], harness := (true, "407ab0a7bb4421d69dfcdb7aff14819bd4e327d65ae178a43bf54683e4e7e29b"), looks := true }, kinds := [], alts := [], laidByText := true, laidKinds := [.data, .data, .data, .sentinel, .sentinel], laidTests := true, laidLooks := .later }
def FnExactContentParseCardSaid : Prop := Claim7.holds Tryd.pinned (.plain (OpenSpec.ofChange fnExactContentParseSpec)) fnExactContentParseCard

/-- THE SECOND FORM's CARD OF 'laws.FnContentText'. -/
def fnContentTextUptoCard : Claim7 := { stood := { row := fnContentTextUptoRow, standIns := [], harness := (true, "407ab0a7bb4421d69dfcdb7aff14819bd4e327d65ae178a43bf54683e4e7e29b"), looks := true }, kinds := [], alts := [], laidByText := true, laidKinds := [.data, .data, .data, .sentinel, .sentinel], laidTests := true, laidLooks := .later }
def FnContentTextUptoCardSaid : Prop := Claim7.holds Tryd.pinned (.plain (OpenSpec.upto fnContentTextSpec)) fnContentTextUptoCard

/-- THE SECOND FORM's CARD OF 'laws.FnContentParse'. -/
def fnContentParseUptoCard : Claim7 := { stood := { row := fnContentParseUptoRow, standIns := [], harness := (true, "407ab0a7bb4421d69dfcdb7aff14819bd4e327d65ae178a43bf54683e4e7e29b"), looks := true }, kinds := [], alts := [], laidByText := true, laidKinds := [.data, .data, .data, .sentinel, .sentinel], laidTests := true, laidLooks := .later }
def FnContentParseUptoCardSaid : Prop := Claim7.holds Tryd.pinned (.plain (OpenSpec.upto fnContentParseSpec)) fnContentParseUptoCard

/-- THE SECOND FORM's CARD OF 'laws.FnContentParseBad'. -/
def fnContentParseBadUptoCard : Claim7 := { stood := { row := fnContentParseBadUptoRow, standIns := [], harness := (true, "407ab0a7bb4421d69dfcdb7aff14819bd4e327d65ae178a43bf54683e4e7e29b"), looks := true }, kinds := [], alts := [], laidByText := true, laidKinds := [.data, .data, .data, .sentinel, .sentinel], laidTests := true, laidLooks := .later }
def FnContentParseBadUptoCardSaid : Prop := Claim7.holds Tryd.pinned (.plain (OpenSpec.upto fnContentParseBadSpec)) fnContentParseBadUptoCard

/-- THE SECOND FORM's CARD OF 'laws.FnExactContentParse'. -/
def fnExactContentParseUptoCard : Claim7 := { stood := { row := fnExactContentParseUptoRow, standIns := [], harness := (true, "407ab0a7bb4421d69dfcdb7aff14819bd4e327d65ae178a43bf54683e4e7e29b"), looks := true }, kinds := [], alts := [], laidByText := true, laidKinds := [.data, .data, .data, .sentinel, .sentinel], laidTests := true, laidLooks := .later }
def FnExactContentParseUptoCardSaid : Prop := Claim7.holds Tryd.pinned (.plain (OpenSpec.upto fnExactContentParseSpec)) fnExactContentParseUptoCard
end Rows
end Go.Proofs.YtmmnihgnejndjaaDoor
