/-
  DERIVED. GIVEN WITH THE SEED: THE CARDS: each row of YtnboodcllmdjeaaGreatDoorRows.lean that lists a variable, with what it lists TIED to the program's text (the seventh form; the later family's looks); each row that meets fmt, with fmt's text TOLD by the authors' own Lean function (tested against real Go, not proved from fmt's source: count such statements apart). THE CARD IS WHAT COUNTS. Prove the row's statement (the work); the ties are given (YtnboodcllmdjeaaGreatDoorTie.lean); close each card by the builder's one call (the guide's Derived/Test/ToyasCard.lean, 'card_holds'). Laid BY PROGRAM, IN A SANDBOX (cutbox-door.mjs). By AI agents, Wed Nov 11 2026. No macro, syntax, notation, axiom, sorry.
-/
import Derived.Test.YtnboodcllmdjeaaGreatDoorRows
import GoSem.ClaimSeven
namespace Go.Proofs.YtnboodcllmdjeaaGreatDoor
namespace Rows

/-- THE TIED CARD OF 'laws.FnCanon'. -/
def fnCanonCard : Claim7 := { stood := { row := fnCanonRow, standIns := [], harness := (true, "f25f1116a3212dbc2fafb14383175e3fd75fa217164731dde725462cd3f14aec"), looks := true }, kinds := [], alts := [], laidByText := true, laidKinds := [.sentinel, .sentinel], laidTests := true, laidLooks := .later }
def FnCanonCardSaid : Prop := Claim7.holds Tryz.pinned (.plain (OpenSpec.ofChange fnCanonSpec)) fnCanonCard

/-- THE TIED CARD OF 'laws.FnCanonDiff'. -/
def fnCanonDiffCard : Claim7 := { stood := { row := fnCanonDiffRow, standIns := [], harness := (true, "f25f1116a3212dbc2fafb14383175e3fd75fa217164731dde725462cd3f14aec"), looks := true }, kinds := [], alts := [], laidByText := true, laidKinds := [.sentinel, .sentinel], laidTests := true, laidLooks := .later }
def FnCanonDiffCardSaid : Prop := Claim7.holds Tryz.pinned (.plain (OpenSpec.ofChange fnCanonDiffSpec)) fnCanonDiffCard

/-- THE TIED CARD OF 'laws.FnCanonIsDiff'. -/
def fnCanonIsDiffCard : Claim7 := { stood := { row := fnCanonIsDiffRow, standIns := [], harness := (true, "f25f1116a3212dbc2fafb14383175e3fd75fa217164731dde725462cd3f14aec"), looks := true }, kinds := [], alts := [], laidByText := true, laidKinds := [.sentinel, .sentinel], laidTests := true, laidLooks := .later }
def FnCanonIsDiffCardSaid : Prop := Claim7.holds Tryz.pinned (.plain (OpenSpec.ofChange fnCanonIsDiffSpec)) fnCanonIsDiffCard

/-- THE TIED CARD OF 'laws.FnCanonNone'. -/
def fnCanonNoneCard : Claim7 := { stood := { row := fnCanonNoneRow, standIns := [], harness := (true, "f25f1116a3212dbc2fafb14383175e3fd75fa217164731dde725462cd3f14aec"), looks := true }, kinds := [], alts := [], laidByText := true, laidKinds := [.sentinel, .sentinel], laidTests := true, laidLooks := .later }
def FnCanonNoneCardSaid : Prop := Claim7.holds Tryz.pinned (.plain (OpenSpec.ofChange fnCanonNoneSpec)) fnCanonNoneCard

/-- THE TIED CARD OF 'laws.FnCanonUndo'. -/
def fnCanonUndoCard : Claim7 := { stood := { row := fnCanonUndoRow, standIns := [], harness := (true, "f25f1116a3212dbc2fafb14383175e3fd75fa217164731dde725462cd3f14aec"), looks := true }, kinds := [], alts := [], laidByText := true, laidKinds := [.sentinel, .sentinel], laidTests := true, laidLooks := .later }
def FnCanonUndoCardSaid : Prop := Claim7.holds Tryz.pinned (.plain (OpenSpec.ofChange fnCanonUndoSpec)) fnCanonUndoCard

/-- THE SECOND FORM's CARD OF 'laws.FnCanon'. -/
def fnCanonUptoCard : Claim7 := { stood := { row := fnCanonUptoRow, standIns := [], harness := (true, "f25f1116a3212dbc2fafb14383175e3fd75fa217164731dde725462cd3f14aec"), looks := true }, kinds := [], alts := [], laidByText := true, laidKinds := [.sentinel, .sentinel], laidTests := true, laidLooks := .later }
def FnCanonUptoCardSaid : Prop := Claim7.holds Tryz.pinned (.plain (OpenSpec.upto fnCanonSpec)) fnCanonUptoCard

/-- THE SECOND FORM's CARD OF 'laws.FnCanonDiff'. -/
def fnCanonDiffUptoCard : Claim7 := { stood := { row := fnCanonDiffUptoRow, standIns := [], harness := (true, "f25f1116a3212dbc2fafb14383175e3fd75fa217164731dde725462cd3f14aec"), looks := true }, kinds := [], alts := [], laidByText := true, laidKinds := [.sentinel, .sentinel], laidTests := true, laidLooks := .later }
def FnCanonDiffUptoCardSaid : Prop := Claim7.holds Tryz.pinned (.plain (OpenSpec.upto fnCanonDiffSpec)) fnCanonDiffUptoCard

/-- THE SECOND FORM's CARD OF 'laws.FnCanonIsDiff'. -/
def fnCanonIsDiffUptoCard : Claim7 := { stood := { row := fnCanonIsDiffUptoRow, standIns := [], harness := (true, "f25f1116a3212dbc2fafb14383175e3fd75fa217164731dde725462cd3f14aec"), looks := true }, kinds := [], alts := [], laidByText := true, laidKinds := [.sentinel, .sentinel], laidTests := true, laidLooks := .later }
def FnCanonIsDiffUptoCardSaid : Prop := Claim7.holds Tryz.pinned (.plain (OpenSpec.upto fnCanonIsDiffSpec)) fnCanonIsDiffUptoCard

/-- THE SECOND FORM's CARD OF 'laws.FnCanonNone'. -/
def fnCanonNoneUptoCard : Claim7 := { stood := { row := fnCanonNoneUptoRow, standIns := [], harness := (true, "f25f1116a3212dbc2fafb14383175e3fd75fa217164731dde725462cd3f14aec"), looks := true }, kinds := [], alts := [], laidByText := true, laidKinds := [.sentinel, .sentinel], laidTests := true, laidLooks := .later }
def FnCanonNoneUptoCardSaid : Prop := Claim7.holds Tryz.pinned (.plain (OpenSpec.upto fnCanonNoneSpec)) fnCanonNoneUptoCard

/-- THE SECOND FORM's CARD OF 'laws.FnCanonUndo'. -/
def fnCanonUndoUptoCard : Claim7 := { stood := { row := fnCanonUndoUptoRow, standIns := [], harness := (true, "f25f1116a3212dbc2fafb14383175e3fd75fa217164731dde725462cd3f14aec"), looks := true }, kinds := [], alts := [], laidByText := true, laidKinds := [.sentinel, .sentinel], laidTests := true, laidLooks := .later }
def FnCanonUndoUptoCardSaid : Prop := Claim7.holds Tryz.pinned (.plain (OpenSpec.upto fnCanonUndoSpec)) fnCanonUndoUptoCard
end Rows
end Go.Proofs.YtnboodcllmdjeaaGreatDoor
