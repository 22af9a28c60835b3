/-
  DERIVED. GIVEN WITH THE SEED: THE CARDS: each row of YtoailhkgailhhaaDoorRows.lean that lists a variable, with what it lists TIED to the program's text (the seventh form; the later family's looks); each row that meets fmt, with fmt's text TOLD by the authors' own Lean function (tested against real Go, not proved from fmt's source: count such statements apart). THE CARD IS WHAT COUNTS. Prove the row's statement (the work); the ties are given (YtoailhkgailhhaaDoorTie.lean); close each card by the builder's one call (the guide's Derived/Test/ToyasCard.lean, 'card_holds'). Laid BY PROGRAM, IN A SANDBOX (cutbox-door.mjs). By AI agents, Wed Nov 11 2026. No macro, syntax, notation, axiom, sorry.
-/
import Derived.Test.YtoailhkgailhhaaDoorRows
import GoSem.ClaimSeven
namespace Go.Proofs.YtoailhkgailhhaaDoor
namespace Rows

/-- THE TIED CARD OF 'postriderlaw09.FilterTells'. -/
def filterTellsCard : Claim7 := { stood := { row := filterTellsRow, standIns := [], harness := (true, "47e147b8eb145108d004b23c3cae76007de1d1b1ce6958813450028a675f9601"), looks := false }, kinds := [], alts := [], laidByText := true, laidKinds := [.data, .pinned], laidTests := true, laidLooks := .later }
def FilterTellsCardSaid : Prop := Claim7.holds Tryd.pinned (.plain (OpenSpec.ofChange filterTellsSpec)) filterTellsCard

/-- THE TIED CARD OF 'postriderlaw09.FilterMatches'. -/
def filterMatchesCard : Claim7 := { stood := { row := filterMatchesRow, standIns := [], harness := (true, "47e147b8eb145108d004b23c3cae76007de1d1b1ce6958813450028a675f9601"), looks := false }, kinds := [], alts := [], laidByText := true, laidKinds := [.data, .pinned], laidTests := true, laidLooks := .later }
def FilterMatchesCardSaid : Prop := Claim7.holds Tryd.pinned (.plain (OpenSpec.ofChange filterMatchesSpec)) filterMatchesCard

/-- THE TIED CARD OF 'postriderlaw09.FilterCovers'. -/
def filterCoversCard : Claim7 := { stood := { row := filterCoversRow, standIns := [], harness := (true, "47e147b8eb145108d004b23c3cae76007de1d1b1ce6958813450028a675f9601"), looks := false }, kinds := [], alts := [], laidByText := true, laidKinds := [.data, .pinned], laidTests := true, laidLooks := .later }
def FilterCoversCardSaid : Prop := Claim7.holds Tryd.pinned (.plain (OpenSpec.ofChange filterCoversSpec)) filterCoversCard

/-- THE TIED CARD OF 'postriderlaw09.FilterNames'. -/
def filterNamesCard : Claim7 := { stood := { row := filterNamesRow, standIns := [], harness := (true, "47e147b8eb145108d004b23c3cae76007de1d1b1ce6958813450028a675f9601"), looks := false }, kinds := [], alts := [], laidByText := true, laidKinds := [.data, .pinned], laidTests := true, laidLooks := .later }
def FilterNamesCardSaid : Prop := Claim7.holds Tryd.pinned (.plain (OpenSpec.ofChange filterNamesSpec)) filterNamesCard

/-- THE TIED CARD OF 'postriderlaw09.FilterBelow'. -/
def filterBelowCard : Claim7 := { stood := { row := filterBelowRow, standIns := [], harness := (true, "47e147b8eb145108d004b23c3cae76007de1d1b1ce6958813450028a675f9601"), looks := false }, kinds := [], alts := [], laidByText := true, laidKinds := [.data, .pinned], laidTests := true, laidLooks := .later }
def FilterBelowCardSaid : Prop := Claim7.holds Tryd.pinned (.plain (OpenSpec.ofChange filterBelowSpec)) filterBelowCard

/-- THE TIED CARD OF 'postriderlaw09.FilterParent'. -/
def filterParentCard : Claim7 := { stood := { row := filterParentRow, standIns := [], harness := (true, "47e147b8eb145108d004b23c3cae76007de1d1b1ce6958813450028a675f9601"), looks := false }, kinds := [], alts := [], laidByText := true, laidKinds := [.data, .pinned], laidTests := true, laidLooks := .later }
def FilterParentCardSaid : Prop := Claim7.holds Tryd.pinned (.plain (OpenSpec.ofChange filterParentSpec)) filterParentCard

/-- THE SECOND FORM's CARD OF 'postriderlaw09.FilterTells'. -/
def filterTellsUptoCard : Claim7 := { stood := { row := filterTellsUptoRow, standIns := [], harness := (true, "47e147b8eb145108d004b23c3cae76007de1d1b1ce6958813450028a675f9601"), looks := false }, kinds := [], alts := [], laidByText := true, laidKinds := [.data, .pinned], laidTests := true, laidLooks := .later }
def FilterTellsUptoCardSaid : Prop := Claim7.holds Tryd.pinned (.plain (OpenSpec.upto filterTellsSpec)) filterTellsUptoCard

/-- THE SECOND FORM's CARD OF 'postriderlaw09.FilterMatches'. -/
def filterMatchesUptoCard : Claim7 := { stood := { row := filterMatchesUptoRow, standIns := [], harness := (true, "47e147b8eb145108d004b23c3cae76007de1d1b1ce6958813450028a675f9601"), looks := false }, kinds := [], alts := [], laidByText := true, laidKinds := [.data, .pinned], laidTests := true, laidLooks := .later }
def FilterMatchesUptoCardSaid : Prop := Claim7.holds Tryd.pinned (.plain (OpenSpec.upto filterMatchesSpec)) filterMatchesUptoCard

/-- THE SECOND FORM's CARD OF 'postriderlaw09.FilterCovers'. -/
def filterCoversUptoCard : Claim7 := { stood := { row := filterCoversUptoRow, standIns := [], harness := (true, "47e147b8eb145108d004b23c3cae76007de1d1b1ce6958813450028a675f9601"), looks := false }, kinds := [], alts := [], laidByText := true, laidKinds := [.data, .pinned], laidTests := true, laidLooks := .later }
def FilterCoversUptoCardSaid : Prop := Claim7.holds Tryd.pinned (.plain (OpenSpec.upto filterCoversSpec)) filterCoversUptoCard

/-- THE SECOND FORM's CARD OF 'postriderlaw09.FilterNames'. -/
def filterNamesUptoCard : Claim7 := { stood := { row := filterNamesUptoRow, standIns := [], harness := (true, "47e147b8eb145108d004b23c3cae76007de1d1b1ce6958813450028a675f9601"), looks := false }, kinds := [], alts := [], laidByText := true, laidKinds := [.data, .pinned], laidTests := true, laidLooks := .later }
def FilterNamesUptoCardSaid : Prop := Claim7.holds Tryd.pinned (.plain (OpenSpec.upto filterNamesSpec)) filterNamesUptoCard

/-- THE SECOND FORM's CARD OF 'postriderlaw09.FilterBelow'. -/
def filterBelowUptoCard : Claim7 := { stood := { row := filterBelowUptoRow, standIns := [], harness := (true, "47e147b8eb145108d004b23c3cae76007de1d1b1ce6958813450028a675f9601"), looks := false }, kinds := [], alts := [], laidByText := true, laidKinds := [.data, .pinned], laidTests := true, laidLooks := .later }
def FilterBelowUptoCardSaid : Prop := Claim7.holds Tryd.pinned (.plain (OpenSpec.upto filterBelowSpec)) filterBelowUptoCard

/-- THE SECOND FORM's CARD OF 'postriderlaw09.FilterParent'. -/
def filterParentUptoCard : Claim7 := { stood := { row := filterParentUptoRow, standIns := [], harness := (true, "47e147b8eb145108d004b23c3cae76007de1d1b1ce6958813450028a675f9601"), looks := false }, kinds := [], alts := [], laidByText := true, laidKinds := [.data, .pinned], laidTests := true, laidLooks := .later }
def FilterParentUptoCardSaid : Prop := Claim7.holds Tryd.pinned (.plain (OpenSpec.upto filterParentSpec)) filterParentUptoCard
end Rows
end Go.Proofs.YtoailhkgailhhaaDoor
