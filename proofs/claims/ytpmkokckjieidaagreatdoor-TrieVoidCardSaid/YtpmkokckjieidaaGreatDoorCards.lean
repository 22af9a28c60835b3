/-
  DERIVED. GIVEN WITH THE SEED: THE CARDS: each row of YtpmkokckjieidaaGreatDoorRows.lean that lists a variable, with what it lists TIED to the program's text (the seventh form; the later family's looks); each row that meets fmt, with fmt's text TOLD by the authors' own Lean function (tested against real Go, not proved from fmt's source: count such statements apart). THE CARD IS WHAT COUNTS. Prove the row's statement (the work); the ties are given (YtpmkokckjieidaaGreatDoorTie.lean); close each card by the builder's one call (the guide's Derived/Test/ToyasCard.lean, 'card_holds'). Laid BY PROGRAM, IN A SANDBOX (cutbox-door.mjs). By AI agents, Wed Nov 11 2026. No macro, syntax, notation, axiom, sorry.
-/
import Derived.Test.YtpmkokckjieidaaGreatDoorRows
import GoSem.ClaimSeven
namespace Go.Proofs.YtpmkokckjieidaaGreatDoor
namespace Rows

/-- THE TIED CARD OF 'postriderlaw10.TriePlays'. -/
def triePlaysCard : Claim7 := { stood := { row := triePlaysRow, standIns := [], harness := (true, "8cb1643cbc0f7ee7eb7cedc0dae19c85c3874f5714958b81db77b9c7f20b0797"), looks := false }, kinds := [], alts := [], laidByText := true, laidKinds := [.data, .pinned], laidTests := true, laidLooks := .later }
def TriePlaysCardSaid : Prop := Claim7.holds Tryz.pinned (.plain (OpenSpec.ofChange triePlaysSpec)) triePlaysCard

/-- THE TIED CARD OF 'postriderlaw10.TriePrunes'. -/
def triePrunesCard : Claim7 := { stood := { row := triePrunesRow, standIns := [], harness := (true, "8cb1643cbc0f7ee7eb7cedc0dae19c85c3874f5714958b81db77b9c7f20b0797"), looks := false }, kinds := [], alts := [], laidByText := true, laidKinds := [.data, .pinned], laidTests := true, laidLooks := .later }
def TriePrunesCardSaid : Prop := Claim7.holds Tryz.pinned (.plain (OpenSpec.ofChange triePrunesSpec)) triePrunesCard

/-- THE TIED CARD OF 'postriderlaw10.TrieTurns'. -/
def trieTurnsCard : Claim7 := { stood := { row := trieTurnsRow, standIns := [], harness := (true, "8cb1643cbc0f7ee7eb7cedc0dae19c85c3874f5714958b81db77b9c7f20b0797"), looks := false }, kinds := [], alts := [], laidByText := true, laidKinds := [.data, .pinned], laidTests := true, laidLooks := .later }
def TrieTurnsCardSaid : Prop := Claim7.holds Tryz.pinned (.plain (OpenSpec.ofChange trieTurnsSpec)) trieTurnsCard

/-- THE TIED CARD OF 'postriderlaw10.TrieAll'. -/
def trieAllCard : Claim7 := { stood := { row := trieAllRow, standIns := [], harness := (true, "8cb1643cbc0f7ee7eb7cedc0dae19c85c3874f5714958b81db77b9c7f20b0797"), looks := false }, kinds := [], alts := [], laidByText := true, laidKinds := [.data, .pinned], laidTests := true, laidLooks := .later }
def TrieAllCardSaid : Prop := Claim7.holds Tryz.pinned (.plain (OpenSpec.ofChange trieAllSpec)) trieAllCard

/-- THE TIED CARD OF 'postriderlaw10.TrieFull'. -/
def trieFullCard : Claim7 := { stood := { row := trieFullRow, standIns := [], harness := (true, "8cb1643cbc0f7ee7eb7cedc0dae19c85c3874f5714958b81db77b9c7f20b0797"), looks := false }, kinds := [], alts := [], laidByText := true, laidKinds := [.data, .pinned], laidTests := true, laidLooks := .later }
def TrieFullCardSaid : Prop := Claim7.holds Tryz.pinned (.plain (OpenSpec.ofChange trieFullSpec)) trieFullCard

/-- THE TIED CARD OF 'postriderlaw10.TrieVoid'. -/
def trieVoidCard : Claim7 := { stood := { row := trieVoidRow, standIns := [], harness := (true, "8cb1643cbc0f7ee7eb7cedc0dae19c85c3874f5714958b81db77b9c7f20b0797"), looks := false }, kinds := [], alts := [], laidByText := true, laidKinds := [.data, .pinned], laidTests := true, laidLooks := .later }
def TrieVoidCardSaid : Prop := Claim7.holds Tryz.pinned (.plain (OpenSpec.ofChange trieVoidSpec)) trieVoidCard

/-- THE SECOND FORM's CARD OF 'postriderlaw10.TriePlays'. -/
def triePlaysUptoCard : Claim7 := { stood := { row := triePlaysUptoRow, standIns := [], harness := (true, "8cb1643cbc0f7ee7eb7cedc0dae19c85c3874f5714958b81db77b9c7f20b0797"), looks := false }, kinds := [], alts := [], laidByText := true, laidKinds := [.data, .pinned], laidTests := true, laidLooks := .later }
def TriePlaysUptoCardSaid : Prop := Claim7.holds Tryz.pinned (.plain (OpenSpec.upto triePlaysSpec)) triePlaysUptoCard

/-- THE SECOND FORM's CARD OF 'postriderlaw10.TriePrunes'. -/
def triePrunesUptoCard : Claim7 := { stood := { row := triePrunesUptoRow, standIns := [], harness := (true, "8cb1643cbc0f7ee7eb7cedc0dae19c85c3874f5714958b81db77b9c7f20b0797"), looks := false }, kinds := [], alts := [], laidByText := true, laidKinds := [.data, .pinned], laidTests := true, laidLooks := .later }
def TriePrunesUptoCardSaid : Prop := Claim7.holds Tryz.pinned (.plain (OpenSpec.upto triePrunesSpec)) triePrunesUptoCard

/-- THE SECOND FORM's CARD OF 'postriderlaw10.TrieTurns'. -/
def trieTurnsUptoCard : Claim7 := { stood := { row := trieTurnsUptoRow, standIns := [], harness := (true, "8cb1643cbc0f7ee7eb7cedc0dae19c85c3874f5714958b81db77b9c7f20b0797"), looks := false }, kinds := [], alts := [], laidByText := true, laidKinds := [.data, .pinned], laidTests := true, laidLooks := .later }
def TrieTurnsUptoCardSaid : Prop := Claim7.holds Tryz.pinned (.plain (OpenSpec.upto trieTurnsSpec)) trieTurnsUptoCard

/-- THE SECOND FORM's CARD OF 'postriderlaw10.TrieAll'. -/
def trieAllUptoCard : Claim7 := { stood := { row := trieAllUptoRow, standIns := [], harness := (true, "8cb1643cbc0f7ee7eb7cedc0dae19c85c3874f5714958b81db77b9c7f20b0797"), looks := false }, kinds := [], alts := [], laidByText := true, laidKinds := [.data, .pinned], laidTests := true, laidLooks := .later }
def TrieAllUptoCardSaid : Prop := Claim7.holds Tryz.pinned (.plain (OpenSpec.upto trieAllSpec)) trieAllUptoCard

/-- THE SECOND FORM's CARD OF 'postriderlaw10.TrieFull'. -/
def trieFullUptoCard : Claim7 := { stood := { row := trieFullUptoRow, standIns := [], harness := (true, "8cb1643cbc0f7ee7eb7cedc0dae19c85c3874f5714958b81db77b9c7f20b0797"), looks := false }, kinds := [], alts := [], laidByText := true, laidKinds := [.data, .pinned], laidTests := true, laidLooks := .later }
def TrieFullUptoCardSaid : Prop := Claim7.holds Tryz.pinned (.plain (OpenSpec.upto trieFullSpec)) trieFullUptoCard

/-- THE SECOND FORM's CARD OF 'postriderlaw10.TrieVoid'. -/
def trieVoidUptoCard : Claim7 := { stood := { row := trieVoidUptoRow, standIns := [], harness := (true, "8cb1643cbc0f7ee7eb7cedc0dae19c85c3874f5714958b81db77b9c7f20b0797"), looks := false }, kinds := [], alts := [], laidByText := true, laidKinds := [.data, .pinned], laidTests := true, laidLooks := .later }
def TrieVoidUptoCardSaid : Prop := Claim7.holds Tryz.pinned (.plain (OpenSpec.upto trieVoidSpec)) trieVoidUptoCard
end Rows
end Go.Proofs.YtpmkokckjieidaaGreatDoor
