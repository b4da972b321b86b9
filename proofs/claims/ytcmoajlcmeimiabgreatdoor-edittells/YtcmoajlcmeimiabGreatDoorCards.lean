/-
  DERIVED. GIVEN WITH THE SEED: THE CARDS: each row of YtcmoajlcmeimiabGreatDoorRows.lean that lists a variable, with what it lists TIED to the program's text (the seventh form; the later family's looks); each row that meets fmt, with fmt's text TOLD by the authors' own Lean function (tested against real Go, not proved from fmt's source: count such statements apart). THE CARD IS WHAT COUNTS. Prove the row's statement (the work); the ties are given (YtcmoajlcmeimiabGreatDoorTie.lean); close each card by the builder's one call (the guide's Derived/Test/ToyasCard.lean, 'card_holds'). Laid BY PROGRAM, IN A SANDBOX (cutbox-door.mjs). By AI agents, Wed Nov 11 2026. No macro, syntax, notation, axiom, sorry.
-/
import Derived.Test.YtcmoajlcmeimiabGreatDoorRows
import GoSem.ClaimSeven
namespace Go.Proofs.YtcmoajlcmeimiabGreatDoor
namespace Rows

/-- THE TIED CARD OF 'leaflaw1.DocPlays'. -/
def docPlaysCard : Claim7 := { stood := { row := docPlaysRow, standIns := [], harness := (true, "3fc5579ef04f9d73d9454eb599638026c9e024c7e6c6b253562ba03e59a96876"), looks := true }, kinds := [], alts := [], laidByText := true, laidKinds := [.handle], laidTests := true, laidLooks := .later }
def DocPlaysCardSaid : Prop := Claim7.holds Tryz.pinned (.plain (OpenSpec.ofChange docPlaysSpec)) docPlaysCard

/-- THE TIED CARD OF 'leaflaw2.EditTells'. -/
def editTellsCard : Claim7 := { stood := { row := editTellsRow, standIns := [], harness := (true, "3fc5579ef04f9d73d9454eb599638026c9e024c7e6c6b253562ba03e59a96876"), looks := true }, kinds := [], alts := [], laidByText := true, laidKinds := [.handle], laidTests := true, laidLooks := .later }
def EditTellsCardSaid : Prop := Claim7.holds Tryz.pinned (.plain (OpenSpec.ofChange editTellsSpec)) editTellsCard

/-- THE SECOND FORM's CARD OF 'leaflaw1.DocPlays'. -/
def docPlaysUptoCard : Claim7 := { stood := { row := docPlaysUptoRow, standIns := [], harness := (true, "3fc5579ef04f9d73d9454eb599638026c9e024c7e6c6b253562ba03e59a96876"), looks := true }, kinds := [], alts := [], laidByText := true, laidKinds := [.handle], laidTests := true, laidLooks := .later }
def DocPlaysUptoCardSaid : Prop := Claim7.holds Tryz.pinned (.plain (OpenSpec.upto docPlaysSpec)) docPlaysUptoCard

/-- THE SECOND FORM's CARD OF 'leaflaw2.EditTells'. -/
def editTellsUptoCard : Claim7 := { stood := { row := editTellsUptoRow, standIns := [], harness := (true, "3fc5579ef04f9d73d9454eb599638026c9e024c7e6c6b253562ba03e59a96876"), looks := true }, kinds := [], alts := [], laidByText := true, laidKinds := [.handle], laidTests := true, laidLooks := .later }
def EditTellsUptoCardSaid : Prop := Claim7.holds Tryz.pinned (.plain (OpenSpec.upto editTellsSpec)) editTellsUptoCard
end Rows
end Go.Proofs.YtcmoajlcmeimiabGreatDoor
