/-
  DERIVED. GIVEN WITH THE SEED: THE CARDS: each row of YtnniggjeadlbgaaGreatDoorRows.lean that lists a variable, with what it lists TIED to the program's text (the seventh form; the later family's looks); each row that meets fmt, with fmt's text TOLD by the authors' own Lean function (tested against real Go, not proved from fmt's source: count such statements apart). THE CARD IS WHAT COUNTS. Prove the row's statement (the work); the ties are given (YtnniggjeadlbgaaGreatDoorTie.lean); close each card by the builder's one call (the guide's Derived/Test/ToyasCard.lean, 'card_holds'). Laid BY PROGRAM, IN A SANDBOX (cutbox-door.mjs). By AI agents, Wed Nov 11 2026. No macro, syntax, notation, axiom, sorry.
-/
import Derived.Test.YtnniggjeadlbgaaGreatDoorRows
import GoSem.ClaimSeven
namespace Go.Proofs.YtnniggjeadlbgaaGreatDoor
namespace Rows

/-- THE TIED CARD OF 'leaflaw1.DocPlays'. -/
def docPlaysCard : Claim7 := { stood := { row := docPlaysRow, standIns := [], harness := (true, "168b55a40ed2bd7e3ff661c62f8f8e9a8dc22a28fc56c3576b1baeda55a49425"), looks := true }, kinds := [], alts := [], laidByText := true, laidKinds := [.handle], laidTests := true, laidLooks := .later }
def DocPlaysCardSaid : Prop := Claim7.holds Tryz.pinned (.plain (OpenSpec.ofChange docPlaysSpec)) docPlaysCard

/-- THE TIED CARD OF 'leaflaw2.EditTells'. -/
def editTellsCard : Claim7 := { stood := { row := editTellsRow, standIns := [], harness := (true, "168b55a40ed2bd7e3ff661c62f8f8e9a8dc22a28fc56c3576b1baeda55a49425"), looks := true }, kinds := [], alts := [], laidByText := true, laidKinds := [.handle], laidTests := true, laidLooks := .later }
def EditTellsCardSaid : Prop := Claim7.holds Tryz.pinned (.plain (OpenSpec.ofChange editTellsSpec)) editTellsCard

/-- THE TIED CARD OF 'leaflaw4.EditTypes'. -/
def editTypesCard : Claim7 := { stood := { row := editTypesRow, standIns := [], harness := (true, "168b55a40ed2bd7e3ff661c62f8f8e9a8dc22a28fc56c3576b1baeda55a49425"), looks := true }, kinds := [], alts := [], laidByText := true, laidKinds := [.handle], laidTests := true, laidLooks := .later }
def EditTypesCardSaid : Prop := Claim7.holds Tryz.pinned (.plain (OpenSpec.ofChange editTypesSpec)) editTypesCard

/-- THE TIED CARD OF 'leaflaw4.CursorEnds'. -/
def cursorEndsCard : Claim7 := { stood := { row := cursorEndsRow, standIns := [], harness := (true, "168b55a40ed2bd7e3ff661c62f8f8e9a8dc22a28fc56c3576b1baeda55a49425"), looks := true }, kinds := [], alts := [], laidByText := true, laidKinds := [.handle], laidTests := true, laidLooks := .later }
def CursorEndsCardSaid : Prop := Claim7.holds Tryz.pinned (.plain (OpenSpec.ofChange cursorEndsSpec)) cursorEndsCard

/-- THE TIED CARD OF 'leaflaw2.CausalMeets'. -/
def causalMeetsCard : Claim7 := { stood := { row := causalMeetsRow, standIns := [], harness := (true, "168b55a40ed2bd7e3ff661c62f8f8e9a8dc22a28fc56c3576b1baeda55a49425"), looks := true }, kinds := [], alts := [], laidByText := true, laidKinds := [.handle], laidTests := true, laidLooks := .later }
def CausalMeetsCardSaid : Prop := Claim7.holds Tryz.pinned (.plain (OpenSpec.ofChange causalMeetsSpec)) causalMeetsCard

/-- THE TIED CARD OF 'leaflaw2.CausalPlays'. -/
def causalPlaysCard : Claim7 := { stood := { row := causalPlaysRow, standIns := [], harness := (true, "168b55a40ed2bd7e3ff661c62f8f8e9a8dc22a28fc56c3576b1baeda55a49425"), looks := true }, kinds := [], alts := [], laidByText := true, laidKinds := [.handle], laidTests := true, laidLooks := .later }
def CausalPlaysCardSaid : Prop := Claim7.holds Tryz.pinned (.plain (OpenSpec.ofChange causalPlaysSpec)) causalPlaysCard

/-- THE SECOND FORM's CARD OF 'leaflaw1.DocPlays'. -/
def docPlaysUptoCard : Claim7 := { stood := { row := docPlaysUptoRow, standIns := [], harness := (true, "168b55a40ed2bd7e3ff661c62f8f8e9a8dc22a28fc56c3576b1baeda55a49425"), looks := true }, kinds := [], alts := [], laidByText := true, laidKinds := [.handle], laidTests := true, laidLooks := .later }
def DocPlaysUptoCardSaid : Prop := Claim7.holds Tryz.pinned (.plain (OpenSpec.upto docPlaysSpec)) docPlaysUptoCard

/-- THE SECOND FORM's CARD OF 'leaflaw2.EditTells'. -/
def editTellsUptoCard : Claim7 := { stood := { row := editTellsUptoRow, standIns := [], harness := (true, "168b55a40ed2bd7e3ff661c62f8f8e9a8dc22a28fc56c3576b1baeda55a49425"), looks := true }, kinds := [], alts := [], laidByText := true, laidKinds := [.handle], laidTests := true, laidLooks := .later }
def EditTellsUptoCardSaid : Prop := Claim7.holds Tryz.pinned (.plain (OpenSpec.upto editTellsSpec)) editTellsUptoCard

/-- THE SECOND FORM's CARD OF 'leaflaw4.EditTypes'. -/
def editTypesUptoCard : Claim7 := { stood := { row := editTypesUptoRow, standIns := [], harness := (true, "168b55a40ed2bd7e3ff661c62f8f8e9a8dc22a28fc56c3576b1baeda55a49425"), looks := true }, kinds := [], alts := [], laidByText := true, laidKinds := [.handle], laidTests := true, laidLooks := .later }
def EditTypesUptoCardSaid : Prop := Claim7.holds Tryz.pinned (.plain (OpenSpec.upto editTypesSpec)) editTypesUptoCard

/-- THE SECOND FORM's CARD OF 'leaflaw4.CursorEnds'. -/
def cursorEndsUptoCard : Claim7 := { stood := { row := cursorEndsUptoRow, standIns := [], harness := (true, "168b55a40ed2bd7e3ff661c62f8f8e9a8dc22a28fc56c3576b1baeda55a49425"), looks := true }, kinds := [], alts := [], laidByText := true, laidKinds := [.handle], laidTests := true, laidLooks := .later }
def CursorEndsUptoCardSaid : Prop := Claim7.holds Tryz.pinned (.plain (OpenSpec.upto cursorEndsSpec)) cursorEndsUptoCard

/-- THE SECOND FORM's CARD OF 'leaflaw2.CausalMeets'. -/
def causalMeetsUptoCard : Claim7 := { stood := { row := causalMeetsUptoRow, standIns := [], harness := (true, "168b55a40ed2bd7e3ff661c62f8f8e9a8dc22a28fc56c3576b1baeda55a49425"), looks := true }, kinds := [], alts := [], laidByText := true, laidKinds := [.handle], laidTests := true, laidLooks := .later }
def CausalMeetsUptoCardSaid : Prop := Claim7.holds Tryz.pinned (.plain (OpenSpec.upto causalMeetsSpec)) causalMeetsUptoCard

/-- THE SECOND FORM's CARD OF 'leaflaw2.CausalPlays'. -/
def causalPlaysUptoCard : Claim7 := { stood := { row := causalPlaysUptoRow, standIns := [], harness := (true, "168b55a40ed2bd7e3ff661c62f8f8e9a8dc22a28fc56c3576b1baeda55a49425"), looks := true }, kinds := [], alts := [], laidByText := true, laidKinds := [.handle], laidTests := true, laidLooks := .later }
def CausalPlaysUptoCardSaid : Prop := Claim7.holds Tryz.pinned (.plain (OpenSpec.upto causalPlaysSpec)) causalPlaysUptoCard
end Rows
end Go.Proofs.YtnniggjeadlbgaaGreatDoor
