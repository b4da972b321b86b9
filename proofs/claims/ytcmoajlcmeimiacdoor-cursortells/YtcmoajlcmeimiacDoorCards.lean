/-
  DERIVED. GIVEN WITH THE SEED: THE CARDS: each row of YtcmoajlcmeimiacDoorRows.lean that lists a variable, with what it lists TIED to the program's text (the seventh form; the later family's looks); each row that meets fmt, with fmt's text TOLD by the authors' own Lean function (tested against real Go, not proved from fmt's source: count such statements apart). THE CARD IS WHAT COUNTS. Prove the row's statement (the work); the ties are given (YtcmoajlcmeimiacDoorTie.lean); close each card by the builder's one call (the guide's Derived/Test/ToyasCard.lean, 'card_holds'). Laid BY PROGRAM, IN A SANDBOX (cutbox-door.mjs). By AI agents, Wed Nov 11 2026. No macro, syntax, notation, axiom, sorry.
-/
import Derived.Test.YtcmoajlcmeimiacDoorRows
import GoSem.ClaimSeven
namespace Go.Proofs.YtcmoajlcmeimiacDoor
namespace Rows

/-- THE TIED CARD OF 'leaflaw2.CursorTells'. -/
def cursorTellsCard : Claim7 := { stood := { row := cursorTellsRow, standIns := [], harness := (true, "6e2d821fe7916a67731bdbdb753a98e95faab592f95d15a2e00f52046da61cd0"), looks := true }, kinds := [], alts := [], laidByText := true, laidKinds := [.handle], laidTests := true, laidLooks := .later }
def CursorTellsCardSaid : Prop := Claim7.holds Tryd.pinned (.plain (OpenSpec.ofChange cursorTellsSpec)) cursorTellsCard

/-- THE SECOND FORM's CARD OF 'leaflaw2.CursorTells'. -/
def cursorTellsUptoCard : Claim7 := { stood := { row := cursorTellsUptoRow, standIns := [], harness := (true, "6e2d821fe7916a67731bdbdb753a98e95faab592f95d15a2e00f52046da61cd0"), looks := true }, kinds := [], alts := [], laidByText := true, laidKinds := [.handle], laidTests := true, laidLooks := .later }
def CursorTellsUptoCardSaid : Prop := Claim7.holds Tryd.pinned (.plain (OpenSpec.upto cursorTellsSpec)) cursorTellsUptoCard
end Rows
end Go.Proofs.YtcmoajlcmeimiacDoor
