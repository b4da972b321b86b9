/-
  DERIVED. GIVEN WITH THE SEED: THE CARDS: each row of YtcmoajlcmeimiabDoorRows.lean that lists a variable, with what it lists TIED to the program's text (the seventh form; the later family's looks); each row that meets fmt, with fmt's text TOLD by the authors' own Lean function (tested against real Go, not proved from fmt's source: count such statements apart). THE CARD IS WHAT COUNTS. Prove the row's statement (the work); the ties are given (YtcmoajlcmeimiabDoorTie.lean); close each card by the builder's one call (the guide's Derived/Test/ToyasCard.lean, 'card_holds'). Laid BY PROGRAM, IN A SANDBOX (cutbox-door.mjs). By AI agents, Wed Nov 11 2026. No macro, syntax, notation, axiom, sorry.
-/
import Derived.Test.YtcmoajlcmeimiabDoorRows
import GoSem.ClaimSeven
namespace Go.Proofs.YtcmoajlcmeimiabDoor
namespace Rows

/-- THE TIED CARD OF 'leaflaw1.DocMeets'. -/
def docMeetsCard : Claim7 := { stood := { row := docMeetsRow, standIns := [], harness := (true, "e3b5096f6ce043826ead2ea6a87d0b88e57450c5bac1bdff48fb1e69f3f0f03f"), looks := true }, kinds := [], alts := [], laidByText := true, laidKinds := [.handle], laidTests := true, laidLooks := .later }
def DocMeetsCardSaid : Prop := Claim7.holds Tryd.pinned (.plain (OpenSpec.ofChange docMeetsSpec)) docMeetsCard

/-- THE TIED CARD OF 'leaflaw1.DirTells'. -/
def dirTellsCard : Claim7 := { stood := { row := dirTellsRow, standIns := [], harness := (true, "e3b5096f6ce043826ead2ea6a87d0b88e57450c5bac1bdff48fb1e69f3f0f03f"), looks := true }, kinds := [], alts := [], laidByText := true, laidKinds := [.handle], laidTests := true, laidLooks := .later }
def DirTellsCardSaid : Prop := Claim7.holds Tryd.pinned (.plain (OpenSpec.ofChange dirTellsSpec)) dirTellsCard

/-- THE SECOND FORM's CARD OF 'leaflaw1.DocMeets'. -/
def docMeetsUptoCard : Claim7 := { stood := { row := docMeetsUptoRow, standIns := [], harness := (true, "e3b5096f6ce043826ead2ea6a87d0b88e57450c5bac1bdff48fb1e69f3f0f03f"), looks := true }, kinds := [], alts := [], laidByText := true, laidKinds := [.handle], laidTests := true, laidLooks := .later }
def DocMeetsUptoCardSaid : Prop := Claim7.holds Tryd.pinned (.plain (OpenSpec.upto docMeetsSpec)) docMeetsUptoCard

/-- THE SECOND FORM's CARD OF 'leaflaw1.DirTells'. -/
def dirTellsUptoCard : Claim7 := { stood := { row := dirTellsUptoRow, standIns := [], harness := (true, "e3b5096f6ce043826ead2ea6a87d0b88e57450c5bac1bdff48fb1e69f3f0f03f"), looks := true }, kinds := [], alts := [], laidByText := true, laidKinds := [.handle], laidTests := true, laidLooks := .later }
def DirTellsUptoCardSaid : Prop := Claim7.holds Tryd.pinned (.plain (OpenSpec.upto dirTellsSpec)) dirTellsUptoCard
end Rows
end Go.Proofs.YtcmoajlcmeimiabDoor
