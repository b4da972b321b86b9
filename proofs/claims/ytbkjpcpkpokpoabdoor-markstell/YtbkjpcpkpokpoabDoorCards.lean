/-
  DERIVED. GIVEN WITH THE SEED: THE CARDS: each row of YtbkjpcpkpokpoabDoorRows.lean that lists a variable, with what it lists TIED to the program's text (the seventh form; the later family's looks); each row that meets fmt, with fmt's text TOLD by the authors' own Lean function (tested against real Go, not proved from fmt's source: count such statements apart). THE CARD IS WHAT COUNTS. Prove the row's statement (the work); the ties are given (YtbkjpcpkpokpoabDoorTie.lean); close each card by the builder's one call (the guide's Derived/Test/ToyasCard.lean, 'card_holds'). Laid BY PROGRAM, IN A SANDBOX (cutbox-door.mjs). By AI agents, Wed Nov 11 2026. No macro, syntax, notation, axiom, sorry.
-/
import Derived.Test.YtbkjpcpkpokpoabDoorRows
import GoSem.ClaimSeven
namespace Go.Proofs.YtbkjpcpkpokpoabDoor
namespace Rows

/-- THE TIED CARD OF 'leaflaw4.DotSteps'. -/
def dotStepsCard : Claim7 := { stood := { row := dotStepsRow, standIns := [], harness := (true, "fc166a839f71d7453e4936fa6188870d947af84f9035e103e328d043176b1ac2"), looks := true }, kinds := [], alts := [], laidByText := true, laidKinds := [.handle], laidTests := true, laidLooks := .later }
def DotStepsCardSaid : Prop := Claim7.holds Tryd.pinned (.plain (OpenSpec.ofChange dotStepsSpec)) dotStepsCard

/-- THE TIED CARD OF 'leaflaw1.BookTells'. -/
def bookTellsCard : Claim7 := { stood := { row := bookTellsRow, standIns := [], harness := (true, "fc166a839f71d7453e4936fa6188870d947af84f9035e103e328d043176b1ac2"), looks := true }, kinds := [], alts := [], laidByText := true, laidKinds := [.handle], laidTests := true, laidLooks := .later }
def BookTellsCardSaid : Prop := Claim7.holds Tryd.pinned (.plain (OpenSpec.ofChange bookTellsSpec)) bookTellsCard

/-- THE TIED CARD OF 'leaflaw4.BookFull'. -/
def bookFullCard : Claim7 := { stood := { row := bookFullRow, standIns := [], harness := (true, "fc166a839f71d7453e4936fa6188870d947af84f9035e103e328d043176b1ac2"), looks := true }, kinds := [], alts := [], laidByText := true, laidKinds := [.handle], laidTests := true, laidLooks := .later }
def BookFullCardSaid : Prop := Claim7.holds Tryd.pinned (.plain (OpenSpec.ofChange bookFullSpec)) bookFullCard

/-- THE TIED CARD OF 'leaflaw1.MarksTell'. -/
def marksTellCard : Claim7 := { stood := { row := marksTellRow, standIns := [], harness := (true, "fc166a839f71d7453e4936fa6188870d947af84f9035e103e328d043176b1ac2"), looks := true }, kinds := [], alts := [], laidByText := true, laidKinds := [.handle], laidTests := true, laidLooks := .later }
def MarksTellCardSaid : Prop := Claim7.holds Tryd.pinned (.plain (OpenSpec.ofChange marksTellSpec)) marksTellCard

/-- THE SECOND FORM's CARD OF 'leaflaw4.DotSteps'. -/
def dotStepsUptoCard : Claim7 := { stood := { row := dotStepsUptoRow, standIns := [], harness := (true, "fc166a839f71d7453e4936fa6188870d947af84f9035e103e328d043176b1ac2"), looks := true }, kinds := [], alts := [], laidByText := true, laidKinds := [.handle], laidTests := true, laidLooks := .later }
def DotStepsUptoCardSaid : Prop := Claim7.holds Tryd.pinned (.plain (OpenSpec.upto dotStepsSpec)) dotStepsUptoCard

/-- THE SECOND FORM's CARD OF 'leaflaw1.BookTells'. -/
def bookTellsUptoCard : Claim7 := { stood := { row := bookTellsUptoRow, standIns := [], harness := (true, "fc166a839f71d7453e4936fa6188870d947af84f9035e103e328d043176b1ac2"), looks := true }, kinds := [], alts := [], laidByText := true, laidKinds := [.handle], laidTests := true, laidLooks := .later }
def BookTellsUptoCardSaid : Prop := Claim7.holds Tryd.pinned (.plain (OpenSpec.upto bookTellsSpec)) bookTellsUptoCard

/-- THE SECOND FORM's CARD OF 'leaflaw4.BookFull'. -/
def bookFullUptoCard : Claim7 := { stood := { row := bookFullUptoRow, standIns := [], harness := (true, "fc166a839f71d7453e4936fa6188870d947af84f9035e103e328d043176b1ac2"), looks := true }, kinds := [], alts := [], laidByText := true, laidKinds := [.handle], laidTests := true, laidLooks := .later }
def BookFullUptoCardSaid : Prop := Claim7.holds Tryd.pinned (.plain (OpenSpec.upto bookFullSpec)) bookFullUptoCard

/-- THE SECOND FORM's CARD OF 'leaflaw1.MarksTell'. -/
def marksTellUptoCard : Claim7 := { stood := { row := marksTellUptoRow, standIns := [], harness := (true, "fc166a839f71d7453e4936fa6188870d947af84f9035e103e328d043176b1ac2"), looks := true }, kinds := [], alts := [], laidByText := true, laidKinds := [.handle], laidTests := true, laidLooks := .later }
def MarksTellUptoCardSaid : Prop := Claim7.holds Tryd.pinned (.plain (OpenSpec.upto marksTellSpec)) marksTellUptoCard
end Rows
end Go.Proofs.YtbkjpcpkpokpoabDoor
