/-
  DERIVED. GIVEN WITH THE SEED: THE CARDS: each row of YtkpelomgofnbnabDoorRows.lean that lists a variable, with what it lists TIED to the program's text (the seventh form; the later family's looks); each row that meets fmt, with fmt's text TOLD by the authors' own Lean function (tested against real Go, not proved from fmt's source: count such statements apart). THE CARD IS WHAT COUNTS. Prove the row's statement (the work); the ties are given (YtkpelomgofnbnabDoorTie.lean); close each card by the builder's one call (the guide's Derived/Test/ToyasCard.lean, 'card_holds'). Laid BY PROGRAM, IN A SANDBOX (cutbox-door.mjs). By AI agents, Wed Nov 11 2026. No macro, syntax, notation, axiom, sorry.
-/
import Derived.Test.YtkpelomgofnbnabDoorRows
import GoSem.ClaimSeven
namespace Go.Proofs.YtkpelomgofnbnabDoor
namespace Rows

/-- THE TIED CARD OF 'leaflaw4.DotSteps'. -/
def dotStepsCard : Claim7 := { stood := { row := dotStepsRow, standIns := [], harness := (true, "fa7a1428c52f15d6ad3f1c3e45705496cf4a0ae71ca3d4a6aba8906b423a8a2c"), looks := true }, kinds := [], alts := [], laidByText := true, laidKinds := [.handle], laidTests := true, laidLooks := .later }
def DotStepsCardSaid : Prop := Claim7.holds Tryd.pinned (.plain (OpenSpec.ofChange dotStepsSpec)) dotStepsCard

/-- THE TIED CARD OF 'leaflaw1.BookTells'. -/
def bookTellsCard : Claim7 := { stood := { row := bookTellsRow, standIns := [], harness := (true, "fa7a1428c52f15d6ad3f1c3e45705496cf4a0ae71ca3d4a6aba8906b423a8a2c"), looks := true }, kinds := [], alts := [], laidByText := true, laidKinds := [.handle], laidTests := true, laidLooks := .later }
def BookTellsCardSaid : Prop := Claim7.holds Tryd.pinned (.plain (OpenSpec.ofChange bookTellsSpec)) bookTellsCard

/-- THE TIED CARD OF 'leaflaw4.BookFull'. -/
def bookFullCard : Claim7 := { stood := { row := bookFullRow, standIns := [], harness := (true, "fa7a1428c52f15d6ad3f1c3e45705496cf4a0ae71ca3d4a6aba8906b423a8a2c"), looks := true }, kinds := [], alts := [], laidByText := true, laidKinds := [.handle], laidTests := true, laidLooks := .later }
def BookFullCardSaid : Prop := Claim7.holds Tryd.pinned (.plain (OpenSpec.ofChange bookFullSpec)) bookFullCard

/-- THE SECOND FORM's CARD OF 'leaflaw4.DotSteps'. -/
def dotStepsUptoCard : Claim7 := { stood := { row := dotStepsUptoRow, standIns := [], harness := (true, "fa7a1428c52f15d6ad3f1c3e45705496cf4a0ae71ca3d4a6aba8906b423a8a2c"), looks := true }, kinds := [], alts := [], laidByText := true, laidKinds := [.handle], laidTests := true, laidLooks := .later }
def DotStepsUptoCardSaid : Prop := Claim7.holds Tryd.pinned (.plain (OpenSpec.upto dotStepsSpec)) dotStepsUptoCard

/-- THE SECOND FORM's CARD OF 'leaflaw1.BookTells'. -/
def bookTellsUptoCard : Claim7 := { stood := { row := bookTellsUptoRow, standIns := [], harness := (true, "fa7a1428c52f15d6ad3f1c3e45705496cf4a0ae71ca3d4a6aba8906b423a8a2c"), looks := true }, kinds := [], alts := [], laidByText := true, laidKinds := [.handle], laidTests := true, laidLooks := .later }
def BookTellsUptoCardSaid : Prop := Claim7.holds Tryd.pinned (.plain (OpenSpec.upto bookTellsSpec)) bookTellsUptoCard

/-- THE SECOND FORM's CARD OF 'leaflaw4.BookFull'. -/
def bookFullUptoCard : Claim7 := { stood := { row := bookFullUptoRow, standIns := [], harness := (true, "fa7a1428c52f15d6ad3f1c3e45705496cf4a0ae71ca3d4a6aba8906b423a8a2c"), looks := true }, kinds := [], alts := [], laidByText := true, laidKinds := [.handle], laidTests := true, laidLooks := .later }
def BookFullUptoCardSaid : Prop := Claim7.holds Tryd.pinned (.plain (OpenSpec.upto bookFullSpec)) bookFullUptoCard
end Rows
end Go.Proofs.YtkpelomgofnbnabDoor
