/-
  DERIVED. GIVEN WITH THE SEED: THE CARDS: each row of YthalakfphecflaaGreatDoorRows.lean that lists a variable, with what it lists TIED to the program's text (the seventh form; the later family's looks); each row that meets fmt, with fmt's text TOLD by the authors' own Lean function (tested against real Go, not proved from fmt's source: count such statements apart). THE CARD IS WHAT COUNTS. Prove the row's statement (the work); the ties are given (YthalakfphecflaaGreatDoorTie.lean); close each card by the builder's one call (the guide's Derived/Test/ToyasCard.lean, 'card_holds'). Laid BY PROGRAM, IN A SANDBOX (cutbox-door.mjs). By AI agents, Wed Nov 11 2026. No macro, syntax, notation, axiom, sorry.
-/
import Derived.Test.YthalakfphecflaaGreatDoorRows
import GoSem.ClaimSeven
namespace Go.Proofs.YthalakfphecflaaGreatDoor
namespace Rows

/-- THE TIED CARD OF 'leaflaw3.NetMeets'. -/
def netMeetsCard : Claim7 := { stood := { row := netMeetsRow, standIns := [], harness := (true, "441fd41de71b4a307d6f66db1024319b73d0a2634e58b7f97098595f47e5893b"), looks := true }, kinds := [], alts := [], laidByText := true, laidKinds := [.handle], laidTests := true, laidLooks := .later }
def NetMeetsCardSaid : Prop := Claim7.holds Tryz.pinned (.plain (OpenSpec.ofChange netMeetsSpec)) netMeetsCard

/-- THE TIED CARD OF 'leaflaw4.NetTypes'. -/
def netTypesCard : Claim7 := { stood := { row := netTypesRow, standIns := [], harness := (true, "441fd41de71b4a307d6f66db1024319b73d0a2634e58b7f97098595f47e5893b"), looks := true }, kinds := [], alts := [], laidByText := true, laidKinds := [.handle], laidTests := true, laidLooks := .later }
def NetTypesCardSaid : Prop := Claim7.holds Tryz.pinned (.plain (OpenSpec.ofChange netTypesSpec)) netTypesCard

/-- THE TIED CARD OF 'leaflaw3.NetPlays'. -/
def netPlaysCard : Claim7 := { stood := { row := netPlaysRow, standIns := [], harness := (true, "441fd41de71b4a307d6f66db1024319b73d0a2634e58b7f97098595f47e5893b"), looks := true }, kinds := [], alts := [], laidByText := true, laidKinds := [.handle], laidTests := true, laidLooks := .later }
def NetPlaysCardSaid : Prop := Claim7.holds Tryz.pinned (.plain (OpenSpec.ofChange netPlaysSpec)) netPlaysCard

/-- THE SECOND FORM's CARD OF 'leaflaw3.NetMeets'. -/
def netMeetsUptoCard : Claim7 := { stood := { row := netMeetsUptoRow, standIns := [], harness := (true, "441fd41de71b4a307d6f66db1024319b73d0a2634e58b7f97098595f47e5893b"), looks := true }, kinds := [], alts := [], laidByText := true, laidKinds := [.handle], laidTests := true, laidLooks := .later }
def NetMeetsUptoCardSaid : Prop := Claim7.holds Tryz.pinned (.plain (OpenSpec.upto netMeetsSpec)) netMeetsUptoCard

/-- THE SECOND FORM's CARD OF 'leaflaw4.NetTypes'. -/
def netTypesUptoCard : Claim7 := { stood := { row := netTypesUptoRow, standIns := [], harness := (true, "441fd41de71b4a307d6f66db1024319b73d0a2634e58b7f97098595f47e5893b"), looks := true }, kinds := [], alts := [], laidByText := true, laidKinds := [.handle], laidTests := true, laidLooks := .later }
def NetTypesUptoCardSaid : Prop := Claim7.holds Tryz.pinned (.plain (OpenSpec.upto netTypesSpec)) netTypesUptoCard

/-- THE SECOND FORM's CARD OF 'leaflaw3.NetPlays'. -/
def netPlaysUptoCard : Claim7 := { stood := { row := netPlaysUptoRow, standIns := [], harness := (true, "441fd41de71b4a307d6f66db1024319b73d0a2634e58b7f97098595f47e5893b"), looks := true }, kinds := [], alts := [], laidByText := true, laidKinds := [.handle], laidTests := true, laidLooks := .later }
def NetPlaysUptoCardSaid : Prop := Claim7.holds Tryz.pinned (.plain (OpenSpec.upto netPlaysSpec)) netPlaysUptoCard
end Rows
end Go.Proofs.YthalakfphecflaaGreatDoor
