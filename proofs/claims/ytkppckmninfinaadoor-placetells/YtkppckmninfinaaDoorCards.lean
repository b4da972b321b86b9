/-
  DERIVED. GIVEN WITH THE SEED: THE CARDS: each row of YtkppckmninfinaaDoorRows.lean that lists a variable, with what it lists TIED to the program's text (the seventh form; the later family's looks); each row that meets fmt, with fmt's text TOLD by the authors' own Lean function (tested against real Go, not proved from fmt's source: count such statements apart). THE CARD IS WHAT COUNTS. Prove the row's statement (the work); the ties are given (YtkppckmninfinaaDoorTie.lean); close each card by the builder's one call (the guide's Derived/Test/ToyasCard.lean, 'card_holds'). Laid BY PROGRAM, IN A SANDBOX (cutbox-door.mjs). By AI agents, Wed Nov 11 2026. No macro, syntax, notation, axiom, sorry.
-/
import Derived.Test.YtkppckmninfinaaDoorRows
import GoSem.ClaimSeven
namespace Go.Proofs.YtkppckmninfinaaDoor
namespace Rows

/-- THE TIED CARD OF 'leaflaw1.PlaceTells'. -/
def placeTellsCard : Claim7 := { stood := { row := placeTellsRow, standIns := [], harness := (true, "09cc84f8fb8962217be79204db1a5f6c6a2e6156b919976639e81614e4a63388"), looks := true }, kinds := [], alts := [], laidByText := true, laidKinds := [.handle], laidTests := true, laidLooks := .later }
def PlaceTellsCardSaid : Prop := Claim7.holds Tryd.pinned (.plain (OpenSpec.ofChange placeTellsSpec)) placeTellsCard

/-- THE TIED CARD OF 'leaflaw4.PlaceRow'. -/
def placeRowCard : Claim7 := { stood := { row := placeRowRow, standIns := [], harness := (true, "09cc84f8fb8962217be79204db1a5f6c6a2e6156b919976639e81614e4a63388"), looks := true }, kinds := [], alts := [], laidByText := true, laidKinds := [.handle], laidTests := true, laidLooks := .later }
def PlaceRowCardSaid : Prop := Claim7.holds Tryd.pinned (.plain (OpenSpec.ofChange placeRowSpec)) placeRowCard

/-- THE SECOND FORM's CARD OF 'leaflaw1.PlaceTells'. -/
def placeTellsUptoCard : Claim7 := { stood := { row := placeTellsUptoRow, standIns := [], harness := (true, "09cc84f8fb8962217be79204db1a5f6c6a2e6156b919976639e81614e4a63388"), looks := true }, kinds := [], alts := [], laidByText := true, laidKinds := [.handle], laidTests := true, laidLooks := .later }
def PlaceTellsUptoCardSaid : Prop := Claim7.holds Tryd.pinned (.plain (OpenSpec.upto placeTellsSpec)) placeTellsUptoCard

/-- THE SECOND FORM's CARD OF 'leaflaw4.PlaceRow'. -/
def placeRowUptoCard : Claim7 := { stood := { row := placeRowUptoRow, standIns := [], harness := (true, "09cc84f8fb8962217be79204db1a5f6c6a2e6156b919976639e81614e4a63388"), looks := true }, kinds := [], alts := [], laidByText := true, laidKinds := [.handle], laidTests := true, laidLooks := .later }
def PlaceRowUptoCardSaid : Prop := Claim7.holds Tryd.pinned (.plain (OpenSpec.upto placeRowSpec)) placeRowUptoCard
end Rows
end Go.Proofs.YtkppckmninfinaaDoor
