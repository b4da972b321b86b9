/-
  DERIVED. GIVEN WITH THE SEED: THE CARDS: each row of YtekcjhembcdgfaaDoorRows.lean that lists a variable, with what it lists TIED to the program's text (the seventh form; the later family's looks); each row that meets fmt, with fmt's text TOLD by the authors' own Lean function (tested against real Go, not proved from fmt's source: count such statements apart). THE CARD IS WHAT COUNTS. Prove the row's statement (the work); the ties are given (YtekcjhembcdgfaaDoorTie.lean); close each card by the builder's one call (the guide's Derived/Test/ToyasCard.lean, 'card_holds'). Laid BY PROGRAM, IN A SANDBOX (cutbox-door.mjs). By AI agents, Wed Nov 11 2026. No macro, syntax, notation, axiom, sorry.
-/
import Derived.Test.YtekcjhembcdgfaaDoorRows
import GoSem.ClaimSeven
namespace Go.Proofs.YtekcjhembcdgfaaDoor
namespace Rows

/-- THE TIED CARD OF 'leaflaw1.PlaceTells'. -/
def placeTellsCard : Claim7 := { stood := { row := placeTellsRow, standIns := [], harness := (true, "e30adf91c356e5bb70441c036856a77f3519a6f3a8128cabf0f4edbac92718e2"), looks := true }, kinds := [], alts := [], laidByText := true, laidKinds := [.handle], laidTests := true, laidLooks := .later }
def PlaceTellsCardSaid : Prop := Claim7.holds Tryd.pinned (.plain (OpenSpec.ofChange placeTellsSpec)) placeTellsCard

/-- THE TIED CARD OF 'leaflaw4.PlaceRow'. -/
def placeRowCard : Claim7 := { stood := { row := placeRowRow, standIns := [], harness := (true, "e30adf91c356e5bb70441c036856a77f3519a6f3a8128cabf0f4edbac92718e2"), looks := true }, kinds := [], alts := [], laidByText := true, laidKinds := [.handle], laidTests := true, laidLooks := .later }
def PlaceRowCardSaid : Prop := Claim7.holds Tryd.pinned (.plain (OpenSpec.ofChange placeRowSpec)) placeRowCard

/-- THE TIED CARD OF 'leaflaw1.DotMerges'. -/
def dotMergesCard : Claim7 := { stood := { row := dotMergesRow, standIns := [], harness := (true, "e30adf91c356e5bb70441c036856a77f3519a6f3a8128cabf0f4edbac92718e2"), looks := true }, kinds := [], alts := [], laidByText := true, laidKinds := [.data, .data, .data, .data, .sentinel, .sentinel, .pinned], laidTests := true, laidLooks := .later }
def DotMergesCardSaid : Prop := Claim7.holds Tryd.pinned (.plain (OpenSpec.ofChange dotMergesSpec)) dotMergesCard

/-- THE SECOND FORM's CARD OF 'leaflaw1.PlaceTells'. -/
def placeTellsUptoCard : Claim7 := { stood := { row := placeTellsUptoRow, standIns := [], harness := (true, "e30adf91c356e5bb70441c036856a77f3519a6f3a8128cabf0f4edbac92718e2"), looks := true }, kinds := [], alts := [], laidByText := true, laidKinds := [.handle], laidTests := true, laidLooks := .later }
def PlaceTellsUptoCardSaid : Prop := Claim7.holds Tryd.pinned (.plain (OpenSpec.upto placeTellsSpec)) placeTellsUptoCard

/-- THE SECOND FORM's CARD OF 'leaflaw4.PlaceRow'. -/
def placeRowUptoCard : Claim7 := { stood := { row := placeRowUptoRow, standIns := [], harness := (true, "e30adf91c356e5bb70441c036856a77f3519a6f3a8128cabf0f4edbac92718e2"), looks := true }, kinds := [], alts := [], laidByText := true, laidKinds := [.handle], laidTests := true, laidLooks := .later }
def PlaceRowUptoCardSaid : Prop := Claim7.holds Tryd.pinned (.plain (OpenSpec.upto placeRowSpec)) placeRowUptoCard

/-- THE SECOND FORM's CARD OF 'leaflaw1.DotMerges'. -/
def dotMergesUptoCard : Claim7 := { stood := { row := dotMergesUptoRow, standIns := [], harness := (true, "e30adf91c356e5bb70441c036856a77f3519a6f3a8128cabf0f4edbac92718e2"), looks := true }, kinds := [], alts := [], laidByText := true, laidKinds := [.data, .data, .data, .data, .sentinel, .sentinel, .pinned], laidTests := true, laidLooks := .later }
def DotMergesUptoCardSaid : Prop := Claim7.holds Tryd.pinned (.plain (OpenSpec.upto dotMergesSpec)) dotMergesUptoCard
end Rows
end Go.Proofs.YtekcjhembcdgfaaDoor
