/-
  DERIVED. GIVEN WITH THE SEED: THE CARDS: each row of YtekcjhembcdgfacDoorRows.lean that lists a variable, with what it lists TIED to the program's text (the seventh form; the later family's looks); each row that meets fmt, with fmt's text TOLD by the authors' own Lean function (tested against real Go, not proved from fmt's source: count such statements apart). THE CARD IS WHAT COUNTS. Prove the row's statement (the work); the ties are given (YtekcjhembcdgfacDoorTie.lean); close each card by the builder's one call (the guide's Derived/Test/ToyasCard.lean, 'card_holds'). Laid BY PROGRAM, IN A SANDBOX (cutbox-door.mjs). By AI agents, Wed Nov 11 2026. No macro, syntax, notation, axiom, sorry.
-/
import Derived.Test.YtekcjhembcdgfacDoorRows
import GoSem.ClaimSeven
namespace Go.Proofs.YtekcjhembcdgfacDoor
namespace Rows

/-- THE TIED CARD OF 'leaflaw4.MarksFull'. -/
def marksFullCard : Claim7 := { stood := { row := marksFullRow, standIns := [], harness := (true, "114687e35d940ad74ce81c30c11ec7a53662153f75a6187f715b3754eb4af26a"), looks := true }, kinds := [], alts := [], laidByText := true, laidKinds := [.handle], laidTests := true, laidLooks := .later }
def MarksFullCardSaid : Prop := Claim7.holds Tryd.pinned (.plain (OpenSpec.ofChange marksFullSpec)) marksFullCard

/-- THE TIED CARD OF 'leaflaw1.OpTells'. -/
def opTellsCard : Claim7 := { stood := { row := opTellsRow, standIns := [], harness := (true, "114687e35d940ad74ce81c30c11ec7a53662153f75a6187f715b3754eb4af26a"), looks := true }, kinds := [], alts := [], laidByText := true, laidKinds := [.handle], laidTests := true, laidLooks := .later }
def OpTellsCardSaid : Prop := Claim7.holds Tryd.pinned (.plain (OpenSpec.ofChange opTellsSpec)) opTellsCard

/-- THE SECOND FORM's CARD OF 'leaflaw4.MarksFull'. -/
def marksFullUptoCard : Claim7 := { stood := { row := marksFullUptoRow, standIns := [], harness := (true, "114687e35d940ad74ce81c30c11ec7a53662153f75a6187f715b3754eb4af26a"), looks := true }, kinds := [], alts := [], laidByText := true, laidKinds := [.handle], laidTests := true, laidLooks := .later }
def MarksFullUptoCardSaid : Prop := Claim7.holds Tryd.pinned (.plain (OpenSpec.upto marksFullSpec)) marksFullUptoCard

/-- THE SECOND FORM's CARD OF 'leaflaw1.OpTells'. -/
def opTellsUptoCard : Claim7 := { stood := { row := opTellsUptoRow, standIns := [], harness := (true, "114687e35d940ad74ce81c30c11ec7a53662153f75a6187f715b3754eb4af26a"), looks := true }, kinds := [], alts := [], laidByText := true, laidKinds := [.handle], laidTests := true, laidLooks := .later }
def OpTellsUptoCardSaid : Prop := Claim7.holds Tryd.pinned (.plain (OpenSpec.upto opTellsSpec)) opTellsUptoCard
end Rows
end Go.Proofs.YtekcjhembcdgfacDoor
