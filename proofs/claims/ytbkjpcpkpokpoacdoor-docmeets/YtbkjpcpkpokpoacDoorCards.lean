/-
  DERIVED. GIVEN WITH THE SEED: THE CARDS: each row of YtbkjpcpkpokpoacDoorRows.lean that lists a variable, with what it lists TIED to the program's text (the seventh form; the later family's looks); each row that meets fmt, with fmt's text TOLD by the authors' own Lean function (tested against real Go, not proved from fmt's source: count such statements apart). THE CARD IS WHAT COUNTS. Prove the row's statement (the work); the ties are given (YtbkjpcpkpokpoacDoorTie.lean); close each card by the builder's one call (the guide's Derived/Test/ToyasCard.lean, 'card_holds'). Laid BY PROGRAM, IN A SANDBOX (cutbox-door.mjs). By AI agents, Wed Nov 11 2026. No macro, syntax, notation, axiom, sorry.
-/
import Derived.Test.YtbkjpcpkpokpoacDoorRows
import GoSem.ClaimSeven
namespace Go.Proofs.YtbkjpcpkpokpoacDoor
namespace Rows

/-- THE TIED CARD OF 'leaflaw4.MarksFull'. -/
def marksFullCard : Claim7 := { stood := { row := marksFullRow, standIns := [], harness := (true, "e24f7ffe0de61ddb4b59ff0f9728b5106330f0505cb5ce9c1196ff2fed3ef2a2"), looks := true }, kinds := [], alts := [], laidByText := true, laidKinds := [.handle], laidTests := true, laidLooks := .later }
def MarksFullCardSaid : Prop := Claim7.holds Tryd.pinned (.plain (OpenSpec.ofChange marksFullSpec)) marksFullCard

/-- THE TIED CARD OF 'leaflaw1.OpTells'. -/
def opTellsCard : Claim7 := { stood := { row := opTellsRow, standIns := [], harness := (true, "e24f7ffe0de61ddb4b59ff0f9728b5106330f0505cb5ce9c1196ff2fed3ef2a2"), looks := true }, kinds := [], alts := [], laidByText := true, laidKinds := [.handle], laidTests := true, laidLooks := .later }
def OpTellsCardSaid : Prop := Claim7.holds Tryd.pinned (.plain (OpenSpec.ofChange opTellsSpec)) opTellsCard

/-- THE TIED CARD OF 'leaflaw1.DocMeets'. -/
def docMeetsCard : Claim7 := { stood := { row := docMeetsRow, standIns := [], harness := (true, "e24f7ffe0de61ddb4b59ff0f9728b5106330f0505cb5ce9c1196ff2fed3ef2a2"), looks := true }, kinds := [], alts := [], laidByText := true, laidKinds := [.handle], laidTests := true, laidLooks := .later }
def DocMeetsCardSaid : Prop := Claim7.holds Tryd.pinned (.plain (OpenSpec.ofChange docMeetsSpec)) docMeetsCard

/-- THE SECOND FORM's CARD OF 'leaflaw4.MarksFull'. -/
def marksFullUptoCard : Claim7 := { stood := { row := marksFullUptoRow, standIns := [], harness := (true, "e24f7ffe0de61ddb4b59ff0f9728b5106330f0505cb5ce9c1196ff2fed3ef2a2"), looks := true }, kinds := [], alts := [], laidByText := true, laidKinds := [.handle], laidTests := true, laidLooks := .later }
def MarksFullUptoCardSaid : Prop := Claim7.holds Tryd.pinned (.plain (OpenSpec.upto marksFullSpec)) marksFullUptoCard

/-- THE SECOND FORM's CARD OF 'leaflaw1.OpTells'. -/
def opTellsUptoCard : Claim7 := { stood := { row := opTellsUptoRow, standIns := [], harness := (true, "e24f7ffe0de61ddb4b59ff0f9728b5106330f0505cb5ce9c1196ff2fed3ef2a2"), looks := true }, kinds := [], alts := [], laidByText := true, laidKinds := [.handle], laidTests := true, laidLooks := .later }
def OpTellsUptoCardSaid : Prop := Claim7.holds Tryd.pinned (.plain (OpenSpec.upto opTellsSpec)) opTellsUptoCard

/-- THE SECOND FORM's CARD OF 'leaflaw1.DocMeets'. -/
def docMeetsUptoCard : Claim7 := { stood := { row := docMeetsUptoRow, standIns := [], harness := (true, "e24f7ffe0de61ddb4b59ff0f9728b5106330f0505cb5ce9c1196ff2fed3ef2a2"), looks := true }, kinds := [], alts := [], laidByText := true, laidKinds := [.handle], laidTests := true, laidLooks := .later }
def DocMeetsUptoCardSaid : Prop := Claim7.holds Tryd.pinned (.plain (OpenSpec.upto docMeetsSpec)) docMeetsUptoCard
end Rows
end Go.Proofs.YtbkjpcpkpokpoacDoor
