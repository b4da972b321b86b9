/-
  DERIVED. GIVEN WITH THE SEED: THE CARDS: each row of YtpapklfmcnffgacDoorRows.lean that lists a variable, with what it lists TIED to the program's text (the seventh form; the later family's looks); each row that meets fmt, with fmt's text TOLD by the authors' own Lean function (tested against real Go, not proved from fmt's source: count such statements apart). THE CARD IS WHAT COUNTS. Prove the row's statement (the work); the ties are given (YtpapklfmcnffgacDoorTie.lean); close each card by the builder's one call (the guide's Derived/Test/ToyasCard.lean, 'card_holds'). Laid BY PROGRAM, IN A SANDBOX (cutbox-door.mjs). By AI agents, Wed Nov 11 2026. No macro, syntax, notation, axiom, sorry.
-/
import Derived.Test.YtpapklfmcnffgacDoorRows
import GoSem.ClaimSeven
namespace Go.Proofs.YtpapklfmcnffgacDoor
namespace Rows

/-- THE TIED CARD OF 'leaflaw4.MarksFull'. -/
def marksFullCard : Claim7 := { stood := { row := marksFullRow, standIns := [], harness := (true, "2bd17e902df820ff0b7b4774b08562aa28661349e31cde7a45d23ed50f55b52a"), looks := true }, kinds := [], alts := [], laidByText := true, laidKinds := [.handle], laidTests := true, laidLooks := .later }
def MarksFullCardSaid : Prop := Claim7.holds Tryd.pinned (.plain (OpenSpec.ofChange marksFullSpec)) marksFullCard

/-- THE SECOND FORM's CARD OF 'leaflaw4.MarksFull'. -/
def marksFullUptoCard : Claim7 := { stood := { row := marksFullUptoRow, standIns := [], harness := (true, "2bd17e902df820ff0b7b4774b08562aa28661349e31cde7a45d23ed50f55b52a"), looks := true }, kinds := [], alts := [], laidByText := true, laidKinds := [.handle], laidTests := true, laidLooks := .later }
def MarksFullUptoCardSaid : Prop := Claim7.holds Tryd.pinned (.plain (OpenSpec.upto marksFullSpec)) marksFullUptoCard
end Rows
end Go.Proofs.YtpapklfmcnffgacDoor
