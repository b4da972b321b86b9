/-
  DERIVED. GIVEN WITH THE SEED: THE CARDS: each row of YtcmoajlcmeimiaaDoorRows.lean that lists a variable, with what it lists TIED to the program's text (the seventh form; the later family's looks); each row that meets fmt, with fmt's text TOLD by the authors' own Lean function (tested against real Go, not proved from fmt's source: count such statements apart). THE CARD IS WHAT COUNTS. Prove the row's statement (the work); the ties are given (YtcmoajlcmeimiaaDoorTie.lean); close each card by the builder's one call (the guide's Derived/Test/ToyasCard.lean, 'card_holds'). Laid BY PROGRAM, IN A SANDBOX (cutbox-door.mjs). By AI agents, Wed Nov 11 2026. No macro, syntax, notation, axiom, sorry.
-/
import Derived.Test.YtcmoajlcmeimiaaDoorRows
import GoSem.ClaimSeven
namespace Go.Proofs.YtcmoajlcmeimiaaDoor
namespace Rows

/-- THE TIED CARD OF 'leaflaw1.MarksTell'. -/
def marksTellCard : Claim7 := { stood := { row := marksTellRow, standIns := [], harness := (true, "428941689a33b93e961b552976b7e542b0208f58a44334bc2a3dc46075c5bd38"), looks := true }, kinds := [], alts := [], laidByText := true, laidKinds := [.handle], laidTests := true, laidLooks := .later }
def MarksTellCardSaid : Prop := Claim7.holds Tryd.pinned (.plain (OpenSpec.ofChange marksTellSpec)) marksTellCard

/-- THE TIED CARD OF 'leaflaw4.MarksFull'. -/
def marksFullCard : Claim7 := { stood := { row := marksFullRow, standIns := [], harness := (true, "428941689a33b93e961b552976b7e542b0208f58a44334bc2a3dc46075c5bd38"), looks := true }, kinds := [], alts := [], laidByText := true, laidKinds := [.handle], laidTests := true, laidLooks := .later }
def MarksFullCardSaid : Prop := Claim7.holds Tryd.pinned (.plain (OpenSpec.ofChange marksFullSpec)) marksFullCard

/-- THE TIED CARD OF 'leaflaw1.OpTells'. -/
def opTellsCard : Claim7 := { stood := { row := opTellsRow, standIns := [], harness := (true, "428941689a33b93e961b552976b7e542b0208f58a44334bc2a3dc46075c5bd38"), looks := true }, kinds := [], alts := [], laidByText := true, laidKinds := [.handle], laidTests := true, laidLooks := .later }
def OpTellsCardSaid : Prop := Claim7.holds Tryd.pinned (.plain (OpenSpec.ofChange opTellsSpec)) opTellsCard

/-- THE SECOND FORM's CARD OF 'leaflaw1.MarksTell'. -/
def marksTellUptoCard : Claim7 := { stood := { row := marksTellUptoRow, standIns := [], harness := (true, "428941689a33b93e961b552976b7e542b0208f58a44334bc2a3dc46075c5bd38"), looks := true }, kinds := [], alts := [], laidByText := true, laidKinds := [.handle], laidTests := true, laidLooks := .later }
def MarksTellUptoCardSaid : Prop := Claim7.holds Tryd.pinned (.plain (OpenSpec.upto marksTellSpec)) marksTellUptoCard

/-- THE SECOND FORM's CARD OF 'leaflaw4.MarksFull'. -/
def marksFullUptoCard : Claim7 := { stood := { row := marksFullUptoRow, standIns := [], harness := (true, "428941689a33b93e961b552976b7e542b0208f58a44334bc2a3dc46075c5bd38"), looks := true }, kinds := [], alts := [], laidByText := true, laidKinds := [.handle], laidTests := true, laidLooks := .later }
def MarksFullUptoCardSaid : Prop := Claim7.holds Tryd.pinned (.plain (OpenSpec.upto marksFullSpec)) marksFullUptoCard

/-- THE SECOND FORM's CARD OF 'leaflaw1.OpTells'. -/
def opTellsUptoCard : Claim7 := { stood := { row := opTellsUptoRow, standIns := [], harness := (true, "428941689a33b93e961b552976b7e542b0208f58a44334bc2a3dc46075c5bd38"), looks := true }, kinds := [], alts := [], laidByText := true, laidKinds := [.handle], laidTests := true, laidLooks := .later }
def OpTellsUptoCardSaid : Prop := Claim7.holds Tryd.pinned (.plain (OpenSpec.upto opTellsSpec)) opTellsUptoCard
end Rows
end Go.Proofs.YtcmoajlcmeimiaaDoor
