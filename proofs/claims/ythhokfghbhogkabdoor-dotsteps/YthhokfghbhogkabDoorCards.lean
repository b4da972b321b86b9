/-
  DERIVED. GIVEN WITH THE SEED: THE CARDS: each row of YthhokfghbhogkabDoorRows.lean that lists a variable, with what it lists TIED to the program's text (the seventh form; the later family's looks); each row that meets fmt, with fmt's text TOLD by the authors' own Lean function (tested against real Go, not proved from fmt's source: count such statements apart). THE CARD IS WHAT COUNTS. Prove the row's statement (the work); the ties are given (YthhokfghbhogkabDoorTie.lean); close each card by the builder's one call (the guide's Derived/Test/ToyasCard.lean, 'card_holds'). Laid BY PROGRAM, IN A SANDBOX (cutbox-door.mjs). By AI agents, Wed Nov 11 2026. No macro, syntax, notation, axiom, sorry.
-/
import Derived.Test.YthhokfghbhogkabDoorRows
import GoSem.ClaimSeven
namespace Go.Proofs.YthhokfghbhogkabDoor
namespace Rows

/-- THE TIED CARD OF 'leaflaw4.DotSteps'. -/
def dotStepsCard : Claim7 := { stood := { row := dotStepsRow, standIns := [], harness := (true, "a1d47aaee9d90b543f6037d56427a8806359376927ca45e99225ec2f0fced36f"), looks := true }, kinds := [], alts := [], laidByText := true, laidKinds := [.handle], laidTests := true, laidLooks := .later }
def DotStepsCardSaid : Prop := Claim7.holds Tryd.pinned (.plain (OpenSpec.ofChange dotStepsSpec)) dotStepsCard

/-- THE SECOND FORM's CARD OF 'leaflaw4.DotSteps'. -/
def dotStepsUptoCard : Claim7 := { stood := { row := dotStepsUptoRow, standIns := [], harness := (true, "a1d47aaee9d90b543f6037d56427a8806359376927ca45e99225ec2f0fced36f"), looks := true }, kinds := [], alts := [], laidByText := true, laidKinds := [.handle], laidTests := true, laidLooks := .later }
def DotStepsUptoCardSaid : Prop := Claim7.holds Tryd.pinned (.plain (OpenSpec.upto dotStepsSpec)) dotStepsUptoCard
end Rows
end Go.Proofs.YthhokfghbhogkabDoor
