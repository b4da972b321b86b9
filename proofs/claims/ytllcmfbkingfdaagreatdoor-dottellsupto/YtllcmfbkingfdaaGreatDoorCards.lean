/-
  DERIVED. GIVEN WITH THE SEED: THE CARDS: each row of YtllcmfbkingfdaaGreatDoorRows.lean that lists a variable, with what it lists TIED to the program's text (the seventh form; the later family's looks); each row that meets fmt, with fmt's text TOLD by the authors' own Lean function (tested against real Go, not proved from fmt's source: count such statements apart). THE CARD IS WHAT COUNTS. Prove the row's statement (the work); the ties are given (YtllcmfbkingfdaaGreatDoorTie.lean); close each card by the builder's one call (the guide's Derived/Test/ToyasCard.lean, 'card_holds'). Laid BY PROGRAM, IN A SANDBOX (cutbox-door.mjs). By AI agents, Wed Nov 11 2026. No macro, syntax, notation, axiom, sorry.
-/
import Derived.Test.YtllcmfbkingfdaaGreatDoorRows
import GoSem.ClaimSeven
namespace Go.Proofs.YtllcmfbkingfdaaGreatDoor
namespace Rows

/-- THE TIED CARD OF 'leaflaw1.DotTells'. -/
def dotTellsCard : Claim7 := { stood := { row := dotTellsRow, standIns := [], harness := (true, "63db2a2eee4eeb3a19514789f2ffcf61b2c5e2e95b5db077f3e6c7c2de489a19"), looks := true }, kinds := [], alts := [], laidByText := true, laidKinds := [.data, .data, .data, .data, .handle, .sentinel, .sentinel, .pinned], laidTests := true, laidLooks := .later }
def DotTellsCardSaid : Prop := Claim7.holds Tryz.pinned (.plain (OpenSpec.ofChange dotTellsSpec)) dotTellsCard

/-- THE SECOND FORM's CARD OF 'leaflaw1.DotTells'. -/
def dotTellsUptoCard : Claim7 := { stood := { row := dotTellsUptoRow, standIns := [], harness := (true, "63db2a2eee4eeb3a19514789f2ffcf61b2c5e2e95b5db077f3e6c7c2de489a19"), looks := true }, kinds := [], alts := [], laidByText := true, laidKinds := [.data, .data, .data, .data, .handle, .sentinel, .sentinel, .pinned], laidTests := true, laidLooks := .later }
def DotTellsUptoCardSaid : Prop := Claim7.holds Tryz.pinned (.plain (OpenSpec.upto dotTellsSpec)) dotTellsUptoCard
end Rows
end Go.Proofs.YtllcmfbkingfdaaGreatDoor
