/-
  DERIVED. GIVEN WITH THE SEED: THE CARDS: each row of YtpoijhfojdmdpaaGreatDoorRows.lean that lists a variable, with what it lists TIED to the program's text (the seventh form; the later family's looks); each row that meets fmt, with fmt's text TOLD by the authors' own Lean function (tested against real Go, not proved from fmt's source: count such statements apart). THE CARD IS WHAT COUNTS. Prove the row's statement (the work); the ties are given (YtpoijhfojdmdpaaGreatDoorTie.lean); close each card by the builder's one call (the guide's Derived/Test/ToyasCard.lean, 'card_holds'). Laid BY PROGRAM, IN A SANDBOX (cutbox-door.mjs). By AI agents, Wed Nov 11 2026. No macro, syntax, notation, axiom, sorry.
-/
import Derived.Test.YtpoijhfojdmdpaaGreatDoorRows
import GoSem.ClaimSeven
namespace Go.Proofs.YtpoijhfojdmdpaaGreatDoor
namespace Rows

/-- THE TIED CARD OF 'leaflaw2.SyncTells'. -/
def syncTellsCard : Claim7 := { stood := { row := syncTellsRow, standIns := [], harness := (true, "b384d7a002c3c2d61ef93c186c20503247de64c6d68771a781dce83328a961e8"), looks := true }, kinds := [], alts := [], laidByText := true, laidKinds := [.handle], laidTests := true, laidLooks := .later }
def SyncTellsCardSaid : Prop := Claim7.holds Tryz.pinned (.plain (OpenSpec.ofChange syncTellsSpec)) syncTellsCard

/-- THE SECOND FORM's CARD OF 'leaflaw2.SyncTells'. -/
def syncTellsUptoCard : Claim7 := { stood := { row := syncTellsUptoRow, standIns := [], harness := (true, "b384d7a002c3c2d61ef93c186c20503247de64c6d68771a781dce83328a961e8"), looks := true }, kinds := [], alts := [], laidByText := true, laidKinds := [.handle], laidTests := true, laidLooks := .later }
def SyncTellsUptoCardSaid : Prop := Claim7.holds Tryz.pinned (.plain (OpenSpec.upto syncTellsSpec)) syncTellsUptoCard
end Rows
end Go.Proofs.YtpoijhfojdmdpaaGreatDoor
