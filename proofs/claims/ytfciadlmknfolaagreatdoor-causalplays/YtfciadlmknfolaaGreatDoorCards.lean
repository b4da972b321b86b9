/-
  DERIVED. GIVEN WITH THE SEED: THE CARDS: each row of YtfciadlmknfolaaGreatDoorRows.lean that lists a variable, with what it lists TIED to the program's text (the seventh form; the later family's looks); each row that meets fmt, with fmt's text TOLD by the authors' own Lean function (tested against real Go, not proved from fmt's source: count such statements apart). THE CARD IS WHAT COUNTS. Prove the row's statement (the work); the ties are given (YtfciadlmknfolaaGreatDoorTie.lean); close each card by the builder's one call (the guide's Derived/Test/ToyasCard.lean, 'card_holds'). Laid BY PROGRAM, IN A SANDBOX (cutbox-door.mjs). By AI agents, Wed Nov 11 2026. No macro, syntax, notation, axiom, sorry.
-/
import Derived.Test.YtfciadlmknfolaaGreatDoorRows
import GoSem.ClaimSeven
namespace Go.Proofs.YtfciadlmknfolaaGreatDoor
namespace Rows

/-- THE TIED CARD OF 'leaflaw2.CausalMeets'. -/
def causalMeetsCard : Claim7 := { stood := { row := causalMeetsRow, standIns := [], harness := (true, "8234ba3ae0e6ca55ec356435e0c6cdf7c939e2e8d238c0ecc86f852cd08e3b91"), looks := true }, kinds := [], alts := [], laidByText := true, laidKinds := [.handle], laidTests := true, laidLooks := .later }
def CausalMeetsCardSaid : Prop := Claim7.holds Tryz.pinned (.plain (OpenSpec.ofChange causalMeetsSpec)) causalMeetsCard

/-- THE TIED CARD OF 'leaflaw2.CausalPlays'. -/
def causalPlaysCard : Claim7 := { stood := { row := causalPlaysRow, standIns := [], harness := (true, "8234ba3ae0e6ca55ec356435e0c6cdf7c939e2e8d238c0ecc86f852cd08e3b91"), looks := true }, kinds := [], alts := [], laidByText := true, laidKinds := [.handle], laidTests := true, laidLooks := .later }
def CausalPlaysCardSaid : Prop := Claim7.holds Tryz.pinned (.plain (OpenSpec.ofChange causalPlaysSpec)) causalPlaysCard

/-- THE SECOND FORM's CARD OF 'leaflaw2.CausalMeets'. -/
def causalMeetsUptoCard : Claim7 := { stood := { row := causalMeetsUptoRow, standIns := [], harness := (true, "8234ba3ae0e6ca55ec356435e0c6cdf7c939e2e8d238c0ecc86f852cd08e3b91"), looks := true }, kinds := [], alts := [], laidByText := true, laidKinds := [.handle], laidTests := true, laidLooks := .later }
def CausalMeetsUptoCardSaid : Prop := Claim7.holds Tryz.pinned (.plain (OpenSpec.upto causalMeetsSpec)) causalMeetsUptoCard

/-- THE SECOND FORM's CARD OF 'leaflaw2.CausalPlays'. -/
def causalPlaysUptoCard : Claim7 := { stood := { row := causalPlaysUptoRow, standIns := [], harness := (true, "8234ba3ae0e6ca55ec356435e0c6cdf7c939e2e8d238c0ecc86f852cd08e3b91"), looks := true }, kinds := [], alts := [], laidByText := true, laidKinds := [.handle], laidTests := true, laidLooks := .later }
def CausalPlaysUptoCardSaid : Prop := Claim7.holds Tryz.pinned (.plain (OpenSpec.upto causalPlaysSpec)) causalPlaysUptoCard
end Rows
end Go.Proofs.YtfciadlmknfolaaGreatDoor
