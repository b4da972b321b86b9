/-
  DERIVED. GIVEN WITH THE SEED: THE CARDS: each row of YtaefoieoachdfaaDoorRows.lean that lists a variable, with what it lists TIED to the program's text (the seventh form; the later family's looks); each row that meets fmt, with fmt's text TOLD by the authors' own Lean function (tested against real Go, not proved from fmt's source: count such statements apart). THE CARD IS WHAT COUNTS. Prove the row's statement (the work); the ties are given (YtaefoieoachdfaaDoorTie.lean); close each card by the builder's one call (the guide's Derived/Test/ToyasCard.lean, 'card_holds'). Laid BY PROGRAM, IN A SANDBOX (cutbox-door.mjs). By AI agents, Wed Nov 11 2026. No macro, syntax, notation, axiom, sorry.
-/
import Derived.Test.YtaefoieoachdfaaDoorRows
import GoSem.ClaimSeven
namespace Go.Proofs.YtaefoieoachdfaaDoor
namespace Rows

/-- THE TIED CARD OF 'leaflaw1.BookTells'. -/
def bookTellsCard : Claim7 := { stood := { row := bookTellsRow, standIns := [], harness := (true, "e7329b48677b41bd13eaee9c5341ecdcef884299a90177d9c19532b22c3ba08e"), looks := true }, kinds := [], alts := [], laidByText := true, laidKinds := [.handle], laidTests := true, laidLooks := .later }
def BookTellsCardSaid : Prop := Claim7.holds Tryd.pinned (.plain (OpenSpec.ofChange bookTellsSpec)) bookTellsCard

/-- THE TIED CARD OF 'leaflaw4.BookFull'. -/
def bookFullCard : Claim7 := { stood := { row := bookFullRow, standIns := [], harness := (true, "e7329b48677b41bd13eaee9c5341ecdcef884299a90177d9c19532b22c3ba08e"), looks := true }, kinds := [], alts := [], laidByText := true, laidKinds := [.handle], laidTests := true, laidLooks := .later }
def BookFullCardSaid : Prop := Claim7.holds Tryd.pinned (.plain (OpenSpec.ofChange bookFullSpec)) bookFullCard

/-- THE TIED CARD OF 'leaflaw1.DocMeets'. -/
def docMeetsCard : Claim7 := { stood := { row := docMeetsRow, standIns := [], harness := (true, "e7329b48677b41bd13eaee9c5341ecdcef884299a90177d9c19532b22c3ba08e"), looks := true }, kinds := [], alts := [], laidByText := true, laidKinds := [.handle], laidTests := true, laidLooks := .later }
def DocMeetsCardSaid : Prop := Claim7.holds Tryd.pinned (.plain (OpenSpec.ofChange docMeetsSpec)) docMeetsCard

/-- THE SECOND FORM's CARD OF 'leaflaw1.BookTells'. -/
def bookTellsUptoCard : Claim7 := { stood := { row := bookTellsUptoRow, standIns := [], harness := (true, "e7329b48677b41bd13eaee9c5341ecdcef884299a90177d9c19532b22c3ba08e"), looks := true }, kinds := [], alts := [], laidByText := true, laidKinds := [.handle], laidTests := true, laidLooks := .later }
def BookTellsUptoCardSaid : Prop := Claim7.holds Tryd.pinned (.plain (OpenSpec.upto bookTellsSpec)) bookTellsUptoCard

/-- THE SECOND FORM's CARD OF 'leaflaw4.BookFull'. -/
def bookFullUptoCard : Claim7 := { stood := { row := bookFullUptoRow, standIns := [], harness := (true, "e7329b48677b41bd13eaee9c5341ecdcef884299a90177d9c19532b22c3ba08e"), looks := true }, kinds := [], alts := [], laidByText := true, laidKinds := [.handle], laidTests := true, laidLooks := .later }
def BookFullUptoCardSaid : Prop := Claim7.holds Tryd.pinned (.plain (OpenSpec.upto bookFullSpec)) bookFullUptoCard

/-- THE SECOND FORM's CARD OF 'leaflaw1.DocMeets'. -/
def docMeetsUptoCard : Claim7 := { stood := { row := docMeetsUptoRow, standIns := [], harness := (true, "e7329b48677b41bd13eaee9c5341ecdcef884299a90177d9c19532b22c3ba08e"), looks := true }, kinds := [], alts := [], laidByText := true, laidKinds := [.handle], laidTests := true, laidLooks := .later }
def DocMeetsUptoCardSaid : Prop := Claim7.holds Tryd.pinned (.plain (OpenSpec.upto docMeetsSpec)) docMeetsUptoCard
end Rows
end Go.Proofs.YtaefoieoachdfaaDoor
