/-
  DERIVED. GIVEN WITH THE SEED: THE CARDS: each row of YtllcmfbkingfdaaDoorRows.lean that lists a variable, with what it lists TIED to the program's text (the seventh form; the later family's looks); each row that meets fmt, with fmt's text TOLD by the authors' own Lean function (tested against real Go, not proved from fmt's source: count such statements apart). THE CARD IS WHAT COUNTS. Prove the row's statement (the work); the ties are given (YtllcmfbkingfdaaDoorTie.lean); close each card by the builder's one call (the guide's Derived/Test/ToyasCard.lean, 'card_holds'). Laid BY PROGRAM, IN A SANDBOX (cutbox-door.mjs). By AI agents, Wed Nov 11 2026. No macro, syntax, notation, axiom, sorry.
-/
import Derived.Test.YtllcmfbkingfdaaDoorRows
import GoSem.ClaimSeven
namespace Go.Proofs.YtllcmfbkingfdaaDoor
namespace Rows

/-- THE TIED CARD OF 'leaflaw1.DotMerges'. -/
def dotMergesCard : Claim7 := { stood := { row := dotMergesRow, standIns := [], harness := (true, "60dc9ae9978a1361fab88282469dc04f4ae29e3b3f941e79d0b3d02528327500"), looks := true }, kinds := [], alts := [], laidByText := true, laidKinds := [.data, .data, .data, .data, .sentinel, .sentinel, .pinned], laidTests := true, laidLooks := .later }
def DotMergesCardSaid : Prop := Claim7.holds Tryd.pinned (.plain (OpenSpec.ofChange dotMergesSpec)) dotMergesCard

/-- THE TIED CARD OF 'leaflaw1.DirTells'. -/
def dirTellsCard : Claim7 := { stood := { row := dirTellsRow, standIns := [], harness := (true, "60dc9ae9978a1361fab88282469dc04f4ae29e3b3f941e79d0b3d02528327500"), looks := true }, kinds := [], alts := [], laidByText := true, laidKinds := [.handle], laidTests := true, laidLooks := .later }
def DirTellsCardSaid : Prop := Claim7.holds Tryd.pinned (.plain (OpenSpec.ofChange dirTellsSpec)) dirTellsCard

/-- THE SECOND FORM's CARD OF 'leaflaw1.DotMerges'. -/
def dotMergesUptoCard : Claim7 := { stood := { row := dotMergesUptoRow, standIns := [], harness := (true, "60dc9ae9978a1361fab88282469dc04f4ae29e3b3f941e79d0b3d02528327500"), looks := true }, kinds := [], alts := [], laidByText := true, laidKinds := [.data, .data, .data, .data, .sentinel, .sentinel, .pinned], laidTests := true, laidLooks := .later }
def DotMergesUptoCardSaid : Prop := Claim7.holds Tryd.pinned (.plain (OpenSpec.upto dotMergesSpec)) dotMergesUptoCard

/-- THE SECOND FORM's CARD OF 'leaflaw1.DirTells'. -/
def dirTellsUptoCard : Claim7 := { stood := { row := dirTellsUptoRow, standIns := [], harness := (true, "60dc9ae9978a1361fab88282469dc04f4ae29e3b3f941e79d0b3d02528327500"), looks := true }, kinds := [], alts := [], laidByText := true, laidKinds := [.handle], laidTests := true, laidLooks := .later }
def DirTellsUptoCardSaid : Prop := Claim7.holds Tryd.pinned (.plain (OpenSpec.upto dirTellsSpec)) dirTellsUptoCard
end Rows
end Go.Proofs.YtllcmfbkingfdaaDoor
