/-
  DERIVED. GIVEN WITH THE SEED: THE CARDS: each row of YtoompephogamaaaGreatDoorRows.lean that lists a variable, with what it lists TIED to the program's text (the seventh form; the later family's looks); each row that meets fmt, with fmt's text TOLD by the authors' own Lean function (tested against real Go, not proved from fmt's source: count such statements apart). THE CARD IS WHAT COUNTS. Prove the row's statement (the work); the ties are given (YtoompephogamaaaGreatDoorTie.lean); close each card by the builder's one call (the guide's Derived/Test/ToyasCard.lean, 'card_holds'). Laid BY PROGRAM, IN A SANDBOX (cutbox-door.mjs). By AI agents, Wed Nov 11 2026. No macro, syntax, notation, axiom, sorry.
-/
import Derived.Test.YtoompephogamaaaGreatDoorRows
import GoSem.ClaimSeven
namespace Go.Proofs.YtoompephogamaaaGreatDoor
namespace Rows

/-- THE TIED CARD OF 'barbicanlaw02.LatticeMakes'. -/
def latticeMakesCard : Claim7 := { stood := { row := latticeMakesRow, standIns := [], harness := (true, "51ad6d11daa22b0fd9178bbcda6e5487a661d47b1cb2d2efe08b61bf25b0ff6d"), looks := true }, kinds := [], alts := [], laidByText := true, laidKinds := [.data, .data, .data, .handle, .sentinel, .sentinel], laidTests := true, laidLooks := .later }
def LatticeMakesCardSaid : Prop := Claim7.holds Tryz.pinned (.plain (OpenSpec.ofChange latticeMakesSpec)) latticeMakesCard

/-- THE TIED CARD OF 'barbicanlaw02.LatticeReads'. -/
def latticeReadsCard : Claim7 := { stood := { row := latticeReadsRow, standIns := [], harness := (true, "51ad6d11daa22b0fd9178bbcda6e5487a661d47b1cb2d2efe08b61bf25b0ff6d"), looks := true }, kinds := [], alts := [], laidByText := true, laidKinds := [.data, .data, .data, .handle, .sentinel, .sentinel], laidTests := true, laidLooks := .later }
def LatticeReadsCardSaid : Prop := Claim7.holds Tryz.pinned (.plain (OpenSpec.ofChange latticeReadsSpec)) latticeReadsCard

/-- THE SECOND FORM's CARD OF 'barbicanlaw02.LatticeMakes'. -/
def latticeMakesUptoCard : Claim7 := { stood := { row := latticeMakesUptoRow, standIns := [], harness := (true, "51ad6d11daa22b0fd9178bbcda6e5487a661d47b1cb2d2efe08b61bf25b0ff6d"), looks := true }, kinds := [], alts := [], laidByText := true, laidKinds := [.data, .data, .data, .handle, .sentinel, .sentinel], laidTests := true, laidLooks := .later }
def LatticeMakesUptoCardSaid : Prop := Claim7.holds Tryz.pinned (.plain (OpenSpec.upto latticeMakesSpec)) latticeMakesUptoCard

/-- THE SECOND FORM's CARD OF 'barbicanlaw02.LatticeReads'. -/
def latticeReadsUptoCard : Claim7 := { stood := { row := latticeReadsUptoRow, standIns := [], harness := (true, "51ad6d11daa22b0fd9178bbcda6e5487a661d47b1cb2d2efe08b61bf25b0ff6d"), looks := true }, kinds := [], alts := [], laidByText := true, laidKinds := [.data, .data, .data, .handle, .sentinel, .sentinel], laidTests := true, laidLooks := .later }
def LatticeReadsUptoCardSaid : Prop := Claim7.holds Tryz.pinned (.plain (OpenSpec.upto latticeReadsSpec)) latticeReadsUptoCard
end Rows
end Go.Proofs.YtoompephogamaaaGreatDoor
