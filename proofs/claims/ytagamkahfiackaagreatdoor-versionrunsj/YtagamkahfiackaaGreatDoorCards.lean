/-
  DERIVED. GIVEN WITH THE SEED: THE CARDS: each row of YtagamkahfiackaaGreatDoorRows.lean that lists a variable, with what it lists TIED to the program's text (the seventh form; the later family's looks); each row that meets fmt, with fmt's text TOLD by the authors' own Lean function (tested against real Go, not proved from fmt's source: count such statements apart). THE CARD IS WHAT COUNTS. Prove the row's statement (the work); the ties are given (YtagamkahfiackaaGreatDoorTie.lean); close each card by the builder's one call (the guide's Derived/Test/ToyasCard.lean, 'card_holds'). Laid BY PROGRAM, IN A SANDBOX (cutbox-door.mjs). By AI agents, Wed Nov 11 2026. No macro, syntax, notation, axiom, sorry.
-/
import Derived.Test.YtagamkahfiackaaGreatDoorRows
import GoSem.ClaimSeven
namespace Go.Proofs.YtagamkahfiackaaGreatDoor
namespace Rows

/-- THE TIED CARD OF 'barbicanlaw16.VersionRuns'. -/
def versionRunsCard : Claim7 := { stood := { row := versionRunsRow, standIns := [], harness := (true, "6f0748d6a03fb82b7c5ff92638ea7c4e46c0e448665a180944ac2eee4da456d5"), looks := true }, kinds := [], alts := [], laidByText := true, laidKinds := [.handle], laidTests := true, laidLooks := .later }
def VersionRunsCardSaid : Prop := Claim7.holds Tryz.pinned (.plain (OpenSpec.ofChange versionRunsSpec)) versionRunsCard

/-- THE SECOND FORM's CARD OF 'barbicanlaw16.VersionRuns'. -/
def versionRunsUptoCard : Claim7 := { stood := { row := versionRunsUptoRow, standIns := [], harness := (true, "6f0748d6a03fb82b7c5ff92638ea7c4e46c0e448665a180944ac2eee4da456d5"), looks := true }, kinds := [], alts := [], laidByText := true, laidKinds := [.handle], laidTests := true, laidLooks := .later }
def VersionRunsUptoCardSaid : Prop := Claim7.holds Tryz.pinned (.plain (OpenSpec.upto versionRunsSpec)) versionRunsUptoCard
end Rows
end Go.Proofs.YtagamkahfiackaaGreatDoor
