/-
  DERIVED. GIVEN WITH THE SEED: THE CARDS: each row of YthaihallfjjnpaaGreatDoorRows.lean that lists a variable, with what it lists TIED to the program's text (the seventh form; the later family's looks); each row that meets fmt, with fmt's text TOLD by the authors' own Lean function (tested against real Go, not proved from fmt's source: count such statements apart). THE CARD IS WHAT COUNTS. Prove the row's statement (the work); the ties are given (YthaihallfjjnpaaGreatDoorTie.lean); close each card by the builder's one call (the guide's Derived/Test/ToyasCard.lean, 'card_holds'). Laid BY PROGRAM, IN A SANDBOX (cutbox-door.mjs). By AI agents, Wed Nov 11 2026. No macro, syntax, notation, axiom, sorry.
-/
import Derived.Test.YthaihallfjjnpaaGreatDoorRows
import GoSem.ClaimSeven
namespace Go.Proofs.YthaihallfjjnpaaGreatDoor
namespace Rows

/-- THE TIED CARD OF 'barbicanlaw09.TwinRuns'. -/
def twinRunsCard : Claim7 := { stood := { row := twinRunsRow, standIns := [], harness := (true, "60ec164d37828d7c5501dad6c1f213400c588e649b015fea3161849634a173b2"), looks := true }, kinds := [], alts := [], laidByText := true, laidKinds := [.handle], laidTests := true, laidLooks := .later }
def TwinRunsCardSaid : Prop := Claim7.holds Tryz.pinned (.plain (OpenSpec.ofChange twinRunsSpec)) twinRunsCard

/-- THE SECOND FORM's CARD OF 'barbicanlaw09.TwinRuns'. -/
def twinRunsUptoCard : Claim7 := { stood := { row := twinRunsUptoRow, standIns := [], harness := (true, "60ec164d37828d7c5501dad6c1f213400c588e649b015fea3161849634a173b2"), looks := true }, kinds := [], alts := [], laidByText := true, laidKinds := [.handle], laidTests := true, laidLooks := .later }
def TwinRunsUptoCardSaid : Prop := Claim7.holds Tryz.pinned (.plain (OpenSpec.upto twinRunsSpec)) twinRunsUptoCard
end Rows
end Go.Proofs.YthaihallfjjnpaaGreatDoor
