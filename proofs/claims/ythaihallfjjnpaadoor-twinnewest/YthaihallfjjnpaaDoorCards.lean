/-
  DERIVED. GIVEN WITH THE SEED: THE CARDS: each row of YthaihallfjjnpaaDoorRows.lean that lists a variable, with what it lists TIED to the program's text (the seventh form; the later family's looks); each row that meets fmt, with fmt's text TOLD by the authors' own Lean function (tested against real Go, not proved from fmt's source: count such statements apart). THE CARD IS WHAT COUNTS. Prove the row's statement (the work); the ties are given (YthaihallfjjnpaaDoorTie.lean); close each card by the builder's one call (the guide's Derived/Test/ToyasCard.lean, 'card_holds'). Laid BY PROGRAM, IN A SANDBOX (cutbox-door.mjs). By AI agents, Wed Nov 11 2026. No macro, syntax, notation, axiom, sorry.
-/
import Derived.Test.YthaihallfjjnpaaDoorRows
import GoSem.ClaimSeven
namespace Go.Proofs.YthaihallfjjnpaaDoor
namespace Rows

/-- THE TIED CARD OF 'barbicanlaw09.TwinNewest'. -/
def twinNewestCard : Claim7 := { stood := { row := twinNewestRow, standIns := [], harness := (true, "ce032629de55df449ee623c53f52a68fa76df5172ebdbed21746da2442537574"), looks := true }, kinds := [], alts := [], laidByText := true, laidKinds := [.handle], laidTests := true, laidLooks := .later }
def TwinNewestCardSaid : Prop := Claim7.holds Tryd.pinned (.plain (OpenSpec.ofChange twinNewestSpec)) twinNewestCard

/-- THE SECOND FORM's CARD OF 'barbicanlaw09.TwinNewest'. -/
def twinNewestUptoCard : Claim7 := { stood := { row := twinNewestUptoRow, standIns := [], harness := (true, "ce032629de55df449ee623c53f52a68fa76df5172ebdbed21746da2442537574"), looks := true }, kinds := [], alts := [], laidByText := true, laidKinds := [.handle], laidTests := true, laidLooks := .later }
def TwinNewestUptoCardSaid : Prop := Claim7.holds Tryd.pinned (.plain (OpenSpec.upto twinNewestSpec)) twinNewestUptoCard
end Rows
end Go.Proofs.YthaihallfjjnpaaDoor
