/-
  DERIVED. GIVEN WITH THE SEED: THE CARDS: each row of YtlldamgnfaikhaaGreatDoorRows.lean that lists a variable, with what it lists TIED to the program's text (the seventh form; the later family's looks); each row that meets fmt, with fmt's text TOLD by the authors' own Lean function (tested against real Go, not proved from fmt's source: count such statements apart). THE CARD IS WHAT COUNTS. Prove the row's statement (the work); the ties are given (YtlldamgnfaikhaaGreatDoorTie.lean); close each card by the builder's one call (the guide's Derived/Test/ToyasCard.lean, 'card_holds'). Laid BY PROGRAM, IN A SANDBOX (cutbox-door.mjs). By AI agents, Wed Nov 11 2026. No macro, syntax, notation, axiom, sorry.
-/
import Derived.Test.YtlldamgnfaikhaaGreatDoorRows
import GoSem.ClaimSeven
namespace Go.Proofs.YtlldamgnfaikhaaGreatDoor
namespace Rows

/-- THE TIED CARD OF 'barbicanlaw14.RowChecks'. -/
def rowChecksCard : Claim7 := { stood := { row := rowChecksRow, standIns := [], harness := (true, "659d975693fb92abba4f58de51b7632aba8898766c6b72726899ffe8b87670ea"), looks := true }, kinds := [], alts := [], laidByText := true, laidKinds := [.data, .data, .data, .data, .handle, .pinned], laidTests := true, laidLooks := .later }
def RowChecksCardSaid : Prop := Claim7.holds Tryz.pinned (.plain (OpenSpec.ofChange rowChecksSpec)) rowChecksCard

/-- THE SECOND FORM's CARD OF 'barbicanlaw14.RowChecks'. -/
def rowChecksUptoCard : Claim7 := { stood := { row := rowChecksUptoRow, standIns := [], harness := (true, "659d975693fb92abba4f58de51b7632aba8898766c6b72726899ffe8b87670ea"), looks := true }, kinds := [], alts := [], laidByText := true, laidKinds := [.data, .data, .data, .data, .handle, .pinned], laidTests := true, laidLooks := .later }
def RowChecksUptoCardSaid : Prop := Claim7.holds Tryz.pinned (.plain (OpenSpec.upto rowChecksSpec)) rowChecksUptoCard
end Rows
end Go.Proofs.YtlldamgnfaikhaaGreatDoor
