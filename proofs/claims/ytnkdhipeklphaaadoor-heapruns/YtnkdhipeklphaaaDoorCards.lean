/-
  DERIVED. GIVEN WITH THE SEED: THE CARDS: each row of YtnkdhipeklphaaaDoorRows.lean that lists a variable, with what it lists TIED to the program's text (the seventh form; the later family's looks); each row that meets fmt, with fmt's text TOLD by the authors' own Lean function (tested against real Go, not proved from fmt's source: count such statements apart). THE CARD IS WHAT COUNTS. Prove the row's statement (the work); the ties are given (YtnkdhipeklphaaaDoorTie.lean); close each card by the builder's one call (the guide's Derived/Test/ToyasCard.lean, 'card_holds'). Laid BY PROGRAM, IN A SANDBOX (cutbox-door.mjs). By AI agents, Wed Nov 11 2026. No macro, syntax, notation, axiom, sorry.
-/
import Derived.Test.YtnkdhipeklphaaaDoorRows
import GoSem.ClaimSeven
namespace Go.Proofs.YtnkdhipeklphaaaDoor
namespace Rows

/-- THE TIED CARD OF 'barbicanlaw07.HeapRuns'. -/
def heapRunsCard : Claim7 := { stood := { row := heapRunsRow, standIns := [], harness := (true, "9f0af9ac018f466249552abcc814a29f22686ff0185317f506009e0f6ce8f940"), looks := true }, kinds := [], alts := [], laidByText := true, laidKinds := [.handle], laidTests := true, laidLooks := .later }
def HeapRunsCardSaid : Prop := Claim7.holds Tryd.pinned (.plain (OpenSpec.ofChange heapRunsSpec)) heapRunsCard

/-- THE TIED CARD OF 'barbicanlaw07.HeapOrder'. -/
def heapOrderCard : Claim7 := { stood := { row := heapOrderRow, standIns := [], harness := (true, "9f0af9ac018f466249552abcc814a29f22686ff0185317f506009e0f6ce8f940"), looks := true }, kinds := [], alts := [], laidByText := true, laidKinds := [.handle], laidTests := true, laidLooks := .later }
def HeapOrderCardSaid : Prop := Claim7.holds Tryd.pinned (.plain (OpenSpec.ofChange heapOrderSpec)) heapOrderCard

/-- THE SECOND FORM's CARD OF 'barbicanlaw07.HeapRuns'. -/
def heapRunsUptoCard : Claim7 := { stood := { row := heapRunsUptoRow, standIns := [], harness := (true, "9f0af9ac018f466249552abcc814a29f22686ff0185317f506009e0f6ce8f940"), looks := true }, kinds := [], alts := [], laidByText := true, laidKinds := [.handle], laidTests := true, laidLooks := .later }
def HeapRunsUptoCardSaid : Prop := Claim7.holds Tryd.pinned (.plain (OpenSpec.upto heapRunsSpec)) heapRunsUptoCard

/-- THE SECOND FORM's CARD OF 'barbicanlaw07.HeapOrder'. -/
def heapOrderUptoCard : Claim7 := { stood := { row := heapOrderUptoRow, standIns := [], harness := (true, "9f0af9ac018f466249552abcc814a29f22686ff0185317f506009e0f6ce8f940"), looks := true }, kinds := [], alts := [], laidByText := true, laidKinds := [.handle], laidTests := true, laidLooks := .later }
def HeapOrderUptoCardSaid : Prop := Claim7.holds Tryd.pinned (.plain (OpenSpec.upto heapOrderSpec)) heapOrderUptoCard
end Rows
end Go.Proofs.YtnkdhipeklphaaaDoor
