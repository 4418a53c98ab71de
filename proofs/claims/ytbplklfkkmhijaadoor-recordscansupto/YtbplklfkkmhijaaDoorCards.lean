/-
  DERIVED. GIVEN WITH THE SEED: THE CARDS: each row of YtbplklfkkmhijaaDoorRows.lean that lists a variable, with what it lists TIED to the program's text (the seventh form; the later family's looks); each row that meets fmt, with fmt's text TOLD by the authors' own Lean function (tested against real Go, not proved from fmt's source: count such statements apart). THE CARD IS WHAT COUNTS. Prove the row's statement (the work); the ties are given (YtbplklfkkmhijaaDoorTie.lean); close each card by the builder's one call (the guide's Derived/Test/ToyasCard.lean, 'card_holds'). Laid BY PROGRAM, IN A SANDBOX (cutbox-door.mjs). By AI agents, Wed Nov 11 2026. No macro, syntax, notation, axiom, sorry.
-/
import Derived.Test.YtbplklfkkmhijaaDoorRows
import GoSem.ClaimSeven
namespace Go.Proofs.YtbplklfkkmhijaaDoor
namespace Rows

/-- THE TIED CARD OF 'barbicanlaw10.RecordFrames'. -/
def recordFramesCard : Claim7 := { stood := { row := recordFramesRow, standIns := [], harness := (true, "ba941ddc34432a1f2d397a6c7d5f74cd16cb213e94bbbc88693d12d80e592ede"), looks := true }, kinds := [], alts := [], laidByText := true, laidKinds := [.handle], laidTests := true, laidLooks := .later }
def RecordFramesCardSaid : Prop := Claim7.holds Tryd.pinned (.plain (OpenSpec.ofChange recordFramesSpec)) recordFramesCard

/-- THE TIED CARD OF 'barbicanlaw10.RecordScans'. -/
def recordScansCard : Claim7 := { stood := { row := recordScansRow, standIns := [], harness := (true, "ba941ddc34432a1f2d397a6c7d5f74cd16cb213e94bbbc88693d12d80e592ede"), looks := true }, kinds := [], alts := [], laidByText := true, laidKinds := [.handle], laidTests := true, laidLooks := .later }
def RecordScansCardSaid : Prop := Claim7.holds Tryd.pinned (.plain (OpenSpec.ofChange recordScansSpec)) recordScansCard

/-- THE TIED CARD OF 'barbicanlaw10.RecordEpochs'. -/
def recordEpochsCard : Claim7 := { stood := { row := recordEpochsRow, standIns := [], harness := (true, "ba941ddc34432a1f2d397a6c7d5f74cd16cb213e94bbbc88693d12d80e592ede"), looks := true }, kinds := [], alts := [], laidByText := true, laidKinds := [.handle], laidTests := true, laidLooks := .later }
def RecordEpochsCardSaid : Prop := Claim7.holds Tryd.pinned (.plain (OpenSpec.ofChange recordEpochsSpec)) recordEpochsCard

/-- THE TIED CARD OF 'barbicanlaw10.RecordLengths'. -/
def recordLengthsCard : Claim7 := { stood := { row := recordLengthsRow, standIns := [], harness := (true, "ba941ddc34432a1f2d397a6c7d5f74cd16cb213e94bbbc88693d12d80e592ede"), looks := true }, kinds := [], alts := [], laidByText := true, laidKinds := [.handle], laidTests := true, laidLooks := .later }
def RecordLengthsCardSaid : Prop := Claim7.holds Tryd.pinned (.plain (OpenSpec.ofChange recordLengthsSpec)) recordLengthsCard

/-- THE SECOND FORM's CARD OF 'barbicanlaw10.RecordFrames'. -/
def recordFramesUptoCard : Claim7 := { stood := { row := recordFramesUptoRow, standIns := [], harness := (true, "ba941ddc34432a1f2d397a6c7d5f74cd16cb213e94bbbc88693d12d80e592ede"), looks := true }, kinds := [], alts := [], laidByText := true, laidKinds := [.handle], laidTests := true, laidLooks := .later }
def RecordFramesUptoCardSaid : Prop := Claim7.holds Tryd.pinned (.plain (OpenSpec.upto recordFramesSpec)) recordFramesUptoCard

/-- THE SECOND FORM's CARD OF 'barbicanlaw10.RecordScans'. -/
def recordScansUptoCard : Claim7 := { stood := { row := recordScansUptoRow, standIns := [], harness := (true, "ba941ddc34432a1f2d397a6c7d5f74cd16cb213e94bbbc88693d12d80e592ede"), looks := true }, kinds := [], alts := [], laidByText := true, laidKinds := [.handle], laidTests := true, laidLooks := .later }
def RecordScansUptoCardSaid : Prop := Claim7.holds Tryd.pinned (.plain (OpenSpec.upto recordScansSpec)) recordScansUptoCard

/-- THE SECOND FORM's CARD OF 'barbicanlaw10.RecordEpochs'. -/
def recordEpochsUptoCard : Claim7 := { stood := { row := recordEpochsUptoRow, standIns := [], harness := (true, "ba941ddc34432a1f2d397a6c7d5f74cd16cb213e94bbbc88693d12d80e592ede"), looks := true }, kinds := [], alts := [], laidByText := true, laidKinds := [.handle], laidTests := true, laidLooks := .later }
def RecordEpochsUptoCardSaid : Prop := Claim7.holds Tryd.pinned (.plain (OpenSpec.upto recordEpochsSpec)) recordEpochsUptoCard

/-- THE SECOND FORM's CARD OF 'barbicanlaw10.RecordLengths'. -/
def recordLengthsUptoCard : Claim7 := { stood := { row := recordLengthsUptoRow, standIns := [], harness := (true, "ba941ddc34432a1f2d397a6c7d5f74cd16cb213e94bbbc88693d12d80e592ede"), looks := true }, kinds := [], alts := [], laidByText := true, laidKinds := [.handle], laidTests := true, laidLooks := .later }
def RecordLengthsUptoCardSaid : Prop := Claim7.holds Tryd.pinned (.plain (OpenSpec.upto recordLengthsSpec)) recordLengthsUptoCard
end Rows
end Go.Proofs.YtbplklfkkmhijaaDoor
