/- What the four laws' rows share: a label among the arguments opened and shut again; the world that the program's own start leaves. -/
import Derived.Test.YticamiopnimhiaaDoorW5
import Derived.Test.YticamiopnimhiaaDoorCards
import Derived.Test.YticamiopnimhiaaDoorTie
import Derived.ProofKit
import Derived.LaidMore
import Derived.OpenShut
import Derived.Stop.Joined
import Derived.Lib.SmallJoins
namespace Go.Proofs.YticamiopnimhiaaDoor
open Go.ChangeShapes Go.WideShapes Go.ChangeAt Go.RowKit Go.Joins

theorem own : ownKnob Tryd.prog.godebug = none := by kernel_rfl
theorem cells24 : Tryd.prog.cellsOf 24 = 2 := by kernel_rfl

set_option maxRecDepth 100000 in
/-- A label that is handed in: its rank and its bits. -/
theorem open_label {H : Type} {enc : TypeId × Value → H} {W : World} {base : Nat} {v : Value} {d : DataW H} {p : List MemPlace}
    (hv : Value.okWide Tryd.prog W .any base 24 v) (h : DataW.Trod enc Tryd.prog W 0 (fun _ => true) true 24 v d p) :
    ∃ (r : Int) (c : Nat), v = .agg #[.int .i64 r, .int .u32 c] ∧ d = .agg [.lit (.int .i64 r), .lit (.int .u32 c)] ∧ p = [] ∧ c < 4294967296 ∧ (Lit.int .i64 r).wf = true ∧ (Lit.int .u32 c).wf = true := by
  obtain ⟨c0, c1, y0, y1, m, rfl, rfl, rfl, hy0, hy1⟩ := open_agg2 Tryd.underlying24 (by kernel_rfl) cells24 hv h
  obtain ⟨a, e0, rfl, wa⟩ := DataW.trod_int Tryd.underlying3 hy0
  obtain ⟨b, e1, rfl, wb⟩ := DataW.trod_int Tryd.underlying22 hy1
  simp at e0 e1
  subst e0 e1
  have hb := bounds_u32 wb
  obtain ⟨n, rfl⟩ := Int.eq_ofNat_of_zero_le hb.1
  exact ⟨a, n, rfl, rfl, rfl, by omega, wa, wb⟩

/-- .. and read again. -/
theorem shut_label {H : Type} {enc : TypeId × Value → H} {r : Int} {c : Nat} (wr : (Lit.int .i64 r).wf = true) (wc : (Lit.int .u32 c).wf = true) (W : World) (sp : Nat → Bool) :
    DataW.Trod enc Tryd.prog W 0 sp true 24 (.agg #[.int .i64 r, .int .u32 c]) (.agg [.lit (.int .i64 r), .lit (.int .u32 c)]) [] :=
  shut_agg2 (y0 := (.lit (.int .i64 r), [])) (y1 := (.lit (.int .u32 c), [])) Tryd.underlying24 (by kernel_rfl) cells24 ⟨1, by simp [DataW.trod, Tryd.underlying3, wr]⟩ ⟨1, by simp [DataW.trod, Tryd.underlying22, wc]⟩

/-- The program's own start meets the list of the rows without errors' types. -/
theorem door_met (os : Os) (args : Array Value) : laidMetH Tryd.prog Rows.labelPairsRow.laid ((World.doorLaid Tryd.prog 69 os).forCall (fun _ _ => 0) ⟨#[], args, []⟩).memory :=
  laidMetH_of_parts3 (fuel := 8) (laidMet_of_run' 8 (by kernel_rfl) (by kernel_rfl)) (by kernel_rfl) (by kernel_rfl)
end Go.Proofs.YticamiopnimhiaaDoor
