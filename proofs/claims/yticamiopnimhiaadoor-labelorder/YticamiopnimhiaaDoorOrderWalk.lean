/- The law LabelOrder returns true, whatever the three labels are. -/
import Derived.Test.YticamiopnimhiaaDoorOrderDiff
import Derived.Test.YticamiopnimhiaaDoorOrderSame
namespace Go.Proofs.YticamiopnimhiaaDoor
open Go.RowKit

theorem order5 (r1 r2 r3 : Int) (c1 c2 c3 : Nat) (w : World) (h1 : c1 < 4294967296) (h2 : c2 < 4294967296) (h3 : c3 < 4294967296) :
    Calls Tryd.prog 5 #[.agg #[.int .i64 r1, .int .u32 c1], .agg #[.int .i64 r2, .int .u32 c2], .agg #[.int .i64 r3, .int .u32 c3]] w fun e w' => e = .returned (.bool true) ∧ Below w.heap.size w w' := by
  by_cases h : r1 = r2 ∧ c1 = c2
  · obtain ⟨rfl, rfl⟩ := h
    exact order5_same r1 r3 c1 c3 w h1 h3
  · exact order5_diff r1 r2 r3 c1 c2 c3 w h1 h2 h3 h
end Go.Proofs.YticamiopnimhiaaDoor
