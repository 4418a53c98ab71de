/- What the row's listed type of errors gives the walk; how many values and letters there are at most. -/
import Derived.Test.YtlldamgnfaikhaaDoorORow
import Derived.Test.YtlldamgnfaikhaaDoorOAs
import Derived.Test.YtlldamgnfaikhaaDoorCards
import Derived.Test.YtlldamgnfaikhaaDoorTie
import Derived.LaidMore
import Derived.LaidHandle
import Derived.Stop.Joined
import Derived.Lib.SmallJoins
import Derived.Deep.DeepHandedRow
import Derived.Deep.DeepWitnessRowRef
namespace Go.Proofs.YtlldamgnfaikhaaDoor
open Go.ChangeShapes Go.WideShapes Go.ChangeAt Go.RowKit Go.Joins

theorem typesSize : Tryd.prog.types.size = 155 := by kernel_rfl
theorem gErr : Tryd.prog.globalNamed "errors.errorType" = some 0 := by kernel_rfl
theorem errRow : ((List.range 155).filter fun t => Tryd.prog.rowNamed t [101, 114, 114, 111, 114]) = [28] := by kernel_rfl
theorem err_of_handles {W : World} (h : handlesMet Tryd.prog [("errors.errorType", Rows.laid_errors_errorType)] W) : ErrType W := by
  obtain ⟨name, u, ty, e1, e2, e3, e4, e5⟩ := h _ (List.mem_singleton.2 rfl)
  have en : name = [101, 114, 114, 111, 114] := (Option.some.inj e1).symm
  subst en
  obtain rfl : u = 105 := Option.some.inj (e2.symm.trans (show _ = some 105 by kernel_rfl))
  have hm : ty ∈ (List.range 155).filter fun t => Tryd.prog.rowNamed t [101, 114, 114, 111, 114] := List.mem_filter.2 ⟨List.mem_range.2 (by rw [← typesSize]; exact e3), e4⟩
  rw [errRow] at hm
  obtain rfl := List.mem_singleton.1 hm
  have hh : typeHandle Tryd.prog 28 = .pointer (some ⟨1, 28, none⟩) := by kernel_rfl
  rw [hh] at e5
  have := World.var?_cell gErr e5 0
  unfold ErrType
  simpa using this
theorem bulk_values {H : Type} : ∀ vs : List Val, vs.length ≤ Rows.uptoBulkAll (vs.map (datV (H := H)))
  | [] => Nat.zero_le _
  | v :: vs => by
    have := bulk_values (H := H) vs
    simp only [List.map_cons, Rows.uptoBulkAll, List.length_cons, datV, Rows.uptoBulk]
    omega
theorem bulk_lim {H : Type} {d : DataW H} {vs : List Val} {n : Nat} (h : Rows.uptoBulk d ≤ n) (hcase : (d = .nil ∧ vs = []) ∨ ∃ spare, d = .slice (vs.map datV) spare) : vs.length ≤ n := by
  rcases hcase with ⟨_, rfl⟩ | ⟨spare, rfl⟩
  · simp
  · have := bulk_values (H := H) vs
    simp only [Rows.uptoBulk] at h
    omega
end Go.Proofs.YtlldamgnfaikhaaDoor
