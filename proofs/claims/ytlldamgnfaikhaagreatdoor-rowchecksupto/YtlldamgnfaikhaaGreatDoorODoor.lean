/- What the row's listed type of errors gives the walk; how many values and letters there are at most. -/
import Derived.Test.YtlldamgnfaikhaaGreatDoorORow
import Derived.Test.YtlldamgnfaikhaaGreatDoorOAs
import Derived.Test.YtlldamgnfaikhaaGreatDoorCards
import Derived.Test.YtlldamgnfaikhaaGreatDoorTie
import Derived.LaidMore
import Derived.LaidHandle
import Derived.Stop.Joined
import Derived.Lib.SmallJoins
import Derived.Deep.DeepHandedRow
import Derived.Deep.DeepWitnessRowRef
namespace Go.Proofs.YtlldamgnfaikhaaGreatDoor
open Go.ChangeShapes Go.WideShapes Go.ChangeAt Go.RowKit Go.Joins

theorem typesSize : Tryz.prog.types.size = 165 := by kernel_rfl
theorem gErr : Tryz.prog.globalNamed "errors.errorType" = some 0 := by kernel_rfl
theorem errRow : ((List.range 165).filter fun t => Tryz.prog.rowNamed t [101, 114, 114, 111, 114]) = [27] := by kernel_rfl
theorem err_of_handles {W : World} (h : handlesMet Tryz.prog [("errors.errorType", Rows.laid_errors_errorType)] W) : ErrType W := by
  obtain ⟨name, u, ty, e1, e2, e3, e4, e5⟩ := h _ (List.mem_singleton.2 rfl)
  have en : name = [101, 114, 114, 111, 114] := (Option.some.inj e1).symm
  subst en
  obtain rfl : u = 89 := Option.some.inj (e2.symm.trans (show _ = some 89 by kernel_rfl))
  have hm : ty ∈ (List.range 165).filter fun t => Tryz.prog.rowNamed t [101, 114, 114, 111, 114] := List.mem_filter.2 ⟨List.mem_range.2 (by rw [← typesSize]; exact e3), e4⟩
  rw [errRow] at hm
  obtain rfl := List.mem_singleton.1 hm
  have hh : typeHandle Tryz.prog 27 = .pointer (some ⟨7, 27, none⟩) := by kernel_rfl
  rw [hh] at e5
  have := World.var?_cell gErr e5 0
  unfold ErrType
  simpa using this
theorem bulk_values {H : Type} : ∀ vs : List Val, vs.length ≤ Rows.uptoBulkAll (vs.map (datV (H := H)))
  | [] => Nat.zero_le _
  | v :: vs => by
    have := bulk_values (H := H) vs
    simp only [List.map_cons, Rows.uptoBulkAll, List.length_cons, datV, Rows.uptoBulk]
    omega
theorem bulk_lim {H : Type} {d : DataW H} {vs : List Val} {n : Nat} (h : Rows.uptoBulk d ≤ n) (hcase : (d = .nil ∧ vs = []) ∨ ∃ spare, d = .slice (vs.map datV) spare) : vs.length ≤ n := by
  rcases hcase with ⟨_, rfl⟩ | ⟨spare, rfl⟩
  · simp
  · have := bulk_values (H := H) vs
    simp only [Rows.uptoBulk] at h
    omega
end Go.Proofs.YtlldamgnfaikhaaGreatDoor
