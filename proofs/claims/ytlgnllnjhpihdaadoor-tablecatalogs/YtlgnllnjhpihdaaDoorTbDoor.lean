/- What the row's listed variables give the walks. -/
import Derived.Test.YtlgnllnjhpihdaaDoorTbRow
import Derived.Test.YtlgnllnjhpihdaaDoorTbGCol
import Derived.Test.YtlgnllnjhpihdaaDoorCards
import Derived.Test.YtlgnllnjhpihdaaDoorTie
import Derived.LaidMore
import Derived.LaidHandle
import Derived.Stop.Joined
import Derived.Lib.SmallJoins
import Derived.Deep.DeepHandedRow
import Derived.Deep.DeepWitnessRowRef
import Derived.Lib.LaidTab
namespace Go.Proofs.YtlgnllnjhpihdaaDoor
open Go.ChangeShapes Go.WideShapes Go.ChangeAt Go.RowKit Go.Joins

theorem max_of_shape {W : World} (h : W.ShapedOpen Tryd.prog) : MaxAt W :=
  cell_of_shapedOpen_int (g := 1) (t := 3) (zero := #[.int .i64 0]) h (by decide +kernel) (by kernel_rfl) rfl (by kernel_rfl) (by kernel_rfl) Tryd.underlying3
end Go.Proofs.YtlgnllnjhpihdaaDoor
