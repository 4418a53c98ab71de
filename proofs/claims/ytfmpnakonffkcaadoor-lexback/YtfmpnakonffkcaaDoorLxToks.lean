/- The walk of the law's tokens, at lists that are the same. -/
import Derived.Test.YtfmpnakonffkcaaDoorLxSame
namespace Go.Proofs.YtfmpnakonffkcaaDoor
open Go.RowKit Go.Sort

theorem below_drewN2 {W w : World} (h : Below W.heap.size W w) (n : Nat) : Below W.heap.size W (w.drewN n) := below_step h ⟨rfl, rfl, rfl, Nat.le_refl _, fun _ _ => rfl⟩
end Go.Proofs.YtfmpnakonffkcaaDoor
