/- Bytes handed on: string(b), append of bytes to a row of one's own; the walks of the law's cut and sure. -/
import Derived.Test.YtjnhcanohefjiaaGreatDoorDRestart
import Derived.Lib.SlBytesConst
import Derived.Deep.AppendLies
namespace Go.Proofs.YtjnhcanohefjiaaGreatDoor
open Go.RowKit Go.Sort Go.Maps

theorem ints_new (w : World) (zs : List Int) (fr : Nat × Nat) : IntsIn (w.alloc (.cells (zs.map (Value.int .i64)).toArray 3 fr)) (some ⟨w.heap.size, 0, none⟩) zs := by
  intro i hi
  refine ⟨_, _, rfl, ?_⟩
  rw [Nat.zero_add]
  exact cell_of (World.alloc_heap_new' w _) (by simp [hi])
/-- A device that is new is worked on: what was there stays. -/
theorem below_step' {W w w' : World} (h : Below W.heap.size W w) (hf : Fd (W.heap.size + 2) W.heap.size (W.heap.size + 1) w w') : Below W.heap.size W w' :=
  h.trans (hf.below h.size (by omega) (by omega) (by omega))
end Go.Proofs.YtjnhcanohefjiaaGreatDoor
