/- Within a function without values as its parameters: where its result lies. -/
import Derived.Test.YtfplncbechidnaaGreatDoorW2
namespace Go.Proofs.YtfplncbechidnaaGreatDoor
open Go.RowKit Go.Sort

def Fr0 (w V : World) : Prop :=
  In4 V w.heap.size 0 0 0 ⟨#[]⟩ false ∧ (V.frozen? ⟨w.heap.size, 0, none⟩ = false ∧ V.frozen? ⟨w.heap.size, 1, none⟩ = false ∧ V.frozen? ⟨w.heap.size, 2, none⟩ = false ∧ V.frozen? ⟨w.heap.size, 3, none⟩ = false) ∧ Below w.heap.size w V ∧ w.heap.size + 1 ≤ V.heap.size
theorem Fr0.on {w V V' : World} (h : Fr0 w V) (hb : Below V.heap.size V V') : Fr0 w V' := by
  obtain ⟨h3, ⟨f0, f1, f2, f3⟩, h5, h6⟩ := h
  have hl : w.heap.size < V.heap.size := by omega
  exact ⟨h3.on hb, ⟨Frz.on f0 hl hb, Frz.on f1 hl hb, Frz.on f2 hl hb, Frz.on f3 hl hb⟩, below_step h5 hb, Nat.le_trans h6 hb.size⟩
theorem fr0_start (w : World) (ty : TypeId) : Fr0 w (w.alloc (.cells #[.int .i64 0, .int .i64 0, .string ⟨#[]⟩, .bool false] ty)) := by
  refine ⟨in4_new w 0 0 ⟨#[]⟩ false ty, ⟨?_, ?_, ?_, ?_⟩, (Below.refl _ _).alloc (Nat.le_refl _) _, by simp⟩
  all_goals simp [go_sem]
end Go.Proofs.YtfplncbechidnaaGreatDoor
