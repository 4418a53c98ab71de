/- The walks of label.Dominates, and of the document's Has, Dominates. -/
import Derived.Test.YtoompephogamaaaGreatDoorChecked
import Derived.Test.YtoompephogamaaaGreatDoorMath
import Derived.WalkKit
import Derived.WalkSpells
import Derived.WalkLawsBesides
import Derived.Lib.QuietBelow
import Derived.Deep.RegionWith
namespace Go.Proofs.YtoompephogamaaaGreatDoor
open Go.RowKit Go.Sort

theorem ret_bool {a b : Bool} (h : a = b) : Ending.returned (.bool a) = .returned (.bool b) := by rw [h]
theorem ret_int {k : IntKind} {a b : Int} (h : a = b) : Ending.returned (.int k a) = .returned (.int k b) := by rw [h]
theorem bcell {W w1 : World} (hb : Below W.heap.size W w1) : (∀ b o, b < W.heap.size → w1.cell? ⟨b, o, none⟩ = W.cell? ⟨b, o, none⟩) ∧ (∀ b o, b < W.heap.size → w1.frozen? ⟨b, o, none⟩ = W.frozen? ⟨b, o, none⟩) :=
  ⟨fun b o h => hb.cell (p := ⟨b, o, none⟩) h, fun b o h => hb.frozen (p := ⟨b, o, none⟩) h⟩

set_option maxHeartbeats 400000 in
theorem dom15 (r r' : Int) (c c' : Nat) (w : World) (hc : c < 4294967296) (hc' : c' < 4294967296) :
    Calls Tryz.prog 83 #[.agg #[.int .i64 r, .int .u32 c], .agg #[.int .i64 r', .int .u32 c']] w fun e w' => e = .returned (.bool (domB r c r' c')) ∧ Below w.heap.size w w' := by
  by_cases h : r' ≤ r
  · go_enter Tryz.func83, Tryz.ntmps83
    go_wp2
    go_ret
    refine ⟨ret_bool ?_, ((Below.refl _ _).alloc (Nat.le_refl _) _).alloc (by simp) _⟩
    rw [not_eq hc hc', domB, decide_eq_true h, Bool.true_and]
  · go_enter Tryz.func83, Tryz.ntmps83
    go_wp2
    go_ret
    refine ⟨ret_bool ?_, ((Below.refl _ _).alloc (Nat.le_refl _) _).alloc (by simp) _⟩
    rw [domB, decide_eq_false (by omega), Bool.false_and]
set_option maxHeartbeats 400000 in
theorem has23 (r : Int) (c i : Nat) (w : World) (hc : c < 4294967296) (hi : i < 32) :
    Calls Tryz.prog 31 #[.agg #[.int .i64 r, .int .u32 c], .int .i64 i] w fun e w' => e = .returned (.bool (c.testBit i)) ∧ Below w.heap.size w w' := by
  go_enter Tryz.func31, Tryz.ntmps31
  go_wp2
  go_ret
  exact ⟨ret_bool (has_eq' hc hi), (Below.refl _ _).alloc (Nat.le_refl _) _⟩

theorem box2 {w wr : World} {A B C D : Value} (hb : Below (w.heap.size + 2) ((w.alloc (.cells #[A, B] 25)).alloc (.cells #[C, D] 25)) wr) :
    wr.cell? ⟨w.heap.size, 0, none⟩ = some A ∧ wr.cell? ⟨w.heap.size, 1, none⟩ = some B ∧ wr.cell? ⟨w.heap.size + 1, 0, none⟩ = some C ∧ wr.cell? ⟨w.heap.size + 1, 1, none⟩ = some D ∧ w.heap.size + 2 ≤ wr.heap.size := by
  refine ⟨?_, ?_, ?_, ?_, by have := hb.size; simpa using this⟩
  all_goals (rw [hb.cell (by simp)]; simp [go_sem])

end Go.Proofs.YtoompephogamaaaGreatDoor
