/- The walks of label.Dominates, and of the document's Has, Dominates. -/
import Derived.Test.YtoompephogamaaaDoorChecked
import Derived.Test.YtoompephogamaaaDoorMath
import Derived.WalkKit
import Derived.WalkSpells
import Derived.WalkLawsBesides
import Derived.Lib.QuietBelow
import Derived.Deep.RegionWith
namespace Go.Proofs.YtoompephogamaaaDoor
open Go.RowKit Go.Sort

theorem ret_bool {a b : Bool} (h : a = b) : Ending.returned (.bool a) = .returned (.bool b) := by rw [h]
theorem ret_int {k : IntKind} {a b : Int} (h : a = b) : Ending.returned (.int k a) = .returned (.int k b) := by rw [h]
theorem bcell {W w1 : World} (hb : Below W.heap.size W w1) : (∀ b o, b < W.heap.size → w1.cell? ⟨b, o, none⟩ = W.cell? ⟨b, o, none⟩) ∧ (∀ b o, b < W.heap.size → w1.frozen? ⟨b, o, none⟩ = W.frozen? ⟨b, o, none⟩) :=
  ⟨fun b o h => hb.cell (p := ⟨b, o, none⟩) h, fun b o h => hb.frozen (p := ⟨b, o, none⟩) h⟩

set_option maxHeartbeats 400000 in
theorem dom15 (r r' : Int) (c c' : Nat) (w : World) (hc : c < 4294967296) (hc' : c' < 4294967296) :
    Calls Tryd.prog 19 #[.agg #[.int .i64 r, .int .u32 c], .agg #[.int .i64 r', .int .u32 c']] w fun e w' => e = .returned (.bool (domB r c r' c')) ∧ Below w.heap.size w w' := by
  by_cases h : r' ≤ r
  · go_enter Tryd.func19, Tryd.ntmps19
    go_wp2
    go_ret
    refine ⟨ret_bool ?_, ((Below.refl _ _).alloc (Nat.le_refl _) _).alloc (by simp) _⟩
    rw [not_eq hc hc', domB, decide_eq_true h, Bool.true_and]
  · go_enter Tryd.func19, Tryd.ntmps19
    go_wp2
    go_ret
    refine ⟨ret_bool ?_, ((Below.refl _ _).alloc (Nat.le_refl _) _).alloc (by simp) _⟩
    rw [domB, decide_eq_false (by omega), Bool.false_and]
set_option maxHeartbeats 400000 in
theorem has23 (r : Int) (c i : Nat) (w : World) (hc : c < 4294967296) (hi : i < 32) :
    Calls Tryd.prog 38 #[.agg #[.int .i64 r, .int .u32 c], .int .i64 i] w fun e w' => e = .returned (.bool (c.testBit i)) ∧ Below w.heap.size w w' := by
  go_enter Tryd.func38, Tryd.ntmps38
  go_wp2
  go_ret
  exact ⟨ret_bool (has_eq' hc hi), (Below.refl _ _).alloc (Nat.le_refl _) _⟩

theorem box2 {w wr : World} {A B C D : Value} (hb : Below (w.heap.size + 2) ((w.alloc (.cells #[A, B] 43)).alloc (.cells #[C, D] 43)) wr) :
    wr.cell? ⟨w.heap.size, 0, none⟩ = some A ∧ wr.cell? ⟨w.heap.size, 1, none⟩ = some B ∧ wr.cell? ⟨w.heap.size + 1, 0, none⟩ = some C ∧ wr.cell? ⟨w.heap.size + 1, 1, none⟩ = some D ∧ w.heap.size + 2 ≤ wr.heap.size := by
  refine ⟨?_, ?_, ?_, ?_, by have := hb.size; simpa using this⟩
  all_goals (rw [hb.cell (by simp)]; simp [go_sem])

set_option maxHeartbeats 400000 in
theorem dom16 (r r' : Int) (c c' : Nat) (w : World) (hc : c < 4294967296) (hc' : c' < 4294967296) :
    Calls Tryd.prog 27 #[.agg #[.int .i64 r, .int .u32 c], .agg #[.int .i64 r', .int .u32 c']] w fun e w' => e = .returned (.bool (domB r c r' c')) ∧ Below w.heap.size w w' := by
  go_enter Tryd.func27, Tryd.ntmps27
  go_wp2
  have hb0 : Below w.heap.size w ((w.alloc (Obj.cells #[Value.int IntKind.i64 r, Value.int IntKind.u32 ↑c] 43)).alloc (Obj.cells #[Value.int IntKind.i64 r', Value.int IntKind.u32 ↑c'] 43)) := ((Below.refl _ _).alloc (Nat.le_refl _) _).alloc (by simp) _
  go_loopw [5] (fun iv wr => ∃ k : Nat, k ≤ 32 ∧ iv = .int .i64 k ∧ (∀ j, j < k → c'.testBit j = true → c.testBit j = true) ∧ Below (w.heap.size + 2) ((w.alloc (Obj.cells #[Value.int IntKind.i64 r, Value.int IntKind.u32 ↑c] 43)).alloc (Obj.cells #[Value.int IntKind.i64 r', Value.int IntKind.u32 ↑c'] 43)) wr) (fun iv _ => 32 - (intOf iv).toNat)
  case atStart => exact ⟨0, Nat.zero_le _, rfl, fun _ h => by omega, Below.refl _ _⟩
  case round =>
    obtain ⟨k, hk, rfl, hall, hb⟩ := hrel
    obtain ⟨x0, x1, x2, x3, hz⟩ := box2 hb
    have hf : Below w.heap.size w wr := hb0.trans (hb.mono (by omega))
    have HA : Hid (∀ j, j < k → c'.testBit j = true → c.testBit j = true) := hall
    clear hall hb0
    by_cases hlt : k < 32
    · go_wp2_with fail
      refine (has23 _ _ _ _ hc' hlt).mono ?_
      rintro e w1 ⟨rfl, hb1⟩
      have y0 := (hb1.cell (p := ⟨w.heap.size, 0, none⟩) (by show w.heap.size < _; omega)).trans x0
      have y1 := (hb1.cell (p := ⟨w.heap.size, 1, none⟩) (by show w.heap.size < _; omega)).trans x1
      have y2 := (hb1.cell (p := ⟨w.heap.size + 1, 0, none⟩) (by show w.heap.size + 1 < _; omega)).trans x2
      have hb2 : Below (w.heap.size + 2) ((w.alloc (Obj.cells #[Value.int IntKind.i64 r, Value.int IntKind.u32 ↑c] 43)).alloc (Obj.cells #[Value.int IntKind.i64 r', Value.int IntKind.u32 ↑c'] 43)) w1 := hb.trans (hb1.mono hz)
      have hz1 : w.heap.size + 2 ≤ w1.heap.size := Nat.le_trans hz hb1.size
      cases ht : c'.testBit k
      · go_wp2_with fail
        refine ⟨⟨k + 1, by omega, by go_num, fun j hj hjb => ?_, hb2⟩, by simp [intOf]; omega⟩
        by_cases e : j = k
        · subst e; rw [ht] at hjb; cases hjb
        · exact HA.out j (by omega) hjb
      · go_wp2_with fail
        refine (has23 _ _ _ _ hc hlt).mono ?_
        rintro e w2 ⟨rfl, hb3⟩
        have hb4 : Below (w.heap.size + 2) ((w.alloc (Obj.cells #[Value.int IntKind.i64 r, Value.int IntKind.u32 ↑c] 43)).alloc (Obj.cells #[Value.int IntKind.i64 r', Value.int IntKind.u32 ↑c'] 43)) w2 := hb2.trans (hb3.mono hz1)
        cases hs : c.testBit k
        · go_wp2_with fail
          go_ret
          refine ⟨ret_bool ?_, hf.trans ((hb1.trans (hb3.mono hb1.size)).mono hf.size)⟩
          cases hd : domB r c r' c'
          · rfl
          · have := ((domB_iff hc).1 hd).2 k hlt ht
            rw [hs] at this; cases this
        · go_wp2_with fail
          refine ⟨⟨k + 1, by omega, by go_num, fun j hj hjb => ?_, hb4⟩, by simp [intOf]; omega⟩
          by_cases e : j = k
          · subst e; exact hs
          · exact HA.out j (by omega) hjb
    · obtain rfl : k = 32 := by omega
      go_wp2_with fail
      go_ret
      refine ⟨ret_bool ?_, hf⟩
      have hin : inB c c' = true := (inB_iff hc).2 fun i hi hb => HA.out i hi hb
      rw [domB, hin, Bool.and_true]

end Go.Proofs.YtoompephogamaaaDoor
