/- node.takeLast: a walk for each of its ways. -/
import Derived.Test.YtagamkahfiackaaGreatDoorVFill
namespace Go.Proofs.YtagamkahfiackaaGreatDoor
open Go.RowKit Go.Sort

set_option maxRecDepth 100000 in
set_option maxHeartbeats 1000000 in
theorem tl_leaf {w : World} {R : Ending → World → Prop} {q j ci : Nat} {ai : Option Addr} (x : It) (hj : j ≤ 100) (hc : w.cell? ⟨q, 0, none⟩ = some (.slice ai (j + 1) ci))
    (HCh : ∀ V, Below w.heap.size w V → Calls Tryz.prog 41 #[.pointer (some ⟨q, 0, none⟩), .int .i64 ((j : Int) + 1)] V fun e V' => e = .returned (.pointer none) ∧ V' = V)
    (HT : ∀ V, Below w.heap.size w V → V.heap[w.heap.size]? = some (.cells #[.string ⟨#[]⟩, .slice none 0 0] 99 (0, 0)) → Calls Tryz.prog 65 #[.pointer (some ⟨q, 0, none⟩), .int .i64 j] V fun e V' => e = .returned (.agg #[.string x.1, .slice x.2.a x.2.n x.2.c]) ∧ ∃ V2, (Instr.storeAt 99 (.pointer (some ⟨w.heap.size, 0, none⟩)) (.agg #[.string x.1, .slice x.2.a x.2.n x.2.c])).run Tryz.prog V' = .ok () V2 ∧ V2.cell? ⟨w.heap.size, 0, none⟩ = some (.string x.1) ∧ V2.cell? ⟨w.heap.size, 1, none⟩ = some (.slice x.2.a x.2.n x.2.c) ∧ R (.returned (itV x)) V2) :
    Calls Tryz.prog 63 #[.pointer (some ⟨q, 0, none⟩)] w R := by
  have hw1 := wraps_i64 ((j : Int) + 1) (by omega) (by omega)
  have hw0 := wraps_i64 (j : Int) (by omega) (by omega)
  have hql : q < w.heap.size := block_lt_of_cell hc
  have GC := Lib.hid (HCh _ (below_alloc w (.cells #[.string ⟨#[]⟩, .slice none 0 0] 99)))
  have GT := Lib.hid (HT _ (below_alloc w (.cells #[.string ⟨#[]⟩, .slice none 0 0] 99)) (new_blk w _))
  clear HCh HT hj
  go_enter Tryz.func63, Tryz.ntmps63
  go_wp2_with (first
    | (go_at_call 41; refine GC.out.mono ?_; rintro e w1 ⟨rfl, hw⟩; have hw := hw.symm; subst hw)
    | (go_at_call 65; refine GT.out.mono ?_; rintro e V1 ⟨rfl, V2, hst, d1, d2, hz⟩; have HZ := Lib.hid hz; clear hz)
    | (refine wpList_store_at rfl _ _ _ rfl _ _ rfl rfl hst ?_)
    | fail)
  refine bodyPost_ret (v := itV x) ?_ rfl ?_
  · rw [results_cell rfl]
    go_simp
    rfl
  · exact HZ.out
set_option maxRecDepth 100000 in
set_option maxHeartbeats 1000000 in
theorem tl_inner {w : World} {R : Ending → World → Prop} {q p j ci : Nat} {ai : Option Addr} (x : It) (hj : j ≤ 100) (hc : w.cell? ⟨q, 0, none⟩ = some (.slice ai (j + 1) ci))
    (HCh : ∀ V, Below w.heap.size w V → Calls Tryz.prog 41 #[.pointer (some ⟨q, 0, none⟩), .int .i64 ((j : Int) + 1)] V fun e V' => e = .returned (.pointer (some ⟨p, 0, none⟩)) ∧ V' = V)
    (HL : ∀ V, Below w.heap.size w V → V.heap[w.heap.size]? = some (.cells #[.string ⟨#[]⟩, .slice none 0 0] 99 (0, 0)) → Calls Tryz.prog 63 #[.pointer (some ⟨p, 0, none⟩)] V fun e V1 => e = .returned (.agg #[.string x.1, .slice x.2.a x.2.n x.2.c]) ∧ ∀ U, Below V1.heap.size V1 U → U.heap[V1.heap.size]? = some (.cells #[.string x.1, .slice x.2.a x.2.n x.2.c] 99 (0, 0)) → Calls Tryz.prog 64 #[.pointer (some ⟨q, 0, none⟩), .int .i64 ((j : Int) + 1)] U fun e V3 => e = .returned (.tuple #[]) ∧ V3.cell? ⟨V1.heap.size, 0, none⟩ = some (.string x.1) ∧ V3.cell? ⟨V1.heap.size, 1, none⟩ = some (.slice x.2.a x.2.n x.2.c) ∧ ∃ V2, (Instr.storeAt 99 (.pointer (some ⟨w.heap.size, 0, none⟩)) (.agg #[.string x.1, .slice x.2.a x.2.n x.2.c])).run Tryz.prog V3 = .ok () V2 ∧ V2.cell? ⟨w.heap.size, 0, none⟩ = some (.string x.1) ∧ V2.cell? ⟨w.heap.size, 1, none⟩ = some (.slice x.2.a x.2.n x.2.c) ∧ R (.returned (itV x)) V2) :
    Calls Tryz.prog 63 #[.pointer (some ⟨q, 0, none⟩)] w R := by
  have hw1 := wraps_i64 ((j : Int) + 1) (by omega) (by omega)
  have hw0 := wraps_i64 (j : Int) (by omega) (by omega)
  have hql : q < w.heap.size := block_lt_of_cell hc
  have GC := Lib.hid (HCh _ (below_alloc w (.cells #[.string ⟨#[]⟩, .slice none 0 0] 99)))
  have GL := Lib.hid (HL _ (below_alloc w (.cells #[.string ⟨#[]⟩, .slice none 0 0] 99)) (new_blk w _))
  clear HCh HL hj
  go_enter Tryz.func63, Tryz.ntmps63
  go_wp2_with (first
    | (go_at_call 41; refine GC.out.mono ?_; rintro e w1 ⟨rfl, hw⟩; have hw := hw.symm; subst hw)
    | (go_at_call 63; refine GL.out.mono ?_; rintro e V1 ⟨rfl, hf⟩; have HF := Lib.hid hf; clear hf)
    | (go_at_call 64; refine (HF.out _ (below_alloc V1 _) (new_blk V1 _)).mono ?_; rintro e V3 ⟨rfl, d3, d4, V2, hst, d1, d2, hz⟩; have HZ := Lib.hid hz; clear hz)
    | (refine wpList_store_at rfl _ _ _ rfl _ _ rfl rfl hst ?_)
    | fail)
  refine bodyPost_ret (v := itV x) ?_ rfl ?_
  · rw [results_cell rfl]
    go_simp
    rfl
  · exact HZ.out
end Go.Proofs.YtagamkahfiackaaGreatDoor
