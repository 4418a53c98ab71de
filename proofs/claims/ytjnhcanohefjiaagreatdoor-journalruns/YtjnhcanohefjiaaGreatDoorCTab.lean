/- The walk of crc.remainders: the array of all bytes' remainders. -/
import Derived.Test.YtjnhcanohefjiaaGreatDoorCDiv
import Derived.Deep.WholeRow
import Derived.Deep.LoopGhost
import Derived.Laws.ResultCell
namespace Go.Proofs.YtjnhcanohefjiaaGreatDoor
open Go.RowKit Go.Sort

/-- The array, as far as it is filled. -/
def tabTo (n : Nat) : Array Value := ((List.range 256).map fun (i : Nat) => Value.int .u32 ((if i < n then dvs 8 i else 0 : Nat) : Int)).toArray
theorem tabTo_size (n : Nat) : (tabTo n).size = 256 := by simp [tabTo]
theorem tabTo_get (n i : Nat) (h : i < 256) : (tabTo n)[i]? = some (.int .u32 ((if i < n then dvs 8 i else 0 : Nat) : Int)) := by
  simp [tabTo, h]
theorem tabTo_one : tabTo 1 = Array.replicate 256 (.int .u32 0) := by
  apply Array.ext_getElem?
  intro i
  by_cases h : i < 256
  · rw [tabTo_get 1 i h, Array.getElem?_replicate, if_pos h]
    by_cases h1 : i < 1
    · obtain rfl : i = 0 := by omega
      rw [if_pos h1, dvs_zero]
      rfl
    · rw [if_neg h1]
      rfl
  · rw [Array.getElem?_eq_none (by rw [tabTo_size]; omega), Array.getElem?_eq_none (by rw [Array.size_replicate]; omega)]
theorem tabTo_put (n : Nat) (h : n < 256) : (tabTo n).setIfInBounds n (.int .u32 (dvs 8 n : Nat)) = tabTo (n + 1) := by
  apply Array.ext_getElem?
  intro i
  rw [Array.getElem?_setIfInBounds]
  by_cases hi : n = i
  · subst hi
    rw [if_pos rfl, if_pos (by rw [tabTo_size]; exact h), tabTo_get _ _ h, if_pos (by omega)]
  · rw [if_neg hi]
    by_cases h2 : i < 256
    · rw [tabTo_get _ _ h2, tabTo_get _ _ h2]
      by_cases h3 : i < n
      · rw [if_pos h3, if_pos (by omega)]
      · rw [if_neg h3, if_neg (by omega)]
    · rw [Array.getElem?_eq_none (by rw [tabTo_size]; omega), Array.getElem?_eq_none (by rw [tabTo_size]; omega)]
theorem tabTo_all (n : Nat) : (tabTo n).all (·.oneCell') = true := by
  rw [Array.all_eq_true]
  intro i hi
  have h := tabTo_get n i (by rw [tabTo_size] at hi; exact hi)
  rw [Array.getElem?_eq_getElem hi] at h
  rw [Option.some.inj h]
  rfl
theorem infoT : (Tryz.prog.info? 200).map (fun i => (i.zero, i.size)) = some (some (.agg (Array.replicate 256 (.int .u32 0))), 256) := by kernel_rfl
theorem shl1 (k : Nat) (h : k < 8) : IntKind.i64.wrap ((2 ^ k : Nat) * 2) = ((2 ^ (k + 1) : Nat) : Int) := by
  match k, h with
  | 0, _ => rfl
  | 1, _ => rfl
  | 2, _ => rfl
  | 3, _ => rfl
  | 4, _ => rfl
  | 5, _ => rfl
  | 6, _ => rfl
  | 7, _ => rfl
theorem setRow_under (w : World) (c c' : Array Value) (t : TypeId) (o : Obj) : ((w.alloc (.cells c t)).alloc o).setRow w.heap.size c' = (w.alloc (.cells c' t)).alloc o := by
  simp only [World.setRow, World.alloc]
  congr 1
  apply Array.ext_getElem?
  intro i
  rw [Array.getElem?_modify]
  by_cases h : w.heap.size = i
  · subst h
    simp [Array.getElem?_push]
  · have h' : ¬ i = w.heap.size := fun e => h e.symm
    simp [h, h', Array.getElem?_push]
theorem heap_under (w : World) (o o' : Obj) : ((w.alloc o).alloc o').heap[w.heap.size]? = some o := by
  show ((w.heap.push o).push o')[w.heap.size]? = some o
  simp [Array.getElem?_push]
theorem store_under (w : World) (t : TypeId) (c c' : Array Value) (o : Obj) (hi : (Tryz.prog.info? t).map (·.size) = some c'.size) (ho : c.size = c'.size) (h1 : c'.all (·.oneCell') = true) :
    (storeCells ⟨w.heap.size, 0, none⟩ c'.toList 0).run Tryz.prog ((w.alloc (.cells c t)).alloc o) = .ok () ((w.alloc (.cells c' t)).alloc o) := by
  have := run_storeVar_row (P := Tryz.prog) _ _ t t c c' (heap_under w (.cells c t) o) hi ho h1
  rw [setRow_under] at this
  cases hq : Tryz.prog.info? t with
  | none => simp [hq] at hi
  | some i =>
    have hs : c'.size = i.size := by simp [hq] at hi; omega
    simpa [storeVar, sizeOf, typeInfo, hq, Value.cells, hs] using this
theorem storeAt_under (w : World) (t : TypeId) (c c' : Array Value) (o : Obj) (hi : (Tryz.prog.info? t).map (·.size) = some c'.size) (ho : c.size = c'.size) (h1 : c'.all (·.oneCell') = true) :
    (Instr.storeAt t (.pointer (some ⟨w.heap.size, 0, none⟩)) (.agg c')).run Tryz.prog ((w.alloc (.cells c t)).alloc o) = .ok () ((w.alloc (.cells c' t)).alloc o) := by
  simp only [Instr.storeAt, Instr.sureAddr, Sem.run_bind, Sem.run_pure, Result.andThen]
  have := run_storeVar_row (P := Tryz.prog) _ _ t t c c' (heap_under w (.cells c t) o) hi ho h1
  rw [setRow_under] at this
  exact this
theorem load_under (w : World) (t : TypeId) (c : Array Value) (o : Obj) (n : Nat) (e : TypeId) (hu : Tryz.prog.underlying t = some (.array n e)) (hi : (Tryz.prog.info? t).map (·.size) = some c.size) :
    (loadVar t ⟨w.heap.size, 0, none⟩).run Tryz.prog ((w.alloc (.cells c t)).alloc o) = .ok (.agg c) ((w.alloc (.cells c t)).alloc o) :=
  run_loadVar_row _ _ t t c (0, 0) _ (heap_under w _ _) hu rfl hi
theorem two_pow (b : Nat) (h : ∃ k, b = 2 ^ k) (hb : b < 256) : ∃ k, b * 2 = 2 ^ k := by
  obtain ⟨k, rfl⟩ := h
  exact ⟨k + 1, by rw [Nat.pow_succ]⟩
theorem dvs_pow (b j : Nat) (h : ∃ k, b = 2 ^ k) (hj : j < b) : dvs 8 (b + j) = dvs 8 b ^^^ dvs 8 j := by
  obtain ⟨k, rfl⟩ := h
  exact dvs_bit k j hj
theorem pow_le (b : Nat) (h : ∃ k, b = 2 ^ k) (hb : b < 256) : b ≤ 128 := by
  obtain ⟨k, rfl⟩ := h
  have : k < 8 := by
    rcases Nat.lt_or_ge k 8 with h | h
    · exact h
    · have := Nat.pow_le_pow_right (n := 2) (by decide) h
      omega
  have := Nat.pow_le_pow_right (n := 2) (by decide) (show k ≤ 7 by omega)
  omega
theorem pow_pos (b : Nat) (h : ∃ k, b = 2 ^ k) : 0 < b := by
  obtain ⟨k, rfl⟩ := h
  exact Nat.two_pow_pos k
theorem tab_cell (w : World) (n i : Nat) (h : i < 256) : (w.alloc (.cells (tabTo n) 200)).cell? ⟨w.heap.size, i, none⟩ = some (.int .u32 ((if i < n then dvs 8 i else 0 : Nat) : Int)) := by
  rw [cell_of_row _ _ i (tabTo n) 200 (0, 0) (heap_alloc_last w _), tabTo_get n i h]
set_option maxRecDepth 100000 in
set_option maxHeartbeats 1000000 in
theorem tab_ (w : World) : Calls Tryz.prog 122 #[] w fun e w' => e = .returned (.agg (tabTo 256)) ∧ Below w.heap.size w w' := by
  have hz := (zero_of_info infoT).1
  have hsz := Lib.hid (zero_of_info infoT).2
  have HR : Hid (∀ (y : Nat) (W : World), y < 256 → Calls Tryz.prog 124 #[.int .u8 y] W fun e w' => e = .returned (.int .u32 (dvs 8 y : Nat)) ∧ w' = W) := fun y W hy => rem_ y W hy
  go_enter Tryz.func122, Tryz.ntmps122
  go_wp2_with fail
  rw [← tabTo_one]
  clear hz
  go_loopw [2] (fun bv wr => ∃ b : Nat, bv = .int .i64 b ∧ Hid (∃ k, b = 2 ^ k) ∧ b ≤ 256 ∧ wr = (w.alloc (.cells (tabTo 1) 200)).alloc (.cells (tabTo b) 200)) (fun bv _ => (256 - intOf bv).toNat)
  case atStart => exact ⟨1, rfl, Lib.hid ⟨0, rfl⟩, by decide, rfl⟩
  case round =>
    obtain ⟨b, rfl, hk, hb, rfl⟩ := hrel
    by_cases h8 : b = 256
    · have hge : decide ((b : Int) < 256) = false := decide_eq_false (by omega)
      have H8 := Lib.hid h8
      clear h8
      have hsz2 := Lib.hid (tabTo_size b)
      have hld : (Instr.loadAt 200 (.pointer (some ⟨w.heap.size + 1, 0, none⟩))).run Tryz.prog ((w.alloc (.cells (tabTo 1) 200)).alloc (.cells (tabTo b) 200)) = .ok (.agg (tabTo b)) ((w.alloc (.cells (tabTo 1) 200)).alloc (.cells (tabTo b) 200)) := by
        have := run_loadAt_new (P := Tryz.prog) (w.alloc (.cells (tabTo 1) 200)) 200 (tabTo b) 256 177 Tryz.underlying200 (by rw [tabTo_size]; exact hsz.out)
        simpa using this
      have hst : (Instr.storeAt 200 (.pointer (some ⟨w.heap.size, 0, none⟩)) (.agg (tabTo b))).run Tryz.prog ((w.alloc (.cells (tabTo 1) 200)).alloc (.cells (tabTo b) 200)) = .ok () ((w.alloc (.cells (tabTo b) 200)).alloc (.cells (tabTo b) 200)) := storeAt_under w 200 (tabTo 1) (tabTo b) _ (by rw [tabTo_size]; exact hsz.out) (by rw [tabTo_size, tabTo_size]) (tabTo_all b)
      have HL := Lib.hid hld
      have HS := Lib.hid hst
      have HL2 := Lib.hid (load_under w 200 (tabTo b) (.cells (tabTo b) 200) 256 177 Tryz.underlying200 (by rw [tabTo_size]; exact hsz.out))
      clear hld hst
      have HT : Hid (tabTo b = tabTo 256) := Lib.hid (by rw [H8.out])
      generalize tabTo b = T at *
      go_wp2_with (first | (refine wpList_load_at rfl 200 _ rfl _ _ rfl HL.out ?_) | (refine wpList_store_at rfl 200 _ _ rfl _ _ rfl rfl HS.out ?_) | fail)
      refine bodyPost_ret (v := .agg T) ?_ rfl ⟨by rw [HT.out], ((Below.refl _ _).alloc (Nat.le_refl _) _).alloc (by simp) _⟩
      rw [results_cell rfl]
      simp [asAddr, Result.andThen, Act.put, HL2.out]
    · have hlt : decide ((b : Int) < 256) = true := decide_eq_true (by omega)
      have hmod : (b : Int) % 256 = b := by omega
      have hb8 := pow_le b hk.out (by omega)
      go_wp2_with fail
      refine (HR.out b _ (by omega)).mono ?_
      rintro e w1 ⟨rfl, rfl⟩
      go_wp2_with fail
      go_loopw [13] (fun jv wr => ∃ j : Nat, jv = .int .i64 j ∧ j ≤ b ∧ wr = (w.alloc (.cells (tabTo 1) 200)).alloc (.cells (tabTo (b + j)) 200)) (fun jv _ => ((b : Int) - intOf jv).toNat)
      case atStart => exact ⟨0, rfl, Nat.zero_le _, rfl⟩
      case round =>
        obtain ⟨j, rfl, hj, rfl⟩ := hrel
        by_cases hjb : j = b
        · have hge2 : decide (j < b) = false := decide_eq_false (by omega)
          have HJ := Lib.hid hjb
          clear hjb
          go_wp2_with fail
          go_roundw
          case rel => exact ⟨b * 2, by go_num, Lib.hid (two_pow b hk.out (by omega)), by omega, by rw [HJ.out, Nat.mul_two]⟩
          case measure =>
            have := pow_pos b hk.out
            simp [intOf]; omega
        · have hlt2 : decide (j < b) = true := decide_eq_true (by omega)
          have hc := tabTo_get (b + j) j (by omega)
          rw [if_pos (by omega)] at hc
          have hx := xor_ (dvs 8 b) (dvs 8 j) (dvs_lt 8 b (by omega)) (dvs_lt 8 j (by omega))
          rw [← dvs_pow b j hk.out (by omega)] at hx
          have hc2 := tabTo_get (b + j) (b + j) (by omega)
          rw [if_neg (by omega)] at hc2
          go_wp2_with fail
          go_roundw
          case rel => exact ⟨j + 1, by go_num, by omega, by rw [← Nat.add_assoc, ← tabTo_put (b + j) (by omega)]⟩
          case measure => simp [intOf]; omega
end Go.Proofs.YtjnhcanohefjiaaGreatDoor
