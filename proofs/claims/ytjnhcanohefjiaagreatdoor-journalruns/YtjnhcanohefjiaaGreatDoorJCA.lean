/- The walks of crc.divide, crc.Remainder, and of the document's; The walk of crc.remainders: the array of all bytes' remainders; The walks of crc.Update and crc.Sum; The walks of crc.sealOf, Seal, Open; Two arrays of four bytes compared; The walk of crc.Open. -/
import Derived.Test.YtjnhcanohefjiaaGreatDoorTMem
import Derived.Deep.WholeRow
import Derived.Deep.LoopGhost
import Derived.Laws.ResultCell
import Derived.Deep.RegionHeldLaw
import Derived.Deep.RegionHeld3
import Derived.Lib.SliceRun
import Derived.Laws.Cover3
namespace Go.Proofs.YtjnhcanohefjiaaGreatDoor
open Go.RowKit Go.Sort

theorem odd_ (x : Nat) (h : x < 4294967296) : bits .and .u32 (x : Int) 1 = ((x % 2 : Nat) : Int) := by
  have := u32_and_nat x 1 h (by decide)
  rw [nat_mask1] at this
  exact this
theorem xor_ (x y : Nat) (h : x < 4294967296) (h2 : y < 4294967296) : bits .xor .u32 (x : Int) (y : Int) = ((x ^^^ y : Nat) : Int) := u32_xor_nat x y h h2
theorem xord (x : Nat) (h : x < 4294967296) : bits .xor .u32 ((x : Int) / 2) 3988292384 = ((x / 2 ^^^ 3988292384 : Nat) : Int) := u32_xor_nat (x / 2) 3988292384 (by omega) (by decide)
theorem dv_odd {x : Nat} (h : x % 2 = 1) : dv x = x / 2 ^^^ 3988292384 := if_pos h
theorem dv_even {x : Nat} (h : ¬ x % 2 = 1) : dv x = x / 2 := if_neg h
set_option maxHeartbeats 400000 in
theorem divide_ (x : Nat) (w : World) (h : x < 4294967296) :
    Calls Tryz.prog 125 #[.int .u32 x] w fun e w' => e = .returned (.int .u32 (dv x : Nat)) ∧ w' = w := by
  have h1 := odd_ x h
  have h2 := xord x h
  by_cases hx : x % 2 = 1
  · rw [dv_odd hx]
    have hb : (((x : Int) % 2) == 1) = true := beq_iff_eq.2 (by omega)
    clear hx
    go_enter Tryz.func125, Tryz.ntmps125
    go_wp2_with fail
    go_ret
    exact ⟨rfl, rfl⟩
  · rw [dv_even hx]
    have hb : (((x : Int) % 2) == 1) = false := beq_eq_false_iff_ne.2 (by omega)
    clear hx
    go_enter Tryz.func125, Tryz.ntmps125
    go_wp2_with fail
    go_ret
    exact ⟨rfl, rfl⟩
set_option maxHeartbeats 400000 in
theorem rdivide_ (x : Nat) (w : World) (h : x < 4294967296) :
    Calls Tryz.prog 116 #[.int .u32 x] w fun e w' => e = .returned (.int .u32 (dv x : Nat)) ∧ w' = w := by
  have h2 := xord x h
  by_cases hx : x % 2 = 1
  · rw [dv_odd hx]
    have hb : (((x : Int) % 2) == 1) = true := beq_iff_eq.2 (by omega)
    clear hx
    go_enter Tryz.func116, Tryz.ntmps116
    go_wp2_with fail
    go_ret
    exact ⟨rfl, rfl⟩
  · rw [dv_even hx]
    have hb : (((x : Int) % 2) == 1) = false := beq_eq_false_iff_ne.2 (by omega)
    clear hx
    go_enter Tryz.func116, Tryz.ntmps116
    go_wp2_with fail
    go_ret
    exact ⟨rfl, rfl⟩
theorem dvs_snoc (k x : Nat) : dvs (k + 1) x = dv (dvs k x) := by rw [dvs_add k 1 x]; rfl
set_option maxHeartbeats 400000 in
theorem rem_ (x : Nat) (w : World) (h : x < 256) :
    Calls Tryz.prog 124 #[.int .u8 x] w fun e w' => e = .returned (.int .u32 (dvs 8 x : Nat)) ∧ w' = w := by
  have HD : Hid (∀ y : Nat, y < 4294967296 → Calls Tryz.prog 125 #[.int .u32 y] w fun e w' => e = .returned (.int .u32 (dv y : Nat)) ∧ w' = w) := fun y hy => divide_ y w hy
  go_enter Tryz.func124, Tryz.ntmps124
  go_wp2_with fail
  go_loopw [3, 6] (fun nv iv wr => ∃ i y : Nat, iv = .int .i64 i ∧ nv = .int .u32 y ∧ Hid (y = dvs i x) ∧ i ≤ 8 ∧ wr = w) (fun _ iv _ => (8 - intOf iv).toNat)
  case atStart => exact ⟨0, x, rfl, rfl, Lib.hid rfl, by decide, rfl⟩
  case round =>
    obtain ⟨i, y, rfl, rfl, hy, hi, rfl⟩ := hrel
    have hy32 : y < 4294967296 := by rw [hy.out]; exact dvs_lt i x (by omega)
    by_cases h8 : i = 8
    · have hge : decide ((i : Int) < 8) = false := decide_eq_false (by omega)
      have H8 := Lib.hid h8
      clear h8
      go_wp2_with fail
      go_ret
      exact ⟨ret_int (by rw [hy.out, H8.out]), rfl⟩
    · have hlt : decide ((i : Int) < 8) = true := decide_eq_true (by omega)
      go_wp2_with fail
      refine (HD.out y hy32).mono ?_
      rintro e w1 ⟨rfl, rfl⟩
      go_wp2_with fail
      go_roundw
      case rel => exact ⟨i + 1, dv y, by go_num, rfl, Lib.hid (by rw [dvs_snoc, hy.out]), by omega, trivial⟩
      case measure => simp [intOf]; omega
set_option maxHeartbeats 400000 in
theorem rrem_ (x : Nat) (w : World) (h : x < 4294967296) :
    Calls Tryz.prog 103 #[.int .u32 x] w fun e w' => e = .returned (.int .u32 (dvs 8 x : Nat)) ∧ w' = w := by
  have HD : Hid (∀ y : Nat, y < 4294967296 → Calls Tryz.prog 116 #[.int .u32 y] w fun e w' => e = .returned (.int .u32 (dv y : Nat)) ∧ w' = w) := fun y hy => rdivide_ y w hy
  go_enter Tryz.func103, Tryz.ntmps103
  go_wp2_with fail
  go_loopw [0, 3] (fun nv iv wr => ∃ i y : Nat, iv = .int .i64 i ∧ nv = .int .u32 y ∧ Hid (y = dvs i x) ∧ i ≤ 8 ∧ wr = w) (fun _ iv _ => (8 - intOf iv).toNat)
  case atStart => exact ⟨0, x, rfl, rfl, Lib.hid rfl, by decide, rfl⟩
  case round =>
    obtain ⟨i, y, rfl, rfl, hy, hi, rfl⟩ := hrel
    have hy32 : y < 4294967296 := by rw [hy.out]; exact dvs_lt i x (by omega)
    by_cases h8 : i = 8
    · have hge : decide ((i : Int) < 8) = false := decide_eq_false (by omega)
      have H8 := Lib.hid h8
      clear h8
      go_wp2_with fail
      go_ret
      exact ⟨ret_int (by rw [hy.out, H8.out]), rfl⟩
    · have hlt : decide ((i : Int) < 8) = true := decide_eq_true (by omega)
      go_wp2_with fail
      refine (HD.out y hy32).mono ?_
      rintro e w1 ⟨rfl, rfl⟩
      go_wp2_with fail
      go_roundw
      case rel => exact ⟨i + 1, dv y, by go_num, rfl, Lib.hid (by rw [dvs_snoc, hy.out]), by omega, trivial⟩
      case measure => simp [intOf]; omega
end Go.Proofs.YtjnhcanohefjiaaGreatDoor

namespace Go.Proofs.YtjnhcanohefjiaaGreatDoor
open Go.RowKit Go.Sort

/-- The array, as far as it is filled. -/
def tabTo (n : Nat) : Array Value := ((List.range 256).map fun (i : Nat) => Value.int .u32 ((if i < n then dvs 8 i else 0 : Nat) : Int)).toArray
theorem tabTo_size (n : Nat) : (tabTo n).size = 256 := by simp [tabTo]
theorem tabTo_get (n i : Nat) (h : i < 256) : (tabTo n)[i]? = some (.int .u32 ((if i < n then dvs 8 i else 0 : Nat) : Int)) := by
  simp [tabTo, h]
theorem tabTo_one : tabTo 1 = Array.replicate 256 (.int .u32 0) := by
  apply Array.ext_getElem?
  intro i
  by_cases h : i < 256
  · rw [tabTo_get 1 i h, Array.getElem?_replicate, if_pos h]
    by_cases h1 : i < 1
    · obtain rfl : i = 0 := by omega
      rw [if_pos h1, dvs_zero]
      rfl
    · rw [if_neg h1]
      rfl
  · rw [Array.getElem?_eq_none (by rw [tabTo_size]; omega), Array.getElem?_eq_none (by rw [Array.size_replicate]; omega)]
theorem tabTo_put (n : Nat) (h : n < 256) : (tabTo n).setIfInBounds n (.int .u32 (dvs 8 n : Nat)) = tabTo (n + 1) := by
  apply Array.ext_getElem?
  intro i
  rw [Array.getElem?_setIfInBounds]
  by_cases hi : n = i
  · subst hi
    rw [if_pos rfl, if_pos (by rw [tabTo_size]; exact h), tabTo_get _ _ h, if_pos (by omega)]
  · rw [if_neg hi]
    by_cases h2 : i < 256
    · rw [tabTo_get _ _ h2, tabTo_get _ _ h2]
      by_cases h3 : i < n
      · rw [if_pos h3, if_pos (by omega)]
      · rw [if_neg h3, if_neg (by omega)]
    · rw [Array.getElem?_eq_none (by rw [tabTo_size]; omega), Array.getElem?_eq_none (by rw [tabTo_size]; omega)]
theorem tabTo_all (n : Nat) : (tabTo n).all (·.oneCell') = true := by
  rw [Array.all_eq_true]
  intro i hi
  have h := tabTo_get n i (by rw [tabTo_size] at hi; exact hi)
  rw [Array.getElem?_eq_getElem hi] at h
  rw [Option.some.inj h]
  rfl
theorem infoT : (Tryz.prog.info? 200).map (fun i => (i.zero, i.size)) = some (some (.agg (Array.replicate 256 (.int .u32 0))), 256) := by kernel_rfl
theorem setRow_under (w : World) (c c' : Array Value) (t : TypeId) (o : Obj) : ((w.alloc (.cells c t)).alloc o).setRow w.heap.size c' = (w.alloc (.cells c' t)).alloc o := by
  simp only [World.setRow, World.alloc]
  congr 1
  apply Array.ext_getElem?
  intro i
  rw [Array.getElem?_modify]
  by_cases h : w.heap.size = i
  · subst h
    simp [Array.getElem?_push]
  · have h' : ¬ i = w.heap.size := fun e => h e.symm
    simp [h, h', Array.getElem?_push]
theorem heap_under (w : World) (o o' : Obj) : ((w.alloc o).alloc o').heap[w.heap.size]? = some o := by
  show ((w.heap.push o).push o')[w.heap.size]? = some o
  simp [Array.getElem?_push]
theorem storeAt_under (w : World) (t : TypeId) (c c' : Array Value) (o : Obj) (hi : (Tryz.prog.info? t).map (·.size) = some c'.size) (ho : c.size = c'.size) (h1 : c'.all (·.oneCell') = true) :
    (Instr.storeAt t (.pointer (some ⟨w.heap.size, 0, none⟩)) (.agg c')).run Tryz.prog ((w.alloc (.cells c t)).alloc o) = .ok () ((w.alloc (.cells c' t)).alloc o) := by
  simp only [Instr.storeAt, Instr.sureAddr, Sem.run_bind, Sem.run_pure, Result.andThen]
  have := run_storeVar_row (P := Tryz.prog) _ _ t t c c' (heap_under w (.cells c t) o) hi ho h1
  rw [setRow_under] at this
  exact this
theorem load_under (w : World) (t : TypeId) (c : Array Value) (o : Obj) (n : Nat) (e : TypeId) (hu : Tryz.prog.underlying t = some (.array n e)) (hi : (Tryz.prog.info? t).map (·.size) = some c.size) :
    (loadVar t ⟨w.heap.size, 0, none⟩).run Tryz.prog ((w.alloc (.cells c t)).alloc o) = .ok (.agg c) ((w.alloc (.cells c t)).alloc o) :=
  run_loadVar_row _ _ t t c (0, 0) _ (heap_under w _ _) hu rfl hi
theorem two_pow (b : Nat) (h : ∃ k, b = 2 ^ k) (hb : b < 256) : ∃ k, b * 2 = 2 ^ k := by
  obtain ⟨k, rfl⟩ := h
  exact ⟨k + 1, by rw [Nat.pow_succ]⟩
theorem dvs_pow (b j : Nat) (h : ∃ k, b = 2 ^ k) (hj : j < b) : dvs 8 (b + j) = dvs 8 b ^^^ dvs 8 j := by
  obtain ⟨k, rfl⟩ := h
  exact dvs_bit k j hj
theorem pow_le (b : Nat) (h : ∃ k, b = 2 ^ k) (hb : b < 256) : b ≤ 128 := by
  obtain ⟨k, rfl⟩ := h
  have : k < 8 := by
    rcases Nat.lt_or_ge k 8 with h | h
    · exact h
    · have := Nat.pow_le_pow_right (n := 2) (by decide) h
      omega
  have := Nat.pow_le_pow_right (n := 2) (by decide) (show k ≤ 7 by omega)
  omega
theorem pow_pos (b : Nat) (h : ∃ k, b = 2 ^ k) : 0 < b := by
  obtain ⟨k, rfl⟩ := h
  exact Nat.two_pow_pos k
theorem tab_cell (w : World) (n i : Nat) (h : i < 256) : (w.alloc (.cells (tabTo n) 200)).cell? ⟨w.heap.size, i, none⟩ = some (.int .u32 ((if i < n then dvs 8 i else 0 : Nat) : Int)) := by
  rw [cell_of_row _ _ i (tabTo n) 200 (0, 0) (heap_alloc_last w _), tabTo_get n i h]
set_option maxRecDepth 100000 in
set_option maxHeartbeats 1000000 in
theorem tab_ (w : World) : Calls Tryz.prog 122 #[] w fun e w' => e = .returned (.agg (tabTo 256)) ∧ Below w.heap.size w w' := by
  have hz := (zero_of_info infoT).1
  have hsz := Lib.hid (zero_of_info infoT).2
  have HR : Hid (∀ (y : Nat) (W : World), y < 256 → Calls Tryz.prog 124 #[.int .u8 y] W fun e w' => e = .returned (.int .u32 (dvs 8 y : Nat)) ∧ w' = W) := fun y W hy => rem_ y W hy
  go_enter Tryz.func122, Tryz.ntmps122
  go_wp2_with fail
  rw [← tabTo_one]
  clear hz
  go_loopw [2] (fun bv wr => ∃ b : Nat, bv = .int .i64 b ∧ Hid (∃ k, b = 2 ^ k) ∧ b ≤ 256 ∧ wr = (w.alloc (.cells (tabTo 1) 200)).alloc (.cells (tabTo b) 200)) (fun bv _ => (256 - intOf bv).toNat)
  case atStart => exact ⟨1, rfl, Lib.hid ⟨0, rfl⟩, by decide, rfl⟩
  case round =>
    obtain ⟨b, rfl, hk, hb, rfl⟩ := hrel
    by_cases h8 : b = 256
    · have hge : decide ((b : Int) < 256) = false := decide_eq_false (by omega)
      have H8 := Lib.hid h8
      clear h8
      have hsz2 := Lib.hid (tabTo_size b)
      have hld : (Instr.loadAt 200 (.pointer (some ⟨w.heap.size + 1, 0, none⟩))).run Tryz.prog ((w.alloc (.cells (tabTo 1) 200)).alloc (.cells (tabTo b) 200)) = .ok (.agg (tabTo b)) ((w.alloc (.cells (tabTo 1) 200)).alloc (.cells (tabTo b) 200)) := by
        have := run_loadAt_new (P := Tryz.prog) (w.alloc (.cells (tabTo 1) 200)) 200 (tabTo b) 256 177 Tryz.underlying200 (by rw [tabTo_size]; exact hsz.out)
        simpa using this
      have hst : (Instr.storeAt 200 (.pointer (some ⟨w.heap.size, 0, none⟩)) (.agg (tabTo b))).run Tryz.prog ((w.alloc (.cells (tabTo 1) 200)).alloc (.cells (tabTo b) 200)) = .ok () ((w.alloc (.cells (tabTo b) 200)).alloc (.cells (tabTo b) 200)) := storeAt_under w 200 (tabTo 1) (tabTo b) _ (by rw [tabTo_size]; exact hsz.out) (by rw [tabTo_size, tabTo_size]) (tabTo_all b)
      have HL := Lib.hid hld
      have HS := Lib.hid hst
      have HL2 := Lib.hid (load_under w 200 (tabTo b) (.cells (tabTo b) 200) 256 177 Tryz.underlying200 (by rw [tabTo_size]; exact hsz.out))
      clear hld hst
      have HT : Hid (tabTo b = tabTo 256) := Lib.hid (by rw [H8.out])
      generalize tabTo b = T at *
      go_wp2_with (first | (refine wpList_load_at rfl 200 _ rfl _ _ rfl HL.out ?_) | (refine wpList_store_at rfl 200 _ _ rfl _ _ rfl rfl HS.out ?_) | fail)
      refine bodyPost_ret (v := .agg T) ?_ rfl ⟨by rw [HT.out], ((Below.refl _ _).alloc (Nat.le_refl _) _).alloc (by simp) _⟩
      rw [results_cell rfl]
      simp [asAddr, Result.andThen, Act.put, HL2.out]
    · have hlt : decide ((b : Int) < 256) = true := decide_eq_true (by omega)
      have hmod : (b : Int) % 256 = b := by omega
      have hb8 := pow_le b hk.out (by omega)
      go_wp2_with fail
      refine (HR.out b _ (by omega)).mono ?_
      rintro e w1 ⟨rfl, rfl⟩
      go_wp2_with fail
      go_loopw [13] (fun jv wr => ∃ j : Nat, jv = .int .i64 j ∧ j ≤ b ∧ wr = (w.alloc (.cells (tabTo 1) 200)).alloc (.cells (tabTo (b + j)) 200)) (fun jv _ => ((b : Int) - intOf jv).toNat)
      case atStart => exact ⟨0, rfl, Nat.zero_le _, rfl⟩
      case round =>
        obtain ⟨j, rfl, hj, rfl⟩ := hrel
        by_cases hjb : j = b
        · have hge2 : decide (j < b) = false := decide_eq_false (by omega)
          have HJ := Lib.hid hjb
          clear hjb
          go_wp2_with fail
          go_roundw
          case rel => exact ⟨b * 2, by go_num, Lib.hid (two_pow b hk.out (by omega)), by omega, by rw [HJ.out, Nat.mul_two]⟩
          case measure =>
            have := pow_pos b hk.out
            simp [intOf]; omega
        · have hlt2 : decide (j < b) = true := decide_eq_true (by omega)
          have hc := tabTo_get (b + j) j (by omega)
          rw [if_pos (by omega)] at hc
          have hx := xor_ (dvs 8 b) (dvs 8 j) (dvs_lt 8 b (by omega)) (dvs_lt 8 j (by omega))
          rw [← dvs_pow b j hk.out (by omega)] at hx
          have hc2 := tabTo_get (b + j) (b + j) (by omega)
          rw [if_neg (by omega)] at hc2
          go_wp2_with fail
          go_roundw
          case rel => exact ⟨j + 1, by go_num, by omega, by rw [← Nat.add_assoc, ← tabTo_put (b + j) (by omega)]⟩
          case measure => simp [intOf]; omega
end Go.Proofs.YtjnhcanohefjiaaGreatDoor

namespace Go.Proofs.YtjnhcanohefjiaaGreatDoor
open Go.RowKit Go.Sort

theorem not32 (n : Nat) (h : n < 4294967296) : bits .xor .u32 IntKind.u32.max (n : Int) = ((4294967295 - n : Nat) : Int) := by
  rw [turned n h]
  exact u32_xor_nat 4294967295 n (by decide) h
theorem low8 (x y : Nat) (hy : y < 256) : bits .xor .u8 ((x : Int) % 256) (y : Int) = ((x % 256 ^^^ y : Nat) : Int) := u8_xor_nat (x % 256) y (Nat.mod_lt _ (by decide)) hy
theorem high8 (x y : Nat) (hx : x < 4294967296) (hy : y < 4294967296) : bits .xor .u32 ((x : Int) / 256) (y : Int) = ((x / 256 ^^^ y : Nat) : Int) := u32_xor_nat (x / 256) y (by omega) hy
theorem upd_snoc (x : Nat) (xs : List Nat) (i : Nat) (h : i < xs.length) : upd x (xs.take (i + 1)) = dvs 8 (upd x (xs.take i) ^^^ xs.getD i 0) := by
  rw [List.take_add_one, List.getElem?_eq_getElem h, Option.toList, upd_append]
  simp [upd, List.getD_eq_getElem?_getD, List.getElem?_eq_getElem h]
theorem byte_at {xs : List Nat} (hx : ∀ x ∈ xs, x < 256) (i : Nat) : xs.getD i 0 < 256 := by
  rw [List.getD_eq_getElem?_getD]
  by_cases h : i < xs.length
  · rw [List.getElem?_eq_getElem h]
    exact hx _ (List.getElem_mem h)
  · rw [List.getElem?_eq_none (by omega)]
    decide
set_option maxRecDepth 100000 in
set_option maxHeartbeats 1000000 in
theorem upd_ (n : Nat) (a : Option Addr) (xs : List Nat) (c : Nat) (w : World) (h : BytesIn w a xs) (hx : ∀ x ∈ xs, x < 256) (hn : n < 4294967296) (hlim : xs.length ≤ 281474976710656) :
    Calls Tryz.prog 113 #[.int .u32 n, .slice a xs.length c] w fun e w' => e = .returned (.int .u32 (sm n xs : Nat)) ∧ Below w.heap.size w w' := by
  have hz := (zero_of_info infoT).1
  have hsz := Lib.hid (zero_of_info infoT).2
  have HT := Lib.hid tab_
  have HB := Lib.hid h
  have Hx := Lib.hid hx
  clear h hx
  go_enter Tryz.func113, Tryz.ntmps113
  go_wp2_with fail
  refine (HT.out w).mono ?_
  rintro e w1 ⟨rfl, hb1⟩
  have Hb1 := Lib.hid hb1
  clear hb1 HT
  have HS : Hid ((Instr.storeAt 200 (.pointer (some ⟨w1.heap.size, 0, none⟩)) (.agg (tabTo 256))).run Tryz.prog (w1.alloc (.cells (Array.replicate 256 (.int .u32 0)) 200)) = .ok () (w1.alloc (.cells (tabTo 256) 200))) := Lib.hid (run_storeAt_new w1 200 _ (tabTo 256) (by rw [tabTo_size]; exact hsz.out) (by rw [tabTo_size, Array.size_replicate]) (tabTo_all 256))
  go_wp2_with (first | (refine wpList_store_at rfl 200 _ _ rfl _ _ rfl rfl HS.out ?_) | fail)
  obtain ⟨W, hW⟩ : ∃ W, W = w1.alloc (.cells (tabTo 256) 200) := ⟨_, rfl⟩
  have HW : Hid (Below w.heap.size w W) := Lib.hid (by rw [hW]; exact Hb1.out.alloc Hb1.out.size _)
  have HK : Hid (∀ k : Nat, k < 256 → W.cell? ⟨w1.heap.size, k, none⟩ = some (.int .u32 (dvs 8 k : Nat))) := Lib.hid fun k hk => by
    rw [hW, tab_cell w1 256 k hk, if_pos hk]
  have HB1 := Lib.hid (HB.out.on HW.out)
  rw [← hW]
  clear hW HS hsz hz Hb1 HB
  have hnn := not32 n hn
  obtain ⟨m, hm⟩ : ∃ m, m = 4294967295 - n := ⟨_, rfl⟩
  rw [← hm] at hnn
  have hm32 : m < 4294967296 := by omega
  have HM := Lib.hid hm
  clear hm
  generalize w1.heap.size = gk at *
  generalize tabTo 256 = T at *
  rw [hnn]
  clear hnn
  go_loopw [6, 14] (fun xv iv wr => ∃ i x : Nat, iv = .int .i64 i ∧ xv = .int .u32 x ∧ Hid (x = upd m (xs.take i)) ∧ x < 4294967296 ∧ i ≤ xs.length ∧ wr = W) (fun _ iv _ => (xs.length - intOf iv).toNat)
  case atStart => exact ⟨0, m, rfl, rfl, Lib.hid rfl, hm32, Nat.zero_le _, rfl⟩
  case round =>
    obtain ⟨i, x, rfl, rfl, hux, hx32, hi, rfl⟩ := hrel
    by_cases hil : i = xs.length
    · have hge : decide (i < xs.length) = false := decide_eq_false (by omega)
      have hn2 := not32 x hx32
      have HI := Lib.hid hil
      clear hil
      go_wp2_with fail
      go_ret
      refine ⟨ret_int ?_, HW.out⟩
      unfold sm
      rw [← HM.out, hux.out, HI.out, List.take_length]
    · have hlt : decide (i < xs.length) = true := decide_eq_true (by omega)
      obtain ⟨b0, o0, rfl, hc⟩ := HB1.out i (by omega)
      have hu := upd_snoc m xs i (by omega)
      have hy := byte_at Hx.out i
      rw [← hux.out] at hu
      generalize xs.getD i 0 = y at *
      have h8 := low8 x y hy
      have hst := step_tab x y
      have hk256 : x % 256 ^^^ y < 256 := Nat.xor_lt_two_pow (n := 8) (Nat.mod_lt _ (by decide)) hy
      generalize x % 256 ^^^ y = k at *
      have hck := HK.out k hk256
      have hxx := high8 x (dvs 8 k) hx32 (dvs_lt 8 k (by omega))
      rw [← hst, ← hu] at hxx
      have hx' : upd m (xs.take (i + 1)) < 4294967296 := by rw [hu, hst]; exact Nat.xor_lt_two_pow (n := 32) (by omega) (dvs_lt 8 k (by omega))
      obtain ⟨x', hxe⟩ : ∃ x', x' = upd m (xs.take (i + 1)) := ⟨_, rfl⟩
      rw [← hxe] at hxx hx'
      have HXE := Lib.hid hxe
      clear hxe hu hst hux
      go_wp2_with fail
      go_roundw
      case rel => exact ⟨i + 1, x', by go_num, rfl, HXE, hx', by omega, trivial⟩
      case measure => simp [intOf]; omega
theorem sum_ (a : Option Addr) (xs : List Nat) (c : Nat) (w : World) (h : BytesIn w a xs) (hx : ∀ x ∈ xs, x < 256) (hlim : xs.length ≤ 281474976710656) :
    Calls Tryz.prog 100 #[.slice a xs.length c] w fun e w' => e = .returned (.int .u32 (sm 0 xs : Nat)) ∧ Below w.heap.size w w' := by
  have H := Lib.hid (upd_ 0 a xs c w h hx (by decide) hlim)
  clear h hx
  go_enter Tryz.func100, Tryz.ntmps100
  go_wp2_with fail
  refine H.out.mono ?_
  rintro e w1 ⟨rfl, hb⟩
  have Hb := Lib.hid hb
  clear hb H
  go_wp2_with fail
  go_ret
  exact ⟨rfl, Hb.out⟩
end Go.Proofs.YtjnhcanohefjiaaGreatDoor

namespace Go.Proofs.YtjnhcanohefjiaaGreatDoor
open Go.RowKit Go.Sort

theorem below_setRow {B : Nat} {a w : World} {g : Nat} {cs : Array Value} (h : Below B a w) (hg : B ≤ g) : Below B a (w.setRow g cs) := by
  refine ⟨h.os, h.tape, h.output, ?_, fun k hk => ?_⟩
  · show a.heap.size ≤ (w.heap.modify g _).size
    rw [Array.size_modify]
    exact h.size
  · show (w.heap.modify g _)[k]? = _
    rw [Array.getElem?_modify, if_neg (by omega)]
    exact h.block k hk
theorem infoF : (Tryz.prog.info? 172).map (fun i => (i.zero, i.size)) = some (some (.agg (Array.replicate 4 (.int .u8 0))), 4) := by kernel_rfl
/-- The four bytes as an array. -/
def quad (n : Nat) : Array Value := (vals (four n)).toArray
theorem quad_size (n : Nat) : (quad n).size = 4 := rfl
theorem quad_all (n : Nat) : (quad n).all (·.oneCell') = true := by
  rw [Array.all_eq_true_iff_forall_mem]
  intro v hv
  exact vals_one (four n) v (by simpa [quad] using hv)
theorem quad_lit (s : Nat) (h : s < 4294967296) : #[Value.int .u8 ((s : Int) / 16777216), .int .u8 ((s : Int) / 65536 % 256), .int .u8 ((s : Int) / 256 % 256), .int .u8 ((s : Int) % 256)] = quad s := by
  have e : (s : Int) / 16777216 = ((s / 16777216 % 256 : Nat) : Int) := by omega
  rw [e]
  rfl
theorem storeAt_row (w : World) (g : Nat) (t : TypeId) (c c' : Array Value) (hg : w.heap[g]? = some (.cells c t)) (hi : (Tryz.prog.info? t).map (·.size) = some c'.size) (ho : c.size = c'.size) (h1 : c'.all (·.oneCell') = true) :
    (Instr.storeAt t (.pointer (some ⟨g, 0, none⟩)) (.agg c')).run Tryz.prog w = .ok () (w.setRow g c') := by
  simp only [Instr.storeAt, Instr.sureAddr, Sem.run_bind, Sem.run_pure, Result.andThen]
  exact run_storeVar_row (P := Tryz.prog) w g t t c c' hg hi ho h1
set_option maxRecDepth 100000 in
set_option maxHeartbeats 1000000 in
theorem sealOf_ (a : Option Addr) (xs : List Nat) (c : Nat) (w : World) (h : BytesIn w a xs) (hx : ∀ x ∈ xs, x < 256) (hlim : xs.length ≤ 281474976710656) :
    Calls Tryz.prog 91 #[.slice a xs.length c] w fun e w' => e = .returned (.agg (quad (sm 0 xs))) ∧ Below w.heap.size w w' := by
  have hz := Lib.hid (zero_of_info infoF).1
  have hsz := Lib.hid (zero_of_info infoF).2
  obtain ⟨W, hW⟩ : ∃ W, W = w.alloc (.cells #[.int .u8 0, .int .u8 0, .int .u8 0, .int .u8 0] 172) := ⟨_, rfl⟩
  have HbW : Hid (Below w.heap.size w W) := Lib.hid (by rw [hW]; exact (Below.refl _ _).alloc (Nat.le_refl _) _)
  have HgW : Hid (W.heap[w.heap.size]? = some (.cells #[.int .u8 0, .int .u8 0, .int .u8 0, .int .u8 0] 172)) := Lib.hid (by rw [hW]; exact heap_alloc_last w _)
  have H := Lib.hid (sum_ a xs c W (h.on HbW.out) hx hlim)
  clear h hx
  have hs := sm_lt 0 xs
  generalize sm 0 xs = s at *
  go_enter Tryz.func91, Tryz.ntmps91
  go_wp2_with fail
  rw [← hW]
  refine H.out.mono ?_
  rintro e w1 ⟨rfl, hb⟩
  have Hb := Lib.hid (below_step HbW.out hb)
  have hg1 : w1.heap[w.heap.size]? = some (.cells #[.int .u8 0, .int .u8 0, .int .u8 0, .int .u8 0] 172) := (hb.block _ (by rw [hW]; simp)).trans HgW.out
  have hst := storeAt_row w1 w.heap.size 172 _ (quad s) hg1 (by rw [quad_size]; exact hsz.out) rfl (quad_all s)
  have HG := Lib.hid (setRow_heap w1 w.heap.size _ (quad s) 172 (0, 0) hg1)
  have HB2 := Lib.hid (below_setRow (g := w.heap.size) (cs := quad s) Hb.out (Nat.le_refl _))
  have hq := quad_lit s hs
  generalize hw2 : w1.setRow w.heap.size (quad s) = w2 at *
  rw [← hq] at hst
  have HS := Lib.hid hst
  clear hb H hW HbW HgW hg1 hz hw2 hst hq
  have HL := Lib.hid (run_loadVar_row (P := Tryz.prog) w2 w.heap.size 172 172 (quad s) (0, 0) _ HG.out Tryz.underlying172 rfl (by rw [quad_size]; exact hsz.out))
  go_wp2_with (first | (refine wpList_store_at rfl 172 _ _ rfl _ _ rfl rfl HS.out ?_) | fail)
  refine bodyPost_ret (v := .agg (quad s)) ?_ rfl ⟨rfl, HB2.out⟩
  rw [results_cell rfl]
  simp [asAddr, Result.andThen, Act.put, HL.out]
theorem BytesIn.far {w w' : World} {a : Option Addr} {xs : List Nat} {row : Option Nat} (h : BytesIn w a xs) (hg : w.grownBy w' row) (hne : ∀ b o, a = some ⟨b, o, none⟩ → some b ≠ row) : BytesIn w' a xs := by
  intro i hi
  obtain ⟨b, o, e, h1⟩ := h i hi
  exact ⟨b, o, e, (hg.cell_far ⟨b, o + i, none⟩ (block_lt_of_cell h1) (hne b o e)).trans h1⟩
theorem far_ne {g k n c : Nat} (h : g ≠ k) : ∀ b o, (some ⟨g, 0, none⟩ : Option Addr) = some ⟨b, o, none⟩ → some b ≠ (Value.slice (some ⟨k, 0, none⟩) n c).ownBlock := by
  intro b o e hh
  cases e
  exact h (Option.some.inj hh)
theorem four_length (n : Nat) : (four n).length = 4 := rfl
theorem quad_in (w : World) (s : Nat) : BytesIn (w.alloc (.cells (quad s) 172)) (some ⟨w.heap.size, 0, none⟩) (four s) := by
  intro i hi
  refine ⟨_, _, rfl, ?_⟩
  rw [Nat.zero_add, cell_of_row _ _ i _ 172 (0, 0) (heap_alloc_last w _)]
  have := vals_get (four s) i hi
  simpa [quad] using this
set_option maxRecDepth 100000 in
set_option maxHeartbeats 1000000 in
theorem seal_ (a : Option Addr) (xs : List Nat) (c : Nat) (w : World) (h : BytesIn w a xs) (hx : ∀ x ∈ xs, x < 256) (hc : a = none → c = 0) (hlim : xs.length ≤ 140737488355320) :
    Calls Tryz.prog 71 #[.slice a xs.length c] w (Made w (xs ++ four (sm 0 xs))) := by
  have hsz := Lib.hid (zero_of_info infoF).2
  have H := Lib.hid (fun W (hW : Below w.heap.size w W) => sealOf_ a xs c W (h.on hW) hx (by omega))
  have HB := Lib.hid h
  have HC := Lib.hid hc
  clear h hx hc
  generalize sm 0 xs = s at *
  obtain ⟨len, hlen⟩ : ∃ len, xs.length = len := ⟨_, rfl⟩
  have HL := Lib.hid hlen
  rw [hlen] at hlim H ⊢
  clear hlen
  obtain ⟨i0, hi, hz0, hz1, hz2⟩ := info_parts infoB
  have HI := Lib.hid hi
  have HZ0 := Lib.hid hz0
  have HZ1 := Lib.hid hz1
  have HZ2 := Lib.hid hz2
  clear hi hz0 hz1 hz2
  go_enter Tryz.func71, Tryz.ntmps71
  go_wp2_with fail
  refine (H.out w (Below.refl _ _)).mono ?_
  rintro e w1 ⟨rfl, hb⟩
  have HS := Lib.hid (run_storeAt_new (P := Tryz.prog) w1 172 #[.int .u8 0, .int .u8 0, .int .u8 0, .int .u8 0] (quad s) (by rw [quad_size]; exact hsz.out) rfl (quad_all s))
  obtain ⟨W2, hW2⟩ : ∃ W2, W2 = w1.alloc (.cells (quad s) 172) := ⟨_, rfl⟩
  have Hb2 : Hid (Below w.heap.size w W2) := Lib.hid (by rw [hW2]; exact hb.alloc hb.size _)
  have HQ : Hid (BytesIn W2 (some ⟨w1.heap.size, 0, none⟩) (four s)) := Lib.hid (by rw [hW2]; exact quad_in w1 s)
  have HW2 : Hid (W2.heap.size = w1.heap.size + 1) := Lib.hid (by rw [hW2]; simp)
  rw [← hW2] at HS
  clear hb H hW2
  have hsz2 := Hb2.out.size
  go_wp2_with (first
    | (refine wpList_store_at rfl 172 _ _ rfl _ _ rfl rfl HS.out ?_)
    | (at_make; refine wpList_make_own _ rfl _ _ _ rfl w.heap.size 5 i0 _ 1 Tryz.underlying53 HI.out HZ0.out HZ1.out .i64 .i64 (len + 4) (len + 4) rfl rfl (by simp) (by rw [HZ2.out]; omega) (by unfold maxLen; omega) hsz2 ?_
       intro w3 hown hgrow
       have HO3 : Hid (Own w3 w.heap.size _ []) := Lib.hid hown
       have Hb3 := Lib.hid (Hb2.out.grown hgrow hsz2 (fun k hk => by cases hk))
       have HQ3 := Lib.hid (HQ.out.on ((Below.refl _ _).grown hgrow (Nat.le_refl _) (fun k hk => by cases hk)))
       have hsz3 := Hb3.out.size
       clear hown hgrow)
    | (at_builtin; refine wpList_append_bytes _ rfl _ _ rfl w.heap.size _ [] xs rfl HO3.out a len c rfl HL.out HC.out (HB.out.on Hb3.out) (by rw [HL.out]; simp; omega) hsz3 ?_
       intro v4 w4 hown hgrow
       have HO4 := Lib.hid hown
       have Hb4 := Lib.hid (below_grow Hb3.out HO3.out hgrow)
       have HQ4 := Lib.hid (HQ3.out.far hgrow (far_ne (by rw [HW2.out]; omega)))
       have hsz4 := Hb4.out.size
       clear hown hgrow)
    | (at_builtin; refine wpList_append_bytes _ rfl _ _ rfl w.heap.size _ ([] ++ xs) (four s) rfl HO4.out _ 4 4 rfl rfl (fun hh => by cases hh) HQ4.out (by rw [List.nil_append, HL.out, four_length]; omega) hsz4 ?_
       intro v5 w5 hown hgrow
       have HO5 := Lib.hid hown
       have Hb5 := Lib.hid (below_grow Hb4.out HO4.out hgrow)
       clear hown hgrow)
    | fail)
  go_ret
  exact made_of HO5.out Hb5.out
end Go.Proofs.YtjnhcanohefjiaaGreatDoor

namespace Go.Proofs.YtjnhcanohefjiaaGreatDoor
open Go.RowKit Go.Sort

theorem part_at (w : World) (A : Array Value) (i : Nat) (v : Value) (h : A[i]? = some v) : (part 5 A i).run Tryz.prog w = .ok v w := by
  have hagg : (isAgg 5).run Tryz.prog w = .ok false w := by
    unfold isAgg
    rw [Sem.run_bind, run_underlying Tryz.underlying5 w]
    rfl
  simp [part, Sem.run_bind, hagg, h]
theorem eq4 (d : Nat) (w : World) (z0 z1 z2 z3 q0 q1 q2 q3 : Int) :
    (Op.equalIn (d + 1 + 1) 172 (.agg #[.int .u8 z0, .int .u8 z1, .int .u8 z2, .int .u8 z3]) (.agg #[.int .u8 q0, .int .u8 q1, .int .u8 q2, .int .u8 q3])).run Tryz.prog w = .ok (z0 == q0 && z1 == q1 && z2 == q2 && z3 == q3) w := by
  have hsz : (sizeOf 5).run Tryz.prog w = .ok 1 w := by
    obtain ⟨i0, hi, hz0, hz1, hz2⟩ := info_parts infoB
    simp [sizeOf, typeInfo, hi, hz1]
  have he := fun (x y : Int) => run_equalIn_int (P := Tryz.prog) w d 5 .u8 .u8 x y Tryz.underlying5
  have p0 := part_at w #[.int .u8 z0, .int .u8 z1, .int .u8 z2, .int .u8 z3] 0 (.int .u8 z0) rfl
  have p1 := part_at w #[.int .u8 z0, .int .u8 z1, .int .u8 z2, .int .u8 z3] 1 (.int .u8 z1) rfl
  have p2 := part_at w #[.int .u8 z0, .int .u8 z1, .int .u8 z2, .int .u8 z3] 2 (.int .u8 z2) rfl
  have p3 := part_at w #[.int .u8 z0, .int .u8 z1, .int .u8 z2, .int .u8 z3] 3 (.int .u8 z3) rfl
  have r0 := part_at w #[.int .u8 q0, .int .u8 q1, .int .u8 q2, .int .u8 q3] 0 (.int .u8 q0) rfl
  have r1 := part_at w #[.int .u8 q0, .int .u8 q1, .int .u8 q2, .int .u8 q3] 1 (.int .u8 q1) rfl
  have r2 := part_at w #[.int .u8 q0, .int .u8 q1, .int .u8 q2, .int .u8 q3] 2 (.int .u8 q2) rfl
  have r3 := part_at w #[.int .u8 q0, .int .u8 q1, .int .u8 q2, .int .u8 q3] 3 (.int .u8 q3) rfl
  rw [Op.equalIn]
  simp only [Sem.run_bind, run_underlying Tryz.underlying172, Result.andThen_ok, hsz, Std.Legacy.Range.forIn_eq_forIn_range', Std.Legacy.Range.size]
  generalize #[Value.int .u8 z0, .int .u8 z1, .int .u8 z2, .int .u8 z3] = A at *
  generalize #[Value.int .u8 q0, .int .u8 q1, .int .u8 q2, .int .u8 q3] = B at *
  rw [show List.range' 0 ((4 - 0 + 1 - 1) / 1) = [0, 1, 2, 3] from rfl]
  cases h0 : (z0 == q0) <;> cases h1 : (z1 == q1) <;> cases h2 : (z2 == q2) <;> cases h3 : (z3 == q3) <;> simp [List.forIn_cons, Sem.run_bind, p0, p1, p2, p3, r0, r1, r2, r3, he, h0, h1, h2, h3, Result.andThen_ok]
theorem neq4 (w : World) (z0 z1 z2 z3 q0 q1 q2 q3 : Int) :
    (binOp .neq 172 (.agg #[.int .u8 z0, .int .u8 z1, .int .u8 z2, .int .u8 z3]) (.agg #[.int .u8 q0, .int .u8 q1, .int .u8 q2, .int .u8 q3])).run Tryz.prog w = .ok (.bool (!(z0 == q0 && z1 == q1 && z2 == q2 && z3 == q3))) w := by
  rw [run_neq_struct, eq4 9998]
  rfl
end Go.Proofs.YtjnhcanohefjiaaGreatDoor

namespace Go.Proofs.YtjnhcanohefjiaaGreatDoor
open Go.RowKit Go.Sort

theorem own_empty (w : World) : Own (w.alloc (.cells #[] 5)) w.heap.size (.slice (some ⟨w.heap.size, 0, none⟩) 0 0) [] := World.ownsRow_lit w #[] 0 (Nat.le_refl _) (by decide) rfl
set_option maxRecDepth 100000 in
set_option maxHeartbeats 1000000 in
theorem clone_ (a : Option Addr) (xs : List Nat) (c : Nat) (w : World) (h : BytesIn w a xs) (hc : a = none → c = 0) (hlim : xs.length ≤ 140737488355328) :
    Calls Tryz.prog 26 #[.slice a xs.length c] w (Made w xs) := by
  have HB := Lib.hid h
  have HC := Lib.hid hc
  clear h hc
  obtain ⟨len, hlen⟩ : ∃ len, xs.length = len := ⟨_, rfl⟩
  have HL := Lib.hid hlen
  rw [hlen] at hlim ⊢
  clear hlen
  have q : ∀ (w : World) (a : Option Addr) (n c n' c' : Nat), (binOp .eql 53 (.slice a n c) (.slice none n' c')).run Tryz.prog w = .ok (.bool a.isNone) w := fun w a n c n' c' => Lib.run_eql_slice_nil w _ _ a n c n' c' Tryz.underlying53
  cases a with
  | none =>
    have hx := bytes_none HB.out
    have hc0 := HC.out rfl
    subst hx hc0
    obtain rfl : 0 = len := HL.out
    go_enter Tryz.func26, Tryz.ntmps26
    go_wp2_with fail
    go_ret
    exact made_of (own_nil _ _) (Below.refl _ _)
  | some ad =>
    go_enter Tryz.func26, Tryz.ntmps26
    go_wp2_with (first
      | (at_builtin; refine wpList_append_bytes _ rfl _ _ rfl w.heap.size _ [] xs rfl (own_empty w) (some ad) len c rfl HL.out HC.out (HB.out.on ((Below.refl _ _).alloc (Nat.le_refl _) _)) (by rw [HL.out]; simpa using hlim) (by simp) ?_
         intro v2 w2 hown hgrow
         have HO := Lib.hid hown
         have Hb := Lib.hid (below_grow ((Below.refl _ _).alloc (Nat.le_refl _) _) (own_empty w) hgrow)
         clear hown hgrow)
      | fail)
    go_ret
    exact made_of HO.out Hb.out
/-- What Open hands back. -/
def Opened (w : World) (ys : List Nat) (er : Nat) (e : Ending) (w' : World) : Prop :=
  ∃ a c, e = .returned (.tuple #[.slice a ys.length c, errV er]) ∧ Own w' w.heap.size (.slice a ys.length c) ys ∧ BytesIn w' a ys ∧ (a = none → c = 0) ∧ Below w.heap.size w w'
theorem opened_nil {w w' : World} {n : Nat} (hb : Below w.heap.size w w') : Opened w [] n (.returned (.tuple #[.slice none 0 0, errV n])) w' :=
  ⟨none, 0, rfl, own_nil _ _, bytesIn_nil _ _, fun _ => rfl, hb⟩
theorem drop_four (xs : List Nat) (cut : Nat) (h : xs.length = cut + 4) : xs.drop cut = [xs.getD cut 0, xs.getD (cut + 1) 0, xs.getD (cut + 2) 0, xs.getD (cut + 3) 0] := by
  apply List.ext_getElem?
  intro i
  rw [List.getElem?_drop]
  match i with
  | 0 => simp [List.getD_eq_getElem?_getD, List.getElem?_eq_getElem (show cut < xs.length by omega)]
  | 1 => simp [List.getD_eq_getElem?_getD, List.getElem?_eq_getElem (show cut + 1 < xs.length by omega)]
  | 2 => simp [List.getD_eq_getElem?_getD, List.getElem?_eq_getElem (show cut + 2 < xs.length by omega)]
  | 3 => simp [List.getD_eq_getElem?_getD, List.getElem?_eq_getElem (show cut + 3 < xs.length by omega)]
  | k + 4 => rw [List.getElem?_eq_none (by omega)]; simp
theorem take_in {w : World} {a : Option Addr} {xs : List Nat} (h : BytesIn w a xs) (n : Nat) : BytesIn w a (xs.take n) := by
  intro i hi
  rw [List.length_take] at hi
  obtain ⟨b, o, e, h1⟩ := h i (by omega)
  refine ⟨b, o, e, ?_⟩
  rw [h1, List.getD_eq_getElem?_getD, List.getD_eq_getElem?_getD, List.getElem?_take, if_pos (by omega)]
theorem same4 (z0 z1 z2 z3 q0 q1 q2 q3 : Nat) : ((z0 : Int) == q0 && (z1 : Int) == q1 && (z2 : Int) == q2 && (z3 : Int) == q3) = decide ([z0, z1, z2, z3] = [q0, q1, q2, q3]) := by
  rw [Bool.eq_iff_iff]
  simp only [Bool.and_eq_true, beq_iff_eq, decide_eq_true_eq, List.cons.injEq, and_true]
  omega
theorem guardF : Tryz.prog.eqGuardType Tryz.prog.depth 172 = false := by kernel_rfl
set_option maxRecDepth 100000 in
set_option maxHeartbeats 2000000 in
theorem open_ (a : Option Addr) (xs : List Nat) (c : Nat) (w : World) (h : BytesIn w a xs) (hx : ∀ x ∈ xs, x < 256) (hcap : xs.length ≤ c) (hlim : xs.length ≤ 140737488355328) :
    Calls Tryz.prog 75 #[.slice a xs.length c] w (Opened w (opn xs).1 (opn xs).2) := by
  by_cases h4 : xs.length < 4
  · have e : opn xs = ([], 12) := if_pos h4
    rw [e]
    have hlt : decide ((xs.length : Int) - 4 < 0) = true := decide_eq_true (by omega)
    generalize xs.length = len at *
    clear h hx e
    go_enter Tryz.func75, Tryz.ntmps75
    go_wp2_with fail
    go_ret2
    exact opened_nil (Below.refl _ _)
  · obtain ⟨b0, o0, rfl, _⟩ := h 0 (by omega)
    obtain ⟨cut, hcut⟩ : ∃ cut, xs.length = cut + 4 := ⟨xs.length - 4, by omega⟩
    have hd := drop_four xs cut hcut
    have e : opn xs = if xs.drop cut = four (sm 0 (xs.take cut)) then (xs.take cut, 0) else ([], 11) := by
      unfold opn
      rw [if_neg h4, show xs.length - 4 = cut by omega]
    have hlt : (xs.take cut).length = cut := by rw [List.length_take]; omega
    have HS : Hid (∀ W', Below w.heap.size w W' → Calls Tryz.prog 91 #[.slice (some ⟨b0, o0, none⟩) cut c] W' fun e w' => e = .returned (.agg (quad (sm 0 (xs.take cut)))) ∧ Below W'.heap.size W' w') := Lib.hid fun W' hW => by
      have := sealOf_ (some ⟨b0, o0, none⟩) (xs.take cut) c W' (take_in (h.on hW) cut) (fun x hm => hx x (List.mem_of_mem_take hm)) (by omega)
      rw [hlt] at this
      exact this
    have HC : Hid (∀ W', Below w.heap.size w W' → Calls Tryz.prog 26 #[.slice (some ⟨b0, o0, none⟩) cut c] W' (Made W' (xs.take cut))) := Lib.hid fun W' hW => by
      have := clone_ (some ⟨b0, o0, none⟩) (xs.take cut) c W' (take_in (h.on hW) cut) (fun hh => by cases hh) (by omega)
      rw [hlt] at this
      exact this
    have hcell : ∀ k, k < 4 → w.cell? ⟨b0, o0 + (cut + k), none⟩ = some (.int .u8 (xs.getD (cut + k) 0 : Nat)) := fun k hk => by
      obtain ⟨b, o, e, h1⟩ := h (cut + k) (by omega)
      cases e
      exact h1
    have C0 : ∀ W', Below w.heap.size w W' → W'.cell? ⟨b0, o0 + cut, none⟩ = some (.int .u8 (xs.getD cut 0 : Nat)) := fun W' hW => (hW.cell (block_lt_of_cell (hcell 0 (by decide)))).trans (hcell 0 (by decide))
    have C1 : ∀ W', Below w.heap.size w W' → W'.cell? ⟨b0, o0 + cut + 1, none⟩ = some (.int .u8 (xs.getD (cut + 1) 0 : Nat)) := fun W' hW => (hW.cell (block_lt_of_cell (hcell 1 (by decide)))).trans (hcell 1 (by decide))
    have C2 : ∀ W', Below w.heap.size w W' → W'.cell? ⟨b0, o0 + cut + 2, none⟩ = some (.int .u8 (xs.getD (cut + 2) 0 : Nat)) := fun W' hW => (hW.cell (block_lt_of_cell (hcell 2 (by decide)))).trans (hcell 2 (by decide))
    have C3 : ∀ W', Below w.heap.size w W' → W'.cell? ⟨b0, o0 + cut + 3, none⟩ = some (.int .u8 (xs.getD (cut + 3) 0 : Nat)) := fun W' hW => (hW.cell (block_lt_of_cell (hcell 3 (by decide)))).trans (hcell 3 (by decide))
    rw [hd] at e
    rw [hcut] at hcap hlim ⊢
    generalize xs.getD cut 0 = z0 at *
    generalize xs.getD (cut + 1) 0 = z1 at *
    generalize xs.getD (cut + 2) 0 = z2 at *
    generalize xs.getD (cut + 3) 0 = z3 at *
    generalize sm 0 (xs.take cut) = s at *
    obtain ⟨q0, q1, q2, q3, hq, hq'⟩ : ∃ q0 q1 q2 q3 : Nat, four s = [q0, q1, q2, q3] ∧ quad s = #[.int .u8 (q0 : Int), .int .u8 (q1 : Int), .int .u8 (q2 : Int), .int .u8 (q3 : Int)] := ⟨_, _, _, _, rfl, rfl⟩
    rw [hq'] at HS
    rw [hq] at e
    have hneq := fun W => neq4 W z0 z1 z2 z3 q0 q1 q2 q3
    rw [same4] at hneq
    have hm := guardF
    have hat : ∀ (W : World) (a : Option Addr) (cc : Nat), (Instr.arrayAt 172 (.slice a 4 cc)).run Tryz.prog W = .ok (.pointer a) W := fun W a cc => run_arrayAt W 172 _ 4 a 4 cc Tryz.underlying172 (by decide)
    have hcc : ¬ c = cut := by omega
    have hc1 : (cut : Int) ≤ (c : Int) := by omega
    have hc0 : (0 : Int) ≤ (cut : Int) := by omega
    have hc2 : (cut : Int) ≤ (cut : Int) + 4 := by omega
    have hc3 : (cut : Int) ≤ ((cut + 4 : Nat) : Int) := by omega
    clear hcut h4 hcell hd hq hq' h hx
    have E1 : Hid (decide ([z0, z1, z2, z3] = [q0, q1, q2, q3]) = true → opn xs = (xs.take cut, 0)) := Lib.hid fun hh => by rw [e, if_pos (of_decide_eq_true hh)]
    have E0 : Hid (decide ([z0, z1, z2, z3] = [q0, q1, q2, q3]) = false → opn xs = ([], 11)) := Lib.hid fun hh => by rw [e, if_neg (of_decide_eq_false hh)]
    generalize decide ([z0, z1, z2, z3] = [q0, q1, q2, q3]) = be at *
    clear e
    clear hlt
    generalize xs.take cut = ys at *
    go_enter Tryz.func75, Tryz.ntmps75
    go_wp2_with fail
    refine wp_region_noPanic ?_
    go_region_held (fun W' => Below w.heap.size w W') (first | assumption | exact Below.refl _ _ | exact below_drew _ | exact below_step (by assumption) (by assumption))
      (first | (go_at_call 91; refine (HS.out _ (by assumption)).mono ?_; rintro e w' ⟨rfl, hbb⟩) | fail)
    all_goals
      refine NoPanic.normal ?_
      have hbE : Below w.heap.size w w' := by assumption
      have HbE := Lib.hid hbE
      clear hbE C0 C1 C2 C3 hneq hat hm hbb
      cases be with
      | true =>
        go_wp2_with fail
        refine (HC.out w' HbE.out).mono ?_
        rintro e w2 ⟨a2, c2, rfl, hO, hI, hN, hb2⟩
        have HO := Lib.hid hO
        have HI := Lib.hid hI
        have HN := Lib.hid hN
        have Hb2 := Lib.hid (below_step HbE.out hb2)
        have hs := HbE.out.size
        clear hO hI hN hb2
        go_wp2_with fail
        go_ret2
        rw [E1.out trivial]
        exact ⟨a2, c2, rfl, HO.out.lower hs, HI.out, HN.out, Hb2.out⟩
      | false =>
        go_wp2_with fail
        go_ret2
        rw [E0.out trivial]
        exact opened_nil HbE.out
end Go.Proofs.YtjnhcanohefjiaaGreatDoor
