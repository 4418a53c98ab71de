/- The walks of label.Valid, letter, letters, bitsOf, Text. -/
import Derived.Test.YtoompephogamaaaGreatDoorW1
import Derived.Test.YtoompephogamaaaGreatDoorText
import Derived.Test.YtoompephogamaaaGreatDoorShelf
namespace Go.Proofs.YtoompephogamaaaGreatDoor
open Go.RowKit Go.Sort

set_option maxHeartbeats 400000 in
theorem valid12_yes (r : Int) (c : Nat) (w : World) (h : okL r c = true) :
    Calls Tryz.prog 18 #[.agg #[.int .i64 r, .int .u32 c]] w fun e w' => e = .returned .nilIface ∧ Below w.heap.size w w' := by
  obtain ⟨h0, h1, h2⟩ := okL_iff.1 h
  clear h
  have hc : c < 4294967296 := by omega
  have b0 : decide (r < 0) = false := by simp; omega
  have b1 : decide (15 < r) = false := by simp; omega
  have b2 : ((c : Int) / 67108864 != 0) = false := by simp; omega
  go_enter Tryz.func18, Tryz.ntmps18
  go_wp2
  go_ret
  exact ⟨rfl, (Below.refl _ _).alloc (Nat.le_refl _) _⟩
theorem okL_not {r : Int} {c : Nat} (h : okL r c = false) : r < 0 ∨ (0 ≤ r ∧ 15 < r) ∨ (0 ≤ r ∧ r ≤ 15 ∧ 67108864 ≤ c) := by
  by_cases h0 : 0 ≤ r
  · by_cases h1 : r ≤ 15
    · by_cases h2 : c < 67108864
      · rw [okL_iff.2 ⟨h0, h1, h2⟩] at h; cases h
      · omega
    · omega
  · omega
set_option maxHeartbeats 400000 in
theorem valid12_no (r : Int) (c : Nat) (w : World) (hc : c < 4294967296) (h : okL r c = false) :
    Calls Tryz.prog 18 #[.agg #[.int .i64 r, .int .u32 c]] w fun e w' => e = .returned (.iface 49 (.int .i64 20)) ∧ Below w.heap.size w w' := by
  rcases okL_not h with h0 | ⟨h0, h1⟩ | ⟨h0, h1, h2⟩
  · clear h
    go_enter Tryz.func18, Tryz.ntmps18
    go_wp2
    go_ret
    exact ⟨rfl, (Below.refl _ _).alloc (Nat.le_refl _) _⟩
  · clear h
    have b0 : decide (r < 0) = false := by simp; omega
    go_enter Tryz.func18, Tryz.ntmps18
    go_wp2
    go_ret
    exact ⟨rfl, (Below.refl _ _).alloc (Nat.le_refl _) _⟩
  · clear h
    have b0 : decide (r < 0) = false := by simp; omega
    have b1 : decide (15 < r) = false := by simp; omega
    have b2 : ((c : Int) / 67108864 != 0) = true := by simp; omega
    go_enter Tryz.func18, Tryz.ntmps18
    go_wp2
    go_ret
    exact ⟨rfl, (Below.refl _ _).alloc (Nat.le_refl _) _⟩

set_option maxHeartbeats 400000 in
theorem letter30 (i : Nat) (w : World) (hi : i < 26) :
    Calls Tryz.prog 52 #[.int .i64 i] w fun e w' => e = .returned (.int .u8 (97 + i)) ∧ w' = w := by
  go_enter Tryz.func52, Tryz.ntmps52
  go_wp2
  go_ret
  exact ⟨rfl, rfl⟩

def idxL (s : List UInt8) (k : Nat) : Int := Lib.indexByte s (ltr k)
theorem idx35 (s : ByteArray) (k : Nat) (w : World) :
    Calls Tryz.prog 58 #[.string s, .int .u8 (97 + k)] w fun e w' => e = .returned (.int .i64 (idxL s.data.toList k)) ∧ w' = w := by
  refine (Tryz.strings_IndexByte s (97 + k) w).mono ?_
  rintro e w' ⟨rfl, rfl⟩
  have e1 : (97 + (k : Int)).toNat = 97 + k := by omega
  refine ⟨?_, rfl⟩
  rw [e1]
  rfl
theorem pow_mod (k : Nat) (h : 2 ^ k < 4294967296) : ((2 : Int) ^ k % 4294967296) = ((2 ^ k : Nat) : Int) := by
  have e : ((2 : Int) ^ k) = ((2 ^ k : Nat) : Int) := by push_cast; rfl
  rw [e]
  generalize 2 ^ k = n at h
  omega
theorem bits_step {s : List UInt8} {k : Nat} (hk : k < 26) (h : 0 ≤ idxL s k) : bits BinOp.or IntKind.u32 (bitsTo s k : Int) (2 ^ k % 4294967296) = (bitsTo s (k + 1) : Int) := by
  have hm : ltr k ∈ s := (index_mem _ _).1 h
  have h1 : bitsTo s k < 4294967296 := Nat.lt_of_lt_of_le (bitsTo_lt s k) (show 2 ^ k ≤ 2 ^ 32 from Nat.pow_le_pow_right (by omega) (by omega))
  have h2 : 2 ^ k < 4294967296 := Nat.lt_of_lt_of_le (Nat.pow_lt_pow_right (by omega) hk) (show 2 ^ 26 ≤ 2 ^ 32 by decide)
  have e := pow_mod k h2
  rw [e, u32_or_nat _ _ h1 h2, bitsTo, if_pos hm]
theorem bits_stay {s : List UInt8} {k : Nat} (h : idxL s k < 0) : bitsTo s (k + 1) = bitsTo s k := by
  have hm : ¬ ltr k ∈ s := fun hm => by have := (index_mem _ _).2 hm; unfold idxL at h; omega
  rw [bitsTo, if_neg hm, Nat.or_zero]

set_option maxHeartbeats 400000 in
theorem bits26 (s : ByteArray) (w : World) :
    Calls Tryz.prog 44 #[.string s] w fun e w' => e = .returned (.int .u32 (bitsTo s.data.toList 26)) ∧ w' = w := by
  go_enter Tryz.func44, Tryz.ntmps44
  go_wp2
  go_loop [3, 5] (fun cv iv => ∃ k : Nat, k ≤ 26 ∧ iv = .int .i64 k ∧ cv = .int .u32 (bitsTo s.data.toList k)) (fun _ iv => 26 - (intOf iv).toNat)
  case atStart => exact ⟨0, Nat.zero_le _, rfl, rfl⟩
  case round =>
    obtain ⟨k, hk, rfl, rfl⟩ := hrel
    by_cases hlt : k < 26
    · go_wp2_with fail
      refine (letter30 k _ hlt).mono ?_
      rintro e w1 ⟨rfl, rfl⟩
      go_wp2_with fail
      refine (idx35 s k _).mono ?_
      rintro e w1 ⟨rfl, rfl⟩
      by_cases hm : 0 ≤ idxL s.data.toList k
      · have HB : Hid (bits BinOp.or IntKind.u32 (bitsTo s.data.toList k : Int) (2 ^ k % 4294967296) = (bitsTo s.data.toList (k + 1) : Int)) := bits_step hlt hm
        go_wp2_with fail
        exact ⟨⟨k + 1, by omega, by go_num, by rw [HB.out]⟩, by simp [intOf]; omega⟩
      · have HB : Hid (bitsTo s.data.toList (k + 1) = bitsTo s.data.toList k) := bits_stay (by omega)
        go_wp2_with fail
        exact ⟨⟨k + 1, by omega, by go_num, by rw [HB.out]⟩, by simp [intOf]; omega⟩
    · obtain rfl : k = 26 := by omega
      go_wp2_with fail
      go_ret
      exact ⟨rfl, rfl⟩

theorem cells_step {c k : Nat} (hk : k < 26) (h : c.testBit k = true) : Lib.byteCells (lettersTo c k) ++ [.int .u8 (97 + k)] = Lib.byteCells (lettersTo c (k + 1)) := by
  rw [lettersTo, if_pos h, Lib.byteCells_append]
  unfold Lib.byteCells
  rw [List.map_singleton, ltr_nat hk]
  rfl
theorem bit_test {c k : Nat} (hc : c < 4294967296) (hk : k < 26) : (bits BinOp.and IntKind.u32 (c : Int) (2 ^ k % 4294967296) != 0) = c.testBit k := by
  have h2 : 2 ^ k < 4294967296 := Nat.lt_of_lt_of_le (Nat.pow_lt_pow_right (by omega) hk) (show 2 ^ 26 ≤ 2 ^ 32 by decide)
  have e := pow_mod k h2
  rw [e, u32_and_nat _ _ hc h2, Bool.eq_iff_iff, bne_iff_ne]
  constructor
  · intro h
    cases ht : c.testBit k
    · refine absurd ?_ h
      have : c &&& 2 ^ k = 0 := by
        apply Nat.eq_of_testBit_eq
        intro i
        rw [Nat.testBit_and, Nat.testBit_two_pow, Nat.zero_testBit]
        by_cases hi : k = i
        · subst hi; rw [ht]; rfl
        · rw [decide_eq_false hi, Bool.and_false]
      rw [this]; rfl
    · rfl
  · intro ht h
    have h0 : c &&& 2 ^ k = 0 := by omega
    have := congrArg (fun n => n.testBit k) h0
    simp [ht] at this

set_option maxHeartbeats 400000 in
theorem letters22 (c : Nat) (w : World) (hc : c < 4294967296) :
    Calls Tryz.prog 38 #[.int .u32 c] w fun e w' => e = .returned (.string ⟨(lettersTo c 26).toArray⟩) ∧ Below w.heap.size w w' := by
  go_enter Tryz.func38, Tryz.ntmps38
  go_wp2
  go_loopw [5] (fun iv wr => ∃ k : Nat, k ≤ 26 ∧ iv = .int .i64 k ∧ Lib.IsBuilder 93 5 w.heap.size w.heap.size (Lib.byteCells (lettersTo c k)) wr ∧ Below w.heap.size w wr) (fun iv _ => 26 - (intOf iv).toNat)
  case atStart => exact ⟨0, Nat.zero_le _, rfl, Lib.fresh_isBuilder 93 5 w, (Below.refl _ _).alloc (Nat.le_refl _) _⟩
  case round =>
    obtain ⟨k, hk, rfl, hB, hb⟩ := hrel
    by_cases hlt : k < 26
    · have hl := lettersTo_len c k
      have HT : Hid ((bits BinOp.and IntKind.u32 (c : Int) (2 ^ k % 4294967296) != 0) = c.testBit k) := bit_test hc hlt
      cases ht : c.testBit k
      · have hT := HT.out
        rw [ht] at hT
        have HL : Hid (lettersTo c (k + 1) = lettersTo c k) := by unfold Hid; rw [lettersTo, ht]; simp
        clear HT
        go_wp2_with fail
        exact ⟨⟨k + 1, by omega, by go_num, by rw [HL.out]; exact hB, hb⟩, by simp [intOf]; omega⟩
      · have hT := HT.out
        rw [ht] at hT
        clear HT
        go_wp2_with fail
        refine (letter30 k _ hlt).mono ?_
        rintro e w1 ⟨rfl, rfl⟩
        go_wp2_with fail
        refine (Tryz.Builder_WriteByte w.heap.size w.heap.size _ _ _ hB (by rw [Lib.byteCells_length]; omega) hb.size).mono ?_
        rintro e w2 ⟨rfl, hB2, hb2⟩
        rw [cells_step hlt ht] at hB2
        have HB2 : Hid (Lib.BuilderAt 93 5 w.heap.size w.heap.size (.pointer (some ⟨w.heap.size, 0, none⟩)) (Lib.byteCells (lettersTo c (k + 1))) w2) := hB2
        clear hB2
        go_wp2_with fail
        exact ⟨⟨k + 1, by omega, by go_num, Or.inr HB2.out, hb.trans hb2⟩, by simp [intOf]; omega⟩
    · obtain rfl : k = 26 := by omega
      go_wp2_with fail
      refine (Tryz.Builder_String_any w.heap.size w.heap.size _ _ hB hb.size).mono ?_
      rintro e w2 ⟨rfl, hb2⟩
      go_wp2_with fail
      go_ret
      exact ⟨rfl, hb.trans hb2⟩
end Go.Proofs.YtoompephogamaaaGreatDoor
