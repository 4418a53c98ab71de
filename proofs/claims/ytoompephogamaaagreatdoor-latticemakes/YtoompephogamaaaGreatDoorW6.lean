/- The walks of the document's Valid and Text. -/
import Derived.Test.YtoompephogamaaaGreatDoorW5
namespace Go.Proofs.YtoompephogamaaaGreatDoor
open Go.RowKit Go.Sort

theorem high_bits {c : Nat} (hc : c < 4294967296) : c < 67108864 ↔ ∀ j, 26 ≤ j → j < 32 → c.testBit j = false := by
  constructor
  · intro h j hj _
    exact Nat.testBit_lt_two_pow (Nat.lt_of_lt_of_le h (show 2 ^ 26 ≤ 2 ^ j from Nat.pow_le_pow_right (by omega) hj))
  · intro h
    apply Nat.lt_pow_two_of_testBit (n := 26)
    intro i hi
    by_cases h32 : i < 32
    · exact h i hi h32
    · exact testBit_ge hc (by omega)

set_option maxHeartbeats 400000 in
theorem valid13_yes (r : Int) (c : Nat) (w : World) (h : okL r c = true) :
    Calls Tryz.prog 20 #[.agg #[.int .i64 r, .int .u32 c]] w fun e w' => e = .returned (.int .i64 0) ∧ Below w.heap.size w w' := by
  obtain ⟨h0, h1, h2⟩ := okL_iff.1 h
  have hc : c < 4294967296 := by omega
  have HB : Hid (∀ j, 26 ≤ j → j < 32 → c.testBit j = false) := (high_bits hc).1 h2
  clear h
  go_enter Tryz.func20, Tryz.ntmps20
  go_wp2
  go_loopw [3] (fun iv wr => ∃ k : Nat, 26 ≤ k ∧ k ≤ 32 ∧ iv = .int .i64 k ∧ Below (w.heap.size + 1) (w.alloc (Obj.cells #[Value.int IntKind.i64 r, Value.int IntKind.u32 ↑c] 25)) wr) (fun iv _ => 32 - (intOf iv).toNat)
  case atStart => exact ⟨26, by omega, by omega, rfl, Below.refl _ _⟩
  case round =>
    obtain ⟨k, hk0, hk, rfl, hb⟩ := hrel
    obtain ⟨x0, x1, hz⟩ := box1 hb
    have hf : Below w.heap.size w wr := ((Below.refl _ w).alloc (Nat.le_refl _) _).trans (hb.mono (by omega))
    by_cases hlt : k < 32
    · have ht := HB.out k hk0 hlt
      go_wp2_with fail
      refine (has23 _ _ _ _ hc hlt).mono ?_
      rintro e w1 ⟨rfl, hb1⟩
      have hb2 := hb.trans (hb1.mono hz)
      go_wp2_with fail
      exact ⟨⟨k + 1, by omega, by omega, by go_num, hb2⟩, by simp [intOf]; omega⟩
    · obtain rfl : k = 32 := by omega
      have b0 : decide (r < 0) = false := by simp; omega
      have b1 : decide (15 < r) = false := by simp; omega
      go_wp2_with fail
      go_ret
      exact ⟨rfl, hf⟩
set_option maxHeartbeats 400000 in
theorem valid13_no (r : Int) (c : Nat) (w : World) (hc : c < 4294967296) (h : okL r c = false) :
    Calls Tryz.prog 20 #[.agg #[.int .i64 r, .int .u32 c]] w fun e w' => e = .returned (.int .i64 20) ∧ Below w.heap.size w w' := by
  have HN := Lib.hid h
  clear h
  go_enter Tryz.func20, Tryz.ntmps20
  go_wp2
  go_loopw [3] (fun iv wr => ∃ k : Nat, 26 ≤ k ∧ k ≤ 32 ∧ iv = .int .i64 k ∧ (∀ j, 26 ≤ j → j < k → c.testBit j = false) ∧ Below (w.heap.size + 1) (w.alloc (Obj.cells #[Value.int IntKind.i64 r, Value.int IntKind.u32 ↑c] 25)) wr) (fun iv _ => 32 - (intOf iv).toNat)
  case atStart => exact ⟨26, by omega, by omega, rfl, fun _ _ h => by omega, Below.refl _ _⟩
  case round =>
    obtain ⟨k, hk0, hk, rfl, hall, hb⟩ := hrel
    have HA := Lib.hid hall
    clear hall
    obtain ⟨x0, x1, hz⟩ := box1 hb
    have hf : Below w.heap.size w wr := ((Below.refl _ w).alloc (Nat.le_refl _) _).trans (hb.mono (by omega))
    by_cases hlt : k < 32
    · go_wp2_with fail
      refine (has23 _ _ _ _ hc hlt).mono ?_
      rintro e w1 ⟨rfl, hb1⟩
      have hb2 := hb.trans (hb1.mono hz)
      have hf2 := hf.trans (hb1.mono hf.size)
      cases ht : c.testBit k
      · go_wp2_with fail
        refine ⟨⟨k + 1, by omega, by omega, by go_num, fun j h1 h2 => ?_, hb2⟩, by simp [intOf]; omega⟩
        by_cases e : j = k
        · subst e; exact ht
        · exact HA.out j h1 (by omega)
      · go_wp2_with fail
        go_ret
        exact ⟨rfl, hf2⟩
    · obtain rfl : k = 32 := by omega
      have h2 : c < 67108864 := (high_bits hc).2 HA.out
      rcases okL_not HN.out with h0 | ⟨h0, h1⟩ | ⟨h0, h1, h3⟩
      · go_wp2_with fail
        go_ret
        exact ⟨rfl, hf⟩
      · have b0 : decide (r < 0) = false := by simp; omega
        go_wp2_with fail
        go_ret
        exact ⟨rfl, hf⟩
      · omega

theorem digit_cut (n : Nat) (h : n < 10) : (⟨#[48, 49, 50, 51, 52, 53, 54, 55, 56, 57]⟩ : ByteArray).extract n (n + 1) = ⟨#[UInt8.ofNat (48 + n)]⟩ := by
  have all : ∀ n : Fin 10, (⟨#[48, 49, 50, 51, 52, 53, 54, 55, 56, 57]⟩ : ByteArray).extract n.val (n.val + 1) = ⟨#[UInt8.ofNat (48 + n.val)]⟩ := by decide +kernel
  exact all ⟨n, h⟩
theorem letter_cut (n : Nat) (h : n < 26) : (⟨#[97, 98, 99, 100, 101, 102, 103, 104, 105, 106, 107, 108, 109, 110, 111, 112, 113, 114, 115, 116, 117, 118, 119, 120, 121, 122]⟩ : ByteArray).extract n (n + 1) = ⟨#[ltr n]⟩ := by
  have all : ∀ n : Fin 26, (⟨#[97, 98, 99, 100, 101, 102, 103, 104, 105, 106, 107, 108, 109, 110, 111, 112, 113, 114, 115, 116, 117, 118, 119, 120, 121, 122]⟩ : ByteArray).extract n.val (n.val + 1) = ⟨#[ltr n.val]⟩ := by decide +kernel
  exact all ⟨n, h⟩

/-- What the document's loop holds when k letters were asked for: the text, and what goes ahead of the next letter. -/
def uptoT (D : List UInt8) (c k : Nat) : List UInt8 := D ++ (if lettersTo c k = [] then [] else 58 :: lettersTo c k)
def markTo (c k : Nat) : List UInt8 := if lettersTo c k = [] then [58] else []
theorem upto_yes (D : List UInt8) {c k : Nat} (h : c.testBit k = true) : uptoT D c k ++ markTo c k ++ [ltr k] = uptoT D c (k + 1) ∧ markTo c (k + 1) = [] := by
  have e : lettersTo c (k + 1) = lettersTo c k ++ [ltr k] := by rw [lettersTo, if_pos h]
  have hne : lettersTo c (k + 1) ≠ [] := by rw [e]; simp
  unfold uptoT markTo
  rw [if_neg hne, if_neg hne, e]
  refine ⟨?_, rfl⟩
  by_cases h0 : lettersTo c k = []
  · rw [if_pos h0, if_pos h0, h0]; simp
  · rw [if_neg h0, if_neg h0]; simp
theorem upto_no (D : List UInt8) {c k : Nat} (h : c.testBit k = false) : uptoT D c k = uptoT D c (k + 1) ∧ markTo c k = markTo c (k + 1) := by
  have e : lettersTo c (k + 1) = lettersTo c k := by rw [lettersTo, h]; simp
  unfold uptoT markTo
  rw [e]
  exact ⟨rfl, rfl⟩
theorem upto_len (D : List UInt8) (c k : Nat) : (uptoT D c k).length ≤ D.length + 1 + k := by
  have := lettersTo_len c k
  unfold uptoT
  rw [List.length_append]
  split
  · simp; omega
  · rw [List.length_cons]; omega
theorem letters_none {c : Nat} (hc : c < 67108864) : lettersTo c 26 = [] ↔ c = 0 := by
  constructor
  · intro h
    have := bits_letters hc
    rw [h, bits_none] at this
    exact this.symm
  · rintro rfl
    have : ∀ k, lettersTo 0 k = [] := by
      intro k
      induction k with
      | zero => rfl
      | succ k ih => rw [lettersTo, ih]; simp
    exact this 26
theorem upto_end {n c : Nat} (hc : c < 67108864) : uptoT (Lib.decDigits n) c 26 = textOf n c := by
  unfold uptoT textOf
  rw [Int.toNat_natCast]
  by_cases e : c = 0
  · rw [if_pos ((letters_none hc).2 e), if_pos e]
  · rw [if_neg fun h => e ((letters_none hc).1 h), if_neg e]
theorem str_cat3 (A M : List UInt8) (x : UInt8) : ((⟨A.toArray⟩ : ByteArray) ++ (⟨M.toArray⟩ : ByteArray)) ++ (⟨#[x]⟩ : ByteArray) = ⟨(A ++ M ++ [x]).toArray⟩ := by
  apply ByteArray.ext
  simp

theorem dec_low (n : Nat) (h : n ≤ 9) : (⟨#[48, 49, 50, 51, 52, 53, 54, 55, 56, 57]⟩ : ByteArray).extract (n % 10) (n % 10 + 1) = ⟨(Lib.decDigits n).toArray⟩ := by
  have all : ∀ n : Fin 10, (⟨#[48, 49, 50, 51, 52, 53, 54, 55, 56, 57]⟩ : ByteArray).extract (n.val % 10) (n.val % 10 + 1) = ⟨(Lib.decDigits n.val).toArray⟩ := by decide +kernel
  exact all ⟨n, by omega⟩
theorem dec_high (n : Nat) (h : 9 < n) (h' : n ≤ 15) : (⟨#[49]⟩ : ByteArray) ++ (⟨#[48, 49, 50, 51, 52, 53, 54, 55, 56, 57]⟩ : ByteArray).extract (n % 10) (n % 10 + 1) = ⟨(Lib.decDigits n).toArray⟩ := by
  have all : ∀ n : Fin 16, 9 < n.val → (⟨#[49]⟩ : ByteArray) ++ (⟨#[48, 49, 50, 51, 52, 53, 54, 55, 56, 57]⟩ : ByteArray).extract (n.val % 10) (n.val % 10 + 1) = ⟨(Lib.decDigits n.val).toArray⟩ := by decide +kernel
  exact all ⟨n, by omega⟩ h

set_option maxHeartbeats 1000000 in
theorem text8_yes (n : Nat) (c : Nat) (w : World) (h : okL n c = true) :
    Calls Tryz.prog 27 #[.agg #[.int .i64 n, .int .u32 c]] w fun e w' => e = .returned (.tuple #[.string ⟨(textOf n c).toArray⟩, .int .i64 0]) ∧ Below w.heap.size w w' := by
  obtain ⟨h0, h1, h2⟩ := okL_iff.1 h
  have hc : c < 4294967296 := by omega
  have hn : n ≤ 15 := by omega
  have HO := Lib.hid h
  have hD : (Lib.decDigits n).length ≤ 2 := by have := (digits_small n h0 h1).2.2; rwa [Int.toNat_natCast] at this
  have HE : Hid (uptoT (Lib.decDigits n) c 26 = textOf n c) := upto_end h2
  have HL : Hid (n ≤ 9 → (⟨#[48, 49, 50, 51, 52, 53, 54, 55, 56, 57]⟩ : ByteArray).extract (n % 10) (n % 10 + 1) = ⟨(Lib.decDigits n).toArray⟩) := dec_low n
  have HH : Hid (9 < n → (⟨#[49]⟩ : ByteArray) ++ (⟨#[48, 49, 50, 51, 52, 53, 54, 55, 56, 57]⟩ : ByteArray).extract (n % 10) (n % 10 + 1) = ⟨(Lib.decDigits n).toArray⟩) := fun h => dec_high n h hn
  generalize Lib.decDigits n = D at *
  generalize textOf n c = T at *
  clear h h0 h1 h2
  by_cases h9 : n ≤ 9
  case' pos => have b9 : decide ((9 : Int) < (n : Int)) = false := by simp; omega
  case' neg => have b9 : decide ((9 : Int) < (n : Int)) = true := by simp; omega
  all_goals
    go_enter Tryz.func27, Tryz.ntmps27
    go_wp2_with fail
    refine (valid13_yes _ _ _ HO.out).mono ?_
    rintro e w1 ⟨rfl, hb1⟩
    obtain ⟨x0, x1, hz⟩ := box1 (hb1.mono (B' := w.heap.size + 1) (by simp))
    go_wp2_with fail
    go_loopw [4, 5, 6] (fun sv mv iv wr => ∃ (k : Nat) (A M : List UInt8), k ≤ 26 ∧ iv = .int .i64 k ∧ sv = .string ⟨A.toArray⟩ ∧ mv = .string ⟨M.toArray⟩ ∧ Hid (A = uptoT D c k ∧ M = markTo c k) ∧ A.length ≤ 30 ∧ M.length ≤ 1 ∧ Below (w.heap.size + 1) (w.alloc (Obj.cells #[Value.int IntKind.i64 n, Value.int IntKind.u32 c] 25)) wr) (fun _ _ iv _ => 26 - (intOf iv).toNat)
    case atStart =>
      refine ⟨0, D, [58], by omega, rfl, ?_, rfl, ⟨by simp [uptoT, lettersTo], by simp [markTo, lettersTo]⟩, by omega, by simp, hb1.mono (by simp)⟩
      first | (rw [HL.out (by omega)]; done) | (rw [HH.out (by omega)]; done)
    case round =>
      obtain ⟨k, A, M, hk, rfl, rfl, rfl, HAM, hA, hM, hb⟩ := hrel
      obtain ⟨z0, z1, hzz⟩ := box1 hb
      have hf : Below w.heap.size w wr := ((Below.refl _ w).alloc (Nat.le_refl _) _).trans (hb.mono (by omega))
      by_cases hlt : k < 26
      · go_wp2_with fail
        refine (has23 _ _ _ _ hc (by omega)).mono ?_
        rintro e w2 ⟨rfl, hb2⟩
        have hb3 := hb.trans (hb2.mono hzz)
        cases ht : c.testBit k
        · go_wp2_with fail
          refine ⟨⟨k + 1, A, M, by omega, by go_num, rfl, rfl, ?_, hA, hM, hb3⟩, by simp [intOf]; omega⟩
          have := upto_no D ht
          exact ⟨HAM.out.1.trans this.1, HAM.out.2.trans this.2⟩
        · have HC : Hid ((⟨#[97, 98, 99, 100, 101, 102, 103, 104, 105, 106, 107, 108, 109, 110, 111, 112, 113, 114, 115, 116, 117, 118, 119, 120, 121, 122]⟩ : ByteArray).extract k (k + 1) = ⟨#[ltr k]⟩) := letter_cut k hlt
          go_wp2_with fail
          have hu := upto_yes D ht
          have hl := upto_len D c (k + 1)
          refine ⟨⟨k + 1, uptoT D c (k + 1), [], by omega, by go_num, ?_, rfl, ⟨rfl, hu.2.symm⟩, by omega, by simp, hb3⟩, by simp [intOf]; omega⟩
          rw [HC.out, str_cat3, HAM.out.1, HAM.out.2, hu.1]
      · obtain rfl : k = 26 := by omega
        go_wp2_with fail
        go_ret2
        exact ⟨by rw [← HE.out, ← HAM.out.1]; rfl, hf⟩

set_option maxHeartbeats 400000 in
theorem text8_no (r : Int) (c : Nat) (w : World) (hc : c < 4294967296) (h : okL r c = false) :
    Calls Tryz.prog 27 #[.agg #[.int .i64 r, .int .u32 c]] w fun e w' => e = .returned (.tuple #[.string ⟨#[]⟩, .int .i64 20]) ∧ Below w.heap.size w w' := by
  have hb0 : Below w.heap.size w (w.alloc (Obj.cells #[Value.int IntKind.i64 r, Value.int IntKind.u32 ↑c] 25)) := (Below.refl _ _).alloc (Nat.le_refl _) _
  go_enter Tryz.func27, Tryz.ntmps27
  go_wp2_with fail
  refine (valid13_no _ _ _ hc h).mono ?_
  rintro e w1 ⟨rfl, hb1⟩
  have hbw := hb0.trans (hb1.mono hb0.size)
  go_wp2_with fail
  go_ret2
  exact ⟨rfl, hbw⟩
end Go.Proofs.YtoompephogamaaaGreatDoor
