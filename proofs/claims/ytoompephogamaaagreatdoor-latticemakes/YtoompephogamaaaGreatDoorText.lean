/- Plain facts on a label's text: its letters, and what reading it gives. No program is in it. -/
import Derived.Test.YtoompephogamaaaGreatDoorMath
import Derived.Lib.ItoaNum
import Derived.Lib.AtoiAll
import Derived.Lib.Bytealg
namespace Go.Proofs.YtoompephogamaaaGreatDoor

/-- May a label be? -/
def okL (r : Int) (c : Nat) : Bool := decide (0 ≤ r) && decide (r ≤ 15) && decide (c < 67108864)
theorem okL_iff {r : Int} {c : Nat} : okL r c = true ↔ 0 ≤ r ∧ r ≤ 15 ∧ c < 67108864 := by
  unfold okL; simp [and_assoc]

/-- The letter of a bit. -/
def ltr (i : Nat) : UInt8 := UInt8.ofNat (97 + i)
def lettersTo (c : Nat) : Nat → List UInt8
  | 0 => []
  | k + 1 => lettersTo c k ++ (if c.testBit k = true then [ltr k] else [])
def textOf (r : Int) (c : Nat) : List UInt8 := Lib.decDigits r.toNat ++ (if c = 0 then [] else 58 :: lettersTo c 26)
def bitsTo (s : List UInt8) : Nat → Nat
  | 0 => 0
  | k + 1 => bitsTo s k ||| (if ltr k ∈ s then 2 ^ k else 0)
def digitsOf (s : List UInt8) : List UInt8 := if 0 ≤ Lib.indexByte s 58 then s.take (Lib.indexByte s 58).toNat else s
def catsOf (s : List UInt8) : List UInt8 := if 0 ≤ Lib.indexByte s 58 then s.drop ((Lib.indexByte s 58).toNat + 1) else []

theorem lettersTo_len (c k : Nat) : (lettersTo c k).length ≤ k := by
  induction k with
  | zero => simp [lettersTo]
  | succ k ih => rw [lettersTo, List.length_append]; split <;> simp <;> omega

theorem mem_letters {c k : Nat} {x : UInt8} : x ∈ lettersTo c k ↔ ∃ i, i < k ∧ c.testBit i = true ∧ x = ltr i := by
  induction k with
  | zero => simp [lettersTo]
  | succ k ih =>
    rw [lettersTo, List.mem_append, ih]
    constructor
    · rintro (⟨i, h1, h2, h3⟩ | h)
      · exact ⟨i, by omega, h2, h3⟩
      · split at h
        · exact ⟨k, by omega, by assumption, by simpa using h⟩
        · simp at h
    · rintro ⟨i, h1, h2, h3⟩
      by_cases e : i = k
      · subst e; right; rw [if_pos h2]; simpa using h3
      · left; exact ⟨i, by omega, h2, h3⟩

theorem ltr_inj {i j : Nat} (hi : i < 26) (hj : j < 26) (h : ltr i = ltr j) : i = j := by
  unfold ltr at h
  have := congrArg UInt8.toNat h
  simp only [UInt8.toNat_ofNat'] at this
  omega

theorem bitsTo_bit (s : List UInt8) (k i : Nat) : (bitsTo s k).testBit i = (decide (i < k) && decide (ltr i ∈ s)) := by
  induction k with
  | zero => simp [bitsTo]
  | succ k ih =>
    rw [bitsTo, Nat.testBit_or, ih]
    by_cases e : i = k
    · subst e
      by_cases h : ltr i ∈ s
      · rw [if_pos h]; simp [h]
      · rw [if_neg h]; simp [h]
    · have hk : ((if ltr k ∈ s then 2 ^ k else 0 : Nat).testBit i) = false := by
        split
        · rw [Nat.testBit_two_pow]; simp; omega
        · simp
      rw [hk, Bool.or_false]
      have : decide (i < k + 1) = decide (i < k) := by rw [Bool.eq_iff_iff]; simp; omega
      rw [this]

theorem bitsTo_lt (s : List UInt8) (k : Nat) : bitsTo s k < 2 ^ k := by
  apply Nat.lt_pow_two_of_testBit
  intro i hi
  rw [bitsTo_bit]; simp; omega

theorem bits_letters {c : Nat} (hc : c < 67108864) : bitsTo (lettersTo c 26) 26 = c := by
  apply Nat.eq_of_testBit_eq
  intro i
  rw [bitsTo_bit]
  by_cases hi : i < 26
  · rw [decide_eq_true hi, Bool.true_and, Bool.eq_iff_iff, decide_eq_true_eq, mem_letters]
    constructor
    · rintro ⟨j, h1, h2, h3⟩
      rw [ltr_inj hi h1 h3]; exact h2
    · intro h; exact ⟨i, hi, h, rfl⟩
  · rw [decide_eq_false hi, Bool.false_and, Nat.testBit_lt_two_pow (Nat.lt_of_lt_of_le hc (show 2 ^ 26 ≤ 2 ^ i from Nat.pow_le_pow_right (by omega) (by omega)))]

theorem bits_none (k : Nat) : bitsTo [] k = 0 := by
  induction k with
  | zero => rfl
  | succ k ih => rw [bitsTo, ih]; simp

theorem index_at (a b : List UInt8) (x : UInt8) (h : x ∉ a) : Lib.indexByte (a ++ x :: b) x = a.length := by
  induction a with
  | nil => simp [Lib.indexByte]
  | cons y a ih =>
    rw [List.mem_cons, not_or] at h
    have i := ih h.2
    have hy : (y == x) = false := by simp; exact fun e => h.1 e.symm
    rw [List.cons_append, Lib.indexByte, hy, i]
    have : ((a.length : Int) == -1) = false := by simp
    simp [this]
theorem index_no (a : List UInt8) (x : UInt8) (h : x ∉ a) : Lib.indexByte a x = -1 := by
  induction a with
  | nil => rfl
  | cons y a ih =>
    rw [List.mem_cons, not_or] at h
    have hy : (y == x) = false := by simp; exact fun e => h.1 e.symm
    rw [Lib.indexByte, hy, ih h.2]; simp
theorem index_yes (a : List UInt8) (x : UInt8) (h : x ∈ a) : 0 ≤ Lib.indexByte a x ∧ Lib.indexByte a x < a.length := by
  induction a with
  | nil => simp at h
  | cons y a ih =>
    rw [Lib.indexByte]
    by_cases e : (y == x) = true
    · rw [if_pos e]; simp
    · rw [if_neg e]
      have hx : x ∈ a := by
        rcases List.mem_cons.1 h with h | h
        · exact absurd (by simp [h]) e
        · exact h
      have i := ih hx
      have : (Lib.indexByte a x == -1) = false := by simp; omega
      rw [this]
      simp
      omega
theorem index_mem (a : List UInt8) (x : UInt8) : (0 ≤ Lib.indexByte a x) ↔ x ∈ a := by
  by_cases h : x ∈ a
  · simp [h, (index_yes a x h).1]
  · rw [index_no a x h]; simp [h]
theorem index_lt (a : List UInt8) (x : UInt8) : Lib.indexByte a x < a.length + 1 ∧ -1 ≤ Lib.indexByte a x := by
  by_cases h : x ∈ a
  · have := index_yes a x h; omega
  · rw [index_no a x h]; omega

theorem digits_small (r : Int) (h0 : 0 ≤ r) (h1 : r ≤ 15) : (58 : UInt8) ∉ Lib.decDigits r.toNat ∧ Lib.atoiAll (Lib.decDigits r.toNat) = .ok r ∧ (Lib.decDigits r.toNat).length ≤ 2 := by
  obtain ⟨n, rfl⟩ := Int.eq_ofNat_of_zero_le h0
  have hn : n < 16 := by omega
  rw [Int.toNat_natCast]
  have all : ∀ n : Fin 16, (58 : UInt8) ∉ Lib.decDigits n.val ∧ Lib.atoiAll (Lib.decDigits n.val) = .ok (n.val : Int) ∧ (Lib.decDigits n.val).length ≤ 2 := by
    decide +kernel
  exact all ⟨n, hn⟩

theorem read_text {r : Int} {c : Nat} (h : okL r c = true) : Lib.atoiAll (digitsOf (textOf r c)) = .ok r ∧ bitsTo (catsOf (textOf r c)) 26 = c := by
  obtain ⟨h0, h1, h2⟩ := okL_iff.1 h
  obtain ⟨d1, d2, _⟩ := digits_small r h0 h1
  unfold textOf
  by_cases e : c = 0
  · rw [if_pos e, List.append_nil]
    have i := index_no _ _ d1
    unfold digitsOf catsOf
    rw [i, if_neg (by omega), if_neg (by omega), d2, bits_none, e]
    exact ⟨rfl, rfl⟩
  · rw [if_neg e]
    have i := index_at (Lib.decDigits r.toNat) (lettersTo c 26) 58 d1
    unfold digitsOf catsOf
    rw [i, if_pos (by omega), if_pos (by omega), Int.toNat_natCast]
    refine ⟨?_, ?_⟩
    · rw [List.take_left', d2]; rfl
    · rw [show Lib.decDigits r.toNat ++ 58 :: lettersTo c 26 = (Lib.decDigits r.toNat ++ [58]) ++ lettersTo c 26 by simp, List.drop_left' (by simp), bits_letters h2]

theorem text_inj {r r' : Int} {c c' : Nat} (h : okL r c = true) (h' : okL r' c' = true) (e : textOf r c = textOf r' c') : r = r' ∧ c = c' := by
  obtain ⟨a1, a2⟩ := read_text h
  obtain ⟨b1, b2⟩ := read_text h'
  rw [e] at a1 a2
  rw [a1] at b1
  exact ⟨by injection b1, a2.symm.trans b2⟩

theorem text_len {r : Int} {c : Nat} (h : okL r c = true) : (textOf r c).length ≤ 29 := by
  obtain ⟨h0, h1, h2⟩ := okL_iff.1 h
  obtain ⟨_, _, d3⟩ := digits_small r h0 h1
  have := lettersTo_len c 26
  unfold textOf
  rw [List.length_append]
  split
  · simp; omega
  · rw [List.length_cons]; omega

theorem ltr_nat {i : Nat} (h : i < 26) : (ltr i).toNat = 97 + i := by
  unfold ltr; rw [UInt8.toNat_ofNat']; omega
theorem sure_text : textOf 2 10 = [50, 58, 98, 100] := by decide +kernel
end Go.Proofs.YtoompephogamaaaGreatDoor
