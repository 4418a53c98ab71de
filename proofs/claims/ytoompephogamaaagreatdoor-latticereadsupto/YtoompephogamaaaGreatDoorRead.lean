/- Plain facts on the document's reading of a text: the leading digits, the letters behind. No program is in it. -/
import Derived.Test.YtoompephogamaaaGreatDoorText
namespace Go.Proofs.YtoompephogamaaaGreatDoor

def isDig (b : UInt8) : Bool := decide (48 ≤ b.toNat) && decide (b.toNat ≤ 57)
/-- How many digits a text opens with, three at the most. -/
def nd (l : List UInt8) : Nat := ((l.take 3).takeWhile isDig).length
def numOf (l : List UInt8) : Nat := l.foldl (fun a b => 10 * a + (b.toNat - 48)) 0
def readR (l : List UInt8) : Nat := numOf (l.take (nd l))
def readC (l : List UInt8) : Nat := bitsTo (l.drop (nd l + 1)) 26

theorem nd_le3 (l : List UInt8) : nd l ≤ 3 := by
  unfold nd
  have := (List.takeWhile_prefix (p := isDig) (l := l.take 3)).length_le
  rw [List.length_take] at this
  omega
theorem nd_le (l : List UInt8) : nd l ≤ l.length := by
  unfold nd
  have := (List.takeWhile_prefix (p := isDig) (l := l.take 3)).length_le
  rw [List.length_take] at this
  omega

theorem takeWhile_at {p : UInt8 → Bool} : ∀ (l : List UInt8) (i : Nat), i < (l.takeWhile p).length → ∃ h : i < l.length, p l[i] = true
  | [], i, h => by simp at h
  | x :: l, i, h => by
    by_cases hx : p x = true
    · rw [List.takeWhile_cons_of_pos hx] at h
      cases i with
      | zero => exact ⟨by simp, by simpa using hx⟩
      | succ i =>
        obtain ⟨h1, h2⟩ := takeWhile_at l i (by simpa using h)
        exact ⟨by simpa using h1, by simpa using h2⟩
    · rw [List.takeWhile_cons_of_neg hx] at h
      simp at h
theorem takeWhile_stop {p : UInt8 → Bool} : ∀ (l : List UInt8) (h : (l.takeWhile p).length < l.length), p (l[(l.takeWhile p).length]) = false
  | [], h => by simp at h
  | x :: l, h => by
    by_cases hx : p x = true
    · have e : (x :: l).takeWhile p = x :: l.takeWhile p := List.takeWhile_cons_of_pos hx
      have h' : (l.takeWhile p).length < l.length := by rw [e] at h; simpa using h
      have := takeWhile_stop l h'
      simp only [e, List.length_cons, List.getElem_cons_succ]
      exact this
    · have e : (x :: l).takeWhile p = [] := List.takeWhile_cons_of_neg hx
      simp only [e, List.length_nil, List.getElem_cons_zero]
      simpa using hx

/-- Ahead of where the digits end stands one; there stands none. -/
theorem nd_at {l : List UInt8} {i : Nat} (h : i < nd l) : ∃ hi : i < l.length, isDig l[i] = true := by
  obtain ⟨h1, h2⟩ := takeWhile_at (l.take 3) i h
  rw [List.length_take] at h1
  exact ⟨by omega, by simpa using h2⟩
theorem nd_stop {l : List UInt8} (h3 : nd l < 3) (hi : nd l < l.length) : isDig l[nd l] = false := by
  have h : ((l.take 3).takeWhile isDig).length < (l.take 3).length := by rw [List.length_take]; unfold nd at h3 hi; omega
  have := takeWhile_stop (l.take 3) h
  simpa [nd] using this

theorem numOf_snoc (l : List UInt8) (b : UInt8) : numOf (l ++ [b]) = 10 * numOf l + (b.toNat - 48) := by
  unfold numOf; rw [List.foldl_append]; rfl
theorem num_step {l : List UInt8} {i : Nat} (h : i < nd l) : ∃ hi : i < l.length, isDig l[i] = true ∧ numOf (l.take (i + 1)) = 10 * numOf (l.take i) + (l[i].toNat - 48) := by
  obtain ⟨hi, hd⟩ := nd_at h
  refine ⟨hi, hd, ?_⟩
  rw [List.take_succ_eq_append_getElem hi, numOf_snoc]
theorem num_lt {l : List UInt8} : ∀ i, i ≤ nd l → numOf (l.take i) < 10 ^ i
  | 0, _ => by simp [numOf]
  | i + 1, h => by
    obtain ⟨hi, hd, e⟩ := num_step (l := l) (i := i) (by omega)
    have ih := num_lt (l := l) i (by omega)
    unfold isDig at hd
    simp at hd
    rw [e, Nat.pow_succ]
    omega

theorem bits_snoc (l : List UInt8) (b : UInt8) : bitsTo (l ++ [b]) 26 = bitsTo l 26 ||| (if 97 ≤ b.toNat ∧ b.toNat ≤ 122 then 2 ^ (b.toNat - 97) else 0) := by
  apply Nat.eq_of_testBit_eq
  intro i
  rw [Nat.testBit_or, bitsTo_bit, bitsTo_bit]
  by_cases hi : i < 26
  · have hm : (ltr i ∈ l ++ [b]) ↔ (ltr i ∈ l ∨ ltr i = b) := by simp
    have hb : ltr i = b ↔ b.toNat = 97 + i := by
      constructor
      · rintro rfl; exact ltr_nat hi
      · intro h; apply UInt8.toNat_inj.1; rw [ltr_nat hi, h]
    have hk : ((if 97 ≤ b.toNat ∧ b.toNat ≤ 122 then 2 ^ (b.toNat - 97) else 0 : Nat).testBit i) = decide (b.toNat = 97 + i) := by
      split
      · rw [Nat.testBit_two_pow, Bool.eq_iff_iff]; simp; omega
      · rw [Nat.zero_testBit, Bool.eq_iff_iff]; simp; omega
    rw [hk, decide_eq_true hi, Bool.true_and, Bool.true_and, Bool.eq_iff_iff, Bool.or_eq_true, decide_eq_true_eq, decide_eq_true_eq, decide_eq_true_eq, hm, hb]
  · have hk : ((if 97 ≤ b.toNat ∧ b.toNat ≤ 122 then 2 ^ (b.toNat - 97) else 0 : Nat).testBit i) = false := by
      split
      · rw [Nat.testBit_two_pow]; simp; omega
      · simp
    rw [hk, decide_eq_false hi]; rfl

theorem dig_list (n : Nat) (h : n ≤ 15) : (∀ b ∈ Lib.decDigits n, isDig b = true) ∧ numOf (Lib.decDigits n) = n ∧ (Lib.decDigits n).length ≤ 2 := by
  have all : ∀ n : Fin 16, (∀ b ∈ Lib.decDigits n.val, isDig b = true) ∧ numOf (Lib.decDigits n.val) = n.val ∧ (Lib.decDigits n.val).length ≤ 2 := by decide +kernel
  exact all ⟨n, by omega⟩

/-- A label's text is read as that label. -/
theorem read_ref {n c : Nat} (h : okL n c = true) : readR (textOf n c) = n ∧ readC (textOf n c) = c := by
  obtain ⟨_, h1, h2⟩ := okL_iff.1 h
  obtain ⟨d1, d2, d3⟩ := dig_list n (by omega)
  have key : ∀ R : List UInt8, (R = [] ∨ ∃ R', R = 58 :: R') → nd (Lib.decDigits n ++ R) = (Lib.decDigits n).length := by
    intro R hR
    have tw : ∀ (D R : List UInt8) (m : Nat), (∀ b ∈ D, isDig b = true) → (R = [] ∨ ∃ R', R = 58 :: R') → D.length < m → (((D ++ R).take m).takeWhile isDig).length = D.length := by
      intro D
      induction D with
      | nil =>
        intro R m _ hR hm
        rcases hR with rfl | ⟨R', rfl⟩
        · simp
        · cases m with
          | zero => simp at hm
          | succ m => rw [List.nil_append, List.take_succ_cons, List.takeWhile_cons_of_neg (by decide)]
      | cons x D ih =>
        intro R m hD hR hm
        cases m with
        | zero => simp at hm
        | succ m =>
          rw [List.cons_append, List.take_succ_cons, List.takeWhile_cons_of_pos (hD x (by simp)), List.length_cons, List.length_cons, ih R m (fun b hb => hD b (by simp [hb])) hR (by simpa using hm)]
    exact tw _ R 3 d1 hR (by omega)
  unfold textOf
  rw [Int.toNat_natCast]
  by_cases e : c = 0
  · rw [if_pos e]
    have k := key [] (Or.inl rfl)
    unfold readR readC
    rw [k, List.append_nil, List.take_length, d2, List.drop_eq_nil_of_le (by omega), bits_none, e]
    exact ⟨rfl, rfl⟩
  · rw [if_neg e]
    have k := key (58 :: lettersTo c 26) (Or.inr ⟨_, rfl⟩)
    unfold readR readC
    rw [k, List.take_left', d2]
    · refine ⟨rfl, ?_⟩
      rw [show Lib.decDigits n ++ 58 :: lettersTo c 26 = (Lib.decDigits n ++ [58]) ++ lettersTo c 26 by simp, List.drop_left' (by simp), bits_letters h2]
    · rfl
end Go.Proofs.YtoompephogamaaaGreatDoor
