/- Plain facts on literals: quotes doubled and undone, digits written and read. No program is in it. -/
import Derived.Lib.Replace
import Derived.Lib.ItoaNum
import Derived.Lib.AtoiAllCases
import Derived.Lib.Small
import Derived.Lib.Strings
import Derived.Lib.Join
import GoSem.Op.String
namespace Go.Proofs.YtfmpnakonffkcaaGreatDoor
open Go.Lib

/-! ### Instances replaced, byte by byte -/
theorem index_skip {old : List UInt8} {b : UInt8} {l : List UInt8} (h : old.isPrefixOf (b :: l) = false) : index (b :: l) old = if index l old == -1 then -1 else index l old + 1 := by
  rw [index, h]; simp
theorem replaceK_skip {old new : List UInt8} {b : UInt8} {l : List UInt8} (h : old.isPrefixOf (b :: l) = false) : ∀ k, replaceK old new k (b :: l) = b :: replaceK old new k l
  | 0 => rfl
  | k + 1 => by
    have hge := index_ge l old
    by_cases hm : index l old = -1
    · rw [replaceK, index_skip h, replaceK, hm]; simp
    · obtain ⟨j, hj⟩ : ∃ j : Nat, index l old = j := ⟨(index l old).toNat, by omega⟩
      have hix : index (b :: l) old = ((j + 1 : Nat) : Int) := by rw [index_skip h, if_neg (fun e => hm (beq_iff_eq.1 e)), hj]; omega
      rw [replaceK_hit old new k l j hj, replaceK_hit old new k (b :: l) (j + 1) hix]
      simp [Nat.add_right_comm]
theorem index_front {old s : List UInt8} (h : old.isPrefixOf s = true) : index s old = ((0 : Nat) : Int) := by
  cases s with
  | nil => cases old with
    | nil => rfl
    | cons _ _ => simp at h
  | cons b l => rw [index, if_pos h]; rfl
theorem replaceK_front {old new s : List UInt8} (h : old.isPrefixOf s = true) (k : Nat) : replaceK old new (k + 1) s = new ++ replaceK old new k (s.drop old.length) := by
  rw [replaceK_hit old new k s 0 (index_front h)]; simp
theorem count_skip {old : List UInt8} {b : UInt8} {l : List UInt8} (h0 : old ≠ []) (h : old.isPrefixOf (b :: l) = false) : count (b :: l) old = count l old := by
  have hge := index_ge l old
  by_cases hm : index l old = -1
  · rw [count_miss hm, count_miss (by rw [index_skip h, hm]; rfl)]
  · obtain ⟨j, hj⟩ : ∃ j : Nat, index l old = j := ⟨(index l old).toNat, by omega⟩
    have hix : index (b :: l) old = ((j + 1 : Nat) : Int) := by rw [index_skip h, if_neg (fun e => hm (beq_iff_eq.1 e)), hj]; omega
    rw [count_hit h0 hj, count_hit h0 hix]
    simp [Nat.add_right_comm]
theorem count_front {old s : List UInt8} (h0 : old ≠ []) (h : old.isPrefixOf s = true) : count s old = 1 + count (s.drop old.length) old := by
  rw [count_hit h0 (index_front h)]; simp
theorem count_nil {old : List UInt8} (h0 : old ≠ []) : count [] old = 0 := by
  rw [count_miss]; cases old with
  | nil => exact absurd rfl h0
  | cons _ _ => rfl
theorem replaceAll_eq {s old new : List UInt8} (h : old ≠ new) : replaceAll s old new = replaceK old new (count s old) s := by
  have hb : ¬ (old == new) = true := fun e => h (beq_iff_eq.1 e)
  rw [replaceAll, replace, if_neg hb, replaceNum, if_pos (Or.inl (by omega))]

/-! ### Quotes -/
def dbl : List UInt8 → List UInt8
  | [] => []
  | c :: l => if c = 39 then 39 :: 39 :: dbl l else c :: dbl l
theorem dbl_len : ∀ l, (dbl l).length ≤ 2 * l.length
  | [] => Nat.le_refl _
  | c :: l => by have := dbl_len l; rw [dbl]; split <;> simp <;> omega
theorem doubles : ∀ l, replaceAll l [39] [39, 39] = dbl l := by
  intro l
  rw [replaceAll_eq (by simp)]
  induction l with
  | nil => rw [count_nil (by simp)]; rfl
  | cons c l ih =>
    by_cases h : c = 39
    · subst h
      rw [count_front (by simp) (by simp [List.isPrefixOf]), Nat.add_comm, replaceK_front (by simp [List.isPrefixOf]), dbl, if_pos rfl]
      simpa using ih
    · have hp : ([39] : List UInt8).isPrefixOf (c :: l) = false := by simp [List.isPrefixOf, Ne.symm h]
      rw [count_skip (by simp) hp, replaceK_skip hp, dbl, if_neg h, ih]
theorem undoubles : ∀ l, replaceAll (dbl l) [39, 39] [39] = l := by
  intro l
  rw [replaceAll_eq (by simp)]
  induction l with
  | nil => rw [dbl, count_nil (by simp)]; rfl
  | cons c l ih =>
    by_cases h : c = 39
    · subst h
      rw [dbl, if_pos rfl, count_front (by simp) (by simp [List.isPrefixOf]), Nat.add_comm, replaceK_front (by simp [List.isPrefixOf])]
      simpa using ih
    · have hp : ([39, 39] : List UInt8).isPrefixOf (c :: dbl l) = false := by simp [List.isPrefixOf, Ne.symm h]
      rw [dbl, if_neg h, count_skip (by simp) hp, replaceK_skip hp, ih]
/-- The document's reading between two quotes: behind a quote one byte is passed by. -/
def unp : List UInt8 → List UInt8
  | [] => []
  | [c] => [c]
  | c :: d :: l => if c = 39 then c :: unp l else c :: unp (d :: l)
theorem unp_cons_quote (d : UInt8) (l : List UInt8) : unp (39 :: d :: l) = 39 :: unp l := by rw [unp, if_pos rfl]
theorem unp_cons_other {c : UInt8} (h : c ≠ 39) : ∀ l, unp (c :: l) = c :: unp l
  | [] => by simp [unp]
  | d :: l => by rw [unp, if_neg h]
theorem unp_dbl : ∀ l, unp (dbl l) = l
  | [] => rfl
  | c :: l => by
    rw [dbl]
    split
    · rename_i h; subst h; rw [unp_cons_quote, unp_dbl l]
    · rename_i h; rw [unp_cons_other h, unp_dbl l]
theorem trim_quote (l : List UInt8) : trimSuffix (l ++ [39]) [39] = l := by
  have h : hasSuffix (l ++ [39]) [39] = true := by
    unfold hasSuffix; rw [List.isSuffixOf_iff_suffix]; exact ⟨l, rfl⟩
  rw [trimSuffix, if_pos h]; simp

/-! ### Digits -/
def isDig (c : UInt8) : Bool := decide (48 ≤ c.toNat) && decide (c.toNat ≤ 57)
theorem dig_toNat {d : Nat} (h : d < 10) : (UInt8.ofNat (48 + d)).toNat = 48 + d := by rw [UInt8.toNat_ofNat']; omega
theorem dig_ok {d : Nat} (h : d < 10) : isDig (UInt8.ofNat (48 + d)) = true := by unfold isDig; rw [dig_toNat h]; simp; omega
theorem dec_all (u : Nat) : ∀ c ∈ decDigits u, isDig c = true := by
  induction u using Nat.strongRecOn with
  | _ u ih =>
    intro c hc
    rw [decDigits] at hc
    split at hc
    · rename_i h; rw [List.mem_singleton] at hc; subst hc; exact dig_ok h
    · rw [List.mem_append] at hc
      rcases hc with hc | hc
      · exact ih (u / 10) (by omega) c hc
      · rw [List.mem_singleton] at hc; subst hc; exact dig_ok (by omega)
theorem dec_ne (u : Nat) : decDigits u ≠ [] := by
  intro h; have := congrArg List.length h; rw [decDigits_length] at this; have := nDigits_pos u; simp at *; omega
theorem dec_cons (u : Nat) : ∃ c r, decDigits u = c :: r ∧ isDig c = true := by
  cases h : decDigits u with
  | nil => exact absurd h (dec_ne u)
  | cons c r => exact ⟨c, r, rfl, dec_all u c (by rw [h]; simp)⟩
theorem dec_step {u : Nat} (h : ¬ u < 10) : decDigits u = decDigits (u / 10) ++ [UInt8.ofNat (48 + u % 10)] := by rw [decDigits, dif_neg h]
theorem dec_last {u : Nat} (h : u < 10) : decDigits u = [UInt8.ofNat (48 + u)] := by rw [decDigits, dif_pos h]
theorem parse_dec (u : Nat) : ∀ r, u < 18446744073709551616 → parseUint10 0 (decDigits u ++ r) = parseUint10 u r := by
  induction u using Nat.strongRecOn with
  | _ u ih =>
    intro r hu
    by_cases h : u < 10
    · rw [dec_last h, List.singleton_append, parseUint10, dig_toNat h, if_pos (by omega), if_neg (by omega), if_neg (by omega)]
      congr 1; omega
    · rw [dec_step h, List.append_assoc, ih (u / 10) (by omega) _ (by omega), List.singleton_append, parseUint10, dig_toNat (by omega), if_pos (by omega), if_neg (by omega), if_neg (by omega)]
      congr 1; omega
theorem parseMag_dec {u : Nat} (hu : u < 18446744073709551616) : parseMag (decDigits u) = .ok u := by
  have := parse_dec u [] hu
  rw [List.append_nil] at this
  rw [parseMag, if_neg (dec_ne u), this]; rfl
theorem atoi_itoa {n : Int} (h0 : -9223372036854775808 ≤ n) (h1 : n ≤ 9223372036854775807) : atoiAll (itoa n) = .ok n := by
  unfold itoa
  by_cases h : n < 0
  · rw [if_pos h, atoiAll_minus, parseMag_dec (by omega), signed, if_neg (by omega)]
    congr 1; omega
  · rw [if_neg h]
    obtain ⟨c, r, hc, hd⟩ := dec_cons n.toNat
    have hm := parseMag_dec (u := n.toNat) (by omega)
    rw [hc] at hm ⊢
    simp only [isDig, Bool.and_eq_true, decide_eq_true_eq] at hd
    rw [atoiAll_plain c r (by omega) (by omega), hm, signless, if_neg (by omega)]
    congr 1; omega
theorem itoa_cons (n : Int) : ∃ c r, itoa n = c :: r ∧ (c = 45 ∨ isDig c = true) := by
  unfold itoa
  split
  · exact ⟨45, _, rfl, .inl rfl⟩
  · obtain ⟨c, r, hc, hd⟩ := dec_cons n.toNat
    exact ⟨c, r, hc, .inr hd⟩
theorem itoa_inj {m n : Int} (h0 : -9223372036854775808 ≤ m) (h1 : m ≤ 9223372036854775807) (g0 : -9223372036854775808 ≤ n) (g1 : n ≤ 9223372036854775807) (h : itoa m = itoa n) : m = n := by
  have a := atoi_itoa h0 h1
  rw [h, atoi_itoa g0 g1] at a
  injection a with a
  exact a.symm
theorem pow_nDigits (u : Nat) (h0 : 0 < u) : 10 ^ (nDigits u - 1) ≤ u := by
  induction u using Nat.strongRecOn with
  | _ u ih =>
    by_cases h : u < 10
    · rw [nDigits_small h]; simp; omega
    · rw [nDigits_big h]
      have := ih (u / 10) (by omega) (by omega)
      have hp := nDigits_pos (u / 10)
      rw [show nDigits (u / 10) + 1 - 1 = (nDigits (u / 10) - 1) + 1 by omega, Nat.pow_succ]
      omega
theorem nDigits_lt {u : Nat} (h : u < 10000000000000000000) : nDigits u ≤ 19 := by
  refine Classical.byContradiction fun hc => ?_
  have h0 : 0 < u := by
    refine Classical.byContradiction fun h0 => hc ?_
    rw [nDigits_small (by omega)]; omega
  have h1 := pow_nDigits u h0
  have h2 : 10 ^ 19 ≤ 10 ^ (nDigits u - 1) := Nat.pow_le_pow_right (by omega) (by omega)
  have : (10 : Nat) ^ 19 = 10000000000000000000 := by decide
  omega
end Go.Proofs.YtfmpnakonffkcaaGreatDoor
