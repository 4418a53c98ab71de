/- Plain facts on literals: what is printed of a value, and what is guessed of a text, by the program and by the document. No program is in it. -/
import Derived.Test.YtfplncbechidnaaGreatDoorLit
namespace Go.Proofs.YtfplncbechidnaaGreatDoor
open Go.Lib

def nullW : List UInt8 := [78, 85, 76, 76]
def trueW : List UInt8 := [84, 82, 85, 69]
def falseW : List UInt8 := [70, 65, 76, 83, 69]
def vNull : Val := ⟨0, 0, ⟨#[]⟩, false⟩
def vInt (n : Int) : Val := ⟨1, n, ⟨#[]⟩, false⟩
def vText (l : List UInt8) : Val := ⟨2, 0, ⟨l.toArray⟩, false⟩
def vBool (b : Bool) : Val := ⟨3, 0, ⟨#[]⟩, b⟩
def printL (v : Val) : List UInt8 := if v.k = 1 then itoa v.n else if v.k = 2 then 39 :: (dbl v.t.data.toList ++ [39]) else if v.k = 3 then (if v.b = true then trueW else falseW) else nullW
/-- A number is an int. -/
abbrev inI (n : Int) : Prop := -9223372036854775808 ≤ n ∧ n ≤ 9223372036854775807
theorem inI_zero : inI 0 := ⟨by decide, by decide⟩

def atoiN (s : List UInt8) : Int := match atoiAll s with
  | .ok v => v
  | .syntax => 0
  | .range => atoiSat s
/-- What the program guesses. -/
def gs (s : List UInt8) : Val :=
  if s = nullW then vNull else if s = trueW then vBool true else if s = falseW then vBool false
  else if hasPrefix s [39] = true then vText (replaceAll (trimSuffix (trimPrefix s [39]) [39]) [39, 39] [39])
  else vInt (atoiN s)
def rd (n : Nat) (c : UInt8) : Nat := if isDig c = true then (10 * n + (c.toNat - 48)) % 18446744073709551616 else n
def rdN (s : List UInt8) : Nat := if s.length ≤ 20 then s.foldl rd 0 else 0
def isNeg (s : List UInt8) : Bool := s.head? == some 45
def gN (s : List UInt8) : Nat := if isNeg s = true then (18446744073709551616 - rdN s) % 18446744073709551616 else rdN s
def i64of (x : Nat) : Int := if x < 9223372036854775808 then (x : Int) else (x : Int) - 18446744073709551616
/-- What the document guesses. -/
def gr (s : List UInt8) : Val :=
  if s = nullW then vNull else if s = trueW then vBool true else if s = falseW then vBool false
  else if 1 < s.length ∧ s.head? = some 39 then vText (unp (s.drop 1).dropLast)
  else vInt (i64of (gN s))

theorem val_null {v : Val} (h : fit v = true) (hk : v.k = 0) : v = vNull := by
  simp only [fit, hk, Bool.or_eq_true, Bool.and_eq_true, beq_iff_eq, Bool.not_eq_true'] at h
  rcases h with ((⟨⟨⟨a0, a1⟩, a2⟩, a3⟩ | ⟨⟨a0, a2⟩, a3⟩) | ⟨⟨a0, a1⟩, a3⟩) | ⟨⟨a0, a1⟩, a2⟩ <;> try omega
  exact val_ext hk a1 (ba_empty a2) a3
theorem val_int {v : Val} (h : fit v = true) (hk : v.k = 1) : v = vInt v.n := by
  simp only [fit, hk, Bool.or_eq_true, Bool.and_eq_true, beq_iff_eq, Bool.not_eq_true'] at h
  rcases h with ((⟨⟨⟨a0, a1⟩, a2⟩, a3⟩ | ⟨⟨a0, a2⟩, a3⟩) | ⟨⟨a0, a1⟩, a3⟩) | ⟨⟨a0, a1⟩, a2⟩ <;> try omega
  exact val_ext hk rfl (ba_empty a2) a3
theorem val_text {v : Val} (h : fit v = true) (hk : v.k = 2) : v = vText v.t.data.toList := by
  simp only [fit, hk, Bool.or_eq_true, Bool.and_eq_true, beq_iff_eq, Bool.not_eq_true'] at h
  rcases h with ((⟨⟨⟨a0, a1⟩, a2⟩, a3⟩ | ⟨⟨a0, a2⟩, a3⟩) | ⟨⟨a0, a1⟩, a3⟩) | ⟨⟨a0, a1⟩, a2⟩ <;> try omega
  exact val_ext hk a1 rfl a3
theorem val_bool {v : Val} (h : fit v = true) (hk : v.k = 3) : v = vBool v.b := by
  simp only [fit, hk, Bool.or_eq_true, Bool.and_eq_true, beq_iff_eq, Bool.not_eq_true'] at h
  rcases h with ((⟨⟨⟨a0, a1⟩, a2⟩, a3⟩ | ⟨⟨a0, a2⟩, a3⟩) | ⟨⟨a0, a1⟩, a3⟩) | ⟨⟨a0, a1⟩, a2⟩ <;> try omega
  exact val_ext hk a1 (ba_empty a2) rfl

theorem head_ne {c : UInt8} {r : List UInt8} (h : c = 45 ∨ isDig c = true) : c :: r ≠ nullW ∧ c :: r ≠ trueW ∧ c :: r ≠ falseW ∧ c ≠ 39 := by
  refine ⟨?_, ?_, ?_, ?_⟩ <;> (intro e; try injection e with e _) <;> subst e <;> rcases h with h | h <;> exact absurd h (by decide)
theorem gs_itoa {n : Int} (h : inI n) : gs (itoa n) = vInt n := by
  obtain ⟨c, r, hc, hd⟩ := itoa_cons n
  have ha := atoi_itoa h.1 h.2
  obtain ⟨e1, e2, e3, e4⟩ := head_ne (r := r) hd
  rw [hc] at ha ⊢
  have hp : ¬ hasPrefix (c :: r) [39] = true := by simp [hasPrefix, List.isPrefixOf, Ne.symm e4]
  rw [gs, if_neg e1, if_neg e2, if_neg e3, if_neg hp, atoiN, ha]
theorem quote_ne (l : List UInt8) : 39 :: l ≠ nullW ∧ 39 :: l ≠ trueW ∧ 39 :: l ≠ falseW := by
  refine ⟨?_, ?_, ?_⟩ <;> (intro e; injection e with e _) <;> exact absurd e (by decide)
theorem gs_text (l : List UInt8) : gs (39 :: (dbl l ++ [39])) = vText l := by
  obtain ⟨e1, e2, e3⟩ := quote_ne (dbl l ++ [39])
  have hp : hasPrefix (39 :: (dbl l ++ [39])) [39] = true := by simp [hasPrefix, List.isPrefixOf]
  rw [gs, if_neg e1, if_neg e2, if_neg e3, if_pos hp, trimPrefix, if_pos hp]
  simp only [List.length_cons, List.length_nil, Nat.zero_add, List.drop_succ_cons, List.drop_zero]
  rw [trim_quote, undoubles]
/-- What is printed is guessed by the program. -/
theorem gs_print {v : Val} (h : validN v = 0) (hn : inI v.n) : gs (printL v) = v := by
  have hf := fit_of_valid h
  rcases valid_kind hf with hk | hk | hk | hk
  · rw [val_null hf hk]; rfl
  · have e := val_int hf hk
    rw [printL, if_pos hk, gs_itoa hn]; exact e.symm
  · have e := val_text hf hk
    rw [printL, if_neg (by omega), if_pos hk, gs_text]; exact e.symm
  · rw [val_bool hf hk]
    cases v.b <;> rfl

theorem rd_dec (u : Nat) : ∀ r, u < 18446744073709551616 → (decDigits u ++ r).foldl rd 0 = r.foldl rd u := by
  induction u using Nat.strongRecOn with
  | _ u ih =>
    intro r hu
    by_cases h : u < 10
    · rw [dec_last h, List.singleton_append, List.foldl_cons]
      congr 1
      rw [rd, if_pos (dig_ok h), dig_toNat h]; omega
    · rw [dec_step h, List.append_assoc, ih (u / 10) (by omega) _ (by omega), List.singleton_append, List.foldl_cons]
      congr 1
      rw [rd, if_pos (dig_ok (by omega)), dig_toNat (by omega)]; omega
theorem gr_itoa {n : Int} (h : inI n) : gr (itoa n) = vInt n := by
  obtain ⟨c, r, hc, hd⟩ := itoa_cons n
  obtain ⟨e1, e2, e3, e4⟩ := head_ne (r := r) hd
  have hu : n.natAbs < 10000000000000000000 := by have := h.1; have := h.2; omega
  have hlen : (itoa n).length ≤ 20 := by
    unfold itoa
    split
    · rw [List.length_cons, decDigits_length]; have := nDigits_lt hu; omega
    · rw [decDigits_length]; have := nDigits_lt (u := n.toNat) (by omega); omega
  have hr : rdN (itoa n) = n.natAbs := by
    rw [rdN, if_pos hlen]
    unfold itoa
    split
    · rw [List.foldl_cons, show rd 0 45 = 0 by decide]
      have := rd_dec n.natAbs [] (by omega)
      rw [List.append_nil] at this
      exact this
    · have := rd_dec n.toNat [] (by omega)
      rw [List.append_nil] at this
      rw [this]; simp; omega
  have hneg : isNeg (itoa n) = decide (n < 0) := by
    by_cases hn : n < 0
    · unfold itoa; rw [if_pos hn]; simp [isNeg, hn]
    · have hcc := hc
      unfold itoa at hcc
      rw [if_neg hn] at hcc
      have hd2 := dec_all n.toNat c (by rw [hcc]; simp)
      rw [hc]
      have hc45 : c ≠ 45 := fun e => by subst e; exact absurd hd2 (by decide)
      simp [isNeg, hn, hc45]
  have hg : i64of (gN (itoa n)) = n := by
    rw [gN, hneg, hr, i64of]
    have := h.1; have := h.2
    by_cases hn : n < 0
    · have e : (18446744073709551616 - n.natAbs) % 18446744073709551616 = 18446744073709551616 - n.natAbs := Nat.mod_eq_of_lt (by omega)
      simp only [hn, decide_true, if_true, e]
      rw [if_neg (by omega)]; omega
    · simp only [hn, decide_false, Bool.false_eq_true, if_false]
      rw [if_pos (by omega)]; omega
  rw [hc] at hg ⊢
  rw [gr, if_neg e1, if_neg e2, if_neg e3, if_neg, hg]
  rintro ⟨_, e⟩
  simp at e
  exact e4 e
theorem gr_text (l : List UInt8) : gr (39 :: (dbl l ++ [39])) = vText l := by
  obtain ⟨e1, e2, e3⟩ := quote_ne (dbl l ++ [39])
  rw [gr, if_neg e1, if_neg e2, if_neg e3, if_pos (by simp)]
  simp [unp_dbl]
/-- What is printed is guessed by the document. -/
theorem gr_print {v : Val} (h : validN v = 0) (hn : inI v.n) : gr (printL v) = v := by
  have hf := fit_of_valid h
  rcases valid_kind hf with hk | hk | hk | hk
  · rw [val_null hf hk]; rfl
  · have e := val_int hf hk
    rw [printL, if_pos hk, gr_itoa hn]; exact e.symm
  · have e := val_text hf hk
    rw [printL, if_neg (by omega), if_pos hk, gr_text]; exact e.symm
  · rw [val_bool hf hk]
    cases v.b <;> rfl
theorem atoi_in (s : List UInt8) : inI (atoiN s) := by
  unfold atoiN
  cases h : atoiAll s with
  | ok v => exact atoiAll_bounds h
  | «syntax» => exact ⟨by show (-9223372036854775808 : Int) ≤ 0; decide, by show (0 : Int) ≤ _; decide⟩
  | range => simp only [atoiSat]; split <;> exact ⟨by decide, by decide⟩
theorem gs_in (s : List UInt8) : inI (gs s).n := by
  unfold gs
  (repeat' split) <;> first | exact atoi_in s | exact inI_zero
theorem gN_lt (s : List UInt8) (h : rdN s < 18446744073709551616) : gN s < 18446744073709551616 := by
  unfold gN; split
  · exact Nat.mod_lt _ (by decide)
  · exact h
theorem rd_lt {n : Nat} {c : UInt8} (h : n < 18446744073709551616) : rd n c < 18446744073709551616 := by
  unfold rd; split
  · exact Nat.mod_lt _ (by decide)
  · exact h
theorem fold_lt : ∀ (s : List UInt8) (n : Nat), n < 18446744073709551616 → s.foldl rd n < 18446744073709551616
  | [], _, h => h
  | c :: s, n, h => by rw [List.foldl_cons]; exact fold_lt s _ (rd_lt h)
theorem rdN_lt (s : List UInt8) : rdN s < 18446744073709551616 := by
  unfold rdN; split
  · exact fold_lt s 0 (by decide)
  · decide
theorem i64of_in {x : Nat} (h : x < 18446744073709551616) : inI (i64of x) := by
  unfold i64of inI; split <;> omega
theorem gr_in (s : List UInt8) : inI (gr s).n := by
  unfold gr
  (repeat' split) <;> first | exact i64of_in (gN_lt s (rdN_lt s)) | exact inI_zero
/-- The number of Parse's error and its value, by a guess that meets what is printed. -/
def told (g : Val) (s : List UInt8) : Bool := decide (validN g = 0) && decide (printL g = s)
/-- Both guesses lead to one answer. -/
theorem told_same (s : List UInt8) : told (gs s) s = told (gr s) s ∧ (told (gs s) s = true → gs s = gr s) := by
  have key : ∀ g : Val, inI g.n → told g s = true → g = gs s ∧ g = gr s := by
    intro g hg h
    simp only [told, Bool.and_eq_true, decide_eq_true_eq] at h
    rw [← h.2]
    exact ⟨(gs_print h.1 hg).symm, (gr_print h.1 hg).symm⟩
  refine ⟨?_, fun h => (key _ (gs_in s) h).2⟩
  rw [Bool.eq_iff_iff]
  constructor
  · intro h; have := (key _ (gs_in s) h).2; rw [← this]; exact h
  · intro h; have := (key _ (gr_in s) h).1; rw [← this]; exact h
end Go.Proofs.YtfplncbechidnaaGreatDoor
