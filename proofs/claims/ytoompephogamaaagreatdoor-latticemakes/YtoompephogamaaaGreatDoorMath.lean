/- Plain facts on labels as a rank and a set of bits: which dominates which, joins and meets. No program is in it. -/
import Derived.Laws.BitsAllLaws
namespace Go.Proofs.YtoompephogamaaaGreatDoor

/-- b's bits are all among a's. -/
def inB (a b : Nat) : Bool := b &&& (4294967295 - a) == 0
def domB (r : Int) (c : Nat) (r' : Int) (c' : Nat) : Bool := decide (r' ≤ r) && inB c c'

theorem inB_iff {c c' : Nat} (hc : c < 4294967296) : inB c c' = true ↔ ∀ i, i < 32 → c'.testBit i = true → c.testBit i = true := by
  have e : 4294967295 - c = 2 ^ 32 - (c + 1) := by omega
  unfold inB
  rw [beq_iff_eq, e]
  constructor
  · intro h i hi hb
    have := congrArg (fun n => n.testBit i) h
    simp only [Nat.testBit_and, Nat.testBit_two_pow_sub_succ (show c < 2 ^ 32 from hc), Nat.zero_testBit, hb, hi] at this
    simpa using this
  · intro h
    apply Nat.eq_of_testBit_eq
    intro i
    simp only [Nat.testBit_and, Nat.testBit_two_pow_sub_succ (show c < 2 ^ 32 from hc), Nat.zero_testBit]
    by_cases hi : i < 32
    · by_cases hb : c'.testBit i = true
      · simp [h i hi hb]
      · simp [hb]
    · simp [hi]

theorem domB_iff {r r' : Int} {c c' : Nat} (hc : c < 4294967296) : domB r c r' c' = true ↔ r' ≤ r ∧ ∀ i, i < 32 → c'.testBit i = true → c.testBit i = true := by
  unfold domB
  rw [Bool.and_eq_true, inB_iff hc, decide_eq_true_eq]

theorem testBit_ge {c i : Nat} (hc : c < 4294967296) (hi : 32 ≤ i) : c.testBit i = false :=
  Nat.testBit_lt_two_pow (Nat.lt_of_lt_of_le hc (show 2 ^ 32 ≤ 2 ^ i from Nat.pow_le_pow_right (by omega) hi))

theorem bits_eq {c c' : Nat} (hc : c < 4294967296) (hc' : c' < 4294967296) (h : ∀ i, i < 32 → c.testBit i = c'.testBit i) : c = c' := by
  apply Nat.eq_of_testBit_eq
  intro i
  by_cases hi : i < 32
  · exact h i hi
  · rw [testBit_ge hc (by omega), testBit_ge hc' (by omega)]

theorem dom_refl {r : Int} {c : Nat} (hc : c < 4294967296) : domB r c r c = true := (domB_iff hc).2 ⟨Int.le_refl _, fun _ _ h => h⟩

theorem dom_anti {r r' : Int} {c c' : Nat} (hc : c < 4294967296) (hc' : c' < 4294967296) (h : domB r c r' c' = true) (k : domB r' c' r c = true) : r = r' ∧ c = c' := by
  obtain ⟨h1, h2⟩ := (domB_iff hc).1 h
  obtain ⟨k1, k2⟩ := (domB_iff hc').1 k
  refine ⟨by omega, bits_eq hc hc' fun i hi => ?_⟩
  have a := h2 i hi; have b := k2 i hi
  cases hx : c.testBit i <;> cases hy : c'.testBit i <;> simp_all

theorem dom_trans {r r' r'' : Int} {c c' c'' : Nat} (hc : c < 4294967296) (hc' : c' < 4294967296) (h : domB r c r' c' = true) (k : domB r' c' r'' c'' = true) : domB r c r'' c'' = true := by
  obtain ⟨h1, h2⟩ := (domB_iff hc).1 h
  obtain ⟨k1, k2⟩ := (domB_iff hc').1 k
  exact (domB_iff hc).2 ⟨by omega, fun i hi hb => h2 i hi (k2 i hi hb)⟩

def maxI (a b : Int) : Int := if a < b then b else a
def minI (a b : Int) : Int := if b < a then b else a
theorem maxI_spec (a b : Int) : a ≤ maxI a b ∧ b ≤ maxI a b ∧ (maxI a b = a ∨ maxI a b = b) := by unfold maxI; split <;> omega
theorem minI_spec (a b : Int) : minI a b ≤ a ∧ minI a b ≤ b ∧ (minI a b = a ∨ minI a b = b) := by unfold minI; split <;> omega
theorem maxI_comm (a b : Int) : maxI a b = maxI b a := by unfold maxI; split <;> split <;> omega
theorem minI_comm (a b : Int) : minI a b = minI b a := by unfold minI; split <;> split <;> omega

theorem or_lt {c c' : Nat} (hc : c < 4294967296) (hc' : c' < 4294967296) : c ||| c' < 4294967296 := Nat.or_lt_two_pow (n := 32) hc hc'
theorem and_lt {c c' : Nat} (hc : c < 4294967296) : c &&& c' < 4294967296 := Nat.lt_of_le_of_lt Nat.and_le_left hc

theorem join_dom1 {r r' : Int} {c c' : Nat} (hc : c < 4294967296) (hc' : c' < 4294967296) : domB (maxI r r') (c ||| c') r c = true :=
  (domB_iff (or_lt hc hc')).2 ⟨(maxI_spec r r').1, fun i _ h => by rw [Nat.testBit_or, h, Bool.true_or]⟩
theorem join_dom2 {r r' : Int} {c c' : Nat} (hc : c < 4294967296) (hc' : c' < 4294967296) : domB (maxI r r') (c ||| c') r' c' = true :=
  (domB_iff (or_lt hc hc')).2 ⟨(maxI_spec r r').2.1, fun i _ h => by rw [Nat.testBit_or, h, Bool.or_true]⟩
theorem meet_dom1 {r r' : Int} {c c' : Nat} (hc : c < 4294967296) : domB r c (minI r r') (c &&& c') = true :=
  (domB_iff hc).2 ⟨(minI_spec r r').1, fun i _ h => by rw [Nat.testBit_and, Bool.and_eq_true] at h; exact h.1⟩
theorem meet_dom2 {r r' : Int} {c c' : Nat} (hc' : c' < 4294967296) : domB r' c' (minI r r') (c &&& c') = true :=
  (domB_iff hc').2 ⟨(minI_spec r r').2.1, fun i _ h => by rw [Nat.testBit_and, Bool.and_eq_true] at h; exact h.2⟩

theorem join_up {r r' s : Int} {c c' d : Nat} (hd : d < 4294967296) : domB s d (maxI r r') (c ||| c') = (domB s d r c && domB s d r' c') := by
  rw [Bool.eq_iff_iff, Bool.and_eq_true, domB_iff hd, domB_iff hd, domB_iff hd]
  have m := maxI_spec r r'
  constructor
  · intro ⟨h1, h2⟩
    exact ⟨⟨by omega, fun i hi hb => h2 i hi (by rw [Nat.testBit_or, hb, Bool.true_or])⟩, ⟨by omega, fun i hi hb => h2 i hi (by rw [Nat.testBit_or, hb, Bool.or_true])⟩⟩
  · intro ⟨⟨h1, h2⟩, ⟨h3, h4⟩⟩
    refine ⟨by omega, fun i hi hb => ?_⟩
    rw [Nat.testBit_or, Bool.or_eq_true] at hb
    rcases hb with hb | hb
    · exact h2 i hi hb
    · exact h4 i hi hb

theorem meet_down {r r' s : Int} {c c' d : Nat} (hc : c < 4294967296) (hc' : c' < 4294967296) : domB (minI r r') (c &&& c') s d = (domB r c s d && domB r' c' s d) := by
  rw [Bool.eq_iff_iff, Bool.and_eq_true, domB_iff (and_lt hc), domB_iff hc, domB_iff hc']
  have m := minI_spec r r'
  constructor
  · intro ⟨h1, h2⟩
    refine ⟨⟨by omega, fun i hi hb => ?_⟩, ⟨by omega, fun i hi hb => ?_⟩⟩
    · have := h2 i hi hb; rw [Nat.testBit_and, Bool.and_eq_true] at this; exact this.1
    · have := h2 i hi hb; rw [Nat.testBit_and, Bool.and_eq_true] at this; exact this.2
  · intro ⟨⟨h1, h2⟩, ⟨h3, h4⟩⟩
    exact ⟨by omega, fun i hi hb => by rw [Nat.testBit_and, h2 i hi hb, h4 i hi hb]; rfl⟩

/-- Which lies how: 0, 1, -1, 2. -/
def cmpI (r : Int) (c : Nat) (r' : Int) (c' : Nat) : Int :=
  if domB r c r' c' then (if domB r' c' r c then 0 else 1) else (if domB r' c' r c then -1 else 2)

theorem has_eq {c i : Nat} (hc : c < 4294967296) (hi : i < 32) : (bits BinOp.and IntKind.u32 ((c : Int) / 2 ^ min i 32) 1 == 1) = c.testBit i := by
  have e : ((c : Int) / 2 ^ min i 32) = ((c / 2 ^ i : Nat) : Int) := by
    rw [Nat.min_eq_left (by omega)]; push_cast; rfl
  have h1 : c / 2 ^ i < 4294967296 := Nat.lt_of_le_of_lt (Nat.div_le_self _ _) hc
  rw [e, show (1 : Int) = ((1 : Nat) : Int) from rfl, u32_and_nat _ _ h1 (by omega), Nat.and_one_is_mod, ← Nat.shiftRight_eq_div_pow]
  rw [Nat.testBit, Nat.and_comm, Nat.and_one_is_mod, Bool.eq_iff_iff, beq_iff_eq, bne_iff_ne]
  omega
theorem has_eq' {c i : Nat} (hc : c < 4294967296) (hi : i < 32) : (bits BinOp.and IntKind.u32 ((c : Int) / 2 ^ i) 1 == 1) = c.testBit i := by
  have := has_eq hc hi
  rw [Nat.min_eq_left (by omega)] at this
  exact this
theorem not_eq {c c' : Nat} (hc : c < 4294967296) (hc' : c' < 4294967296) : (bits BinOp.andNot IntKind.u32 (c' : Int) (c : Int) == 0) = inB c c' := by
  rw [u32_andNot_nat _ _ hc' hc]
  unfold inB
  rw [Bool.eq_iff_iff, beq_iff_eq, beq_iff_eq]
  omega
end Go.Proofs.YtoompephogamaaaGreatDoor
