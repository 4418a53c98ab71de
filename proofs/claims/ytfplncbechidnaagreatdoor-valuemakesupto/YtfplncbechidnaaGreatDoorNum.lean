/- Plain facts on numbers that may leave an int. No program is in it. -/
import Derived.Test.YtfplncbechidnaaGreatDoorGuess
import Derived.IntWalk
namespace Go.Proofs.YtfplncbechidnaaGreatDoor
open Go.RowKit

theorem wrap_in {x : Int} (h : inI x) : wrap64 x = x := by unfold wrap64; have := h.1; have := h.2; omega
theorem wrap_inI (x : Int) : inI (wrap64 x) := by unfold wrap64 inI; omega
theorem wrap_out {x : Int} (h : ¬ inI x) : ∃ k : Int, k ≠ 0 ∧ wrap64 x = x + 18446744073709551616 * k := by
  refine ⟨-((x + 9223372036854775808) / 18446744073709551616), ?_, ?_⟩
  · unfold inI at h; omega
  · unfold wrap64; omega
theorem tmod_small (n : Int) {b : Int} (hb : b ≠ 0) : (n.tmod b).natAbs < b.natAbs := by
  rw [Int.natAbs_tmod]; exact Nat.mod_lt _ (by omega)
/-- What has wrapped round is told by dividing again. -/
theorem back_iff {a b : Int} (ha : inI a) (hb : inI b) (h0 : b ≠ 0) : (wrap64 (a * b) = -9223372036854775808 ∧ b = -1 ∨ ¬ (wrap64 (a * b)).tdiv b = a) ↔ ¬ inI (a * b) := by
  constructor
  · intro h hi
    rw [wrap_in hi, Int.mul_tdiv_cancel a h0] at h
    rcases h with ⟨h1, h2⟩ | h
    · subst h2; have := ha.2; omega
    · exact h rfl
  · intro hi
    refine Classical.byContradiction fun hc => ?_
    have hc2 : (wrap64 (a * b)).tdiv b = a := Classical.byContradiction fun h => hc (.inr h)
    have hm := Int.mul_tdiv_add_tmod (wrap64 (a * b)) b
    have hs := tmod_small (wrap64 (a * b)) h0
    obtain ⟨k, hk, hw⟩ := wrap_out hi
    rw [hc2, Int.mul_comm b a] at hm
    generalize a * b = p at *
    generalize (wrap64 p).tmod b = r at *
    rw [hw] at hm
    have h1 := hb.1; have h2 := hb.2
    omega
theorem quot_in {a b : Int} (ha : inI a) (h0 : b ≠ 0) (h : ¬ (a = -9223372036854775808 ∧ b = -1)) : inI (a.tdiv b) := by
  have hm := Int.mul_tdiv_add_tmod a b
  have hle : (a.tdiv b).natAbs ≤ a.natAbs := by rw [Int.natAbs_tdiv]; exact Nat.div_le_self _ _
  have h1 := ha.1; have h2 := ha.2
  unfold inI
  by_cases hmin : a = -9223372036854775808
  · subst hmin
    refine ⟨by omega, ?_⟩
    refine Classical.byContradiction fun hc => ?_
    have e : (Int.tdiv (-9223372036854775808) b) = 9223372036854775808 := by omega
    have hs := tmod_small (-9223372036854775808) h0
    rw [e] at hm
    generalize Int.tmod (-9223372036854775808) b = r at *
    omega
  · omega
theorem mod_le {a b : Int} : (a.tmod b).natAbs ≤ a.natAbs := by rw [Int.natAbs_tmod]; exact Nat.mod_le _ _
theorem mod_in {a b : Int} (ha : inI a) : inI (a.tmod b) := by
  have h := mod_le (a := a) (b := b)
  have h1 := ha.1; have h2 := ha.2
  unfold inI
  by_cases hmin : a = -9223372036854775808
  · subst hmin
    refine ⟨by omega, ?_⟩
    have : Int.tmod (-9223372036854775808) b ≤ 0 := by
      rw [Int.neg_tmod]; have := Int.tmod_nonneg b (a := 9223372036854775808) (by decide); omega
    omega
  · omega
theorem mod_nonneg {a b : Int} (h : 0 ≤ a) : 0 ≤ a.tmod b := Int.tmod_nonneg b h
theorem mod_nonpos {a b : Int} (h : a ≤ 0) : a.tmod b ≤ 0 := by
  have e : a = -(-a) := by omega
  rw [e, Int.neg_tmod]; have := Int.tmod_nonneg b (a := -a) (by omega); omega
/-- A sum that has wrapped round has another sign than both. -/
theorem sum_iff {a b : Int} (ha : inI a) (hb : inI b) : ((decide (a < 0) == decide (b < 0)) && !(decide (a < 0) == decide (wrap64 (a + b) < 0))) = true ↔ ¬ inI (a + b) := by
  have h1 := ha.1; have h2 := ha.2; have h3 := hb.1; have h4 := hb.2
  simp only [Bool.and_eq_true, Bool.not_eq_true', beq_iff_eq, beq_eq_false_iff_ne, ne_eq, decide_eq_decide]
  unfold wrap64 inI
  omega
theorem diff_iff {a b : Int} (ha : inI a) (hb : inI b) : ((decide (a < 0) == decide (-b - 1 < 0)) && !(decide (a < 0) == decide (wrap64 (wrap64 (a + (-b - 1)) + 1) < 0))) = true ↔ ¬ inI (a - b) := by
  have h1 := ha.1; have h2 := ha.2; have h3 := hb.1; have h4 := hb.2
  simp only [Bool.and_eq_true, Bool.not_eq_true', beq_iff_eq, beq_eq_false_iff_ne, ne_eq, decide_eq_decide]
  unfold wrap64 inI
  omega
theorem diff_wrap (a b : Int) : wrap64 (wrap64 (a + (-b - 1)) + 1) = wrap64 (a - b) := by unfold wrap64; omega
/-- What two numbers come to: an answer, or the number of the error. -/
abbrev Ans : Type := Except Int Int
def keep (x : Int) : Ans := if inI x then .ok x else .error 5
/-- 43 +, 45 -, 42 *, 47 /, 37 %. -/
def reck (op : Int) (a b : Int) : Ans :=
  if op = 43 then keep (a + b) else if op = 45 then keep (a - b) else if op = 42 then keep (a * b)
  else if b = 0 then .error 6 else if op = 37 then .ok (a.tmod b) else keep (a.tdiv b)
theorem tdiv_neg1 (a : Int) : a.tdiv (-1) = -a := by rw [Int.tdiv_neg, Int.tdiv_one]
theorem tmod_neg1 (a : Int) : a.tmod (-1) = 0 := by rw [Int.tmod_neg, Int.tmod_one]
end Go.Proofs.YtfplncbechidnaaGreatDoor
