/- One as the document reads it, plainly. -/
import Derived.Test.YtjnhcanohefjiaaGreatDoorRcMath
namespace Go.Proofs.YtjnhcanohefjiaaGreatDoor

/-- The document's reading of the record that bytes begin with. -/
def oneD (ep : Nat) (xs : List Nat) : List Nat × Nat × Nat :=
  if xs.length = 0 ∨ xs.getD 0 0 = 0 then ([], 0, 8) else if (rdU xs).2.2 = 12 then ([], 0, 12) else if (rdU xs).2.2 ≠ 0 ∨ 1048576 < (rdU xs).1 then ([], 0, 11)
  else if (rdU (xs.drop (rdU xs).2.1)).2.2 = 12 then ([], 0, 12) else if (rdU (xs.drop (rdU xs).2.1)).2.2 ≠ 0 then ([], 0, 11)
  else if xs.length < (rdU xs).2.1 + (rdU (xs.drop (rdU xs).2.1)).2.1 + (rdU xs).1 + 4 then ([], 0, 12)
  else if (rdU (xs.drop (rdU xs).2.1)).1 ≠ ep ∨ recB (rdU (xs.drop (rdU xs).2.1)).1 ((xs.drop ((rdU xs).2.1 + (rdU (xs.drop (rdU xs).2.1)).2.1)).take (rdU xs).1) ≠ xs.take ((rdU xs).2.1 + (rdU (xs.drop (rdU xs).2.1)).2.1 + (rdU xs).1 + 4) then ([], 0, 11)
  else ((xs.drop ((rdU xs).2.1 + (rdU (xs.drop (rdU xs).2.1)).2.1)).take (rdU xs).1, (rdU xs).2.1 + (rdU (xs.drop (rdU xs).2.1)).2.1 + (rdU xs).1 + 4, 0)
theorem nbr_form {xs : List Nat} (h : (rdU xs).2.2 = 3) : nbr xs = (0, 0, 11) := if_pos h
theorem nbr_same {xs : List Nat} (h : (rdU xs).2.2 ≠ 3) : nbr xs = rdU xs := if_neg h
theorem oneD_eq (ep : Nat) (xs : List Nat) (hb : ∀ x ∈ xs, x < 256) : oneD ep xs = one ep xs := by
  have hok := one_parts xs hb
  have hE1 := rdU_errs xs
  have hE2 := rdU_errs (xs.drop (rdU xs).2.1)
  have hko := hdR_ok xs hb
  unfold oneD one
  unfold hdR at hok hko ⊢
  by_cases h0 : xs.length = 0 ∨ xs.getD 0 0 = 0
  · rw [if_pos h0, if_pos h0, if_pos (by decide)]
  · simp only [if_neg h0] at hok hko ⊢
    rcases hE1 with e1 | e1 | e1
    · rw [nbr_same (by rw [e1]; decide)] at hok hko ⊢
      rw [if_neg (show ¬ (rdU xs).2.2 ≠ 0 by simp [e1])] at hok hko ⊢
      rw [if_neg (show ¬ (rdU xs).2.2 = 12 by simp [e1])]
      by_cases h2 : 1048576 < (rdU xs).1
      · rw [if_pos (.inr h2), if_pos h2, if_pos (by decide)]
      · rw [if_neg (show ¬ ((rdU xs).2.2 ≠ 0 ∨ 1048576 < (rdU xs).1) by simp [e1]; omega)]
        rw [if_neg h2] at hok hko ⊢
        rcases hE2 with e2 | e2 | e2
        · rw [nbr_same (by rw [e2]; decide)] at hok hko ⊢
          rw [if_neg (show ¬ (rdU (xs.drop (rdU xs).2.1)).2.2 ≠ 0 by simp [e2])] at hok hko ⊢
          rw [if_neg (show ¬ (rdU (xs.drop (rdU xs).2.1)).2.2 = 12 by simp [e2]), if_neg (show ¬ (rdU (xs.drop (rdU xs).2.1)).2.2 ≠ 0 by simp [e2])]
          simp only at hok hko ⊢
          rw [if_neg (show ¬ ((0 : Nat) ≠ 0) by decide)]
          by_cases h3 : xs.length < (rdU xs).2.1 + (rdU (xs.drop (rdU xs).2.1)).2.1 + (rdU xs).1 + 4
          · rw [if_pos h3, if_pos h3]
          · rw [if_neg h3, if_neg h3]
            obtain ⟨p, qs, q1, q2, q3, q4, q5, q6⟩ := hok trivial (by omega)
            obtain ⟨k1, k2, k3, k4, k5, k6⟩ := hko trivial
            rw [← q1, q6]
            by_cases h4 : (rdU (xs.drop (rdU xs).2.1)).1 = ep
            · by_cases h5 : recB (rdU (xs.drop (rdU xs).2.1)).1 p = xs.take ((rdU xs).2.1 + (rdU (xs.drop (rdU xs).2.1)).2.1 + (rdU xs).1 + 4)
              · have hd : (recH (rdU (xs.drop (rdU xs).2.1)).1 p).drop ((rdU xs).2.1 + (rdU (xs.drop (rdU xs).2.1)).2.1) = p := by
                  rw [k6, recH, q2, ← List.length_append, List.drop_left]
                rw [if_pos h5, if_neg (by rintro (q | q); exact q h4; exact q h5), if_neg (by simp [h4]), if_neg (by simp)]
                simp only [hd]
              · rw [if_neg h5, if_pos (.inr h5), if_neg (by simp [h4]), if_pos (by simp)]
            · rw [if_pos (.inl h4), if_pos h4]
        · rw [nbr_form e2, if_neg (by rw [e2]; decide), if_pos (by rw [e2]; decide)]
          simp
        · rw [nbr_same (by rw [e2]; decide), if_pos e2, if_pos (show (rdU (xs.drop (rdU xs).2.1)).2.2 ≠ 0 by rw [e2]; decide), if_pos (show (rdU (xs.drop (rdU xs).2.1)).2.2 ≠ 0 by rw [e2]; decide), e2]
    · rw [nbr_form e1, if_neg (by rw [e1]; decide), if_pos (.inl (by rw [e1]; decide))]
      simp
    · rw [nbr_same (by rw [e1]; decide), if_pos e1, if_pos (show (rdU xs).2.2 ≠ 0 by rw [e1]; decide), if_pos (show (rdU xs).2.2 ≠ 0 by rw [e1]; decide), e1]
end Go.Proofs.YtjnhcanohefjiaaGreatDoor
