/- Records as bytes, outside any program: what is framed is read as it was, a part of it is none, and nothing else is read. -/
import Derived.Test.YtjnhcanohefjiaaGreatDoorTPlain
namespace Go.Proofs.YtjnhcanohefjiaaGreatDoor

/-- A record without its sum; a record. -/
def recH (ep : Nat) (p : List Nat) : List Nat := enc p.length ++ enc ep ++ p
def recB (ep : Nat) (p : List Nat) : List Nat := recH ep p ++ four (sm 0 (recH ep p))
/-- Why a payload of so many bytes is none: an error's number. -/
def refu (n : Int) : Nat := if n < 1 then 1 else if 1048576 < n then 2 else 0
/-- What Frame tells. -/
def frm (ep : Nat) (p : List Nat) : List Nat × Nat := if refu p.length = 0 then (recB ep p, 0) else ([], refu p.length)
/-- What Len tells. -/
def lenR (ep : Nat) (n : Int) : Nat × Nat := if refu n = 0 then ((enc n.toNat).length + (enc ep).length + n.toNat + 4, 0) else (0, refu n)
/-- The number at the begin of bytes, what is none told as a wrong sum is. -/
def nbr (xs : List Nat) : Nat × Nat × Nat := if (rdU xs).2.2 = 3 then (0, 0, 11) else rdU xs
/-- The head that bytes begin with: the length, the epoch, how many bytes say it, the error's number. -/
def hdR (xs : List Nat) : Nat × Nat × Nat × Nat :=
  if xs.length = 0 ∨ xs.getD 0 0 = 0 then (0, 0, 0, 8) else if (nbr xs).2.2 ≠ 0 then (0, 0, 0, (nbr xs).2.2) else if 1048576 < (nbr xs).1 then (0, 0, 0, 11)
  else if (nbr (xs.drop (nbr xs).2.1)).2.2 ≠ 0 then (0, 0, 0, (nbr (xs.drop (nbr xs).2.1)).2.2) else ((nbr xs).1, (nbr (xs.drop (nbr xs).2.1)).1, (nbr xs).2.1 + (nbr (xs.drop (nbr xs).2.1)).2.1, 0)
/-- What One tells. -/
def one (ep : Nat) (xs : List Nat) : List Nat × Nat × Nat :=
  if (hdR xs).2.2.2 ≠ 0 then ([], 0, (hdR xs).2.2.2) else if xs.length < (hdR xs).2.2.1 + (hdR xs).1 + 4 then ([], 0, 12) else if (hdR xs).2.1 ≠ ep then ([], 0, 11)
  else if (opn (xs.take ((hdR xs).2.2.1 + (hdR xs).1 + 4))).2 ≠ 0 then ([], 0, (opn (xs.take ((hdR xs).2.2.1 + (hdR xs).1 + 4))).2)
  else ((opn (xs.take ((hdR xs).2.2.1 + (hdR xs).1 + 4))).1.drop (hdR xs).2.2.1, (hdR xs).2.2.1 + (hdR xs).1 + 4, 0)
theorem recH_length (ep : Nat) (p : List Nat) : (recH ep p).length = (enc p.length).length + (enc ep).length + p.length := by rw [recH, List.length_append, List.length_append]
theorem recB_length (ep : Nat) (p : List Nat) : (recB ep p).length = (enc p.length).length + (enc ep).length + p.length + 4 := by
  rw [recB, List.length_append, recH_length]; rfl
theorem recH_byte (ep : Nat) (p : List Nat) (hp : ∀ x ∈ p, x < 256) : ∀ x ∈ recH ep p, x < 256 := by
  intro x hx
  rcases List.mem_append.1 hx with hx | hx
  · rcases List.mem_append.1 hx with hx | hx
    · exact enc_byte _ x hx
    · exact enc_byte _ x hx
  · exact hp x hx
theorem recB_byte (ep : Nat) (p : List Nat) (hp : ∀ x ∈ p, x < 256) : ∀ x ∈ recB ep p, x < 256 := by
  intro x hx
  rcases List.mem_append.1 hx with hx | hx
  · exact recH_byte ep p hp x hx
  · exact four_byte _ x hx
theorem refu_zero {n : Int} (h : refu n = 0) : 1 ≤ n ∧ n ≤ 1048576 := by
  unfold refu at h
  split at h
  · cases h
  · split at h
    · cases h
    · omega
theorem refu_ok {n : Int} (h1 : 1 ≤ n) (h2 : n ≤ 1048576) : refu n = 0 := by
  unfold refu
  rw [if_neg (by omega), if_neg (by omega)]
/-- The first byte of a number that is not 0. -/
theorem enc_first {n : Nat} (h : n ≠ 0) (ys : List Nat) : (enc n ++ ys).getD 0 0 ≠ 0 := by
  by_cases hs : n < 128
  · rw [enc_lt hs]; simpa using h
  · rw [enc_ge (by omega)]; simp
theorem nbr_enc (n : Nat) (ys : List Nat) (h : n < 18446744073709551616) : nbr (enc n ++ ys) = (n, (enc n).length, 0) := by
  unfold nbr
  rw [rdU_enc n ys h]
  simp
theorem nbr_ok {xs : List Nat} (h : (nbr xs).2.2 = 0) : (rdU xs).2.2 = 0 ∧ nbr xs = rdU xs := by
  unfold nbr at h ⊢
  split at h
  · cases h
  · rename_i h3
    rw [if_neg h3]
    exact ⟨h, rfl⟩
theorem nbr_back (xs : List Nat) (hb : ∀ x ∈ xs, x < 256) (h : (nbr xs).2.2 = 0) : enc (nbr xs).1 = xs.take (nbr xs).2.1 ∧ 0 < (nbr xs).2.1 ∧ (nbr xs).2.1 ≤ xs.length ∧ (nbr xs).1 < 18446744073709551616 := by
  obtain ⟨h0, e⟩ := nbr_ok h
  rw [e]
  exact rdU_back xs hb h0
theorem nbr_err (xs : List Nat) (h : (nbr xs).2.2 ≠ 0) : (nbr xs).1 = 0 ∧ (nbr xs).2.1 = 0 := by
  unfold nbr at h ⊢
  split at h
  · rename_i h3; rw [if_pos h3]; exact ⟨rfl, rfl⟩
  · rename_i h3; rw [if_neg h3]; exact rdU_err xs h
/-- What is opened of bytes and four more. -/
theorem opn_join (hs qs : List Nat) (h : qs.length = 4) : opn (hs ++ qs) = if qs = four (sm 0 hs) then (hs, 0) else ([], 11) := by
  unfold opn
  rw [if_neg (by simp [h]), show (hs ++ qs).length - 4 = hs.length by simp [h], List.drop_left, List.take_left]
/-- A head that is told. -/
theorem hdR_ok (xs : List Nat) (hb : ∀ x ∈ xs, x < 256) (h : (hdR xs).2.2.2 = 0) :
    (hdR xs).1 ≠ 0 ∧ (hdR xs).1 ≤ 1048576 ∧ (hdR xs).2.1 < 18446744073709551616 ∧ enc (hdR xs).1 ++ enc (hdR xs).2.1 = xs.take (hdR xs).2.2.1 ∧ (hdR xs).2.2.1 ≤ xs.length ∧ (hdR xs).2.2.1 = (enc (hdR xs).1).length + (enc (hdR xs).2.1).length := by
  unfold hdR at h ⊢
  split at h
  · cases h
  · rename_i h1
    split at h
    · rename_i h2; exact absurd h h2
    · rename_i h2
      split at h
      · cases h
      · rename_i h3
        split at h
        · rename_i h4; exact absurd h h4
        · rename_i h4
          rw [if_neg h1, if_neg h2, if_neg h3, if_neg h4]
          obtain ⟨a1, a2, a3, a4⟩ := nbr_back xs hb (by simpa using h2)
          obtain ⟨b1, b2, b3, b4⟩ := nbr_back (xs.drop (nbr xs).2.1) (fun x hx => hb x (List.mem_of_mem_drop hx)) (by simpa using h4)
          have l1 : (enc (nbr xs).1).length = (nbr xs).2.1 := by rw [a1, List.length_take]; omega
          have l2 : (enc (nbr (xs.drop (nbr xs).2.1)).1).length = (nbr (xs.drop (nbr xs).2.1)).2.1 := by rw [b1, List.length_take]; omega
          rw [List.length_drop] at b3
          refine ⟨fun h0 => ?_, by omega, b4, ?_, ?_, ?_⟩
          · rw [show (nbr xs).1 = 0 from h0, enc_lt (by decide)] at a1
            apply h1
            right
            cases xs with
            | nil => rfl
            | cons y ys =>
              rw [show (nbr (y :: ys)).2.1 = ((nbr (y :: ys)).2.1 - 1) + 1 by omega, List.take_succ_cons] at a1
              simp only [List.cons.injEq] at a1
              simp [a1.1.symm]
          · show enc (nbr xs).1 ++ enc (nbr (xs.drop (nbr xs).2.1)).1 = xs.take ((nbr xs).2.1 + (nbr (xs.drop (nbr xs).2.1)).2.1)
            rw [List.take_add, ← a1, ← b1]
          · show (nbr xs).2.1 + (nbr (xs.drop (nbr xs).2.1)).2.1 ≤ xs.length
            omega
          · show (nbr xs).2.1 + (nbr (xs.drop (nbr xs).2.1)).2.1 = (enc (nbr xs).1).length + (enc (nbr (xs.drop (nbr xs).2.1)).1).length
            omega
theorem hdR_err (xs : List Nat) (h : (hdR xs).2.2.2 ≠ 0) : (hdR xs).1 = 0 ∧ (hdR xs).2.1 = 0 ∧ (hdR xs).2.2.1 = 0 := by
  unfold hdR at h ⊢
  split at h
  · rename_i h1; rw [if_pos h1]; exact ⟨rfl, rfl, rfl⟩
  · rename_i h1
    rw [if_neg h1]
    split at h
    · rename_i h2; rw [if_pos h2]; exact ⟨rfl, rfl, rfl⟩
    · rename_i h2
      rw [if_neg h2]
      split at h
      · rename_i h3; rw [if_pos h3]; exact ⟨rfl, rfl, rfl⟩
      · rename_i h3
        rw [if_neg h3]
        split at h
        · rename_i h4; rw [if_pos h4]; exact ⟨rfl, rfl, rfl⟩
        · exact absurd rfl h
/-- The head of a record. -/
theorem hdR_rec (ep : Nat) (p ys : List Nat) (he : ep < 18446744073709551616) (h0 : p ≠ []) (hp : p.length ≤ 1048576) :
    hdR (enc p.length ++ enc ep ++ ys) = (p.length, ep, (enc p.length).length + (enc ep).length, 0) := by
  have hl : p.length ≠ 0 := by intro h; exact h0 (List.eq_nil_of_length_eq_zero h)
  have hpos := enc_pos p.length
  have n1 := nbr_enc p.length (enc ep ++ ys) (by omega)
  have n2 := nbr_enc ep ys he
  unfold hdR
  rw [List.append_assoc, n1]
  simp only [List.drop_left, n2]
  rw [if_neg, if_neg (by simp), if_neg (by omega), if_neg (by simp)]
  simp only [not_or]
  exact ⟨by rw [List.length_append]; omega, enc_first hl _⟩
/-- The bytes that One looks at where the head is told and the record ends within the bytes. -/
theorem one_parts (xs : List Nat) (hb : ∀ x ∈ xs, x < 256) (h : (hdR xs).2.2.2 = 0) (hl : (hdR xs).2.2.1 + (hdR xs).1 + 4 ≤ xs.length) :
    ∃ p qs, p = (xs.drop (hdR xs).2.2.1).take (hdR xs).1 ∧ p.length = (hdR xs).1 ∧ qs.length = 4 ∧ xs.take ((hdR xs).2.2.1 + (hdR xs).1 + 4) = recH (hdR xs).2.1 p ++ qs ∧ (recB (hdR xs).2.1 p).length = (hdR xs).2.2.1 + (hdR xs).1 + 4
      ∧ opn (xs.take ((hdR xs).2.2.1 + (hdR xs).1 + 4)) = if recB (hdR xs).2.1 p = xs.take ((hdR xs).2.2.1 + (hdR xs).1 + 4) then (recH (hdR xs).2.1 p, 0) else ([], 11) := by
  obtain ⟨a1, a2, a3, a4, a5, a6⟩ := hdR_ok xs hb h
  generalize hdR xs = R at *
  obtain ⟨n, m, k, e⟩ := R
  simp only at *
  have hpl : ((xs.drop k).take n).length = n := by simp; omega
  have hql : ((xs.drop (k + n)).take 4).length = 4 := by simp; omega
  have e1 : xs.take (k + n + 4) = recH m ((xs.drop k).take n) ++ (xs.drop (k + n)).take 4 := by
    rw [List.take_add, List.take_add, recH, hpl, a4]
  refine ⟨_, _, rfl, hpl, hql, e1, ?_, ?_⟩
  · rw [recB_length, hpl, a6]
  · rw [e1, opn_join _ _ hql, recB]
    by_cases hq : (xs.drop (k + n)).take 4 = four (sm 0 (recH m ((xs.drop k).take n)))
    · rw [if_pos hq, if_pos (by rw [hq])]
    · rw [if_neg hq, if_neg (fun hh => hq (List.append_cancel_left hh).symm)]
/-- What is framed is read as it was, whatever stands behind it. -/
theorem one_rec (ep : Nat) (p ys : List Nat) (he : ep < 18446744073709551616) (h0 : p ≠ []) (hp : p.length ≤ 1048576) : one ep (recB ep p ++ ys) = (p, (recB ep p).length, 0) := by
  have hh : hdR (recB ep p ++ ys) = (p.length, ep, (enc p.length).length + (enc ep).length, 0) := by
    rw [show recB ep p ++ ys = enc p.length ++ enc ep ++ (p ++ (four (sm 0 (recH ep p)) ++ ys)) by simp [recB, recH]]
    exact hdR_rec ep p _ he h0 hp
  have hl := recB_length ep p
  have ht : (recB ep p ++ ys).take ((enc p.length).length + (enc ep).length + p.length + 4) = recB ep p := by rw [← hl]; exact List.take_left
  have ho : opn (recB ep p) = (recH ep p, 0) := by rw [recB, opn_join _ _ rfl, if_pos rfl]
  unfold one
  rw [hh]
  simp only [ht, ho]
  rw [if_neg (by simp), if_neg (by rw [List.length_append]; omega), if_neg (by simp), if_neg (by simp), ← hl]
  rw [recH, ← List.length_append, List.drop_left]
/-- A record of one epoch is none of another one. -/
theorem one_other (a b : Nat) (p ys : List Nat) (he : a < 18446744073709551616) (h0 : p ≠ []) (hp : p.length ≤ 1048576) (hab : a ≠ b) : one b (recB a p ++ ys) = ([], 0, 11) := by
  have hh : hdR (recB a p ++ ys) = (p.length, a, (enc p.length).length + (enc a).length, 0) := by
    rw [show recB a p ++ ys = enc p.length ++ enc a ++ (p ++ (four (sm 0 (recH a p)) ++ ys)) by simp [recB, recH]]
    exact hdR_rec a p _ he h0 hp
  have hl := recB_length a p
  unfold one
  rw [hh]
  simp only
  rw [if_neg (by simp), if_neg (by rw [List.length_append]; omega), if_pos hab]
theorem one_err (ep : Nat) (xs : List Nat) (h : (one ep xs).2.2 ≠ 0) : (one ep xs).1 = [] ∧ (one ep xs).2.1 = 0 := by
  unfold one at h ⊢
  split at h
  · rename_i h1; rw [if_pos h1]; exact ⟨rfl, rfl⟩
  · rename_i h1
    rw [if_neg h1]
    split at h
    · rename_i h2; rw [if_pos h2]; exact ⟨rfl, rfl⟩
    · rename_i h2
      rw [if_neg h2]
      split at h
      · rename_i h3; rw [if_pos h3]; exact ⟨rfl, rfl⟩
      · rename_i h3
        rw [if_neg h3]
        split at h
        · rename_i h4; rw [if_pos h4]; exact ⟨rfl, rfl⟩
        · exact absurd rfl h
/-- What is read was framed. -/
theorem one_ok (ep : Nat) (xs : List Nat) (hb : ∀ x ∈ xs, x < 256) (h : (one ep xs).2.2 = 0) :
    xs.take (one ep xs).2.1 = recB ep (one ep xs).1 ∧ (one ep xs).2.1 ≤ xs.length ∧ (one ep xs).2.1 = (recB ep (one ep xs).1).length ∧ (one ep xs).1 ≠ [] ∧ (one ep xs).1.length ≤ 1048576 ∧ ep < 18446744073709551616 ∧ (one ep xs).1 = (xs.drop (hdR xs).2.2.1).take (hdR xs).1 := by
  unfold one at h ⊢
  split at h
  · rename_i h1; exact absurd h h1
  · rename_i h1
    split at h
    · cases h
    · rename_i h2
      split at h
      · cases h
      · rename_i h3
        split at h
        · rename_i h4; exact absurd h h4
        · rename_i h4
          rw [if_neg h1, if_neg h2, if_neg h3, if_neg h4]
          have h1' : (hdR xs).2.2.2 = 0 := by simpa using h1
          have h3' : (hdR xs).2.1 = ep := by simpa using h3
          obtain ⟨a1, a2, a3, a4, a5, a6⟩ := hdR_ok xs hb h1'
          obtain ⟨p, qs, e1, e2, e3, e4, e5, e6⟩ := one_parts xs hb h1' (by omega)
          rw [e6] at h4 ⊢
          by_cases hr : recB (hdR xs).2.1 p = xs.take ((hdR xs).2.2.1 + (hdR xs).1 + 4)
          · rw [if_pos hr] at h4 ⊢
            have hd : (recH (hdR xs).2.1 p).drop (hdR xs).2.2.1 = p := by
              rw [a6, recH, e2, ← List.length_append, List.drop_left]
            show _ = recB ep ((recH (hdR xs).2.1 p).drop (hdR xs).2.2.1) ∧ _ ∧ _ = (recB ep ((recH (hdR xs).2.1 p).drop (hdR xs).2.2.1)).length ∧ (recH (hdR xs).2.1 p).drop (hdR xs).2.2.1 ≠ [] ∧ ((recH (hdR xs).2.1 p).drop (hdR xs).2.2.1).length ≤ _ ∧ _ ∧ (recH (hdR xs).2.1 p).drop (hdR xs).2.2.1 = _
            rw [hd, ← h3']
            refine ⟨hr.symm, by show (hdR xs).2.2.1 + (hdR xs).1 + 4 ≤ _; omega, e5.symm, fun h0 => ?_, by omega, a3, e1⟩
            rw [h0] at e2
            exact a1 e2.symm
          · rw [if_neg hr] at h4
            exact absurd (by decide) h4
theorem one_pos (ep : Nat) (xs : List Nat) (hb : ∀ x ∈ xs, x < 256) (h : (one ep xs).2.2 = 0) : 7 ≤ (one ep xs).2.1 := by
  obtain ⟨_, _, h3, h4, _⟩ := one_ok ep xs hb h
  have := enc_pos (one ep xs).1.length
  have := enc_pos ep
  have : (one ep xs).1.length ≠ 0 := fun h => h4 (List.eq_nil_of_length_eq_zero h)
  rw [h3, recB_length]
  omega
/-- What stands behind a record does not matter. -/
theorem one_more (ep : Nat) (xs ys : List Nat) (hb : ∀ x ∈ xs, x < 256) (h : (one ep xs).2.2 = 0) : one ep (xs ++ ys) = one ep xs := by
  obtain ⟨h1, h2, h3, h4, h5, h6, _⟩ := one_ok ep xs hb h
  have e : xs ++ ys = recB ep (one ep xs).1 ++ (xs.drop (one ep xs).2.1 ++ ys) := by rw [← h1, ← List.append_assoc, List.take_append_drop]
  rw [e, one_rec ep _ _ h6 h4 h5, ← h3, ← h]
/-- A part of a record is none. -/
theorem one_cut (ep : Nat) (p : List Nat) (n : Nat) (he : ep < 18446744073709551616) (h0 : p ≠ []) (hp : p.length ≤ 1048576) (hb : ∀ x ∈ p, x < 256) (hn : n < (recB ep p).length) : (one ep ((recB ep p).take n)).2.2 ≠ 0 := by
  intro h
  have hb' : ∀ x ∈ (recB ep p).take n, x < 256 := fun x hx => recB_byte ep p hb x (List.mem_of_mem_take hx)
  have h1 := one_more ep ((recB ep p).take n) ((recB ep p).drop n) hb' h
  rw [List.take_append_drop] at h1
  have h2 := one_rec ep p [] he h0 hp
  rw [List.append_nil, h1] at h2
  obtain ⟨_, h3, _⟩ := one_ok ep _ hb' h
  rw [h2, List.length_take] at h3
  simp only at h3
  omega
end Go.Proofs.YtjnhcanohefjiaaGreatDoor
