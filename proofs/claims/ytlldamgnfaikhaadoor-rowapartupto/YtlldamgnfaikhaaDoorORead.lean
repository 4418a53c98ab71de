/- Plain facts on bytes read as values: what the document reads of a text, and that it meets the values whose text it is. No program is in it. -/
import Derived.Test.YtlldamgnfaikhaaDoorOMath
namespace Go.Proofs.YtlldamgnfaikhaaDoor
open Go.Lib

/-- One value read, and what is left. -/
def rdV (c : UInt8) (r : List UInt8) : Val × List UInt8 :=
  if c.toNat = 2 then (⟨1, (num8 (r.take 8) : Int) - 9223372036854775808, ⟨#[]⟩, false⟩, r.drop 8)
  else if c.toNat = 3 then (⟨2, 0, ⟨(r.takeWhile (· != 0)).toArray⟩, false⟩, (r.dropWhile (· != 0)).drop 1)
  else if c.toNat = 4 then (⟨3, 0, ⟨#[]⟩, r.head? == some 1⟩, r.drop 1)
  else (⟨(c.toNat : Int) - 1, 0, ⟨#[]⟩, false⟩, r)
theorem rdV_len (c : UInt8) (r : List UInt8) : (rdV c r).2.length ≤ r.length := by
  unfold rdV
  split
  · simp
  · split
    · have := (List.dropWhile_sublist (fun x : UInt8 => x != 0) (l := r)).length_le
      simp only [List.length_drop]; omega
    · split
      · simp
      · exact Nat.le_refl _
/-- All values read. -/
def rdL : Nat → List UInt8 → List Val
  | 0, _ => []
  | _ + 1, [] => []
  | f + 1, c :: r => (rdV c r).1 :: rdL f (rdV c r).2
theorem rdL_more : ∀ f s, s.length ≤ f → ∀ d, rdL (f + d) s = rdL f s
  | 0, s, h, d => by
    have : s = [] := List.eq_nil_of_length_eq_zero (by omega)
    subst this
    cases d <;> simp [rdL]
  | f + 1, [], _, d => by rw [Nat.add_right_comm]; rfl
  | f + 1, c :: r, h, d => by
    rw [Nat.add_right_comm, rdL, rdL]
    have := rdV_len c r
    rw [rdL_more f _ (by simp at h; omega) d]
def readL (s : List UInt8) : List Val := rdL s.length s
theorem readL_cons (c : UInt8) (r : List UInt8) : readL (c :: r) = (rdV c r).1 :: readL (rdV c r).2 := by
  have h := rdV_len c r
  unfold readL
  rw [List.length_cons, rdL]
  obtain ⟨d, hd⟩ : ∃ d, r.length = (rdV c r).2.length + d := ⟨r.length - (rdV c r).2.length, by omega⟩
  rw [hd, rdL_more _ _ (Nat.le_refl _)]
theorem num8_append {n : Nat} (h : n < 18446744073709551616) (r : List UInt8) : num8 ((be 8 n ++ r).take 8) = n := by
  rw [List.take_append_of_le_length (by rw [be_len]; exact Nat.le_refl _), List.take_of_length_le (by rw [be_len]; exact Nat.le_refl _), num8_be h]
theorem take_text : ∀ (t r : List UInt8), (∀ c ∈ t, 32 ≤ c.toNat) → ((t ++ 0 :: r).takeWhile (· != 0)) = t ∧ ((t ++ 0 :: r).dropWhile (· != 0)) = 0 :: r
  | [], r, _ => by simp
  | c :: t, r, h => by
    have hc : (c != 0) = true := by
      have := h c (by simp)
      simp only [bne_iff_ne, ne_eq]
      intro e; subst e; exact absurd this (by decide)
    obtain ⟨h1, h2⟩ := take_text t r (fun x hx => h x (by simp [hx]))
    rw [List.cons_append, List.takeWhile_cons, List.dropWhile_cons, hc]
    simp only [if_true]
    exact ⟨by rw [h1], h2⟩
/-- What is laid is read. -/
theorem rdV_enc {v : Val} (h : OkV v) (r : List UInt8) : ∃ c q, encV v = c :: q ∧ rdV c (q ++ r) = (v, r) := by
  refine ⟨_, _, rfl, ?_⟩
  have hf := fit_of_valid h.1
  have hk := valid_kind hf
  simp only [fit, Bool.or_eq_true, Bool.and_eq_true, beq_iff_eq, Bool.not_eq_true'] at hf
  have hc : (UInt8.ofNat (v.k + 1).toNat).toNat = (v.k + 1).toNat := by rw [UInt8.toNat_ofNat']; omega
  unfold rdV body
  rw [hc]
  rcases hf with ((⟨⟨⟨a0, a1⟩, a2⟩, a3⟩ | ⟨⟨a0, a2⟩, a3⟩) | ⟨⟨a0, a1⟩, a3⟩) | ⟨⟨a0, a1⟩, a2⟩
  · rw [if_neg (by omega), if_neg (by omega), if_neg (by omega), if_neg (by omega), if_neg (by omega), if_neg (by omega)]
    refine Prod.ext ?_ rfl
    exact val_ext (by show (((v.k + 1).toNat : Nat) : Int) - 1 = v.k; omega) a1.symm (ba_empty a2).symm a3.symm
  · rw [if_pos (by omega), if_pos a0]
    obtain ⟨x1, x2⟩ := h.2
    refine Prod.ext ?_ ?_
    · refine val_ext a0.symm ?_ (ba_empty a2).symm a3.symm
      show (num8 ((be 8 (word v.n) ++ r).take 8) : Int) - 9223372036854775808 = v.n
      rw [num8_append (by unfold word; omega)]
      unfold word; omega
    · show (be 8 (word v.n) ++ r).drop 8 = r
      rw [List.drop_append_of_le_length (by rw [be_len]; exact Nat.le_refl _), List.drop_of_length_le (by rw [be_len]; exact Nat.le_refl _), List.nil_append]
  · rw [if_neg (by omega), if_pos (by omega), if_neg (by omega), if_pos a0]
    have e : v.t.data.toList ++ [0] ++ r = v.t.data.toList ++ 0 :: r := by simp
    obtain ⟨h1, h2⟩ := take_text v.t.data.toList r (fun c hc => (all_ok h.1 c hc).1)
    rw [e]
    refine Prod.ext ?_ ?_
    · refine val_ext a0.symm a1.symm ?_ a3.symm
      show (⟨((v.t.data.toList ++ 0 :: r).takeWhile (· != 0)).toArray⟩ : ByteArray) = v.t
      rw [h1]
    · show ((v.t.data.toList ++ 0 :: r).dropWhile (· != 0)).drop 1 = r
      rw [h2]; rfl
  · rw [if_neg (by omega), if_neg (by omega), if_pos (by omega), if_neg (by omega), if_neg (by omega), if_pos a0]
    refine Prod.ext ?_ rfl
    refine val_ext a0.symm a1.symm (ba_empty a2).symm ?_
    cases v.b <;> rfl
theorem readL_enc : ∀ l : List Val, (∀ v ∈ l, OkV v) → readL (encL l) = l
  | [], _ => rfl
  | v :: l, h => by
    obtain ⟨c, q, e, hr⟩ := rdV_enc (h v (by simp)) (encL l)
    have ee : encL (v :: l) = c :: (q ++ encL l) := by rw [encL, List.flatMap_cons, e]; rfl
    rw [ee, readL_cons, hr]
    show v :: readL (encL l) = v :: l
    rw [readL_enc l (fun x hx => h x (by simp [hx]))]
end Go.Proofs.YtlldamgnfaikhaaDoor
