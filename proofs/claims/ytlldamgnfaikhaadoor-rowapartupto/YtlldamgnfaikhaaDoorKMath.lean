/- Numbers as bytes, outside any program: what is laid is read as it was; what is read, laid again, are the same bytes; how many bytes there are. -/
import Derived.Lib.BitFns
namespace Go.Proofs.YtlldamgnfaikhaaDoor

/-- A number in groups of seven bits, the lowest first. -/
def enc (n : Nat) : List Nat := if n < 128 then [n] else (n % 128 + 128) :: enc (n / 128)
  termination_by n
  decreasing_by omega
theorem enc_lt {n : Nat} (h : n < 128) : enc n = [n] := by rw [enc, if_pos h]
theorem enc_ge {n : Nat} (h : 128 ≤ n) : enc n = (n % 128 + 128) :: enc (n / 128) := by rw [enc, if_neg (by omega)]
/-- The number at the begin of bytes, from the place i on, and what was read so far: the number, how many bytes, the error's number. -/
def dec (acc i : Nat) : List Nat → Nat × Nat × Nat
  | [] => if i = 10 then (0, 0, 3) else (0, 0, 12)
  | y :: ys => if i = 10 then (0, 0, 3) else if 128 ≤ y then dec (acc + (y - 128) * 128 ^ i) (i + 1) ys else if (i ≠ 0 ∧ y = 0) ∨ (i = 9 ∧ 1 < y) then (0, 0, 3) else (acc + y * 128 ^ i, i + 1, 0)
theorem pow9 : (128 : Nat) ^ 9 = 9223372036854775808 := by decide
theorem pow10 : (128 : Nat) ^ 10 = 1180591620717411303424 := by decide
theorem place_lt {i n : Nat} (hn : n * 128 ^ i < 18446744073709551616) (h0 : i ≠ 0 → n ≠ 0) : i < 10 ∧ ¬ (i = 9 ∧ 1 < n) := by
  refine ⟨?_, ?_⟩
  · apply Classical.byContradiction
    intro hc
    have h1 : (128 : Nat) ^ 10 ≤ 128 ^ i := Nat.pow_le_pow_right (by decide) (by omega)
    rw [pow10] at h1
    have h2 : 1 * 128 ^ i ≤ n * 128 ^ i := Nat.mul_le_mul_right _ (by have := h0 (by omega); omega)
    omega
  · rintro ⟨rfl, h⟩
    rw [pow9] at hn
    omega
theorem dec_enc : ∀ (n acc i : Nat) (ys : List Nat), n * 128 ^ i < 18446744073709551616 → (i ≠ 0 → n ≠ 0) → dec acc i (enc n ++ ys) = (acc + n * 128 ^ i, i + (enc n).length, 0) := by
  intro n
  induction n using Nat.strongRecOn with
  | ind n ih =>
    intro acc i ys hn h0
    obtain ⟨h10, h9⟩ := place_lt hn h0
    by_cases hs : n < 128
    · rw [enc_lt hs, List.singleton_append, dec, if_neg (by omega), if_neg (by omega), if_neg (by omega)]
      rfl
    · have e : n = n % 128 + 128 * (n / 128) := (Nat.mod_add_div n 128).symm
      have hp : (128 : Nat) ^ (i + 1) = 128 ^ i * 128 := Nat.pow_succ ..
      have hm : n * 128 ^ i = n % 128 * 128 ^ i + n / 128 * 128 ^ (i + 1) := by
        rw [hp]
        conv => lhs; rw [e, Nat.add_mul]
        congr 1
        rw [Nat.mul_comm (128 ^ i) 128, ← Nat.mul_assoc, Nat.mul_comm 128]
      rw [enc_ge (by omega), List.cons_append, dec, if_neg (by omega), if_pos (by omega), ih (n / 128) (by omega) _ (i + 1) ys (by omega) (by omega), show n % 128 + 128 - 128 = n % 128 by omega]
      simp only [List.length_cons, Prod.mk.injEq, and_true]
      omega
theorem dec_err : ∀ (xs : List Nat) (acc i : Nat), (dec acc i xs).2.2 ≠ 0 → (dec acc i xs).1 = 0 ∧ (dec acc i xs).2.1 = 0 := by
  intro xs
  induction xs with
  | nil => intro acc i _; unfold dec; split <;> exact ⟨rfl, rfl⟩
  | cons y ys ih =>
    intro acc i h
    unfold dec at h ⊢
    split
    · exact ⟨rfl, rfl⟩
    · rename_i h1
      rw [if_neg h1] at h
      split
      · rename_i h2
        rw [if_pos h2] at h
        exact ih _ _ h
      · rename_i h2
        rw [if_neg h2] at h
        split
        · exact ⟨rfl, rfl⟩
        · rename_i h3
          rw [if_neg h3] at h
          exact absurd rfl h
theorem dec_errs : ∀ (xs : List Nat) (acc i : Nat), (dec acc i xs).2.2 = 0 ∨ (dec acc i xs).2.2 = 3 ∨ (dec acc i xs).2.2 = 12 := by
  intro xs
  induction xs with
  | nil => intro acc i; unfold dec; split <;> simp
  | cons y ys ih =>
    intro acc i
    unfold dec
    split
    · simp
    · split
      · exact ih _ _
      · split <;> simp
theorem dec_back : ∀ (xs : List Nat) (acc i : Nat), (∀ x ∈ xs, x < 256) → i ≤ 10 → (dec acc i xs).2.2 = 0 →
    ∃ n, (dec acc i xs).1 = acc + n * 128 ^ i ∧ enc n = xs.take ((dec acc i xs).2.1 - i) ∧ i < (dec acc i xs).2.1 ∧ (dec acc i xs).2.1 - i ≤ xs.length ∧ (i ≠ 0 → n ≠ 0) ∧ (n + 1) * 128 ^ i ≤ 18446744073709551616 := by
  intro xs
  induction xs with
  | nil =>
    intro acc i _ _ h
    unfold dec at h
    split at h <;> simp at h
  | cons y ys ih =>
    intro acc i hb hi h
    unfold dec at h ⊢
    split at h
    · simp at h
    · rename_i h1
      rw [if_neg h1]
      split at h
      · rename_i h2
        rw [if_pos h2]
        have hy : y < 256 := hb y (List.mem_cons_self ..)
        obtain ⟨n, e1, e2, e3, e4, e5, e6⟩ := ih (acc + (y - 128) * 128 ^ i) (i + 1) (fun x hx => hb x (List.mem_cons_of_mem _ hx)) (by omega) h
        have hp : (128 : Nat) ^ (i + 1) = 128 ^ i * 128 := Nat.pow_succ ..
        have hn : n ≠ 0 := e5 (by omega)
        generalize (dec (acc + (y - 128) * 128 ^ i) (i + 1) ys) = r at *
        refine ⟨y - 128 + 128 * n, ?_, ?_, by omega, ?_, by omega, ?_⟩
        · rw [e1, hp, Nat.add_mul, Nat.add_assoc, Nat.mul_comm (128 ^ i) 128, ← Nat.mul_assoc, Nat.mul_comm n 128]
        · rw [enc_ge (by omega), show (y - 128 + 128 * n) % 128 + 128 = y by omega, show (y - 128 + 128 * n) / 128 = n by omega, e2, show r.2.1 - i = (r.2.1 - (i + 1)) + 1 by omega, List.take_succ_cons]
        · simp only [List.length_cons]
          omega
        · have h3 : (y - 128 + 128 * n + 1) * 128 ^ i ≤ (128 * (n + 1)) * 128 ^ i := Nat.mul_le_mul_right _ (by omega)
          have h4 : (128 * (n + 1)) * 128 ^ i = (n + 1) * 128 ^ (i + 1) := by rw [hp, Nat.mul_comm 128 (n + 1), Nat.mul_assoc, Nat.mul_comm 128]
          omega
      · rename_i h2
        rw [if_neg h2]
        split at h
        · simp at h
        · rename_i h3
          rw [if_neg h3]
          refine ⟨y, rfl, ?_, by show i < i + 1; omega, ?_, ?_, ?_⟩
          · show enc y = List.take (i + 1 - i) (y :: ys)
            rw [enc_lt (by omega), show i + 1 - i = 1 by omega]
            rfl
          · show i + 1 - i ≤ _
            simp only [List.length_cons]
            omega
          · intro h0 hy
            exact h3 (.inl ⟨h0, hy⟩)
          · by_cases h9 : i = 9
            · subst h9
              rw [pow9]
              have : ¬ 1 < y := fun h => h3 (.inr ⟨rfl, h⟩)
              omega
            · have h5 : (y + 1) * 128 ^ i ≤ 128 * 128 ^ i := Nat.mul_le_mul_right _ (by omega)
              have h6 : 128 * 128 ^ i = (128 : Nat) ^ (i + 1) := by rw [Nat.pow_succ, Nat.mul_comm]
              have h7 : (128 : Nat) ^ (i + 1) ≤ 128 ^ 9 := Nat.pow_le_pow_right (by decide) (by omega)
              rw [pow9] at h7
              omega
/-- The number at the begin of bytes. -/
def rdU (xs : List Nat) : Nat × Nat × Nat := dec 0 0 xs
theorem rdU_enc (n : Nat) (ys : List Nat) (h : n < 18446744073709551616) : rdU (enc n ++ ys) = (n, (enc n).length, 0) := by
  unfold rdU
  rw [dec_enc n 0 0 ys (by omega) (by omega)]
  simp
theorem rdU_back (xs : List Nat) (hb : ∀ x ∈ xs, x < 256) (h : (rdU xs).2.2 = 0) : enc (rdU xs).1 = xs.take (rdU xs).2.1 ∧ 0 < (rdU xs).2.1 ∧ (rdU xs).2.1 ≤ xs.length ∧ (rdU xs).1 < 18446744073709551616 := by
  obtain ⟨n, e1, e2, e3, e4, _, e6⟩ := dec_back xs 0 0 hb (by omega) h
  unfold rdU
  rw [Nat.pow_zero, Nat.mul_one, Nat.zero_add] at e1
  rw [Nat.pow_zero, Nat.mul_one] at e6
  rw [e1]
  exact ⟨e2, e3, e4, by omega⟩
theorem rdU_err (xs : List Nat) (h : (rdU xs).2.2 ≠ 0) : (rdU xs).1 = 0 ∧ (rdU xs).2.1 = 0 := dec_err xs 0 0 h
theorem rdU_errs (xs : List Nat) : (rdU xs).2.2 = 0 ∨ (rdU xs).2.2 = 3 ∨ (rdU xs).2.2 = 12 := dec_errs xs 0 0
theorem rdU_lt (xs : List Nat) (hb : ∀ x ∈ xs, x < 256) : (rdU xs).1 < 18446744073709551616 ∧ (rdU xs).2.1 ≤ xs.length := by
  by_cases h : (rdU xs).2.2 = 0
  · obtain ⟨_, _, h1, h2⟩ := rdU_back xs hb h
    exact ⟨h2, h1⟩
  · obtain ⟨h1, h2⟩ := rdU_err xs h
    rw [h1, h2]
    exact ⟨by decide, Nat.zero_le _⟩
/-- How many bytes say a number. -/
theorem enc_length : ∀ n : Nat, n < 18446744073709551616 → (enc n).length = max 1 ((Lib.bitLen n + 6) / 7) := by
  intro n
  induction n using Nat.strongRecOn with
  | ind n ih =>
    intro hn
    by_cases hs : n < 128
    · rw [enc_lt hs]
      have := Lib.bitLen_le n 7 (by omega) (by omega)
      simp only [List.length_cons, List.length_nil]
      omega
    · have h1 := Lib.bitLen_shift 7 n (by omega) (by omega)
      rw [show (2 : Nat) ^ 7 = 128 from rfl] at h1
      have h2 := Lib.bitLen_half (n / 128) (by omega) (by omega)
      rw [enc_ge (by omega), List.length_cons, ih (n / 128) (by omega) (by omega), h1]
      omega
theorem enc_mono : ∀ n m : Nat, m ≤ n → (enc m).length ≤ (enc n).length := by
  intro n
  induction n using Nat.strongRecOn with
  | ind n ih =>
    intro m h
    by_cases hm : m < 128
    · rw [enc_lt hm]
      by_cases hs : n < 128
      · rw [enc_lt hs]; exact Nat.le_refl _
      · rw [enc_ge (by omega)]; simp only [List.length_cons, List.length_nil]; omega
    · rw [enc_ge (n := m) (by omega), enc_ge (n := n) (by omega)]
      have := ih (n / 128) (by omega) (m / 128) (by omega)
      simp only [List.length_cons]
      omega
theorem enc_pos (n : Nat) : 0 < (enc n).length := by
  rw [enc]; split <;> simp
theorem enc_le10 (n : Nat) (h : n < 18446744073709551616) : (enc n).length ≤ 10 := by
  rw [enc_length n h]
  have := Lib.bitLen_le n 64 (by omega) (by omega)
  omega
theorem enc_byte : ∀ n : Nat, ∀ x ∈ enc n, x < 256 := by
  intro n
  induction n using Nat.strongRecOn with
  | ind n ih =>
    intro x hx
    by_cases hs : n < 128
    · rw [enc_lt hs] at hx; simp at hx; omega
    · rw [enc_ge (by omega)] at hx
      rcases List.mem_cons.1 hx with rfl | hx
      · omega
      · exact ih (n / 128) (by omega) x hx
/-- A number with a sign as one without. -/
def zz (n : Int) : Nat := if n < 0 then (-2 * n - 1).toNat else (2 * n).toNat
def unzz (v : Nat) : Int := if v % 2 = 1 then -(v / 2 : Nat) - 1 else (v / 2 : Nat)
theorem unzz_zz (n : Int) : unzz (zz n) = n := by
  unfold unzz zz
  split <;> split <;> omega
theorem zz_lt (n : Int) (h0 : -9223372036854775808 ≤ n) (h1 : n ≤ 9223372036854775807) : zz n < 18446744073709551616 := by
  unfold zz
  split <;> omega
/-- Bytes as a string. -/
def bs (xs : List Nat) : ByteArray := ⟨(xs.map fun n => UInt8.ofNat n).toArray⟩
/-- The bytes of a string. -/
def sb (s : ByteArray) : List Nat := s.data.toList.map (·.toNat)
theorem bs_sb (s : ByteArray) : bs (sb s) = s := by
  obtain ⟨d⟩ := s
  simp [bs, sb, Function.comp_def]
theorem bs_append (xs ys : List Nat) : bs xs ++ bs ys = bs (xs ++ ys) := by
  ext1
  simp [bs, ByteArray.data_append]
theorem sb_length (s : ByteArray) : (sb s).length = s.size := by unfold sb; rw [List.length_map, Array.length_toList]; rfl
theorem sb_byte (s : ByteArray) : ∀ x ∈ sb s, x < 256 := by
  intro x hx
  obtain ⟨u, _, rfl⟩ := List.mem_map.1 hx
  exact u.toNat_lt
theorem bs_size (xs : List Nat) : (bs xs).size = xs.length := by simp [bs, ByteArray.size]
end Go.Proofs.YtlldamgnfaikhaaDoor
