/- Numbers as bytes, outside any program: what is laid is read as it was; what is read, laid again, are the same bytes; how many bytes there are; Sums of bytes, outside any program: to divide is linear over xor and takes nothing to nothing else; so sums are told apart by up to 32 neighbouring bits; What is read and opened, plainly; Records as bytes, outside any program: what is framed is read as it was, a part of it is none, and nothing else is read; One as the document reads it, plainly. -/
import Derived.Lib.BitFns
namespace Go.Proofs.YtjnhcanohefjiaaGreatDoor

/-- A number in groups of seven bits, the lowest first. -/
def enc (n : Nat) : List Nat := if n < 128 then [n] else (n % 128 + 128) :: enc (n / 128)
  termination_by n
  decreasing_by omega
theorem enc_lt {n : Nat} (h : n < 128) : enc n = [n] := by rw [enc, if_pos h]
theorem enc_ge {n : Nat} (h : 128 ≤ n) : enc n = (n % 128 + 128) :: enc (n / 128) := by rw [enc, if_neg (by omega)]
/-- The number at the begin of bytes, from the place i on, and what was read so far: the number, how many bytes, the error's number. -/
def dec (acc i : Nat) : List Nat → Nat × Nat × Nat
  | [] => if i = 10 then (0, 0, 3) else (0, 0, 12)
  | y :: ys => if i = 10 then (0, 0, 3) else if 128 ≤ y then dec (acc + (y - 128) * 128 ^ i) (i + 1) ys else if (i ≠ 0 ∧ y = 0) ∨ (i = 9 ∧ 1 < y) then (0, 0, 3) else (acc + y * 128 ^ i, i + 1, 0)
theorem pow9 : (128 : Nat) ^ 9 = 9223372036854775808 := by decide
theorem pow10 : (128 : Nat) ^ 10 = 1180591620717411303424 := by decide
theorem place_lt {i n : Nat} (hn : n * 128 ^ i < 18446744073709551616) (h0 : i ≠ 0 → n ≠ 0) : i < 10 ∧ ¬ (i = 9 ∧ 1 < n) := by
  refine ⟨?_, ?_⟩
  · apply Classical.byContradiction
    intro hc
    have h1 : (128 : Nat) ^ 10 ≤ 128 ^ i := Nat.pow_le_pow_right (by decide) (by omega)
    rw [pow10] at h1
    have h2 : 1 * 128 ^ i ≤ n * 128 ^ i := Nat.mul_le_mul_right _ (by have := h0 (by omega); omega)
    omega
  · rintro ⟨rfl, h⟩
    rw [pow9] at hn
    omega
theorem dec_enc : ∀ (n acc i : Nat) (ys : List Nat), n * 128 ^ i < 18446744073709551616 → (i ≠ 0 → n ≠ 0) → dec acc i (enc n ++ ys) = (acc + n * 128 ^ i, i + (enc n).length, 0) := by
  intro n
  induction n using Nat.strongRecOn with
  | ind n ih =>
    intro acc i ys hn h0
    obtain ⟨h10, h9⟩ := place_lt hn h0
    by_cases hs : n < 128
    · rw [enc_lt hs, List.singleton_append, dec, if_neg (by omega), if_neg (by omega), if_neg (by omega)]
      rfl
    · have e : n = n % 128 + 128 * (n / 128) := (Nat.mod_add_div n 128).symm
      have hp : (128 : Nat) ^ (i + 1) = 128 ^ i * 128 := Nat.pow_succ ..
      have hm : n * 128 ^ i = n % 128 * 128 ^ i + n / 128 * 128 ^ (i + 1) := by
        rw [hp]
        conv => lhs; rw [e, Nat.add_mul]
        congr 1
        rw [Nat.mul_comm (128 ^ i) 128, ← Nat.mul_assoc, Nat.mul_comm 128]
      rw [enc_ge (by omega), List.cons_append, dec, if_neg (by omega), if_pos (by omega), ih (n / 128) (by omega) _ (i + 1) ys (by omega) (by omega), show n % 128 + 128 - 128 = n % 128 by omega]
      simp only [List.length_cons, Prod.mk.injEq, and_true]
      omega
theorem dec_err : ∀ (xs : List Nat) (acc i : Nat), (dec acc i xs).2.2 ≠ 0 → (dec acc i xs).1 = 0 ∧ (dec acc i xs).2.1 = 0 := by
  intro xs
  induction xs with
  | nil => intro acc i _; unfold dec; split <;> exact ⟨rfl, rfl⟩
  | cons y ys ih =>
    intro acc i h
    unfold dec at h ⊢
    split
    · exact ⟨rfl, rfl⟩
    · rename_i h1
      rw [if_neg h1] at h
      split
      · rename_i h2
        rw [if_pos h2] at h
        exact ih _ _ h
      · rename_i h2
        rw [if_neg h2] at h
        split
        · exact ⟨rfl, rfl⟩
        · rename_i h3
          rw [if_neg h3] at h
          exact absurd rfl h
theorem dec_errs : ∀ (xs : List Nat) (acc i : Nat), (dec acc i xs).2.2 = 0 ∨ (dec acc i xs).2.2 = 3 ∨ (dec acc i xs).2.2 = 12 := by
  intro xs
  induction xs with
  | nil => intro acc i; unfold dec; split <;> simp
  | cons y ys ih =>
    intro acc i
    unfold dec
    split
    · simp
    · split
      · exact ih _ _
      · split <;> simp
theorem dec_back : ∀ (xs : List Nat) (acc i : Nat), (∀ x ∈ xs, x < 256) → i ≤ 10 → (dec acc i xs).2.2 = 0 →
    ∃ n, (dec acc i xs).1 = acc + n * 128 ^ i ∧ enc n = xs.take ((dec acc i xs).2.1 - i) ∧ i < (dec acc i xs).2.1 ∧ (dec acc i xs).2.1 - i ≤ xs.length ∧ (i ≠ 0 → n ≠ 0) ∧ (n + 1) * 128 ^ i ≤ 18446744073709551616 := by
  intro xs
  induction xs with
  | nil =>
    intro acc i _ _ h
    unfold dec at h
    split at h <;> simp at h
  | cons y ys ih =>
    intro acc i hb hi h
    unfold dec at h ⊢
    split at h
    · simp at h
    · rename_i h1
      rw [if_neg h1]
      split at h
      · rename_i h2
        rw [if_pos h2]
        have hy : y < 256 := hb y (List.mem_cons_self ..)
        obtain ⟨n, e1, e2, e3, e4, e5, e6⟩ := ih (acc + (y - 128) * 128 ^ i) (i + 1) (fun x hx => hb x (List.mem_cons_of_mem _ hx)) (by omega) h
        have hp : (128 : Nat) ^ (i + 1) = 128 ^ i * 128 := Nat.pow_succ ..
        have hn : n ≠ 0 := e5 (by omega)
        generalize (dec (acc + (y - 128) * 128 ^ i) (i + 1) ys) = r at *
        refine ⟨y - 128 + 128 * n, ?_, ?_, by omega, ?_, by omega, ?_⟩
        · rw [e1, hp, Nat.add_mul, Nat.add_assoc, Nat.mul_comm (128 ^ i) 128, ← Nat.mul_assoc, Nat.mul_comm n 128]
        · rw [enc_ge (by omega), show (y - 128 + 128 * n) % 128 + 128 = y by omega, show (y - 128 + 128 * n) / 128 = n by omega, e2, show r.2.1 - i = (r.2.1 - (i + 1)) + 1 by omega, List.take_succ_cons]
        · simp only [List.length_cons]
          omega
        · have h3 : (y - 128 + 128 * n + 1) * 128 ^ i ≤ (128 * (n + 1)) * 128 ^ i := Nat.mul_le_mul_right _ (by omega)
          have h4 : (128 * (n + 1)) * 128 ^ i = (n + 1) * 128 ^ (i + 1) := by rw [hp, Nat.mul_comm 128 (n + 1), Nat.mul_assoc, Nat.mul_comm 128]
          omega
      · rename_i h2
        rw [if_neg h2]
        split at h
        · simp at h
        · rename_i h3
          rw [if_neg h3]
          refine ⟨y, rfl, ?_, by show i < i + 1; omega, ?_, ?_, ?_⟩
          · show enc y = List.take (i + 1 - i) (y :: ys)
            rw [enc_lt (by omega), show i + 1 - i = 1 by omega]
            rfl
          · show i + 1 - i ≤ _
            simp only [List.length_cons]
            omega
          · intro h0 hy
            exact h3 (.inl ⟨h0, hy⟩)
          · by_cases h9 : i = 9
            · subst h9
              rw [pow9]
              have : ¬ 1 < y := fun h => h3 (.inr ⟨rfl, h⟩)
              omega
            · have h5 : (y + 1) * 128 ^ i ≤ 128 * 128 ^ i := Nat.mul_le_mul_right _ (by omega)
              have h6 : 128 * 128 ^ i = (128 : Nat) ^ (i + 1) := by rw [Nat.pow_succ, Nat.mul_comm]
              have h7 : (128 : Nat) ^ (i + 1) ≤ 128 ^ 9 := Nat.pow_le_pow_right (by decide) (by omega)
              rw [pow9] at h7
              omega
/-- The number at the begin of bytes. -/
def rdU (xs : List Nat) : Nat × Nat × Nat := dec 0 0 xs
theorem rdU_enc (n : Nat) (ys : List Nat) (h : n < 18446744073709551616) : rdU (enc n ++ ys) = (n, (enc n).length, 0) := by
  unfold rdU
  rw [dec_enc n 0 0 ys (by omega) (by omega)]
  simp
theorem rdU_back (xs : List Nat) (hb : ∀ x ∈ xs, x < 256) (h : (rdU xs).2.2 = 0) : enc (rdU xs).1 = xs.take (rdU xs).2.1 ∧ 0 < (rdU xs).2.1 ∧ (rdU xs).2.1 ≤ xs.length ∧ (rdU xs).1 < 18446744073709551616 := by
  obtain ⟨n, e1, e2, e3, e4, _, e6⟩ := dec_back xs 0 0 hb (by omega) h
  unfold rdU
  rw [Nat.pow_zero, Nat.mul_one, Nat.zero_add] at e1
  rw [Nat.pow_zero, Nat.mul_one] at e6
  rw [e1]
  exact ⟨e2, e3, e4, by omega⟩
theorem rdU_err (xs : List Nat) (h : (rdU xs).2.2 ≠ 0) : (rdU xs).1 = 0 ∧ (rdU xs).2.1 = 0 := dec_err xs 0 0 h
theorem rdU_errs (xs : List Nat) : (rdU xs).2.2 = 0 ∨ (rdU xs).2.2 = 3 ∨ (rdU xs).2.2 = 12 := dec_errs xs 0 0
theorem rdU_lt (xs : List Nat) (hb : ∀ x ∈ xs, x < 256) : (rdU xs).1 < 18446744073709551616 ∧ (rdU xs).2.1 ≤ xs.length := by
  by_cases h : (rdU xs).2.2 = 0
  · obtain ⟨_, _, h1, h2⟩ := rdU_back xs hb h
    exact ⟨h2, h1⟩
  · obtain ⟨h1, h2⟩ := rdU_err xs h
    rw [h1, h2]
    exact ⟨by decide, Nat.zero_le _⟩
/-- How many bytes say a number. -/
theorem enc_length : ∀ n : Nat, n < 18446744073709551616 → (enc n).length = max 1 ((Lib.bitLen n + 6) / 7) := by
  intro n
  induction n using Nat.strongRecOn with
  | ind n ih =>
    intro hn
    by_cases hs : n < 128
    · rw [enc_lt hs]
      have := Lib.bitLen_le n 7 (by omega) (by omega)
      simp only [List.length_cons, List.length_nil]
      omega
    · have h1 := Lib.bitLen_shift 7 n (by omega) (by omega)
      rw [show (2 : Nat) ^ 7 = 128 from rfl] at h1
      have h2 := Lib.bitLen_half (n / 128) (by omega) (by omega)
      rw [enc_ge (by omega), List.length_cons, ih (n / 128) (by omega) (by omega), h1]
      omega
theorem enc_mono : ∀ n m : Nat, m ≤ n → (enc m).length ≤ (enc n).length := by
  intro n
  induction n using Nat.strongRecOn with
  | ind n ih =>
    intro m h
    by_cases hm : m < 128
    · rw [enc_lt hm]
      by_cases hs : n < 128
      · rw [enc_lt hs]; exact Nat.le_refl _
      · rw [enc_ge (by omega)]; simp only [List.length_cons, List.length_nil]; omega
    · rw [enc_ge (n := m) (by omega), enc_ge (n := n) (by omega)]
      have := ih (n / 128) (by omega) (m / 128) (by omega)
      simp only [List.length_cons]
      omega
theorem enc_pos (n : Nat) : 0 < (enc n).length := by
  rw [enc]; split <;> simp
theorem enc_le10 (n : Nat) (h : n < 18446744073709551616) : (enc n).length ≤ 10 := by
  rw [enc_length n h]
  have := Lib.bitLen_le n 64 (by omega) (by omega)
  omega
theorem enc_byte : ∀ n : Nat, ∀ x ∈ enc n, x < 256 := by
  intro n
  induction n using Nat.strongRecOn with
  | ind n ih =>
    intro x hx
    by_cases hs : n < 128
    · rw [enc_lt hs] at hx; simp at hx; omega
    · rw [enc_ge (by omega)] at hx
      rcases List.mem_cons.1 hx with rfl | hx
      · omega
      · exact ih (n / 128) (by omega) x hx
/-- Bytes as a string. -/
def bs (xs : List Nat) : ByteArray := ⟨(xs.map fun n => UInt8.ofNat n).toArray⟩
/-- The bytes of a string. -/
def sb (s : ByteArray) : List Nat := s.data.toList.map (·.toNat)
theorem bs_append (xs ys : List Nat) : bs xs ++ bs ys = bs (xs ++ ys) := by
  ext1
  simp [bs, ByteArray.data_append]
theorem bs_size (xs : List Nat) : (bs xs).size = xs.length := by simp [bs, ByteArray.size]
end Go.Proofs.YtjnhcanohefjiaaGreatDoor

namespace Go.Proofs.YtjnhcanohefjiaaGreatDoor

/-- To divide a number by a bit. -/
def dv (x : Nat) : Nat := if x % 2 = 1 then x / 2 ^^^ 3988292384 else x / 2
def dvs : Nat → Nat → Nat
  | 0, x => x
  | k + 1, x => dvs k (dv x)
/-- A state goes on with bytes. -/
def upd (x : Nat) (bs : List Nat) : Nat := bs.foldl (fun x b => dvs 8 (x ^^^ b)) x
theorem xor_half (x y : Nat) : (x ^^^ y) / 2 = x / 2 ^^^ y / 2 := by
  rw [← Nat.pow_one 2, ← Nat.shiftRight_eq_div_pow, ← Nat.shiftRight_eq_div_pow, ← Nat.shiftRight_eq_div_pow, Nat.shiftRight_xor_distrib]
theorem xor_odd (x y : Nat) : (x ^^^ y) % 2 = (x % 2 + y % 2) % 2 := by
  have h := Nat.xor_mod_two_pow (a := x) (b := y) (n := 1)
  rw [Nat.pow_one] at h
  rw [h]
  rcases Nat.mod_two_eq_zero_or_one x with h1 | h1 <;> rcases Nat.mod_two_eq_zero_or_one y with h2 | h2 <;> rw [h1, h2] <;> rfl
theorem dv_xor (x y : Nat) : dv (x ^^^ y) = dv x ^^^ dv y := by
  unfold dv
  rw [xor_half, xor_odd]
  rcases Nat.mod_two_eq_zero_or_one x with h1 | h1 <;> rcases Nat.mod_two_eq_zero_or_one y with h2 | h2 <;> simp only [h1, h2] <;> simp
  · ac_rfl
  · ac_rfl
  · rw [Nat.xor_assoc, Nat.xor_comm 3988292384, Nat.xor_assoc, Nat.xor_self, Nat.xor_zero]
theorem dvs_xor : ∀ (k x y : Nat), dvs k (x ^^^ y) = dvs k x ^^^ dvs k y
  | 0, _, _ => rfl
  | k + 1, x, y => by simp only [dvs, dv_xor, dvs_xor k]
theorem dvs_add : ∀ (a b x : Nat), dvs (a + b) x = dvs b (dvs a x)
  | 0, b, x => by rw [Nat.zero_add]; rfl
  | a + 1, b, x => by rw [show a + 1 + b = (a + b) + 1 by omega]; exact dvs_add a b (dv x)
theorem dvs_shift : ∀ (k y : Nat), dvs k (y * 2 ^ k) = y
  | 0, y => by simp [dvs]
  | k + 1, y => by
    rw [Nat.pow_succ, ← Nat.mul_assoc, dvs, dv, if_neg (by omega), Nat.mul_div_cancel _ (by decide)]
    exact dvs_shift k y
theorem dvs_zero : ∀ k : Nat, dvs k 0 = 0
  | 0 => rfl
  | k + 1 => dvs_zero k
theorem dv_lt (x : Nat) (h : x < 4294967296) : dv x < 4294967296 := by
  unfold dv
  split
  · exact Nat.xor_lt_two_pow (n := 32) (by omega) (by decide)
  · omega
theorem dvs_lt : ∀ (k x : Nat), x < 4294967296 → dvs k x < 4294967296
  | 0, _, h => h
  | k + 1, x, h => dvs_lt k _ (dv_lt x h)
theorem upd_append (x : Nat) (as bs : List Nat) : upd x (as ++ bs) = upd (upd x as) bs := List.foldl_append
/-- Bytes as one number, the lowest first. -/
def le : List Nat → Nat
  | [] => 0
  | b :: bs => b + 256 * le bs
/-- All bits turned. -/
theorem turned (x : Nat) (h : x < 4294967296) : 4294967295 - x = 4294967295 ^^^ x := by
  have : (4294967295 : Nat) = 2 ^ 32 - 1 := rfl
  apply Nat.eq_of_testBit_eq
  intro i
  rw [this, show 2 ^ 32 - 1 - x = 2 ^ 32 - (x + 1) by omega, Nat.testBit_two_pow_sub_succ h, Nat.testBit_xor, Nat.testBit_two_pow_sub_one]
  by_cases hi : i < 32
  · simp [hi]
  · rw [Nat.testBit_lt_two_pow (Nat.lt_of_lt_of_le h (Nat.pow_le_pow_right (by decide) (by omega) : 2 ^ 32 ≤ 2 ^ i))]
    simp [hi]
/-- A byte below a number of whole bytes. -/
theorem byte_xor (b y : Nat) (h : b < 256) : b + 256 * y = b ^^^ y * 2 ^ 8 := by
  have := Nat.two_pow_add_eq_or_of_lt (i := 8) (b := b) (by omega) y
  rw [show 256 * y = 2 ^ 8 * y from rfl, Nat.add_comm, Nat.mul_comm y]
  apply Nat.eq_of_testBit_eq
  intro i
  rw [this, Nat.testBit_or, Nat.testBit_xor, Nat.testBit_two_pow_mul]
  by_cases hi : 8 ≤ i
  · rw [Nat.testBit_lt_two_pow (Nat.lt_of_lt_of_le h (Nat.pow_le_pow_right (by decide) hi : 2 ^ 8 ≤ 2 ^ i))]
    simp
  · simp [hi]
/-- Only the lowest byte of a state decides what is xored. -/
theorem step_tab (x c : Nat) : dvs 8 (x ^^^ c) = x / 256 ^^^ dvs 8 (x % 256 ^^^ c) := by
  have e : x = x % 256 ^^^ x / 256 * 2 ^ 8 := by
    rw [← byte_xor _ _ (Nat.mod_lt _ (by decide))]
    omega
  have e2 : x ^^^ c = x / 256 * 2 ^ 8 ^^^ (x % 256 ^^^ c) := by
    conv => lhs; rw [e]
    ac_rfl
  rw [e2, dvs_xor, dvs_shift]
/-- A bit and what is below it. -/
theorem bit_xor (k y : Nat) (h : y < 2 ^ k) : 2 ^ k + y = 2 ^ k ^^^ y := by
  have h1 := Nat.two_pow_add_eq_or_of_lt (i := k) (b := y) h 1
  rw [Nat.mul_one] at h1
  apply Nat.eq_of_testBit_eq
  intro i
  rw [h1, Nat.testBit_or, Nat.testBit_xor]
  by_cases hi : i = k
  · subst hi
    rw [Nat.testBit_lt_two_pow h]
    simp
  · rw [Nat.testBit_two_pow_of_ne (Ne.symm hi)]
    simp
theorem dvs_bit (k y : Nat) (h : y < 2 ^ k) : dvs 8 (2 ^ k + y) = dvs 8 (2 ^ k) ^^^ dvs 8 y := by rw [bit_xor k y h, dvs_xor]
/-- The sum behind a sum. -/
def sm (n : Nat) (xs : List Nat) : Nat := 4294967295 - upd (4294967295 - n) xs
theorem sm_lt (n : Nat) (xs : List Nat) : sm n xs < 4294967296 := by unfold sm; omega
/-- The four bytes of a sum. -/
def four (n : Nat) : List Nat := [n / 16777216 % 256, n / 65536 % 256, n / 256 % 256, n % 256]
theorem four_byte (n : Nat) : ∀ x ∈ four n, x < 256 := by
  intro x hx
  simp only [four, List.mem_cons, List.not_mem_nil, or_false] at hx
  omega
theorem bs_inj (xs ys : List Nat) (hx : ∀ x ∈ xs, x < 256) (hy : ∀ x ∈ ys, x < 256) (h : bs xs = bs ys) : xs = ys := by
  have e := congrArg (fun s : ByteArray => s.data.toList.map (·.toNat)) h
  simp only [bs, List.map_map] at e
  have key : ∀ zs : List Nat, (∀ x ∈ zs, x < 256) → zs.map ((fun x : UInt8 => x.toNat) ∘ fun n => UInt8.ofNat n) = zs := by
    intro zs hz
    conv => rhs; rw [← List.map_id zs]
    refine List.map_congr_left fun x hxz => ?_
    have := hz x hxz
    simp
    omega
  rw [key xs hx, key ys hy] at e
  exact e
end Go.Proofs.YtjnhcanohefjiaaGreatDoor

namespace Go.Proofs.YtjnhcanohefjiaaGreatDoor

/-- What is opened. -/
def opn (xs : List Nat) : List Nat × Nat :=
  if xs.length < 4 then ([], 12) else if xs.drop (xs.length - 4) = four (sm 0 (xs.take (xs.length - 4))) then (xs.take (xs.length - 4), 0) else ([], 11)
end Go.Proofs.YtjnhcanohefjiaaGreatDoor

namespace Go.Proofs.YtjnhcanohefjiaaGreatDoor

/-- A record without its sum; a record. -/
def recH (ep : Nat) (p : List Nat) : List Nat := enc p.length ++ enc ep ++ p
def recB (ep : Nat) (p : List Nat) : List Nat := recH ep p ++ four (sm 0 (recH ep p))
/-- Why a payload of so many bytes is none: an error's number. -/
def refu (n : Int) : Nat := if n < 1 then 1 else if 1048576 < n then 2 else 0
/-- What Frame tells. -/
def frm (ep : Nat) (p : List Nat) : List Nat × Nat := if refu p.length = 0 then (recB ep p, 0) else ([], refu p.length)
/-- What Len tells. -/
def lenR (ep : Nat) (n : Int) : Nat × Nat := if refu n = 0 then ((enc n.toNat).length + (enc ep).length + n.toNat + 4, 0) else (0, refu n)
/-- The number at the begin of bytes, what is none told as a wrong sum is. -/
def nbr (xs : List Nat) : Nat × Nat × Nat := if (rdU xs).2.2 = 3 then (0, 0, 11) else rdU xs
/-- The head that bytes begin with: the length, the epoch, how many bytes say it, the error's number. -/
def hdR (xs : List Nat) : Nat × Nat × Nat × Nat :=
  if xs.length = 0 ∨ xs.getD 0 0 = 0 then (0, 0, 0, 8) else if (nbr xs).2.2 ≠ 0 then (0, 0, 0, (nbr xs).2.2) else if 1048576 < (nbr xs).1 then (0, 0, 0, 11)
  else if (nbr (xs.drop (nbr xs).2.1)).2.2 ≠ 0 then (0, 0, 0, (nbr (xs.drop (nbr xs).2.1)).2.2) else ((nbr xs).1, (nbr (xs.drop (nbr xs).2.1)).1, (nbr xs).2.1 + (nbr (xs.drop (nbr xs).2.1)).2.1, 0)
/-- What One tells. -/
def one (ep : Nat) (xs : List Nat) : List Nat × Nat × Nat :=
  if (hdR xs).2.2.2 ≠ 0 then ([], 0, (hdR xs).2.2.2) else if xs.length < (hdR xs).2.2.1 + (hdR xs).1 + 4 then ([], 0, 12) else if (hdR xs).2.1 ≠ ep then ([], 0, 11)
  else if (opn (xs.take ((hdR xs).2.2.1 + (hdR xs).1 + 4))).2 ≠ 0 then ([], 0, (opn (xs.take ((hdR xs).2.2.1 + (hdR xs).1 + 4))).2)
  else ((opn (xs.take ((hdR xs).2.2.1 + (hdR xs).1 + 4))).1.drop (hdR xs).2.2.1, (hdR xs).2.2.1 + (hdR xs).1 + 4, 0)
theorem recH_length (ep : Nat) (p : List Nat) : (recH ep p).length = (enc p.length).length + (enc ep).length + p.length := by rw [recH, List.length_append, List.length_append]
theorem recB_length (ep : Nat) (p : List Nat) : (recB ep p).length = (enc p.length).length + (enc ep).length + p.length + 4 := by
  rw [recB, List.length_append, recH_length]; rfl
theorem recH_byte (ep : Nat) (p : List Nat) (hp : ∀ x ∈ p, x < 256) : ∀ x ∈ recH ep p, x < 256 := by
  intro x hx
  rcases List.mem_append.1 hx with hx | hx
  · rcases List.mem_append.1 hx with hx | hx
    · exact enc_byte _ x hx
    · exact enc_byte _ x hx
  · exact hp x hx
theorem recB_byte (ep : Nat) (p : List Nat) (hp : ∀ x ∈ p, x < 256) : ∀ x ∈ recB ep p, x < 256 := by
  intro x hx
  rcases List.mem_append.1 hx with hx | hx
  · exact recH_byte ep p hp x hx
  · exact four_byte _ x hx
theorem refu_zero {n : Int} (h : refu n = 0) : 1 ≤ n ∧ n ≤ 1048576 := by
  unfold refu at h
  split at h
  · cases h
  · split at h
    · cases h
    · omega
theorem refu_ok {n : Int} (h1 : 1 ≤ n) (h2 : n ≤ 1048576) : refu n = 0 := by
  unfold refu
  rw [if_neg (by omega), if_neg (by omega)]
/-- The first byte of a number that is not 0. -/
theorem enc_first {n : Nat} (h : n ≠ 0) (ys : List Nat) : (enc n ++ ys).getD 0 0 ≠ 0 := by
  by_cases hs : n < 128
  · rw [enc_lt hs]; simpa using h
  · rw [enc_ge (by omega)]; simp
theorem nbr_enc (n : Nat) (ys : List Nat) (h : n < 18446744073709551616) : nbr (enc n ++ ys) = (n, (enc n).length, 0) := by
  unfold nbr
  rw [rdU_enc n ys h]
  simp
theorem nbr_ok {xs : List Nat} (h : (nbr xs).2.2 = 0) : (rdU xs).2.2 = 0 ∧ nbr xs = rdU xs := by
  unfold nbr at h ⊢
  split at h
  · cases h
  · rename_i h3
    rw [if_neg h3]
    exact ⟨h, rfl⟩
theorem nbr_back (xs : List Nat) (hb : ∀ x ∈ xs, x < 256) (h : (nbr xs).2.2 = 0) : enc (nbr xs).1 = xs.take (nbr xs).2.1 ∧ 0 < (nbr xs).2.1 ∧ (nbr xs).2.1 ≤ xs.length ∧ (nbr xs).1 < 18446744073709551616 := by
  obtain ⟨h0, e⟩ := nbr_ok h
  rw [e]
  exact rdU_back xs hb h0
theorem nbr_err (xs : List Nat) (h : (nbr xs).2.2 ≠ 0) : (nbr xs).1 = 0 ∧ (nbr xs).2.1 = 0 := by
  unfold nbr at h ⊢
  split at h
  · rename_i h3; rw [if_pos h3]; exact ⟨rfl, rfl⟩
  · rename_i h3; rw [if_neg h3]; exact rdU_err xs h
/-- What is opened of bytes and four more. -/
theorem opn_join (hs qs : List Nat) (h : qs.length = 4) : opn (hs ++ qs) = if qs = four (sm 0 hs) then (hs, 0) else ([], 11) := by
  unfold opn
  rw [if_neg (by simp [h]), show (hs ++ qs).length - 4 = hs.length by simp [h], List.drop_left, List.take_left]
/-- A head that is told. -/
theorem hdR_ok (xs : List Nat) (hb : ∀ x ∈ xs, x < 256) (h : (hdR xs).2.2.2 = 0) :
    (hdR xs).1 ≠ 0 ∧ (hdR xs).1 ≤ 1048576 ∧ (hdR xs).2.1 < 18446744073709551616 ∧ enc (hdR xs).1 ++ enc (hdR xs).2.1 = xs.take (hdR xs).2.2.1 ∧ (hdR xs).2.2.1 ≤ xs.length ∧ (hdR xs).2.2.1 = (enc (hdR xs).1).length + (enc (hdR xs).2.1).length := by
  unfold hdR at h ⊢
  split at h
  · cases h
  · rename_i h1
    split at h
    · rename_i h2; exact absurd h h2
    · rename_i h2
      split at h
      · cases h
      · rename_i h3
        split at h
        · rename_i h4; exact absurd h h4
        · rename_i h4
          rw [if_neg h1, if_neg h2, if_neg h3, if_neg h4]
          obtain ⟨a1, a2, a3, a4⟩ := nbr_back xs hb (by simpa using h2)
          obtain ⟨b1, b2, b3, b4⟩ := nbr_back (xs.drop (nbr xs).2.1) (fun x hx => hb x (List.mem_of_mem_drop hx)) (by simpa using h4)
          have l1 : (enc (nbr xs).1).length = (nbr xs).2.1 := by rw [a1, List.length_take]; omega
          have l2 : (enc (nbr (xs.drop (nbr xs).2.1)).1).length = (nbr (xs.drop (nbr xs).2.1)).2.1 := by rw [b1, List.length_take]; omega
          rw [List.length_drop] at b3
          refine ⟨fun h0 => ?_, by omega, b4, ?_, ?_, ?_⟩
          · rw [show (nbr xs).1 = 0 from h0, enc_lt (by decide)] at a1
            apply h1
            right
            cases xs with
            | nil => rfl
            | cons y ys =>
              rw [show (nbr (y :: ys)).2.1 = ((nbr (y :: ys)).2.1 - 1) + 1 by omega, List.take_succ_cons] at a1
              simp only [List.cons.injEq] at a1
              simp [a1.1.symm]
          · show enc (nbr xs).1 ++ enc (nbr (xs.drop (nbr xs).2.1)).1 = xs.take ((nbr xs).2.1 + (nbr (xs.drop (nbr xs).2.1)).2.1)
            rw [List.take_add, ← a1, ← b1]
          · show (nbr xs).2.1 + (nbr (xs.drop (nbr xs).2.1)).2.1 ≤ xs.length
            omega
          · show (nbr xs).2.1 + (nbr (xs.drop (nbr xs).2.1)).2.1 = (enc (nbr xs).1).length + (enc (nbr (xs.drop (nbr xs).2.1)).1).length
            omega
theorem hdR_err (xs : List Nat) (h : (hdR xs).2.2.2 ≠ 0) : (hdR xs).1 = 0 ∧ (hdR xs).2.1 = 0 ∧ (hdR xs).2.2.1 = 0 := by
  unfold hdR at h ⊢
  split at h
  · rename_i h1; rw [if_pos h1]; exact ⟨rfl, rfl, rfl⟩
  · rename_i h1
    rw [if_neg h1]
    split at h
    · rename_i h2; rw [if_pos h2]; exact ⟨rfl, rfl, rfl⟩
    · rename_i h2
      rw [if_neg h2]
      split at h
      · rename_i h3; rw [if_pos h3]; exact ⟨rfl, rfl, rfl⟩
      · rename_i h3
        rw [if_neg h3]
        split at h
        · rename_i h4; rw [if_pos h4]; exact ⟨rfl, rfl, rfl⟩
        · exact absurd rfl h
/-- The head of a record. -/
theorem hdR_rec (ep : Nat) (p ys : List Nat) (he : ep < 18446744073709551616) (h0 : p ≠ []) (hp : p.length ≤ 1048576) :
    hdR (enc p.length ++ enc ep ++ ys) = (p.length, ep, (enc p.length).length + (enc ep).length, 0) := by
  have hl : p.length ≠ 0 := by intro h; exact h0 (List.eq_nil_of_length_eq_zero h)
  have hpos := enc_pos p.length
  have n1 := nbr_enc p.length (enc ep ++ ys) (by omega)
  have n2 := nbr_enc ep ys he
  unfold hdR
  rw [List.append_assoc, n1]
  simp only [List.drop_left, n2]
  rw [if_neg, if_neg (by simp), if_neg (by omega), if_neg (by simp)]
  simp only [not_or]
  exact ⟨by rw [List.length_append]; omega, enc_first hl _⟩
/-- The bytes that One looks at where the head is told and the record ends within the bytes. -/
theorem one_parts (xs : List Nat) (hb : ∀ x ∈ xs, x < 256) (h : (hdR xs).2.2.2 = 0) (hl : (hdR xs).2.2.1 + (hdR xs).1 + 4 ≤ xs.length) :
    ∃ p qs, p = (xs.drop (hdR xs).2.2.1).take (hdR xs).1 ∧ p.length = (hdR xs).1 ∧ qs.length = 4 ∧ xs.take ((hdR xs).2.2.1 + (hdR xs).1 + 4) = recH (hdR xs).2.1 p ++ qs ∧ (recB (hdR xs).2.1 p).length = (hdR xs).2.2.1 + (hdR xs).1 + 4
      ∧ opn (xs.take ((hdR xs).2.2.1 + (hdR xs).1 + 4)) = if recB (hdR xs).2.1 p = xs.take ((hdR xs).2.2.1 + (hdR xs).1 + 4) then (recH (hdR xs).2.1 p, 0) else ([], 11) := by
  obtain ⟨a1, a2, a3, a4, a5, a6⟩ := hdR_ok xs hb h
  generalize hdR xs = R at *
  obtain ⟨n, m, k, e⟩ := R
  simp only at *
  have hpl : ((xs.drop k).take n).length = n := by simp; omega
  have hql : ((xs.drop (k + n)).take 4).length = 4 := by simp; omega
  have e1 : xs.take (k + n + 4) = recH m ((xs.drop k).take n) ++ (xs.drop (k + n)).take 4 := by
    rw [List.take_add, List.take_add, recH, hpl, a4]
  refine ⟨_, _, rfl, hpl, hql, e1, ?_, ?_⟩
  · rw [recB_length, hpl, a6]
  · rw [e1, opn_join _ _ hql, recB]
    by_cases hq : (xs.drop (k + n)).take 4 = four (sm 0 (recH m ((xs.drop k).take n)))
    · rw [if_pos hq, if_pos (by rw [hq])]
    · rw [if_neg hq, if_neg (fun hh => hq (List.append_cancel_left hh).symm)]
/-- What is framed is read as it was, whatever stands behind it. -/
theorem one_rec (ep : Nat) (p ys : List Nat) (he : ep < 18446744073709551616) (h0 : p ≠ []) (hp : p.length ≤ 1048576) : one ep (recB ep p ++ ys) = (p, (recB ep p).length, 0) := by
  have hh : hdR (recB ep p ++ ys) = (p.length, ep, (enc p.length).length + (enc ep).length, 0) := by
    rw [show recB ep p ++ ys = enc p.length ++ enc ep ++ (p ++ (four (sm 0 (recH ep p)) ++ ys)) by simp [recB, recH]]
    exact hdR_rec ep p _ he h0 hp
  have hl := recB_length ep p
  have ht : (recB ep p ++ ys).take ((enc p.length).length + (enc ep).length + p.length + 4) = recB ep p := by rw [← hl]; exact List.take_left
  have ho : opn (recB ep p) = (recH ep p, 0) := by rw [recB, opn_join _ _ rfl, if_pos rfl]
  unfold one
  rw [hh]
  simp only [ht, ho]
  rw [if_neg (by simp), if_neg (by rw [List.length_append]; omega), if_neg (by simp), if_neg (by simp), ← hl]
  rw [recH, ← List.length_append, List.drop_left]
theorem one_err (ep : Nat) (xs : List Nat) (h : (one ep xs).2.2 ≠ 0) : (one ep xs).1 = [] ∧ (one ep xs).2.1 = 0 := by
  unfold one at h ⊢
  split at h
  · rename_i h1; rw [if_pos h1]; exact ⟨rfl, rfl⟩
  · rename_i h1
    rw [if_neg h1]
    split at h
    · rename_i h2; rw [if_pos h2]; exact ⟨rfl, rfl⟩
    · rename_i h2
      rw [if_neg h2]
      split at h
      · rename_i h3; rw [if_pos h3]; exact ⟨rfl, rfl⟩
      · rename_i h3
        rw [if_neg h3]
        split at h
        · rename_i h4; rw [if_pos h4]; exact ⟨rfl, rfl⟩
        · exact absurd rfl h
/-- What is read was framed. -/
theorem one_ok (ep : Nat) (xs : List Nat) (hb : ∀ x ∈ xs, x < 256) (h : (one ep xs).2.2 = 0) :
    xs.take (one ep xs).2.1 = recB ep (one ep xs).1 ∧ (one ep xs).2.1 ≤ xs.length ∧ (one ep xs).2.1 = (recB ep (one ep xs).1).length ∧ (one ep xs).1 ≠ [] ∧ (one ep xs).1.length ≤ 1048576 ∧ ep < 18446744073709551616 ∧ (one ep xs).1 = (xs.drop (hdR xs).2.2.1).take (hdR xs).1 := by
  unfold one at h ⊢
  split at h
  · rename_i h1; exact absurd h h1
  · rename_i h1
    split at h
    · cases h
    · rename_i h2
      split at h
      · cases h
      · rename_i h3
        split at h
        · rename_i h4; exact absurd h h4
        · rename_i h4
          rw [if_neg h1, if_neg h2, if_neg h3, if_neg h4]
          have h1' : (hdR xs).2.2.2 = 0 := by simpa using h1
          have h3' : (hdR xs).2.1 = ep := by simpa using h3
          obtain ⟨a1, a2, a3, a4, a5, a6⟩ := hdR_ok xs hb h1'
          obtain ⟨p, qs, e1, e2, e3, e4, e5, e6⟩ := one_parts xs hb h1' (by omega)
          rw [e6] at h4 ⊢
          by_cases hr : recB (hdR xs).2.1 p = xs.take ((hdR xs).2.2.1 + (hdR xs).1 + 4)
          · rw [if_pos hr] at h4 ⊢
            have hd : (recH (hdR xs).2.1 p).drop (hdR xs).2.2.1 = p := by
              rw [a6, recH, e2, ← List.length_append, List.drop_left]
            show _ = recB ep ((recH (hdR xs).2.1 p).drop (hdR xs).2.2.1) ∧ _ ∧ _ = (recB ep ((recH (hdR xs).2.1 p).drop (hdR xs).2.2.1)).length ∧ (recH (hdR xs).2.1 p).drop (hdR xs).2.2.1 ≠ [] ∧ ((recH (hdR xs).2.1 p).drop (hdR xs).2.2.1).length ≤ _ ∧ _ ∧ (recH (hdR xs).2.1 p).drop (hdR xs).2.2.1 = _
            rw [hd, ← h3']
            refine ⟨hr.symm, by show (hdR xs).2.2.1 + (hdR xs).1 + 4 ≤ _; omega, e5.symm, fun h0 => ?_, by omega, a3, e1⟩
            rw [h0] at e2
            exact a1 e2.symm
          · rw [if_neg hr] at h4
            exact absurd (by decide) h4
theorem one_pos (ep : Nat) (xs : List Nat) (hb : ∀ x ∈ xs, x < 256) (h : (one ep xs).2.2 = 0) : 7 ≤ (one ep xs).2.1 := by
  obtain ⟨_, _, h3, h4, _⟩ := one_ok ep xs hb h
  have := enc_pos (one ep xs).1.length
  have := enc_pos ep
  have : (one ep xs).1.length ≠ 0 := fun h => h4 (List.eq_nil_of_length_eq_zero h)
  rw [h3, recB_length]
  omega
end Go.Proofs.YtjnhcanohefjiaaGreatDoor

namespace Go.Proofs.YtjnhcanohefjiaaGreatDoor

/-- The document's reading of the record that bytes begin with. -/
def oneD (ep : Nat) (xs : List Nat) : List Nat × Nat × Nat :=
  if xs.length = 0 ∨ xs.getD 0 0 = 0 then ([], 0, 8) else if (rdU xs).2.2 = 12 then ([], 0, 12) else if (rdU xs).2.2 ≠ 0 ∨ 1048576 < (rdU xs).1 then ([], 0, 11)
  else if (rdU (xs.drop (rdU xs).2.1)).2.2 = 12 then ([], 0, 12) else if (rdU (xs.drop (rdU xs).2.1)).2.2 ≠ 0 then ([], 0, 11)
  else if xs.length < (rdU xs).2.1 + (rdU (xs.drop (rdU xs).2.1)).2.1 + (rdU xs).1 + 4 then ([], 0, 12)
  else if (rdU (xs.drop (rdU xs).2.1)).1 ≠ ep ∨ recB (rdU (xs.drop (rdU xs).2.1)).1 ((xs.drop ((rdU xs).2.1 + (rdU (xs.drop (rdU xs).2.1)).2.1)).take (rdU xs).1) ≠ xs.take ((rdU xs).2.1 + (rdU (xs.drop (rdU xs).2.1)).2.1 + (rdU xs).1 + 4) then ([], 0, 11)
  else ((xs.drop ((rdU xs).2.1 + (rdU (xs.drop (rdU xs).2.1)).2.1)).take (rdU xs).1, (rdU xs).2.1 + (rdU (xs.drop (rdU xs).2.1)).2.1 + (rdU xs).1 + 4, 0)
theorem nbr_form {xs : List Nat} (h : (rdU xs).2.2 = 3) : nbr xs = (0, 0, 11) := if_pos h
theorem nbr_same {xs : List Nat} (h : (rdU xs).2.2 ≠ 3) : nbr xs = rdU xs := if_neg h
theorem oneD_eq (ep : Nat) (xs : List Nat) (hb : ∀ x ∈ xs, x < 256) : oneD ep xs = one ep xs := by
  have hok := one_parts xs hb
  have hE1 := rdU_errs xs
  have hE2 := rdU_errs (xs.drop (rdU xs).2.1)
  have hko := hdR_ok xs hb
  unfold oneD one
  unfold hdR at hok hko ⊢
  by_cases h0 : xs.length = 0 ∨ xs.getD 0 0 = 0
  · rw [if_pos h0, if_pos h0, if_pos (by decide)]
  · simp only [if_neg h0] at hok hko ⊢
    rcases hE1 with e1 | e1 | e1
    · rw [nbr_same (by rw [e1]; decide)] at hok hko ⊢
      rw [if_neg (show ¬ (rdU xs).2.2 ≠ 0 by simp [e1])] at hok hko ⊢
      rw [if_neg (show ¬ (rdU xs).2.2 = 12 by simp [e1])]
      by_cases h2 : 1048576 < (rdU xs).1
      · rw [if_pos (.inr h2), if_pos h2, if_pos (by decide)]
      · rw [if_neg (show ¬ ((rdU xs).2.2 ≠ 0 ∨ 1048576 < (rdU xs).1) by simp [e1]; omega)]
        rw [if_neg h2] at hok hko ⊢
        rcases hE2 with e2 | e2 | e2
        · rw [nbr_same (by rw [e2]; decide)] at hok hko ⊢
          rw [if_neg (show ¬ (rdU (xs.drop (rdU xs).2.1)).2.2 ≠ 0 by simp [e2])] at hok hko ⊢
          rw [if_neg (show ¬ (rdU (xs.drop (rdU xs).2.1)).2.2 = 12 by simp [e2]), if_neg (show ¬ (rdU (xs.drop (rdU xs).2.1)).2.2 ≠ 0 by simp [e2])]
          simp only at hok hko ⊢
          rw [if_neg (show ¬ ((0 : Nat) ≠ 0) by decide)]
          by_cases h3 : xs.length < (rdU xs).2.1 + (rdU (xs.drop (rdU xs).2.1)).2.1 + (rdU xs).1 + 4
          · rw [if_pos h3, if_pos h3]
          · rw [if_neg h3, if_neg h3]
            obtain ⟨p, qs, q1, q2, q3, q4, q5, q6⟩ := hok trivial (by omega)
            obtain ⟨k1, k2, k3, k4, k5, k6⟩ := hko trivial
            rw [← q1, q6]
            by_cases h4 : (rdU (xs.drop (rdU xs).2.1)).1 = ep
            · by_cases h5 : recB (rdU (xs.drop (rdU xs).2.1)).1 p = xs.take ((rdU xs).2.1 + (rdU (xs.drop (rdU xs).2.1)).2.1 + (rdU xs).1 + 4)
              · have hd : (recH (rdU (xs.drop (rdU xs).2.1)).1 p).drop ((rdU xs).2.1 + (rdU (xs.drop (rdU xs).2.1)).2.1) = p := by
                  rw [k6, recH, q2, ← List.length_append, List.drop_left]
                rw [if_pos h5, if_neg (by rintro (q | q); exact q h4; exact q h5), if_neg (by simp [h4]), if_neg (by simp)]
                simp only [hd]
              · rw [if_neg h5, if_pos (.inr h5), if_neg (by simp [h4]), if_pos (by simp)]
            · rw [if_pos (.inl h4), if_pos h4]
        · rw [nbr_form e2, if_neg (by rw [e2]; decide), if_pos (by rw [e2]; decide)]
          simp
        · rw [nbr_same (by rw [e2]; decide), if_pos e2, if_pos (show (rdU (xs.drop (rdU xs).2.1)).2.2 ≠ 0 by rw [e2]; decide), if_pos (show (rdU (xs.drop (rdU xs).2.1)).2.2 ≠ 0 by rw [e2]; decide), e2]
    · rw [nbr_form e1, if_neg (by rw [e1]; decide), if_pos (.inl (by rw [e1]; decide))]
      simp
    · rw [nbr_same (by rw [e1]; decide), if_pos e1, if_pos (show (rdU xs).2.2 ≠ 0 by rw [e1]; decide), if_pos (show (rdU xs).2.2 ≠ 0 by rw [e1]; decide), e1]
end Go.Proofs.YtjnhcanohefjiaaGreatDoor
