/- Numbers as bytes, outside any program: what is laid is read as it was; what is read, laid again, are the same bytes; how many bytes there are; Sums of bytes, outside any program: to divide is linear over xor and takes nothing to nothing else; so sums are told apart by up to 32 neighbouring bits; What is read and opened, plainly. -/
import Derived.Lib.BitFns
namespace Go.Proofs.YthaihallfjjnpaaGreatDoor

/-- A number in groups of seven bits, the lowest first. -/
def enc (n : Nat) : List Nat := if n < 128 then [n] else (n % 128 + 128) :: enc (n / 128)
  termination_by n
  decreasing_by omega
theorem enc_lt {n : Nat} (h : n < 128) : enc n = [n] := by rw [enc, if_pos h]
theorem enc_ge {n : Nat} (h : 128 ≤ n) : enc n = (n % 128 + 128) :: enc (n / 128) := by rw [enc, if_neg (by omega)]
/-- The number at the begin of bytes, from the place i on, and what was read so far: the number, how many bytes, the error's number. -/
def dec (acc i : Nat) : List Nat → Nat × Nat × Nat
  | [] => if i = 10 then (0, 0, 3) else (0, 0, 12)
  | y :: ys => if i = 10 then (0, 0, 3) else if 128 ≤ y then dec (acc + (y - 128) * 128 ^ i) (i + 1) ys else if (i ≠ 0 ∧ y = 0) ∨ (i = 9 ∧ 1 < y) then (0, 0, 3) else (acc + y * 128 ^ i, i + 1, 0)
theorem pow9 : (128 : Nat) ^ 9 = 9223372036854775808 := by decide
theorem pow10 : (128 : Nat) ^ 10 = 1180591620717411303424 := by decide
theorem place_lt {i n : Nat} (hn : n * 128 ^ i < 18446744073709551616) (h0 : i ≠ 0 → n ≠ 0) : i < 10 ∧ ¬ (i = 9 ∧ 1 < n) := by
  refine ⟨?_, ?_⟩
  · apply Classical.byContradiction
    intro hc
    have h1 : (128 : Nat) ^ 10 ≤ 128 ^ i := Nat.pow_le_pow_right (by decide) (by omega)
    rw [pow10] at h1
    have h2 : 1 * 128 ^ i ≤ n * 128 ^ i := Nat.mul_le_mul_right _ (by have := h0 (by omega); omega)
    omega
  · rintro ⟨rfl, h⟩
    rw [pow9] at hn
    omega
theorem dec_enc : ∀ (n acc i : Nat) (ys : List Nat), n * 128 ^ i < 18446744073709551616 → (i ≠ 0 → n ≠ 0) → dec acc i (enc n ++ ys) = (acc + n * 128 ^ i, i + (enc n).length, 0) := by
  intro n
  induction n using Nat.strongRecOn with
  | ind n ih =>
    intro acc i ys hn h0
    obtain ⟨h10, h9⟩ := place_lt hn h0
    by_cases hs : n < 128
    · rw [enc_lt hs, List.singleton_append, dec, if_neg (by omega), if_neg (by omega), if_neg (by omega)]
      rfl
    · have e : n = n % 128 + 128 * (n / 128) := (Nat.mod_add_div n 128).symm
      have hp : (128 : Nat) ^ (i + 1) = 128 ^ i * 128 := Nat.pow_succ ..
      have hm : n * 128 ^ i = n % 128 * 128 ^ i + n / 128 * 128 ^ (i + 1) := by
        rw [hp]
        conv => lhs; rw [e, Nat.add_mul]
        congr 1
        rw [Nat.mul_comm (128 ^ i) 128, ← Nat.mul_assoc, Nat.mul_comm 128]
      rw [enc_ge (by omega), List.cons_append, dec, if_neg (by omega), if_pos (by omega), ih (n / 128) (by omega) _ (i + 1) ys (by omega) (by omega), show n % 128 + 128 - 128 = n % 128 by omega]
      simp only [List.length_cons, Prod.mk.injEq, and_true]
      omega
theorem dec_err : ∀ (xs : List Nat) (acc i : Nat), (dec acc i xs).2.2 ≠ 0 → (dec acc i xs).1 = 0 ∧ (dec acc i xs).2.1 = 0 := by
  intro xs
  induction xs with
  | nil => intro acc i _; unfold dec; split <;> exact ⟨rfl, rfl⟩
  | cons y ys ih =>
    intro acc i h
    unfold dec at h ⊢
    split
    · exact ⟨rfl, rfl⟩
    · rename_i h1
      rw [if_neg h1] at h
      split
      · rename_i h2
        rw [if_pos h2] at h
        exact ih _ _ h
      · rename_i h2
        rw [if_neg h2] at h
        split
        · exact ⟨rfl, rfl⟩
        · rename_i h3
          rw [if_neg h3] at h
          exact absurd rfl h
theorem dec_errs : ∀ (xs : List Nat) (acc i : Nat), (dec acc i xs).2.2 = 0 ∨ (dec acc i xs).2.2 = 3 ∨ (dec acc i xs).2.2 = 12 := by
  intro xs
  induction xs with
  | nil => intro acc i; unfold dec; split <;> simp
  | cons y ys ih =>
    intro acc i
    unfold dec
    split
    · simp
    · split
      · exact ih _ _
      · split <;> simp
theorem dec_back : ∀ (xs : List Nat) (acc i : Nat), (∀ x ∈ xs, x < 256) → i ≤ 10 → (dec acc i xs).2.2 = 0 →
    ∃ n, (dec acc i xs).1 = acc + n * 128 ^ i ∧ enc n = xs.take ((dec acc i xs).2.1 - i) ∧ i < (dec acc i xs).2.1 ∧ (dec acc i xs).2.1 - i ≤ xs.length ∧ (i ≠ 0 → n ≠ 0) ∧ (n + 1) * 128 ^ i ≤ 18446744073709551616 := by
  intro xs
  induction xs with
  | nil =>
    intro acc i _ _ h
    unfold dec at h
    split at h <;> simp at h
  | cons y ys ih =>
    intro acc i hb hi h
    unfold dec at h ⊢
    split at h
    · simp at h
    · rename_i h1
      rw [if_neg h1]
      split at h
      · rename_i h2
        rw [if_pos h2]
        have hy : y < 256 := hb y (List.mem_cons_self ..)
        obtain ⟨n, e1, e2, e3, e4, e5, e6⟩ := ih (acc + (y - 128) * 128 ^ i) (i + 1) (fun x hx => hb x (List.mem_cons_of_mem _ hx)) (by omega) h
        have hp : (128 : Nat) ^ (i + 1) = 128 ^ i * 128 := Nat.pow_succ ..
        have hn : n ≠ 0 := e5 (by omega)
        generalize (dec (acc + (y - 128) * 128 ^ i) (i + 1) ys) = r at *
        refine ⟨y - 128 + 128 * n, ?_, ?_, by omega, ?_, by omega, ?_⟩
        · rw [e1, hp, Nat.add_mul, Nat.add_assoc, Nat.mul_comm (128 ^ i) 128, ← Nat.mul_assoc, Nat.mul_comm n 128]
        · rw [enc_ge (by omega), show (y - 128 + 128 * n) % 128 + 128 = y by omega, show (y - 128 + 128 * n) / 128 = n by omega, e2, show r.2.1 - i = (r.2.1 - (i + 1)) + 1 by omega, List.take_succ_cons]
        · simp only [List.length_cons]
          omega
        · have h3 : (y - 128 + 128 * n + 1) * 128 ^ i ≤ (128 * (n + 1)) * 128 ^ i := Nat.mul_le_mul_right _ (by omega)
          have h4 : (128 * (n + 1)) * 128 ^ i = (n + 1) * 128 ^ (i + 1) := by rw [hp, Nat.mul_comm 128 (n + 1), Nat.mul_assoc, Nat.mul_comm 128]
          omega
      · rename_i h2
        rw [if_neg h2]
        split at h
        · simp at h
        · rename_i h3
          rw [if_neg h3]
          refine ⟨y, rfl, ?_, by show i < i + 1; omega, ?_, ?_, ?_⟩
          · show enc y = List.take (i + 1 - i) (y :: ys)
            rw [enc_lt (by omega), show i + 1 - i = 1 by omega]
            rfl
          · show i + 1 - i ≤ _
            simp only [List.length_cons]
            omega
          · intro h0 hy
            exact h3 (.inl ⟨h0, hy⟩)
          · by_cases h9 : i = 9
            · subst h9
              rw [pow9]
              have : ¬ 1 < y := fun h => h3 (.inr ⟨rfl, h⟩)
              omega
            · have h5 : (y + 1) * 128 ^ i ≤ 128 * 128 ^ i := Nat.mul_le_mul_right _ (by omega)
              have h6 : 128 * 128 ^ i = (128 : Nat) ^ (i + 1) := by rw [Nat.pow_succ, Nat.mul_comm]
              have h7 : (128 : Nat) ^ (i + 1) ≤ 128 ^ 9 := Nat.pow_le_pow_right (by decide) (by omega)
              rw [pow9] at h7
              omega
/-- The number at the begin of bytes. -/
def rdU (xs : List Nat) : Nat × Nat × Nat := dec 0 0 xs
theorem rdU_enc (n : Nat) (ys : List Nat) (h : n < 18446744073709551616) : rdU (enc n ++ ys) = (n, (enc n).length, 0) := by
  unfold rdU
  rw [dec_enc n 0 0 ys (by omega) (by omega)]
  simp
theorem rdU_back (xs : List Nat) (hb : ∀ x ∈ xs, x < 256) (h : (rdU xs).2.2 = 0) : enc (rdU xs).1 = xs.take (rdU xs).2.1 ∧ 0 < (rdU xs).2.1 ∧ (rdU xs).2.1 ≤ xs.length ∧ (rdU xs).1 < 18446744073709551616 := by
  obtain ⟨n, e1, e2, e3, e4, _, e6⟩ := dec_back xs 0 0 hb (by omega) h
  unfold rdU
  rw [Nat.pow_zero, Nat.mul_one, Nat.zero_add] at e1
  rw [Nat.pow_zero, Nat.mul_one] at e6
  rw [e1]
  exact ⟨e2, e3, e4, by omega⟩
theorem rdU_err (xs : List Nat) (h : (rdU xs).2.2 ≠ 0) : (rdU xs).1 = 0 ∧ (rdU xs).2.1 = 0 := dec_err xs 0 0 h
theorem rdU_errs (xs : List Nat) : (rdU xs).2.2 = 0 ∨ (rdU xs).2.2 = 3 ∨ (rdU xs).2.2 = 12 := dec_errs xs 0 0
theorem rdU_lt (xs : List Nat) (hb : ∀ x ∈ xs, x < 256) : (rdU xs).1 < 18446744073709551616 ∧ (rdU xs).2.1 ≤ xs.length := by
  by_cases h : (rdU xs).2.2 = 0
  · obtain ⟨_, _, h1, h2⟩ := rdU_back xs hb h
    exact ⟨h2, h1⟩
  · obtain ⟨h1, h2⟩ := rdU_err xs h
    rw [h1, h2]
    exact ⟨by decide, Nat.zero_le _⟩
/-- How many bytes say a number. -/
theorem enc_length : ∀ n : Nat, n < 18446744073709551616 → (enc n).length = max 1 ((Lib.bitLen n + 6) / 7) := by
  intro n
  induction n using Nat.strongRecOn with
  | ind n ih =>
    intro hn
    by_cases hs : n < 128
    · rw [enc_lt hs]
      have := Lib.bitLen_le n 7 (by omega) (by omega)
      simp only [List.length_cons, List.length_nil]
      omega
    · have h1 := Lib.bitLen_shift 7 n (by omega) (by omega)
      rw [show (2 : Nat) ^ 7 = 128 from rfl] at h1
      have h2 := Lib.bitLen_half (n / 128) (by omega) (by omega)
      rw [enc_ge (by omega), List.length_cons, ih (n / 128) (by omega) (by omega), h1]
      omega
theorem enc_mono : ∀ n m : Nat, m ≤ n → (enc m).length ≤ (enc n).length := by
  intro n
  induction n using Nat.strongRecOn with
  | ind n ih =>
    intro m h
    by_cases hm : m < 128
    · rw [enc_lt hm]
      by_cases hs : n < 128
      · rw [enc_lt hs]; exact Nat.le_refl _
      · rw [enc_ge (by omega)]; simp only [List.length_cons, List.length_nil]; omega
    · rw [enc_ge (n := m) (by omega), enc_ge (n := n) (by omega)]
      have := ih (n / 128) (by omega) (m / 128) (by omega)
      simp only [List.length_cons]
      omega
theorem enc_pos (n : Nat) : 0 < (enc n).length := by
  rw [enc]; split <;> simp
theorem enc_le10 (n : Nat) (h : n < 18446744073709551616) : (enc n).length ≤ 10 := by
  rw [enc_length n h]
  have := Lib.bitLen_le n 64 (by omega) (by omega)
  omega
theorem enc_byte : ∀ n : Nat, ∀ x ∈ enc n, x < 256 := by
  intro n
  induction n using Nat.strongRecOn with
  | ind n ih =>
    intro x hx
    by_cases hs : n < 128
    · rw [enc_lt hs] at hx; simp at hx; omega
    · rw [enc_ge (by omega)] at hx
      rcases List.mem_cons.1 hx with rfl | hx
      · omega
      · exact ih (n / 128) (by omega) x hx
/-- A number with a sign as one without. -/
def zz (n : Int) : Nat := if n < 0 then (-2 * n - 1).toNat else (2 * n).toNat
def unzz (v : Nat) : Int := if v % 2 = 1 then -(v / 2 : Nat) - 1 else (v / 2 : Nat)
theorem unzz_zz (n : Int) : unzz (zz n) = n := by
  unfold unzz zz
  split <;> split <;> omega
theorem zz_lt (n : Int) (h0 : -9223372036854775808 ≤ n) (h1 : n ≤ 9223372036854775807) : zz n < 18446744073709551616 := by
  unfold zz
  split <;> omega
/-- Bytes as a string. -/
def bs (xs : List Nat) : ByteArray := ⟨(xs.map fun n => UInt8.ofNat n).toArray⟩
/-- The bytes of a string. -/
def sb (s : ByteArray) : List Nat := s.data.toList.map (·.toNat)
theorem bs_sb (s : ByteArray) : bs (sb s) = s := by
  obtain ⟨d⟩ := s
  simp [bs, sb, Function.comp_def]
theorem bs_append (xs ys : List Nat) : bs xs ++ bs ys = bs (xs ++ ys) := by
  ext1
  simp [bs, ByteArray.data_append]
theorem sb_length (s : ByteArray) : (sb s).length = s.size := by unfold sb; rw [List.length_map, Array.length_toList]; rfl
theorem sb_byte (s : ByteArray) : ∀ x ∈ sb s, x < 256 := by
  intro x hx
  obtain ⟨u, _, rfl⟩ := List.mem_map.1 hx
  exact u.toNat_lt
theorem bs_size (xs : List Nat) : (bs xs).size = xs.length := by simp [bs, ByteArray.size]
end Go.Proofs.YthaihallfjjnpaaGreatDoor

namespace Go.Proofs.YthaihallfjjnpaaGreatDoor

/-- To divide a number by a bit. -/
def dv (x : Nat) : Nat := if x % 2 = 1 then x / 2 ^^^ 3988292384 else x / 2
def dvs : Nat → Nat → Nat
  | 0, x => x
  | k + 1, x => dvs k (dv x)
/-- A state goes on with bytes. -/
def upd (x : Nat) (bs : List Nat) : Nat := bs.foldl (fun x b => dvs 8 (x ^^^ b)) x
theorem xor_half (x y : Nat) : (x ^^^ y) / 2 = x / 2 ^^^ y / 2 := by
  rw [← Nat.pow_one 2, ← Nat.shiftRight_eq_div_pow, ← Nat.shiftRight_eq_div_pow, ← Nat.shiftRight_eq_div_pow, Nat.shiftRight_xor_distrib]
theorem xor_odd (x y : Nat) : (x ^^^ y) % 2 = (x % 2 + y % 2) % 2 := by
  have h := Nat.xor_mod_two_pow (a := x) (b := y) (n := 1)
  rw [Nat.pow_one] at h
  rw [h]
  rcases Nat.mod_two_eq_zero_or_one x with h1 | h1 <;> rcases Nat.mod_two_eq_zero_or_one y with h2 | h2 <;> rw [h1, h2] <;> rfl
theorem dv_xor (x y : Nat) : dv (x ^^^ y) = dv x ^^^ dv y := by
  unfold dv
  rw [xor_half, xor_odd]
  rcases Nat.mod_two_eq_zero_or_one x with h1 | h1 <;> rcases Nat.mod_two_eq_zero_or_one y with h2 | h2 <;> simp only [h1, h2] <;> simp
  · ac_rfl
  · ac_rfl
  · rw [Nat.xor_assoc, Nat.xor_comm 3988292384, Nat.xor_assoc, Nat.xor_self, Nat.xor_zero]
theorem dvs_xor : ∀ (k x y : Nat), dvs k (x ^^^ y) = dvs k x ^^^ dvs k y
  | 0, _, _ => rfl
  | k + 1, x, y => by simp only [dvs, dv_xor, dvs_xor k]
theorem dvs_add : ∀ (a b x : Nat), dvs (a + b) x = dvs b (dvs a x)
  | 0, b, x => by rw [Nat.zero_add]; rfl
  | a + 1, b, x => by rw [show a + 1 + b = (a + b) + 1 by omega]; exact dvs_add a b (dv x)
theorem dvs_shift : ∀ (k y : Nat), dvs k (y * 2 ^ k) = y
  | 0, y => by simp [dvs]
  | k + 1, y => by
    rw [Nat.pow_succ, ← Nat.mul_assoc, dvs, dv, if_neg (by omega), Nat.mul_div_cancel _ (by decide)]
    exact dvs_shift k y
theorem dvs_zero : ∀ k : Nat, dvs k 0 = 0
  | 0 => rfl
  | k + 1 => dvs_zero k
theorem dv_lt (x : Nat) (h : x < 4294967296) : dv x < 4294967296 := by
  unfold dv
  split
  · exact Nat.xor_lt_two_pow (n := 32) (by omega) (by decide)
  · omega
theorem dvs_lt : ∀ (k x : Nat), x < 4294967296 → dvs k x < 4294967296
  | 0, _, h => h
  | k + 1, x, h => dvs_lt k _ (dv_lt x h)
theorem dv_ne (x : Nat) (h : x < 4294967296) (h0 : x ≠ 0) : dv x ≠ 0 := by
  unfold dv
  split
  · intro hz
    have e : x / 2 = 3988292384 := by
      have := congrArg (· ^^^ 3988292384) hz
      simpa [Nat.xor_assoc] using this
    omega
  · omega
theorem dvs_ne : ∀ (k x : Nat), x < 4294967296 → x ≠ 0 → dvs k x ≠ 0
  | 0, _, _, h0 => h0
  | k + 1, x, h, h0 => dvs_ne k _ (dv_lt x h) (dv_ne x h h0)
theorem upd_append (x : Nat) (as bs : List Nat) : upd x (as ++ bs) = upd (upd x as) bs := List.foldl_append
theorem upd_lt : ∀ (bs : List Nat) (x : Nat), x < 4294967296 → (∀ b ∈ bs, b < 256) → upd x bs < 4294967296
  | [], _, h, _ => h
  | b :: bs, x, h, hb => upd_lt bs _ (dvs_lt 8 _ (Nat.xor_lt_two_pow (n := 32) h (by have := hb b (List.mem_cons_self ..); omega))) (fun y hy => hb y (List.mem_cons_of_mem _ hy))
/-- Two texts of one length, turned by one another. -/
theorem upd_xor : ∀ (as bs : List Nat) (x y : Nat), as.length = bs.length → upd (x ^^^ y) (List.zipWith (· ^^^ ·) as bs) = upd x as ^^^ upd y bs
  | [], [], _, _, _ => rfl
  | a :: as, b :: bs, x, y, h => by
    show upd (dvs 8 (x ^^^ y ^^^ (a ^^^ b))) (List.zipWith (· ^^^ ·) as bs) = _
    have e : x ^^^ y ^^^ (a ^^^ b) = (x ^^^ a) ^^^ (y ^^^ b) := by ac_rfl
    rw [e, dvs_xor]
    exact upd_xor as bs _ _ (by simpa using h)
/-- Bytes as one number, the lowest first. -/
def le : List Nat → Nat
  | [] => 0
  | b :: bs => b + 256 * le bs
theorem le_cons_xor (b : Nat) (bs : List Nat) (h : b < 256) : le (b :: bs) = b ^^^ le bs * 2 ^ 8 := by
  have := Nat.two_pow_add_eq_or_of_lt (i := 8) (b := b) (by omega) (le bs)
  rw [le, show 256 * le bs = 2 ^ 8 * le bs from rfl, Nat.add_comm, Nat.mul_comm (le bs)]
  apply Nat.eq_of_testBit_eq
  intro i
  rw [this, Nat.testBit_or, Nat.testBit_xor, Nat.testBit_two_pow_mul]
  by_cases hi : 8 ≤ i
  · rw [Nat.testBit_lt_two_pow (Nat.lt_of_lt_of_le h (Nat.pow_le_pow_right (by decide) hi : 2 ^ 8 ≤ 2 ^ i))]
    simp
  · simp [hi]
/-- A state that goes on with bytes is divided by all their bits. -/
theorem upd_le : ∀ (bs : List Nat) (x : Nat), (∀ b ∈ bs, b < 256) → upd x bs = dvs (8 * bs.length) (x ^^^ le bs)
  | [], x, _ => by simp [upd, le, dvs]
  | b :: bs, x, h => by
    show upd (dvs 8 (x ^^^ b)) bs = _
    rw [upd_le bs _ (fun y hy => h y (List.mem_cons_of_mem _ hy)), le_cons_xor b bs (h b (List.mem_cons_self ..)), List.length_cons, show 8 * (bs.length + 1) = 8 + 8 * bs.length by omega, dvs_add, ← Nat.xor_assoc, dvs_xor 8 (x ^^^ b), dvs_shift]
/-- Bits that are turned within 32 neighbouring ones are told. -/
theorem upd_burst (as bs : List Nat) (x at_ e : Nat) (hl : as.length = bs.length) (ha : ∀ b ∈ as, b < 256) (hb : ∀ b ∈ bs, b < 256) (he : e < 4294967296) (h0 : e ≠ 0) (hat : at_ ≤ 8 * as.length) (hd : le as ^^^ le bs = e * 2 ^ at_) : upd x as ≠ upd x bs := by
  intro h
  rw [upd_le as x ha, upd_le bs x hb, ← hl] at h
  have h2 : dvs (8 * as.length) (x ^^^ le as) ^^^ dvs (8 * as.length) (x ^^^ le bs) = 0 := by rw [h, Nat.xor_self]
  rw [← dvs_xor, show x ^^^ le as ^^^ (x ^^^ le bs) = (x ^^^ x) ^^^ (le as ^^^ le bs) by ac_rfl, Nat.xor_self, Nat.zero_xor, hd] at h2
  obtain ⟨r, hr⟩ : ∃ r, 8 * as.length = at_ + r := ⟨8 * as.length - at_, by omega⟩
  rw [hr, dvs_add, dvs_shift] at h2
  exact dvs_ne r e he h0 h2
theorem xor_shift (x y k : Nat) : (x ^^^ y) * 2 ^ k = x * 2 ^ k ^^^ y * 2 ^ k := by
  rw [← Nat.shiftLeft_eq, ← Nat.shiftLeft_eq, ← Nat.shiftLeft_eq, Nat.shiftLeft_xor_distrib]
/-- A bit turned. -/
theorem le_flip : ∀ (xs : List Nat) (j r : Nat), (∀ b ∈ xs, b < 256) → j < xs.length → r < 8 → le (xs.set j (xs.getD j 0 ^^^ 2 ^ r)) = le xs ^^^ 2 ^ (8 * j + r)
  | [], _, _, _, h, _ => by simp at h
  | b :: bs, 0, r, hb, _, hr => by
    have h1 : b < 256 := hb b (List.mem_cons_self ..)
    have h2 : (2 : Nat) ^ r < 2 ^ 8 := Nat.pow_lt_pow_right (by decide) hr
    rw [List.set_cons_zero, List.getD_cons_zero, le_cons_xor _ bs (Nat.xor_lt_two_pow (n := 8) h1 h2), le_cons_xor b bs h1, Nat.mul_zero, Nat.zero_add]
    ac_rfl
  | b :: bs, j + 1, r, hb, hj, hr => by
    have h1 : b < 256 := hb b (List.mem_cons_self ..)
    rw [List.set_cons_succ, List.getD_cons_succ, le_cons_xor b _ h1, le_cons_xor b bs h1, le_flip bs j r (fun y hy => hb y (List.mem_cons_of_mem _ hy)) (by simpa using hj) hr, xor_shift, ← Nat.pow_add, show 8 * (j + 1) + r = 8 * j + r + 8 by omega, Nat.xor_assoc]
/-- All bits turned. -/
theorem turned (x : Nat) (h : x < 4294967296) : 4294967295 - x = 4294967295 ^^^ x := by
  have : (4294967295 : Nat) = 2 ^ 32 - 1 := rfl
  apply Nat.eq_of_testBit_eq
  intro i
  rw [this, show 2 ^ 32 - 1 - x = 2 ^ 32 - (x + 1) by omega, Nat.testBit_two_pow_sub_succ h, Nat.testBit_xor, Nat.testBit_two_pow_sub_one]
  by_cases hi : i < 32
  · simp [hi]
  · rw [Nat.testBit_lt_two_pow (Nat.lt_of_lt_of_le h (Nat.pow_le_pow_right (by decide) (by omega) : 2 ^ 32 ≤ 2 ^ i))]
    simp [hi]
/-- A byte below a number of whole bytes. -/
theorem byte_xor (b y : Nat) (h : b < 256) : b + 256 * y = b ^^^ y * 2 ^ 8 := by
  have := Nat.two_pow_add_eq_or_of_lt (i := 8) (b := b) (by omega) y
  rw [show 256 * y = 2 ^ 8 * y from rfl, Nat.add_comm, Nat.mul_comm y]
  apply Nat.eq_of_testBit_eq
  intro i
  rw [this, Nat.testBit_or, Nat.testBit_xor, Nat.testBit_two_pow_mul]
  by_cases hi : 8 ≤ i
  · rw [Nat.testBit_lt_two_pow (Nat.lt_of_lt_of_le h (Nat.pow_le_pow_right (by decide) hi : 2 ^ 8 ≤ 2 ^ i))]
    simp
  · simp [hi]
/-- Only the lowest byte of a state decides what is xored. -/
theorem step_tab (x c : Nat) : dvs 8 (x ^^^ c) = x / 256 ^^^ dvs 8 (x % 256 ^^^ c) := by
  have e : x = x % 256 ^^^ x / 256 * 2 ^ 8 := by
    rw [← byte_xor _ _ (Nat.mod_lt _ (by decide))]
    omega
  have e2 : x ^^^ c = x / 256 * 2 ^ 8 ^^^ (x % 256 ^^^ c) := by
    conv => lhs; rw [e]
    ac_rfl
  rw [e2, dvs_xor, dvs_shift]
/-- A bit and what is below it. -/
theorem bit_xor (k y : Nat) (h : y < 2 ^ k) : 2 ^ k + y = 2 ^ k ^^^ y := by
  have h1 := Nat.two_pow_add_eq_or_of_lt (i := k) (b := y) h 1
  rw [Nat.mul_one] at h1
  apply Nat.eq_of_testBit_eq
  intro i
  rw [h1, Nat.testBit_or, Nat.testBit_xor]
  by_cases hi : i = k
  · subst hi
    rw [Nat.testBit_lt_two_pow h]
    simp
  · rw [Nat.testBit_two_pow_of_ne (Ne.symm hi)]
    simp
theorem dvs_bit (k y : Nat) (h : y < 2 ^ k) : dvs 8 (2 ^ k + y) = dvs 8 (2 ^ k) ^^^ dvs 8 y := by rw [bit_xor k y h, dvs_xor]
/-- The sum behind a sum. -/
def sm (n : Nat) (xs : List Nat) : Nat := 4294967295 - upd (4294967295 - n) xs
theorem sm_lt (n : Nat) (xs : List Nat) : sm n xs < 4294967296 := by unfold sm; omega
theorem sm_upd (n : Nat) (xs : List Nat) (hx : ∀ x ∈ xs, x < 256) : 4294967295 - sm n xs = upd (4294967295 - n) xs := by
  have := upd_lt xs (4294967295 - n) (by omega) hx
  unfold sm
  omega
theorem sm_append (n : Nat) (as bs : List Nat) (ha : ∀ x ∈ as, x < 256) : sm (sm n as) bs = sm n (as ++ bs) := by
  rw [show sm (sm n as) bs = 4294967295 - upd (4294967295 - sm n as) bs from rfl, sm_upd n as ha, ← upd_append]
  rfl
/-- Two texts turned by one another. -/
theorem sm_turned (as bs : List Nat) (hl : as.length = bs.length) (ha : ∀ x ∈ as, x < 256) (hb : ∀ x ∈ bs, x < 256) :
    sm 0 as ^^^ sm 0 bs ^^^ sm 0 (List.replicate as.length 0) = sm 0 (List.zipWith (· ^^^ ·) as bs) := by
  have hz : ∀ x ∈ List.replicate as.length 0, x < 256 := fun x hx => by rw [List.eq_of_mem_replicate hx]; decide
  have hc : ∀ x ∈ List.zipWith (· ^^^ ·) as bs, x < 256 := by
    intro x hx
    obtain ⟨i, hi, rfl⟩ := List.getElem_of_mem hx
    rw [List.getElem_zipWith]
    exact Nat.xor_lt_two_pow (n := 8) (ha _ (List.getElem_mem _)) (hb _ (List.getElem_mem _))
  have e1 := upd_xor as bs 4294967295 0 hl
  have e2 := upd_xor bs (List.replicate as.length 0) 4294967295 4294967295 (by simp [hl])
  have e3 : List.zipWith (· ^^^ ·) bs (List.replicate as.length 0) = bs := by
    apply List.ext_getElem
    · simp [hl]
    · intro i h1 h2
      simp
  rw [e3, Nat.xor_self] at e2
  rw [Nat.xor_zero, e2] at e1
  unfold sm
  rw [Nat.sub_zero, turned _ (upd_lt as _ (by decide) ha), turned _ (upd_lt bs _ (by decide) hb), turned _ (upd_lt _ _ (by decide) hz), turned _ (upd_lt _ _ (by decide) hc), e1]
  generalize upd 4294967295 as = A
  generalize upd 4294967295 bs = B
  generalize upd 4294967295 (List.replicate as.length 0) = Z
  rw [show 4294967295 ^^^ A ^^^ (4294967295 ^^^ B) ^^^ (4294967295 ^^^ Z) = (4294967295 ^^^ 4294967295) ^^^ (4294967295 ^^^ (A ^^^ (B ^^^ Z))) by ac_rfl, Nat.xor_self, Nat.zero_xor]
/-- The four bytes of a sum. -/
def four (n : Nat) : List Nat := [n / 16777216 % 256, n / 65536 % 256, n / 256 % 256, n % 256]
theorem four_inj (n m : Nat) (hn : n < 4294967296) (hm : m < 4294967296) (h : four n = four m) : n = m := by
  simp only [four, List.cons.injEq, and_true] at h
  omega
theorem four_byte (n : Nat) : ∀ x ∈ four n, x < 256 := by
  intro x hx
  simp only [four, List.mem_cons, List.not_mem_nil, or_false] at hx
  omega
theorem le_inj : ∀ (as bs : List Nat), as.length = bs.length → (∀ x ∈ as, x < 256) → (∀ x ∈ bs, x < 256) → le as = le bs → as = bs
  | [], [], _, _, _, _ => rfl
  | a :: as, b :: bs, hl, ha, hb, h => by
    have h1 := ha a (List.mem_cons_self ..)
    have h2 := hb b (List.mem_cons_self ..)
    simp only [le] at h
    have e : a = b ∧ le as = le bs := by omega
    rw [e.1, le_inj as bs (by simpa using hl) (fun x hx => ha x (List.mem_cons_of_mem _ hx)) (fun x hx => hb x (List.mem_cons_of_mem _ hx)) e.2]
/-- Bits turned one by one. -/
theorem low_step (b i : Nat) : b % 2 ^ (i + 1) = if b / 2 ^ i % 2 = 1 then b % 2 ^ i ^^^ 2 ^ i else b % 2 ^ i := by
  have hm : b % 2 ^ (i + 1) = b % 2 ^ i + 2 ^ i * (b / 2 ^ i % 2) := by rw [Nat.pow_succ, Nat.mod_mul]
  rw [hm]
  split
  · rename_i h
    rw [h, Nat.mul_one, Nat.xor_comm, ← bit_xor i _ (Nat.mod_lt _ (Nat.two_pow_pos i)), Nat.add_comm]
  · rename_i h
    have : b / 2 ^ i % 2 = 0 := by omega
    rw [this, Nat.mul_zero, Nat.add_zero]
theorem bs_inj (xs ys : List Nat) (hx : ∀ x ∈ xs, x < 256) (hy : ∀ x ∈ ys, x < 256) (h : bs xs = bs ys) : xs = ys := by
  have e := congrArg (fun s : ByteArray => s.data.toList.map (·.toNat)) h
  simp only [bs, List.map_map] at e
  have key : ∀ zs : List Nat, (∀ x ∈ zs, x < 256) → zs.map ((fun x : UInt8 => x.toNat) ∘ fun n => UInt8.ofNat n) = zs := by
    intro zs hz
    conv => rhs; rw [← List.map_id zs]
    refine List.map_congr_left fun x hxz => ?_
    have := hz x hxz
    simp
    omega
  rw [key xs hx, key ys hy] at e
  exact e
end Go.Proofs.YthaihallfjjnpaaGreatDoor

namespace Go.Proofs.YthaihallfjjnpaaGreatDoor

def rdT (xs : List Nat) (most : Int) : List Nat × Nat × Nat :=
  if most < 0 then ([], 0, 1) else if (rdU xs).2.2 ≠ 0 then ([], 0, (rdU xs).2.2) else if most < (rdU xs).1 then ([], 0, 2) else if xs.length - (rdU xs).2.1 < (rdU xs).1 then ([], 0, 12)
  else ((xs.drop (rdU xs).2.1).take (rdU xs).1, (rdU xs).2.1 + (rdU xs).1, 0)
/-- What is opened. -/
def opn (xs : List Nat) : List Nat × Nat :=
  if xs.length < 4 then ([], 12) else if xs.drop (xs.length - 4) = four (sm 0 (xs.take (xs.length - 4))) then (xs.take (xs.length - 4), 0) else ([], 11)
end Go.Proofs.YthaihallfjjnpaaGreatDoor
