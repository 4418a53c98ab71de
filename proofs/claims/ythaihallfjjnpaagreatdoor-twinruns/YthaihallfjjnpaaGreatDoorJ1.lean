/- Numbers as bytes, outside any program: what is laid is read as it was; what is read, laid again, are the same bytes; how many bytes there are; Sums of bytes, outside any program: to divide is linear over xor and takes nothing to nothing else; so sums are told apart by up to 32 neighbouring bits; A device of sectors that can crash, plainly: what is safe, what is pending, what a restart leaves; What is read and opened, plainly; Bytes in memory; rows of one's own; errors; A text kept twice, plainly: what a half holds, what is told, what is laid and written, what a crash leaves; Texts saved one behind the other, and a crash meanwhile, plainly; Texts saved one behind the other on a device of twelve sectors, plainly: what both halves hold; what a crash while one is saved leaves. -/
import Derived.Lib.BitFns
import Derived.WalkKit
import Derived.Test.YthaihallfjjnpaaGreatDoorChecked
import Derived.WalkSpells
import Derived.WalkLawsBesides
import Derived.OwnWalk
import Derived.Laws.BytesArg
import Derived.Lib.AppendStr
import Derived.Lib.QuietBelow
import Derived.Lib.Hide
import Derived.Deep.RegionWith
import Derived.Deep.WholeRow
import Derived.Deep.LoopGhost
import Derived.Laws.ResultCell
import Derived.Lib.SlBytesConst
import Derived.Deep.AppendLies
namespace Go.Proofs.YthaihallfjjnpaaGreatDoor

/-- A number in groups of seven bits, the lowest first. -/
def enc (n : Nat) : List Nat := if n < 128 then [n] else (n % 128 + 128) :: enc (n / 128)
  termination_by n
  decreasing_by omega
theorem enc_lt {n : Nat} (h : n < 128) : enc n = [n] := by rw [enc, if_pos h]
theorem enc_ge {n : Nat} (h : 128 ≤ n) : enc n = (n % 128 + 128) :: enc (n / 128) := by rw [enc, if_neg (by omega)]
/-- The number at the begin of bytes, from the place i on, and what was read so far: the number, how many bytes, the error's number. -/
def dec (acc i : Nat) : List Nat → Nat × Nat × Nat
  | [] => if i = 10 then (0, 0, 3) else (0, 0, 12)
  | y :: ys => if i = 10 then (0, 0, 3) else if 128 ≤ y then dec (acc + (y - 128) * 128 ^ i) (i + 1) ys else if (i ≠ 0 ∧ y = 0) ∨ (i = 9 ∧ 1 < y) then (0, 0, 3) else (acc + y * 128 ^ i, i + 1, 0)
theorem pow9 : (128 : Nat) ^ 9 = 9223372036854775808 := by decide
theorem pow10 : (128 : Nat) ^ 10 = 1180591620717411303424 := by decide
theorem place_lt {i n : Nat} (hn : n * 128 ^ i < 18446744073709551616) (h0 : i ≠ 0 → n ≠ 0) : i < 10 ∧ ¬ (i = 9 ∧ 1 < n) := by
  refine ⟨?_, ?_⟩
  · apply Classical.byContradiction
    intro hc
    have h1 : (128 : Nat) ^ 10 ≤ 128 ^ i := Nat.pow_le_pow_right (by decide) (by omega)
    rw [pow10] at h1
    have h2 : 1 * 128 ^ i ≤ n * 128 ^ i := Nat.mul_le_mul_right _ (by have := h0 (by omega); omega)
    omega
  · rintro ⟨rfl, h⟩
    rw [pow9] at hn
    omega
theorem dec_enc : ∀ (n acc i : Nat) (ys : List Nat), n * 128 ^ i < 18446744073709551616 → (i ≠ 0 → n ≠ 0) → dec acc i (enc n ++ ys) = (acc + n * 128 ^ i, i + (enc n).length, 0) := by
  intro n
  induction n using Nat.strongRecOn with
  | ind n ih =>
    intro acc i ys hn h0
    obtain ⟨h10, h9⟩ := place_lt hn h0
    by_cases hs : n < 128
    · rw [enc_lt hs, List.singleton_append, dec, if_neg (by omega), if_neg (by omega), if_neg (by omega)]
      rfl
    · have e : n = n % 128 + 128 * (n / 128) := (Nat.mod_add_div n 128).symm
      have hp : (128 : Nat) ^ (i + 1) = 128 ^ i * 128 := Nat.pow_succ ..
      have hm : n * 128 ^ i = n % 128 * 128 ^ i + n / 128 * 128 ^ (i + 1) := by
        rw [hp]
        conv => lhs; rw [e, Nat.add_mul]
        congr 1
        rw [Nat.mul_comm (128 ^ i) 128, ← Nat.mul_assoc, Nat.mul_comm 128]
      rw [enc_ge (by omega), List.cons_append, dec, if_neg (by omega), if_pos (by omega), ih (n / 128) (by omega) _ (i + 1) ys (by omega) (by omega), show n % 128 + 128 - 128 = n % 128 by omega]
      simp only [List.length_cons, Prod.mk.injEq, and_true]
      omega
theorem dec_err : ∀ (xs : List Nat) (acc i : Nat), (dec acc i xs).2.2 ≠ 0 → (dec acc i xs).1 = 0 ∧ (dec acc i xs).2.1 = 0 := by
  intro xs
  induction xs with
  | nil => intro acc i _; unfold dec; split <;> exact ⟨rfl, rfl⟩
  | cons y ys ih =>
    intro acc i h
    unfold dec at h ⊢
    split
    · exact ⟨rfl, rfl⟩
    · rename_i h1
      rw [if_neg h1] at h
      split
      · rename_i h2
        rw [if_pos h2] at h
        exact ih _ _ h
      · rename_i h2
        rw [if_neg h2] at h
        split
        · exact ⟨rfl, rfl⟩
        · rename_i h3
          rw [if_neg h3] at h
          exact absurd rfl h
theorem dec_errs : ∀ (xs : List Nat) (acc i : Nat), (dec acc i xs).2.2 = 0 ∨ (dec acc i xs).2.2 = 3 ∨ (dec acc i xs).2.2 = 12 := by
  intro xs
  induction xs with
  | nil => intro acc i; unfold dec; split <;> simp
  | cons y ys ih =>
    intro acc i
    unfold dec
    split
    · simp
    · split
      · exact ih _ _
      · split <;> simp
theorem dec_back : ∀ (xs : List Nat) (acc i : Nat), (∀ x ∈ xs, x < 256) → i ≤ 10 → (dec acc i xs).2.2 = 0 →
    ∃ n, (dec acc i xs).1 = acc + n * 128 ^ i ∧ enc n = xs.take ((dec acc i xs).2.1 - i) ∧ i < (dec acc i xs).2.1 ∧ (dec acc i xs).2.1 - i ≤ xs.length ∧ (i ≠ 0 → n ≠ 0) ∧ (n + 1) * 128 ^ i ≤ 18446744073709551616 := by
  intro xs
  induction xs with
  | nil =>
    intro acc i _ _ h
    unfold dec at h
    split at h <;> simp at h
  | cons y ys ih =>
    intro acc i hb hi h
    unfold dec at h ⊢
    split at h
    · simp at h
    · rename_i h1
      rw [if_neg h1]
      split at h
      · rename_i h2
        rw [if_pos h2]
        have hy : y < 256 := hb y (List.mem_cons_self ..)
        obtain ⟨n, e1, e2, e3, e4, e5, e6⟩ := ih (acc + (y - 128) * 128 ^ i) (i + 1) (fun x hx => hb x (List.mem_cons_of_mem _ hx)) (by omega) h
        have hp : (128 : Nat) ^ (i + 1) = 128 ^ i * 128 := Nat.pow_succ ..
        have hn : n ≠ 0 := e5 (by omega)
        generalize (dec (acc + (y - 128) * 128 ^ i) (i + 1) ys) = r at *
        refine ⟨y - 128 + 128 * n, ?_, ?_, by omega, ?_, by omega, ?_⟩
        · rw [e1, hp, Nat.add_mul, Nat.add_assoc, Nat.mul_comm (128 ^ i) 128, ← Nat.mul_assoc, Nat.mul_comm n 128]
        · rw [enc_ge (by omega), show (y - 128 + 128 * n) % 128 + 128 = y by omega, show (y - 128 + 128 * n) / 128 = n by omega, e2, show r.2.1 - i = (r.2.1 - (i + 1)) + 1 by omega, List.take_succ_cons]
        · simp only [List.length_cons]
          omega
        · have h3 : (y - 128 + 128 * n + 1) * 128 ^ i ≤ (128 * (n + 1)) * 128 ^ i := Nat.mul_le_mul_right _ (by omega)
          have h4 : (128 * (n + 1)) * 128 ^ i = (n + 1) * 128 ^ (i + 1) := by rw [hp, Nat.mul_comm 128 (n + 1), Nat.mul_assoc, Nat.mul_comm 128]
          omega
      · rename_i h2
        rw [if_neg h2]
        split at h
        · simp at h
        · rename_i h3
          rw [if_neg h3]
          refine ⟨y, rfl, ?_, by show i < i + 1; omega, ?_, ?_, ?_⟩
          · show enc y = List.take (i + 1 - i) (y :: ys)
            rw [enc_lt (by omega), show i + 1 - i = 1 by omega]
            rfl
          · show i + 1 - i ≤ _
            simp only [List.length_cons]
            omega
          · intro h0 hy
            exact h3 (.inl ⟨h0, hy⟩)
          · by_cases h9 : i = 9
            · subst h9
              rw [pow9]
              have : ¬ 1 < y := fun h => h3 (.inr ⟨rfl, h⟩)
              omega
            · have h5 : (y + 1) * 128 ^ i ≤ 128 * 128 ^ i := Nat.mul_le_mul_right _ (by omega)
              have h6 : 128 * 128 ^ i = (128 : Nat) ^ (i + 1) := by rw [Nat.pow_succ, Nat.mul_comm]
              have h7 : (128 : Nat) ^ (i + 1) ≤ 128 ^ 9 := Nat.pow_le_pow_right (by decide) (by omega)
              rw [pow9] at h7
              omega
/-- The number at the begin of bytes. -/
def rdU (xs : List Nat) : Nat × Nat × Nat := dec 0 0 xs
theorem rdU_enc (n : Nat) (ys : List Nat) (h : n < 18446744073709551616) : rdU (enc n ++ ys) = (n, (enc n).length, 0) := by
  unfold rdU
  rw [dec_enc n 0 0 ys (by omega) (by omega)]
  simp
theorem rdU_back (xs : List Nat) (hb : ∀ x ∈ xs, x < 256) (h : (rdU xs).2.2 = 0) : enc (rdU xs).1 = xs.take (rdU xs).2.1 ∧ 0 < (rdU xs).2.1 ∧ (rdU xs).2.1 ≤ xs.length ∧ (rdU xs).1 < 18446744073709551616 := by
  obtain ⟨n, e1, e2, e3, e4, _, e6⟩ := dec_back xs 0 0 hb (by omega) h
  unfold rdU
  rw [Nat.pow_zero, Nat.mul_one, Nat.zero_add] at e1
  rw [Nat.pow_zero, Nat.mul_one] at e6
  rw [e1]
  exact ⟨e2, e3, e4, by omega⟩
theorem rdU_err (xs : List Nat) (h : (rdU xs).2.2 ≠ 0) : (rdU xs).1 = 0 ∧ (rdU xs).2.1 = 0 := dec_err xs 0 0 h
theorem rdU_errs (xs : List Nat) : (rdU xs).2.2 = 0 ∨ (rdU xs).2.2 = 3 ∨ (rdU xs).2.2 = 12 := dec_errs xs 0 0
theorem rdU_lt (xs : List Nat) (hb : ∀ x ∈ xs, x < 256) : (rdU xs).1 < 18446744073709551616 ∧ (rdU xs).2.1 ≤ xs.length := by
  by_cases h : (rdU xs).2.2 = 0
  · obtain ⟨_, _, h1, h2⟩ := rdU_back xs hb h
    exact ⟨h2, h1⟩
  · obtain ⟨h1, h2⟩ := rdU_err xs h
    rw [h1, h2]
    exact ⟨by decide, Nat.zero_le _⟩
/-- How many bytes say a number. -/
theorem enc_length : ∀ n : Nat, n < 18446744073709551616 → (enc n).length = max 1 ((Lib.bitLen n + 6) / 7) := by
  intro n
  induction n using Nat.strongRecOn with
  | ind n ih =>
    intro hn
    by_cases hs : n < 128
    · rw [enc_lt hs]
      have := Lib.bitLen_le n 7 (by omega) (by omega)
      simp only [List.length_cons, List.length_nil]
      omega
    · have h1 := Lib.bitLen_shift 7 n (by omega) (by omega)
      rw [show (2 : Nat) ^ 7 = 128 from rfl] at h1
      have h2 := Lib.bitLen_half (n / 128) (by omega) (by omega)
      rw [enc_ge (by omega), List.length_cons, ih (n / 128) (by omega) (by omega), h1]
      omega
theorem enc_mono : ∀ n m : Nat, m ≤ n → (enc m).length ≤ (enc n).length := by
  intro n
  induction n using Nat.strongRecOn with
  | ind n ih =>
    intro m h
    by_cases hm : m < 128
    · rw [enc_lt hm]
      by_cases hs : n < 128
      · rw [enc_lt hs]; exact Nat.le_refl _
      · rw [enc_ge (by omega)]; simp only [List.length_cons, List.length_nil]; omega
    · rw [enc_ge (n := m) (by omega), enc_ge (n := n) (by omega)]
      have := ih (n / 128) (by omega) (m / 128) (by omega)
      simp only [List.length_cons]
      omega
theorem enc_pos (n : Nat) : 0 < (enc n).length := by
  rw [enc]; split <;> simp
theorem enc_le10 (n : Nat) (h : n < 18446744073709551616) : (enc n).length ≤ 10 := by
  rw [enc_length n h]
  have := Lib.bitLen_le n 64 (by omega) (by omega)
  omega
theorem enc_byte : ∀ n : Nat, ∀ x ∈ enc n, x < 256 := by
  intro n
  induction n using Nat.strongRecOn with
  | ind n ih =>
    intro x hx
    by_cases hs : n < 128
    · rw [enc_lt hs] at hx; simp at hx; omega
    · rw [enc_ge (by omega)] at hx
      rcases List.mem_cons.1 hx with rfl | hx
      · omega
      · exact ih (n / 128) (by omega) x hx
/-- A number with a sign as one without. -/
def zz (n : Int) : Nat := if n < 0 then (-2 * n - 1).toNat else (2 * n).toNat
def unzz (v : Nat) : Int := if v % 2 = 1 then -(v / 2 : Nat) - 1 else (v / 2 : Nat)
theorem unzz_zz (n : Int) : unzz (zz n) = n := by
  unfold unzz zz
  split <;> split <;> omega
theorem zz_lt (n : Int) (h0 : -9223372036854775808 ≤ n) (h1 : n ≤ 9223372036854775807) : zz n < 18446744073709551616 := by
  unfold zz
  split <;> omega
/-- Bytes as a string. -/
def bs (xs : List Nat) : ByteArray := ⟨(xs.map fun n => UInt8.ofNat n).toArray⟩
/-- The bytes of a string. -/
def sb (s : ByteArray) : List Nat := s.data.toList.map (·.toNat)
theorem bs_sb (s : ByteArray) : bs (sb s) = s := by
  obtain ⟨d⟩ := s
  simp [bs, sb, Function.comp_def]
theorem bs_append (xs ys : List Nat) : bs xs ++ bs ys = bs (xs ++ ys) := by
  ext1
  simp [bs, ByteArray.data_append]
theorem sb_length (s : ByteArray) : (sb s).length = s.size := by unfold sb; rw [List.length_map, Array.length_toList]; rfl
theorem sb_byte (s : ByteArray) : ∀ x ∈ sb s, x < 256 := by
  intro x hx
  obtain ⟨u, _, rfl⟩ := List.mem_map.1 hx
  exact u.toNat_lt
theorem bs_size (xs : List Nat) : (bs xs).size = xs.length := by simp [bs, ByteArray.size]
end Go.Proofs.YthaihallfjjnpaaGreatDoor

namespace Go.Proofs.YthaihallfjjnpaaGreatDoor

/-- To divide a number by a bit. -/
def dv (x : Nat) : Nat := if x % 2 = 1 then x / 2 ^^^ 3988292384 else x / 2
def dvs : Nat → Nat → Nat
  | 0, x => x
  | k + 1, x => dvs k (dv x)
/-- A state goes on with bytes. -/
def upd (x : Nat) (bs : List Nat) : Nat := bs.foldl (fun x b => dvs 8 (x ^^^ b)) x
theorem xor_half (x y : Nat) : (x ^^^ y) / 2 = x / 2 ^^^ y / 2 := by
  rw [← Nat.pow_one 2, ← Nat.shiftRight_eq_div_pow, ← Nat.shiftRight_eq_div_pow, ← Nat.shiftRight_eq_div_pow, Nat.shiftRight_xor_distrib]
theorem xor_odd (x y : Nat) : (x ^^^ y) % 2 = (x % 2 + y % 2) % 2 := by
  have h := Nat.xor_mod_two_pow (a := x) (b := y) (n := 1)
  rw [Nat.pow_one] at h
  rw [h]
  rcases Nat.mod_two_eq_zero_or_one x with h1 | h1 <;> rcases Nat.mod_two_eq_zero_or_one y with h2 | h2 <;> rw [h1, h2] <;> rfl
theorem dv_xor (x y : Nat) : dv (x ^^^ y) = dv x ^^^ dv y := by
  unfold dv
  rw [xor_half, xor_odd]
  rcases Nat.mod_two_eq_zero_or_one x with h1 | h1 <;> rcases Nat.mod_two_eq_zero_or_one y with h2 | h2 <;> simp only [h1, h2] <;> simp
  · ac_rfl
  · ac_rfl
  · rw [Nat.xor_assoc, Nat.xor_comm 3988292384, Nat.xor_assoc, Nat.xor_self, Nat.xor_zero]
theorem dvs_xor : ∀ (k x y : Nat), dvs k (x ^^^ y) = dvs k x ^^^ dvs k y
  | 0, _, _ => rfl
  | k + 1, x, y => by simp only [dvs, dv_xor, dvs_xor k]
theorem dvs_add : ∀ (a b x : Nat), dvs (a + b) x = dvs b (dvs a x)
  | 0, b, x => by rw [Nat.zero_add]; rfl
  | a + 1, b, x => by rw [show a + 1 + b = (a + b) + 1 by omega]; exact dvs_add a b (dv x)
theorem dvs_shift : ∀ (k y : Nat), dvs k (y * 2 ^ k) = y
  | 0, y => by simp [dvs]
  | k + 1, y => by
    rw [Nat.pow_succ, ← Nat.mul_assoc, dvs, dv, if_neg (by omega), Nat.mul_div_cancel _ (by decide)]
    exact dvs_shift k y
theorem dvs_zero : ∀ k : Nat, dvs k 0 = 0
  | 0 => rfl
  | k + 1 => dvs_zero k
theorem dv_lt (x : Nat) (h : x < 4294967296) : dv x < 4294967296 := by
  unfold dv
  split
  · exact Nat.xor_lt_two_pow (n := 32) (by omega) (by decide)
  · omega
theorem dvs_lt : ∀ (k x : Nat), x < 4294967296 → dvs k x < 4294967296
  | 0, _, h => h
  | k + 1, x, h => dvs_lt k _ (dv_lt x h)
theorem dv_ne (x : Nat) (h : x < 4294967296) (h0 : x ≠ 0) : dv x ≠ 0 := by
  unfold dv
  split
  · intro hz
    have e : x / 2 = 3988292384 := by
      have := congrArg (· ^^^ 3988292384) hz
      simpa [Nat.xor_assoc] using this
    omega
  · omega
theorem dvs_ne : ∀ (k x : Nat), x < 4294967296 → x ≠ 0 → dvs k x ≠ 0
  | 0, _, _, h0 => h0
  | k + 1, x, h, h0 => dvs_ne k _ (dv_lt x h) (dv_ne x h h0)
theorem upd_append (x : Nat) (as bs : List Nat) : upd x (as ++ bs) = upd (upd x as) bs := List.foldl_append
theorem upd_lt : ∀ (bs : List Nat) (x : Nat), x < 4294967296 → (∀ b ∈ bs, b < 256) → upd x bs < 4294967296
  | [], _, h, _ => h
  | b :: bs, x, h, hb => upd_lt bs _ (dvs_lt 8 _ (Nat.xor_lt_two_pow (n := 32) h (by have := hb b (List.mem_cons_self ..); omega))) (fun y hy => hb y (List.mem_cons_of_mem _ hy))
/-- Two texts of one length, turned by one another. -/
theorem upd_xor : ∀ (as bs : List Nat) (x y : Nat), as.length = bs.length → upd (x ^^^ y) (List.zipWith (· ^^^ ·) as bs) = upd x as ^^^ upd y bs
  | [], [], _, _, _ => rfl
  | a :: as, b :: bs, x, y, h => by
    show upd (dvs 8 (x ^^^ y ^^^ (a ^^^ b))) (List.zipWith (· ^^^ ·) as bs) = _
    have e : x ^^^ y ^^^ (a ^^^ b) = (x ^^^ a) ^^^ (y ^^^ b) := by ac_rfl
    rw [e, dvs_xor]
    exact upd_xor as bs _ _ (by simpa using h)
/-- Bytes as one number, the lowest first. -/
def le : List Nat → Nat
  | [] => 0
  | b :: bs => b + 256 * le bs
theorem le_cons_xor (b : Nat) (bs : List Nat) (h : b < 256) : le (b :: bs) = b ^^^ le bs * 2 ^ 8 := by
  have := Nat.two_pow_add_eq_or_of_lt (i := 8) (b := b) (by omega) (le bs)
  rw [le, show 256 * le bs = 2 ^ 8 * le bs from rfl, Nat.add_comm, Nat.mul_comm (le bs)]
  apply Nat.eq_of_testBit_eq
  intro i
  rw [this, Nat.testBit_or, Nat.testBit_xor, Nat.testBit_two_pow_mul]
  by_cases hi : 8 ≤ i
  · rw [Nat.testBit_lt_two_pow (Nat.lt_of_lt_of_le h (Nat.pow_le_pow_right (by decide) hi : 2 ^ 8 ≤ 2 ^ i))]
    simp
  · simp [hi]
/-- A state that goes on with bytes is divided by all their bits. -/
theorem upd_le : ∀ (bs : List Nat) (x : Nat), (∀ b ∈ bs, b < 256) → upd x bs = dvs (8 * bs.length) (x ^^^ le bs)
  | [], x, _ => by simp [upd, le, dvs]
  | b :: bs, x, h => by
    show upd (dvs 8 (x ^^^ b)) bs = _
    rw [upd_le bs _ (fun y hy => h y (List.mem_cons_of_mem _ hy)), le_cons_xor b bs (h b (List.mem_cons_self ..)), List.length_cons, show 8 * (bs.length + 1) = 8 + 8 * bs.length by omega, dvs_add, ← Nat.xor_assoc, dvs_xor 8 (x ^^^ b), dvs_shift]
/-- Bits that are turned within 32 neighbouring ones are told. -/
theorem upd_burst (as bs : List Nat) (x at_ e : Nat) (hl : as.length = bs.length) (ha : ∀ b ∈ as, b < 256) (hb : ∀ b ∈ bs, b < 256) (he : e < 4294967296) (h0 : e ≠ 0) (hat : at_ ≤ 8 * as.length) (hd : le as ^^^ le bs = e * 2 ^ at_) : upd x as ≠ upd x bs := by
  intro h
  rw [upd_le as x ha, upd_le bs x hb, ← hl] at h
  have h2 : dvs (8 * as.length) (x ^^^ le as) ^^^ dvs (8 * as.length) (x ^^^ le bs) = 0 := by rw [h, Nat.xor_self]
  rw [← dvs_xor, show x ^^^ le as ^^^ (x ^^^ le bs) = (x ^^^ x) ^^^ (le as ^^^ le bs) by ac_rfl, Nat.xor_self, Nat.zero_xor, hd] at h2
  obtain ⟨r, hr⟩ : ∃ r, 8 * as.length = at_ + r := ⟨8 * as.length - at_, by omega⟩
  rw [hr, dvs_add, dvs_shift] at h2
  exact dvs_ne r e he h0 h2
theorem xor_shift (x y k : Nat) : (x ^^^ y) * 2 ^ k = x * 2 ^ k ^^^ y * 2 ^ k := by
  rw [← Nat.shiftLeft_eq, ← Nat.shiftLeft_eq, ← Nat.shiftLeft_eq, Nat.shiftLeft_xor_distrib]
/-- A bit turned. -/
theorem le_flip : ∀ (xs : List Nat) (j r : Nat), (∀ b ∈ xs, b < 256) → j < xs.length → r < 8 → le (xs.set j (xs.getD j 0 ^^^ 2 ^ r)) = le xs ^^^ 2 ^ (8 * j + r)
  | [], _, _, _, h, _ => by simp at h
  | b :: bs, 0, r, hb, _, hr => by
    have h1 : b < 256 := hb b (List.mem_cons_self ..)
    have h2 : (2 : Nat) ^ r < 2 ^ 8 := Nat.pow_lt_pow_right (by decide) hr
    rw [List.set_cons_zero, List.getD_cons_zero, le_cons_xor _ bs (Nat.xor_lt_two_pow (n := 8) h1 h2), le_cons_xor b bs h1, Nat.mul_zero, Nat.zero_add]
    ac_rfl
  | b :: bs, j + 1, r, hb, hj, hr => by
    have h1 : b < 256 := hb b (List.mem_cons_self ..)
    rw [List.set_cons_succ, List.getD_cons_succ, le_cons_xor b _ h1, le_cons_xor b bs h1, le_flip bs j r (fun y hy => hb y (List.mem_cons_of_mem _ hy)) (by simpa using hj) hr, xor_shift, ← Nat.pow_add, show 8 * (j + 1) + r = 8 * j + r + 8 by omega, Nat.xor_assoc]
/-- All bits turned. -/
theorem turned (x : Nat) (h : x < 4294967296) : 4294967295 - x = 4294967295 ^^^ x := by
  have : (4294967295 : Nat) = 2 ^ 32 - 1 := rfl
  apply Nat.eq_of_testBit_eq
  intro i
  rw [this, show 2 ^ 32 - 1 - x = 2 ^ 32 - (x + 1) by omega, Nat.testBit_two_pow_sub_succ h, Nat.testBit_xor, Nat.testBit_two_pow_sub_one]
  by_cases hi : i < 32
  · simp [hi]
  · rw [Nat.testBit_lt_two_pow (Nat.lt_of_lt_of_le h (Nat.pow_le_pow_right (by decide) (by omega) : 2 ^ 32 ≤ 2 ^ i))]
    simp [hi]
/-- A byte below a number of whole bytes. -/
theorem byte_xor (b y : Nat) (h : b < 256) : b + 256 * y = b ^^^ y * 2 ^ 8 := by
  have := Nat.two_pow_add_eq_or_of_lt (i := 8) (b := b) (by omega) y
  rw [show 256 * y = 2 ^ 8 * y from rfl, Nat.add_comm, Nat.mul_comm y]
  apply Nat.eq_of_testBit_eq
  intro i
  rw [this, Nat.testBit_or, Nat.testBit_xor, Nat.testBit_two_pow_mul]
  by_cases hi : 8 ≤ i
  · rw [Nat.testBit_lt_two_pow (Nat.lt_of_lt_of_le h (Nat.pow_le_pow_right (by decide) hi : 2 ^ 8 ≤ 2 ^ i))]
    simp
  · simp [hi]
/-- Only the lowest byte of a state decides what is xored. -/
theorem step_tab (x c : Nat) : dvs 8 (x ^^^ c) = x / 256 ^^^ dvs 8 (x % 256 ^^^ c) := by
  have e : x = x % 256 ^^^ x / 256 * 2 ^ 8 := by
    rw [← byte_xor _ _ (Nat.mod_lt _ (by decide))]
    omega
  have e2 : x ^^^ c = x / 256 * 2 ^ 8 ^^^ (x % 256 ^^^ c) := by
    conv => lhs; rw [e]
    ac_rfl
  rw [e2, dvs_xor, dvs_shift]
/-- A bit and what is below it. -/
theorem bit_xor (k y : Nat) (h : y < 2 ^ k) : 2 ^ k + y = 2 ^ k ^^^ y := by
  have h1 := Nat.two_pow_add_eq_or_of_lt (i := k) (b := y) h 1
  rw [Nat.mul_one] at h1
  apply Nat.eq_of_testBit_eq
  intro i
  rw [h1, Nat.testBit_or, Nat.testBit_xor]
  by_cases hi : i = k
  · subst hi
    rw [Nat.testBit_lt_two_pow h]
    simp
  · rw [Nat.testBit_two_pow_of_ne (Ne.symm hi)]
    simp
theorem dvs_bit (k y : Nat) (h : y < 2 ^ k) : dvs 8 (2 ^ k + y) = dvs 8 (2 ^ k) ^^^ dvs 8 y := by rw [bit_xor k y h, dvs_xor]
/-- The sum behind a sum. -/
def sm (n : Nat) (xs : List Nat) : Nat := 4294967295 - upd (4294967295 - n) xs
theorem sm_lt (n : Nat) (xs : List Nat) : sm n xs < 4294967296 := by unfold sm; omega
theorem sm_upd (n : Nat) (xs : List Nat) (hx : ∀ x ∈ xs, x < 256) : 4294967295 - sm n xs = upd (4294967295 - n) xs := by
  have := upd_lt xs (4294967295 - n) (by omega) hx
  unfold sm
  omega
theorem sm_append (n : Nat) (as bs : List Nat) (ha : ∀ x ∈ as, x < 256) : sm (sm n as) bs = sm n (as ++ bs) := by
  rw [show sm (sm n as) bs = 4294967295 - upd (4294967295 - sm n as) bs from rfl, sm_upd n as ha, ← upd_append]
  rfl
/-- Two texts turned by one another. -/
theorem sm_turned (as bs : List Nat) (hl : as.length = bs.length) (ha : ∀ x ∈ as, x < 256) (hb : ∀ x ∈ bs, x < 256) :
    sm 0 as ^^^ sm 0 bs ^^^ sm 0 (List.replicate as.length 0) = sm 0 (List.zipWith (· ^^^ ·) as bs) := by
  have hz : ∀ x ∈ List.replicate as.length 0, x < 256 := fun x hx => by rw [List.eq_of_mem_replicate hx]; decide
  have hc : ∀ x ∈ List.zipWith (· ^^^ ·) as bs, x < 256 := by
    intro x hx
    obtain ⟨i, hi, rfl⟩ := List.getElem_of_mem hx
    rw [List.getElem_zipWith]
    exact Nat.xor_lt_two_pow (n := 8) (ha _ (List.getElem_mem _)) (hb _ (List.getElem_mem _))
  have e1 := upd_xor as bs 4294967295 0 hl
  have e2 := upd_xor bs (List.replicate as.length 0) 4294967295 4294967295 (by simp [hl])
  have e3 : List.zipWith (· ^^^ ·) bs (List.replicate as.length 0) = bs := by
    apply List.ext_getElem
    · simp [hl]
    · intro i h1 h2
      simp
  rw [e3, Nat.xor_self] at e2
  rw [Nat.xor_zero, e2] at e1
  unfold sm
  rw [Nat.sub_zero, turned _ (upd_lt as _ (by decide) ha), turned _ (upd_lt bs _ (by decide) hb), turned _ (upd_lt _ _ (by decide) hz), turned _ (upd_lt _ _ (by decide) hc), e1]
  generalize upd 4294967295 as = A
  generalize upd 4294967295 bs = B
  generalize upd 4294967295 (List.replicate as.length 0) = Z
  rw [show 4294967295 ^^^ A ^^^ (4294967295 ^^^ B) ^^^ (4294967295 ^^^ Z) = (4294967295 ^^^ 4294967295) ^^^ (4294967295 ^^^ (A ^^^ (B ^^^ Z))) by ac_rfl, Nat.xor_self, Nat.zero_xor]
/-- The four bytes of a sum. -/
def four (n : Nat) : List Nat := [n / 16777216 % 256, n / 65536 % 256, n / 256 % 256, n % 256]
theorem four_inj (n m : Nat) (hn : n < 4294967296) (hm : m < 4294967296) (h : four n = four m) : n = m := by
  simp only [four, List.cons.injEq, and_true] at h
  omega
theorem four_byte (n : Nat) : ∀ x ∈ four n, x < 256 := by
  intro x hx
  simp only [four, List.mem_cons, List.not_mem_nil, or_false] at hx
  omega
theorem le_inj : ∀ (as bs : List Nat), as.length = bs.length → (∀ x ∈ as, x < 256) → (∀ x ∈ bs, x < 256) → le as = le bs → as = bs
  | [], [], _, _, _, _ => rfl
  | a :: as, b :: bs, hl, ha, hb, h => by
    have h1 := ha a (List.mem_cons_self ..)
    have h2 := hb b (List.mem_cons_self ..)
    simp only [le] at h
    have e : a = b ∧ le as = le bs := by omega
    rw [e.1, le_inj as bs (by simpa using hl) (fun x hx => ha x (List.mem_cons_of_mem _ hx)) (fun x hx => hb x (List.mem_cons_of_mem _ hx)) e.2]
/-- Bits turned one by one. -/
theorem low_step (b i : Nat) : b % 2 ^ (i + 1) = if b / 2 ^ i % 2 = 1 then b % 2 ^ i ^^^ 2 ^ i else b % 2 ^ i := by
  have hm : b % 2 ^ (i + 1) = b % 2 ^ i + 2 ^ i * (b / 2 ^ i % 2) := by rw [Nat.pow_succ, Nat.mod_mul]
  rw [hm]
  split
  · rename_i h
    rw [h, Nat.mul_one, Nat.xor_comm, ← bit_xor i _ (Nat.mod_lt _ (Nat.two_pow_pos i)), Nat.add_comm]
  · rename_i h
    have : b / 2 ^ i % 2 = 0 := by omega
    rw [this, Nat.mul_zero, Nat.add_zero]
theorem bs_inj (xs ys : List Nat) (hx : ∀ x ∈ xs, x < 256) (hy : ∀ x ∈ ys, x < 256) (h : bs xs = bs ys) : xs = ys := by
  have e := congrArg (fun s : ByteArray => s.data.toList.map (·.toNat)) h
  simp only [bs, List.map_map] at e
  have key : ∀ zs : List Nat, (∀ x ∈ zs, x < 256) → zs.map ((fun x : UInt8 => x.toNat) ∘ fun n => UInt8.ofNat n) = zs := by
    intro zs hz
    conv => rhs; rw [← List.map_id zs]
    refine List.map_congr_left fun x hxz => ?_
    have := hz x hxz
    simp
    omega
  rw [key xs hx, key ys hy] at e
  exact e
end Go.Proofs.YthaihallfjjnpaaGreatDoor

namespace Go.Proofs.YthaihallfjjnpaaGreatDoor

/-- Where a sector lies. -/
abbrev Pl := Int × Int
/-- What a sector holds. -/
abbrev Ct := List Nat
abbrev ltP (a b : Pl) : Prop := a.1 < b.1 ∨ (a.1 = b.1 ∧ a.2 < b.2)
theorem ltP_irrefl (a : Pl) : ¬ ltP a a := by unfold ltP; omega
theorem ltP_trans {a b c : Pl} (h : ltP a b) (k : ltP b c) : ltP a c := by unfold ltP at *; omega
theorem ltP_total (a b : Pl) : ltP a b ∨ a = b ∨ ltP b a := by
  rcases a with ⟨a1, a2⟩; rcases b with ⟨b1, b2⟩
  simp only [ltP, Prod.mk.injEq]
  omega
theorem ltP_ne {a b : Pl} (h : ltP a b) : a ≠ b := fun e => ltP_irrefl b (e ▸ h)
def okC (c : Ct) : Prop := c.length = 64 ∧ ∀ x ∈ c, x < 256
def zeroC : Ct := List.replicate 64 0
def fillC (xs : List Nat) : Ct := xs ++ List.replicate (64 - xs.length) 0
def tornC (a b : Ct) : Ct := a.take 32 ++ b.drop 32
def chosenC (n : Int) (a b : Ct) : Ct := if n = 1 then a else if n = 2 then tornC a b else b
theorem okC_zero : okC zeroC := ⟨by simp [zeroC], fun x hx => by simp [zeroC] at hx; omega⟩
theorem okC_fill {xs : List Nat} (h : xs.length ≤ 64) (hx : ∀ x ∈ xs, x < 256) : okC (fillC xs) := by
  refine ⟨by simp [fillC]; omega, fun x h => ?_⟩
  rcases List.mem_append.1 h with h | h
  · exact hx x h
  · simp at h; omega
theorem okC_torn {a b : Ct} (ha : okC a) (hb : okC b) : okC (tornC a b) := by
  refine ⟨by simp [tornC, ha.1, hb.1], fun x h => ?_⟩
  rcases List.mem_append.1 h with h | h
  · exact ha.2 x (List.mem_of_mem_take h)
  · exact hb.2 x (List.mem_of_mem_drop h)
theorem okC_chosen {n : Int} {a b : Ct} (ha : okC a) (hb : okC b) : okC (chosenC n a b) := by
  unfold chosenC
  split
  · exact ha
  · split
    · exact okC_torn ha hb
    · exact hb
/-- What stands at a place. -/
def getP (l : List (Pl × Ct)) (k : Pl) : Option Ct := (l.find? (fun p => decide (p.1 = k))).map (·.2)
/-- One put among them, in order. -/
def putP : List (Pl × Ct) → Pl → Ct → List (Pl × Ct)
  | [], k, c => [(k, c)]
  | x :: r, k, c => if ltP k x.1 then (k, c) :: x :: r else if k = x.1 then (k, c) :: r else x :: putP r k c
def SrtP (l : List (Pl × Ct)) : Prop := l.Pairwise (fun a b => ltP a.1 b.1)
theorem getP_nil (k : Pl) : getP [] k = none := rfl
theorem getP_cons (x : Pl × Ct) (r : List (Pl × Ct)) (k : Pl) : getP (x :: r) k = if x.1 = k then some x.2 else getP r k := by
  unfold getP
  by_cases h : x.1 = k <;> simp [h]
theorem getP_put_same : ∀ (l : List (Pl × Ct)) (k : Pl) (c : Ct), getP (putP l k c) k = some c
  | [], k, c => by simp [putP, getP_cons]
  | x :: r, k, c => by
    unfold putP
    split
    · simp [getP_cons]
    · split
      · simp [getP_cons]
      · rename_i h1 h2
        rw [getP_cons, if_neg (fun e => h2 e.symm), getP_put_same r k c]
theorem getP_put_other : ∀ (l : List (Pl × Ct)) (k k' : Pl) (c : Ct), k' ≠ k → getP (putP l k c) k' = getP l k'
  | [], k, k', c, h => by simp [putP, getP_cons, getP_nil, Ne.symm h]
  | x :: r, k, k', c, h => by
    unfold putP
    split
    · rw [getP_cons, if_neg (Ne.symm h)]
    · split
      · rename_i h1 h2
        rw [getP_cons, getP_cons, if_neg (Ne.symm h), if_neg (by rw [← h2]; exact Ne.symm h)]
      · rw [getP_cons, getP_cons, getP_put_other r k k' c h]
theorem mem_put : ∀ (l : List (Pl × Ct)) (k : Pl) (c : Ct) (x : Pl × Ct), x ∈ putP l k c → x = (k, c) ∨ x ∈ l
  | [], k, c, x, h => by simp [putP] at h; exact .inl h
  | y :: r, k, c, x, h => by
    unfold putP at h
    split at h
    · rcases List.mem_cons.1 h with h | h
      · exact .inl h
      · exact .inr h
    · split at h
      · rcases List.mem_cons.1 h with h | h
        · exact .inl h
        · exact .inr (List.mem_cons_of_mem _ h)
      · rcases List.mem_cons.1 h with h | h
        · exact .inr (by rw [h]; exact List.mem_cons_self)
        · rcases mem_put r k c x h with h | h
          · exact .inl h
          · exact .inr (List.mem_cons_of_mem _ h)
theorem length_put : ∀ (l : List (Pl × Ct)) (k : Pl) (c : Ct), (putP l k c).length ≤ l.length + 1
  | [], k, c => by simp [putP]
  | y :: r, k, c => by
    unfold putP
    split
    · simp
    · split
      · simp
      · have := length_put r k c
        simp; omega
theorem srt_put : ∀ (l : List (Pl × Ct)) (k : Pl) (c : Ct), SrtP l → SrtP (putP l k c)
  | [], k, c, _ => by simp [putP, SrtP]
  | y :: r, k, c, h => by
    obtain ⟨h1, h2⟩ := List.pairwise_cons.1 h
    unfold putP
    split
    · rename_i hk
      refine List.pairwise_cons.2 ⟨fun q hq => ?_, h⟩
      rcases List.mem_cons.1 hq with rfl | hq
      · exact hk
      · exact ltP_trans hk (h1 q hq)
    · split
      · rename_i hk
        refine List.pairwise_cons.2 ⟨fun q hq => ?_, h2⟩
        show ltP k q.1
        rw [hk]; exact h1 q hq
      · rename_i h3 h4
        refine List.pairwise_cons.2 ⟨fun q hq => ?_, srt_put r k c h2⟩
        rcases mem_put r k c q hq with rfl | hq
        · rcases ltP_total k y.1 with h | h | h
          · exact absurd h h3
          · exact absurd h h4
          · exact h
        · exact h1 q hq
theorem getP_mem : ∀ {l : List (Pl × Ct)} {k : Pl} {c : Ct}, getP l k = some c → (k, c) ∈ l
  | x :: r, k, c, h => by
    rw [getP_cons] at h
    split at h
    · rename_i e
      cases h
      rw [← e]; exact List.mem_cons_self
    · exact List.mem_cons_of_mem _ (getP_mem h)
theorem getP_of_mem : ∀ {l : List (Pl × Ct)} {k : Pl} {c : Ct}, SrtP l → (k, c) ∈ l → getP l k = some c
  | x :: r, k, c, hs, h => by
    obtain ⟨h1, h2⟩ := List.pairwise_cons.1 hs
    rw [getP_cons]
    rcases List.mem_cons.1 h with e | h
    · rw [← e]; simp
    · rw [if_neg (fun e => ltP_irrefl k (by have := h1 _ h; rwa [e] at this)), getP_of_mem h2 h]
theorem getP_filter (f : Pl → Bool) : ∀ (l : List (Pl × Ct)) (k : Pl), getP (l.filter (fun x => f x.1)) k = if f k then getP l k else none
  | [], k => by simp [getP_nil]
  | x :: r, k => by
    have ih := getP_filter f r k
    rw [List.filter_cons]
    cases hf : f x.1
    · rw [if_neg (by simp), ih, getP_cons]
      by_cases e : x.1 = k
      · rw [← e, hf]; simp
      · rw [if_neg e]
    · rw [if_pos rfl, getP_cons, getP_cons, ih]
      by_cases e : x.1 = k
      · rw [← e, hf]; simp
      · rw [if_neg e, if_neg e]
theorem srt_filter {l : List (Pl × Ct)} (f : Pl × Ct → Bool) (h : SrtP l) : SrtP (l.filter f) := List.Pairwise.filter f h
/-- A device. -/
structure Dev where
  r : Int
  s : Int
  safe : Pl → Ct
  pend : List (Pl × Ct)
  armed : Bool
  left : Int
  crashed : Bool
def updC (f : Pl → Ct) (k : Pl) (c : Ct) : Pl → Ct := fun x => if x = k then c else f x
abbrev hasD (d : Dev) (k : Pl) : Prop := 0 ≤ k.1 ∧ k.1 < d.r ∧ 0 ≤ k.2 ∧ k.2 < d.s
def newD (r s : Int) : Dev := ⟨r, s, fun _ => zeroC, [], false, 0, false⟩
/-- A write that comes to be: the sector pending, one of those that go well taken off. -/
def doneD (d : Dev) (k : Pl) (c : Ct) : Dev :=
  { d with pend := putP d.pend k c, left := if d.armed = true ∧ d.left ≠ 0 then d.left - 1 else d.left, crashed := d.crashed || (d.armed && decide (d.left = 0)) }
def wErr (d : Dev) (k : Pl) (n : Nat) : Nat :=
  if ¬ hasD d k then 1 else if 64 < n then 2 else if d.crashed = true then 60 else if d.armed = true ∧ d.left = 0 then 60 else 0
def writeD (d : Dev) (k : Pl) (xs : List Nat) : Dev := if ¬ hasD d k ∨ 64 < xs.length ∨ d.crashed = true then d else doneD d k (fillC xs)
def rErr (d : Dev) (k : Pl) : Nat := if ¬ hasD d k then 1 else if d.crashed = true then 60 else 0
def readD (d : Dev) (k : Pl) : Ct := (getP d.pend k).getD (d.safe k)
def sErr (d : Dev) (g : Int) : Nat := if ¬ (0 ≤ g ∧ g < d.r) then 1 else if d.crashed = true then 60 else 0
def syncedD (d : Dev) (g : Int) : Dev :=
  { d with safe := fun k => if k.1 = g then (getP d.pend k).getD (d.safe k) else d.safe k, pend := d.pend.filter (fun x => decide (x.1.1 ≠ g)) }
def syncD (d : Dev) (g : Int) : Dev := if sErr d g = 0 then syncedD d g else d
/-- What is safe when those that are pending were chosen for. -/
def goR (f : Pl → Ct) : List (Pl × Ct) → List Int → (Pl → Ct)
  | x :: r, n :: ns => goR (updC f x.1 (chosenC n x.2 (f x.1))) r ns
  | _, _ => f
def restartD (d : Dev) (ns : List Int) : Dev := { d with safe := goR d.safe d.pend ns, pend := [], armed := false, left := 0, crashed := false }
def pendD (d : Dev) (g : Int) : List Int := (d.pend.filter (fun x => decide (x.1.1 = g))).map (·.1.2)
theorem goR_append : ∀ (l₁ : List (Pl × Ct)) (n₁ : List Int) (f : Pl → Ct) (l₂ : List (Pl × Ct)) (n₂ : List Int), l₁.length = n₁.length → goR f (l₁ ++ l₂) (n₁ ++ n₂) = goR (goR f l₁ n₁) l₂ n₂
  | [], [], f, l₂, n₂, _ => by simp [goR]
  | x :: r, n :: ns, f, l₂, n₂, h => by
    simp only [List.cons_append, goR]
    exact goR_append r ns _ l₂ n₂ (by simpa using h)
theorem goR_done (f : Pl → Ct) (l : List (Pl × Ct)) (ns : List Int) (i : Nat) (h : i = l.length ∨ i = ns.length) : goR f (l.take i) (ns.take i) = goR f l ns := by
  induction l generalizing f ns i with
  | nil => simp [goR]
  | cons x r ih =>
    cases ns with
    | nil => simp [goR]
    | cons n ns =>
      cases i with
      | zero => simp at h
      | succ i =>
        simp only [List.take_succ_cons, goR]
        exact ih _ ns i (by simpa using h)
theorem goR_step (f : Pl → Ct) (l : List (Pl × Ct)) (ns : List Int) (i : Nat) (x : Pl × Ct) (n : Int) (hx : l[i]? = some x) (hn : ns[i]? = some n) :
    goR f (l.take (i + 1)) (ns.take (i + 1)) = updC (goR f (l.take i) (ns.take i)) x.1 (chosenC n x.2 (goR f (l.take i) (ns.take i) x.1)) := by
  obtain ⟨h1, e1⟩ := List.getElem?_eq_some_iff.1 hx
  obtain ⟨h2, e2⟩ := List.getElem?_eq_some_iff.1 hn
  rw [List.take_succ_eq_append_getElem h1, List.take_succ_eq_append_getElem h2, goR_append _ _ _ _ _ (by simp; omega), e1, e2]
  rfl
theorem goR_other : ∀ (l : List (Pl × Ct)) (ns : List Int) (f : Pl → Ct) (k : Pl), getP l k = none → goR f l ns k = f k
  | [], _, f, k, _ => rfl
  | x :: r, [], f, k, _ => rfl
  | x :: r, n :: ns, f, k, h => by
    rw [getP_cons] at h
    split at h
    · cases h
    · rename_i hne
      simp only [goR]
      rw [goR_other r ns _ k h]
      simp [updC, Ne.symm hne]
theorem okC_goR : ∀ (l : List (Pl × Ct)) (ns : List Int) (f : Pl → Ct), (∀ x ∈ l, okC x.2) → (∀ k, okC (f k)) → ∀ k, okC (goR f l ns k)
  | [], _, f, _, hf, k => hf k
  | x :: r, [], f, _, hf, k => hf k
  | x :: r, n :: ns, f, hl, hf, k => by
    refine okC_goR r ns _ (fun y hy => hl y (List.mem_cons_of_mem _ hy)) (fun j => ?_) k
    unfold updC
    split
    · exact okC_chosen (hl x List.mem_cons_self) (hf _)
    · exact hf j
/-- All that a device holds are sectors. -/
structure okD (d : Dev) : Prop where
  srt : SrtP d.pend
  pend : ∀ x ∈ d.pend, okC x.2
  safe : ∀ k, okC (d.safe k)
  wid : ∀ x ∈ d.pend, hasD d x.1
theorem okD_new (r s : Int) : okD (newD r s) := ⟨List.Pairwise.nil, fun x hx => by simp [newD] at hx, fun _ => okC_zero, fun x hx => by simp [newD] at hx⟩
theorem okD_done {d : Dev} {k : Pl} {c : Ct} (h : okD d) (hk : hasD d k) (hc : okC c) : okD (doneD d k c) := by
  refine ⟨srt_put _ _ _ h.srt, fun x hx => ?_, h.safe, fun x hx => ?_⟩
  · rcases mem_put _ _ _ _ hx with rfl | hx
    · exact hc
    · exact h.pend x hx
  · rcases mem_put _ _ _ _ hx with rfl | hx
    · exact hk
    · exact h.wid x hx
theorem okD_write {d : Dev} {k : Pl} {xs : List Nat} (h : okD d) (hx : ∀ x ∈ xs, x < 256) : okD (writeD d k xs) := by
  unfold writeD
  split
  · exact h
  · rename_i hn
    simp only [not_or, Decidable.not_not] at hn
    exact okD_done h hn.1 (okC_fill (by omega) hx)
theorem okC_read {d : Dev} (h : okD d) (k : Pl) : okC (readD d k) := by
  unfold readD
  cases hg : getP d.pend k with
  | none => exact h.safe k
  | some c => exact h.pend _ (getP_mem hg)
theorem okD_synced {d : Dev} (h : okD d) (g : Int) : okD (syncedD d g) := by
  refine ⟨srt_filter _ h.srt, fun x hx => h.pend x (List.mem_filter.1 hx).1, fun k => ?_, fun x hx => h.wid x (List.mem_filter.1 hx).1⟩
  show okC (if k.1 = g then (getP d.pend k).getD (d.safe k) else d.safe k)
  split
  · exact okC_read h k
  · exact h.safe k
theorem okD_sync {d : Dev} (h : okD d) (g : Int) : okD (syncD d g) := by
  unfold syncD
  split
  · exact okD_synced h g
  · exact h
theorem okD_restart {d : Dev} (h : okD d) (ns : List Int) : okD (restartD d ns) :=
  ⟨List.Pairwise.nil, fun x hx => by simp [restartD] at hx, okC_goR _ _ _ h.pend h.safe, fun x hx => by simp [restartD] at hx⟩
end Go.Proofs.YthaihallfjjnpaaGreatDoor

namespace Go.Proofs.YthaihallfjjnpaaGreatDoor

def rdT (xs : List Nat) (most : Int) : List Nat × Nat × Nat :=
  if most < 0 then ([], 0, 1) else if (rdU xs).2.2 ≠ 0 then ([], 0, (rdU xs).2.2) else if most < (rdU xs).1 then ([], 0, 2) else if xs.length - (rdU xs).2.1 < (rdU xs).1 then ([], 0, 12)
  else ((xs.drop (rdU xs).2.1).take (rdU xs).1, (rdU xs).2.1 + (rdU xs).1, 0)
/-- What is opened. -/
def opn (xs : List Nat) : List Nat × Nat :=
  if xs.length < 4 then ([], 12) else if xs.drop (xs.length - 4) = four (sm 0 (xs.take (xs.length - 4))) then (xs.take (xs.length - 4), 0) else ([], 11)
end Go.Proofs.YthaihallfjjnpaaGreatDoor

namespace Go.Proofs.YthaihallfjjnpaaGreatDoor
open Go.RowKit Go.Sort Go.Maps

theorem ret_bool {a b : Bool} (h : a = b) : Ending.returned (.bool a) = .returned (.bool b) := by rw [h]
theorem ret_int {k : IntKind} {a b : Int} (h : a = b) : Ending.returned (.int k a) = .returned (.int k b) := by rw [h]
def intOf : Value → Int | .int _ q => q | _ => 0
/-- Bytes as values. -/
def vals (xs : List Nat) : List Value := xs.map fun (x : Nat) => .int .u8 (x : Int)
theorem vals_len (xs : List Nat) : (vals xs).length = xs.length := by simp [vals]
theorem vals_append (xs ys : List Nat) : vals xs ++ vals ys = vals (xs ++ ys) := by simp [vals]
theorem vals_one (xs : List Nat) : ∀ u ∈ vals xs, u.oneCell' = true := by
  intro u hu
  obtain ⟨x, _, rfl⟩ := List.mem_map.1 hu
  rfl
theorem vals_get (xs : List Nat) (i : Nat) (h : i < xs.length) : (vals xs)[i]? = some (.int .u8 (xs.getD i 0 : Nat)) := by
  simp [vals, List.getElem?_map, List.getElem?_eq_getElem h, List.getD_eq_getElem?_getD]
/-- The cells behind a slice of bytes. -/
def BytesIn (w : World) (a : Option Addr) (xs : List Nat) : Prop :=
  ∀ i, i < xs.length → ∃ b o, a = some ⟨b, o, none⟩ ∧ w.cell? ⟨b, o + i, none⟩ = some (.int .u8 (xs.getD i 0 : Nat))
theorem BytesIn.on {w w' : World} {a : Option Addr} {xs : List Nat} (h : BytesIn w a xs) (hb : Below w.heap.size w w') : BytesIn w' a xs := by
  intro i hi
  obtain ⟨b, o, e, h1⟩ := h i hi
  exact ⟨b, o, e, (hb.cell (block_lt_of_cell h1)).trans h1⟩
theorem bytesIn_nil (w : World) (a : Option Addr) : BytesIn w a [] := fun i hi => by simp at hi
theorem BytesIn.news {w : World} {ad : Addr} {xs : List Nat} (h : BytesIn w (some ad) xs) : ∀ j u, (vals xs)[j]? = some u → w.cell? (ad.add j) = some u := by
  intro j u hj
  have hl : j < xs.length := by
    rcases Nat.lt_or_ge j xs.length with h | h
    · exact h
    · rw [List.getElem?_eq_none (by rw [vals_len]; exact h)] at hj; cases hj
  obtain ⟨b, o, e, h1⟩ := h j hl
  cases e
  rw [vals_get xs j hl] at hj
  cases hj
  rw [Addr.add_lit]
  exact h1
/-- A row of bytes that the call has made. -/
def Own (w : World) (base : Nat) (v : Value) (xs : List Nat) : Prop := w.ownsRow base 5 1 v xs.length (vals xs)
theorem Own.bytes {w : World} {base : Nat} {v : Value} {xs : List Nat} (h : Own w base v xs) : ∃ a c, v = .slice a xs.length c ∧ BytesIn w a xs ∧ (a = none → c = 0) := by
  rcases h.2 with ⟨rfl, e⟩ | ⟨g, cap, cur, rfl, _, _, _, _, _, _⟩
  · have : xs = [] := List.eq_nil_of_length_eq_zero e
    subst this
    exact ⟨none, 0, rfl, bytesIn_nil _ _, fun _ => rfl⟩
  · refine ⟨_, _, rfl, fun i hi => ⟨g, 0, rfl, ?_⟩, fun hh => by cases hh⟩
    have := World.ownsRow.cellAt h i (by omega)
    rw [Nat.zero_add, this, vals_get xs i hi]
theorem Own.cells {w : World} {base g n c : Nat} {xs : List Nat} (h : Own w base (.slice (some ⟨g, 0, none⟩) n c) xs) : n = xs.length ∧ BytesIn w (some ⟨g, 0, none⟩) xs ∧ base ≤ g ∧ g < w.heap.size := by
  obtain ⟨a, c', e, hb, _⟩ := h.bytes
  simp only [Value.slice.injEq] at e
  obtain ⟨rfl, rfl, rfl⟩ := e
  obtain ⟨h1, h2⟩ := World.ownsRow.lt h g rfl
  exact ⟨rfl, hb, h1, h2⟩
theorem Own.on {w w' : World} {base : Nat} {v : Value} {xs : List Nat} (h : Own w base v xs) (hb : Below w.heap.size w w') : Own w' base v xs := by
  refine ⟨h.1, ?_⟩
  rcases h.2 with h1 | ⟨g, cap, cur, e, h1, h2, h3, h4, h5, h6⟩
  · exact .inl h1
  · have hlt : g < w.heap.size := by
      rcases Nat.lt_or_ge g w.heap.size with hl | hl
      · exact hl
      · rw [Array.getElem?_eq_none hl] at h2; cases h2
    exact .inr ⟨g, cap, cur, e, h1, (hb.block g hlt).trans h2, h3, h4, h5, h6⟩
theorem Own.lower {w : World} {base base' : Nat} {v : Value} {xs : List Nat} (h : Own w base v xs) (hb : base' ≤ base) : Own w base' v xs := by
  refine ⟨h.1, ?_⟩
  rcases h.2 with h1 | ⟨g, cap, cur, e, h1, h2, h3, h4, h5, h6⟩
  · exact .inl h1
  · exact .inr ⟨g, cap, cur, e, Nat.le_trans hb h1, h2, h3, h4, h5, h6⟩
theorem infoB : (Tryz.prog.info? 5).map (fun i => (i.zero, i.size, i.bytes)) = some (some (.int .u8 0), 1, 1) := by kernel_rfl
/-- string(b). -/
theorem conv_ (w : World) (a : Option Addr) (n c : Nat) (xs : List Nat) (hn : n = xs.length) (h : BytesIn w a xs) : (convert 37 9 (.slice a n c)).run Tryz.prog w = .ok (.string (bs xs)) w := by
  have e : strOfNums (xs.map fun (x : Nat) => (x : Int)) = bs xs := by simp [strOfNums, bs, Function.comp_def]
  subst hn
  cases a with
  | none =>
    have hx : xs = [] := by
      cases xs with
      | nil => rfl
      | cons y ys => obtain ⟨_, _, hh, _⟩ := h 0 (by simp); cases hh
    subst hx
    rw [run_convert_bytes_nil w 37 5 Tryz.underlying37 Tryz.underlying5 _ _ 9 Tryz.underlying9]
    rfl
  | some ad =>
    by_cases hx : xs = []
    · subst hx
      rw [run_convert_bytes_string w 37 9 5 _ _ _ Tryz.underlying37 Tryz.underlying5 Tryz.underlying9]
      rw [run_bytesToString w ad _ c [] (by rfl)]
      rfl
    · obtain ⟨b, o, hh, _⟩ := h 0 (by cases xs with | nil => exact absurd rfl hx | cons y ys => simp)
      cases hh
      rw [run_convert_bytes_arg w 37 5 Tryz.underlying37 Tryz.underlying5 b o _ c (xs.map fun (x : Nat) => (x : Int)) (by simp) (fun i hi => by
        obtain ⟨b', o', hh, h1⟩ := h i hi
        cases hh
        rw [h1]
        simp [List.getD_eq_getElem?_getD, List.getElem?_map, List.getElem?_eq_getElem hi]) 9 Tryz.underlying9, e]
theorem bytes_none {w : World} {xs : List Nat} (h : BytesIn w none xs) : xs = [] := by
  cases xs with
  | nil => rfl
  | cons y ys => obtain ⟨_, _, hh, _⟩ := h 0 (by simp); cases hh
theorem below_step {W w w' : World} (h : Below W.heap.size W w) (hb : Below w.heap.size w w') : Below W.heap.size W w' := h.trans (hb.mono h.size)
theorem below_drew (W : World) : Below W.heap.size W W.drew := (Below.refl _ _).drew
/-- A load and a store whose outcome is known. -/
theorem wpList_load_at {ops : Array Oper} {rest : List Oper} {op : Oper} {a : Act} {w : World} {Q : Exit → Act → World → Prop} (hgd : op.guard = none) (ty : TypeId) (x : Operand) (ho : op.op = .load ty x)
    (p v : Value) (hx : a.eval x = p) (hr : (Instr.loadAt ty p).run Tryz.prog w = .ok v w) (h : wpList Tryz.prog ops Q rest (a.put op.dst v) w) : wpList Tryz.prog ops Q (op :: rest) a w :=
  wpList_plain hgd fun _ hK => by
    unfold Oper.wp execOp
    simp only [ho, hx, hr, Sem.run_bind, Sem.run_pure, Result.andThen_ok]
    exact hK _ _ h
theorem wpList_store_at {ops : Array Oper} {rest : List Oper} {op : Oper} {a : Act} {w w' : World} {Q : Exit → Act → World → Prop} (hgd : op.guard = none) (ty : TypeId) (x y : Operand) (ho : op.op = .store ty x y)
    (p v : Value) (hx : a.eval x = p) (hy : a.eval y = v) (hr : (Instr.storeAt ty p v).run Tryz.prog w = .ok () w') (h : wpList Tryz.prog ops Q rest (a.put op.dst undef) w') : wpList Tryz.prog ops Q (op :: rest) a w :=
  wpList_plain hgd fun _ hK => by
    unfold Oper.wp execOp
    simp only [ho, hx, hy, hr, Sem.run_bind, Sem.run_pure, Result.andThen_ok]
    exact hK _ _ h
theorem results_cell {fn : Func} {p : Tmp} {ty : TypeId} (h : fn.results = #[.cell p ty]) (tmps : Array Value) (w : World) :
    (results fn tmps).run Tryz.prog w = ((asAddr (tmps.getD p undef)).run Tryz.prog w).andThen fun a w₁ => ((loadVar ty a).run Tryz.prog w₁).andThen fun v w₂ => .ok v w₂ := by
  simp only [results, h]
  simp [Sem.run_bind, Result.andThen]
  split
  · split <;> assumption
  · rfl
theorem own_join {w : World} {base n m : Nat} {v : Value} {xs ys : List Nat} (hn : xs.length = n) (hm : ys.length = m) (h : w.ownsRow base 5 1 v (n + m) (vals xs ++ vals ys)) : Own w base v (xs ++ ys) := by
  subst hn hm
  unfold Own
  rw [← vals_append, List.length_append]
  exact h
theorem own_nil (w : World) (base : Nat) : Own w base (.slice none 0 0) [] := World.ownsRow_nil w base 5 1
theorem below_grow {w0 w w' : World} {v : Value} {es : List Nat} (hb : Below w0.heap.size w0 w) (hown : Own w w0.heap.size v es) (hg : w.grownBy w' v.ownBlock) : Below w0.heap.size w0 w' :=
  hb.grown hg hb.size (fun k hk => (World.ownsRow.lt hown k hk).1)
/-- append(row, bytes...), at the operation. -/
theorem wp_append_bytes (w : World) {o : Oper} {act : Act} {K : Act → World → Prop} {Q : Exit → Act → World → Prop} (s x : Operand)
    (ho : o.op = .call { callee := .builtin .append, args := #[s, x], argTypes := #[37, 37] }) (base : Nat) (v : Value) (es ys : List Nat) (hs : act.eval s = v) (hown : Own w base v es)
    (a : Option Addr) (m c' : Nat) (hx : act.eval x = .slice a m c') (hm : ys.length = m) (hnil : a = none → c' = 0) (hin : BytesIn w a ys) (hbytes : es.length + ys.length ≤ 140737488355328) (hbase : base ≤ w.heap.size)
    (hK : ∀ v' w', Own w' base v' (es ++ ys) → w.grownBy w' v.ownBlock → K (act.put o.dst v') w') : o.wp Tryz.prog act w K Q := by
  obtain ⟨i0, hi, hz0, hz1, hz2⟩ := info_parts infoB
  subst hm
  cases a with
  | none =>
    obtain rfl := bytes_none hin
    obtain rfl := hnil rfl
    have hrun := run_append_owned_none (P := Tryz.prog) w base 37 o.type 5 i0 1 Tryz.underlying37 hi _ _ _ hown
    unfold Oper.wp
    simp only [List.length_nil] at hx
    simp [execOp, ho, resolve, invoke, builtin, hs, hx, hrun, Result.andThen]
    have := hK v w (by rw [List.append_nil]; exact hown) ⟨rfl, rfl, rfl, Nat.le_refl _, fun _ _ _ => rfl⟩
    exact this
  | some ad =>
    obtain ⟨v', w', hr, h2, h3, _⟩ := run_append_own_at (P := Tryz.prog) w base 37 o.type 5 i0 (.int .u8 0) 1 1 Tryz.underlying37 hi hz0 hz1 hz2 rfl (by decide) v es.length (vals es) hown ad ys.length c' (vals ys) (by rw [vals_len]; omega) hin.news (vals_one ys) (by unfold maxLen; omega) (by omega) hbase
    unfold Oper.wp execOp
    simp only [ho, resolve, invoke, builtin, Sem.run_bind, Sem.run_pure, Result.andThen_ok, List.map_toArray, List.map_cons, List.map_nil, hs, hx, hr]
    exact hK v' w' (own_join rfl rfl h2) h3
/-- The same at a plain region's list. -/
theorem wpList_append_bytes (w : World) {ops : Array Oper} {rest : List Oper} {o : Oper} {act : Act} {Q : Exit → Act → World → Prop} (hgd : o.guard = none) (s x : Operand)
    (ho : o.op = .call { callee := .builtin .append, args := #[s, x], argTypes := #[37, 37] }) (base : Nat) (v : Value) (es ys : List Nat) (hs : act.eval s = v) (hown : Own w base v es)
    (a : Option Addr) (m c' : Nat) (hx : act.eval x = .slice a m c') (hm : ys.length = m) (hnil : a = none → c' = 0) (hin : BytesIn w a ys) (hbytes : es.length + ys.length ≤ 140737488355328) (hbase : base ≤ w.heap.size)
    (hK : ∀ v' w', Own w' base v' (es ++ ys) → w.grownBy w' v.ownBlock → wpList Tryz.prog ops Q rest (act.put o.dst v') w') : wpList Tryz.prog ops Q (o :: rest) act w :=
  wpList_plain hgd fun _ hK' => wp_append_bytes w s x ho base v es ys hs hown a m c' hx hm hnil hin hbytes hbase fun v' w' h1 h2 => hK' _ _ (hK v' w' h1 h2)
/-- The same at a step of a region that draws its order. -/
theorem step_append_bytes (w : World) {ops : Array Oper} {o : Oper} {act : Act} {K : Act → World → Prop} {Q : Exit → Act → World → Prop} {E : Prop} (hgd : o.guard = none) (s x : Operand)
    (ho : o.op = .call { callee := .builtin .append, args := #[s, x], argTypes := #[37, 37] }) (base : Nat) (v : Value) (es ys : List Nat) (hs : act.eval s = v) (hown : Own w base v es)
    (a : Option Addr) (m c' : Nat) (hx : act.eval x = .slice a m c') (hm : ys.length = m) (hnil : a = none → c' = 0) (hin : BytesIn w a ys) (hbytes : es.length + ys.length ≤ 140737488355328) (hbase : base ≤ w.heap.size)
    (hK : ∀ v' w', Own w' base v' (es ++ ys) → w.grownBy w' v.ownBlock → K (act.put o.dst v') w') : if Region.wanted o (yielded ops act.tmps) = true then Oper.wp Tryz.prog o act w K Q else E := by
  have hw : Region.wanted o (yielded ops act.tmps) = true := by simp [Region.wanted, hgd]
  rw [if_pos hw]
  exact wp_append_bytes w s x ho base v es ys hs hown a m c' hx hm hnil hin hbytes hbase hK
/-- What a call hands back that has made these bytes. -/
def Made (w : World) (xs : List Nat) (e : Ending) (w' : World) : Prop :=
  ∃ a c, e = .returned (.slice a xs.length c) ∧ Own w' w.heap.size (.slice a xs.length c) xs ∧ BytesIn w' a xs ∧ (a = none → c = 0) ∧ Below w.heap.size w w'
theorem made_of {w w' : World} {v : Value} {xs : List Nat} (h : Own w' w.heap.size v xs) (hb : Below w.heap.size w w') : Made w xs (.returned v) w' := by
  obtain ⟨a, c, rfl, h1, h2⟩ := h.bytes
  exact ⟨a, c, rfl, h, h1, h2, hb⟩
/-- An error by its number. -/
def errV (k : Nat) : Value := if k = 0 then .nilIface else .iface 56 (.int .i64 k)
theorem wraps_u64 (n : Int) (h0 : 0 ≤ n) (h1 : n < 2 ^ 64) : IntKind.u64.wrap n = n := by rw [IntKind.wrap_u64]; omega
theorem errV_not {e : Nat} (h : e ≠ 0) : errV e = .iface 56 (.int .i64 e) := by unfold errV; rw [if_neg h]
theorem own_mk {w : World} {base g c n : Nat} {xs : List Nat} (hn : xs.length = n) (h : w.ownsRow base 5 1 (.slice (some ⟨g, 0, none⟩) (0 + n) c) (0 + n) ([] ++ vals xs)) : Own w base (.slice (some ⟨g, 0, none⟩) n c) xs := by
  subst hn
  rw [Nat.zero_add, List.nil_append] at h
  exact h
theorem World.alloc_heap_new' (w : World) (o : Obj) : (w.alloc o).heap[w.heap.size]? = some o := by
  show (w.heap.push o)[w.heap.size]? = some o
  simp
/-- A number is an int. -/
def inI (n : Int) : Prop := -9223372036854775808 ≤ n ∧ n ≤ 9223372036854775807
/-- A pointer to a block. -/
def pt (b : Nat) : Value := .pointer (some ⟨b, 0, none⟩)
theorem blk_lt {w : World} {k : Nat} {o : Obj} (h : w.heap[k]? = some o) : k < w.heap.size := (Array.getElem?_eq_some_iff.1 h).1
theorem cell_of {w : World} {k o : Nat} {c : Array Value} {t : TypeId} {z : Nat × Nat} {v : Value} (h : w.heap[k]? = some (.cells c t z)) (hv : c[o]? = some v) : w.cell? ⟨k, o, none⟩ = some v := by
  simp [World.cell?, h, hv]
theorem frozen_of {w : World} {k o : Nat} {c : Array Value} {t : TypeId} (h : w.heap[k]? = some (.cells c t (0, 0))) : w.frozen? ⟨k, o, none⟩ = false := by
  simp [World.frozen?, h]
theorem heap_set {w : World} {k o : Nat} {c : Array Value} {t : TypeId} {z : Nat × Nat} (v : Value) (h : w.heap[k]? = some (.cells c t z)) : (w.setCell ⟨k, o, none⟩ v).heap[k]? = some (.cells (c.setIfInBounds o v) t z) := by
  simp [World.setCell, Array.getElem?_modify, h]
theorem below_drewN {W w : World} (h : Below W.heap.size W w) (n : Nat) : Below W.heap.size W (w.drewN n) := below_step h ⟨rfl, rfl, rfl, Nat.le_refl _, fun _ _ => rfl⟩
theorem bytes_new (w : World) (xs : List Nat) (fr : Nat × Nat) : BytesIn (w.alloc (.cells (vals xs).toArray 5 fr)) (some ⟨w.heap.size, 0, none⟩) xs := by
  intro i hi
  refine ⟨_, _, rfl, ?_⟩
  rw [Nat.zero_add]
  exact cell_of (World.alloc_heap_new' w _) (by simpa using vals_get xs i hi)
theorem below_alloc (w : World) (o : Obj) : Below w.heap.size w (w.alloc o) := (Below.refl _ _).alloc (Nat.le_refl _) _
end Go.Proofs.YthaihallfjjnpaaGreatDoor

namespace Go.Proofs.YthaihallfjjnpaaGreatDoor

/-- What bytes hold: the number (0: nothing), the text. -/
def heldB (xs : List Nat) : Nat × List Nat :=
  if (rdU xs).2.2 ≠ 0 ∨ (rdU xs).1 = 0 then (0, [])
  else if (rdT (xs.drop (rdU xs).2.1) xs.length).2.2 ≠ 0 then (0, [])
  else if xs.length < (rdU xs).2.1 + (rdT (xs.drop (rdU xs).2.1) xs.length).2.1 + 4 then (0, [])
  else if (opn (xs.take ((rdU xs).2.1 + (rdT (xs.drop (rdU xs).2.1) xs.length).2.1 + 4))).2 ≠ 0 then (0, [])
  else ((rdU xs).1, (rdT (xs.drop (rdU xs).2.1) xs.length).1)
/-- A text with its number, as bytes, and their sum. -/
def bodyB (n : Nat) (xs : List Nat) : List Nat := enc n ++ enc xs.length ++ xs
def laidB (n : Nat) (xs : List Nat) : List Nat := bodyB n xs ++ four (sm 0 (bodyB n xs))
theorem bodyB_byte {n : Nat} {xs : List Nat} (hx : ∀ x ∈ xs, x < 256) : ∀ x ∈ bodyB n xs, x < 256 := by
  intro x h
  simp only [bodyB, List.mem_append] at h
  rcases h with (h | h) | h
  · exact enc_byte _ x h
  · exact enc_byte _ x h
  · exact hx x h
theorem laidB_byte {n : Nat} {xs : List Nat} (hx : ∀ x ∈ xs, x < 256) : ∀ x ∈ laidB n xs, x < 256 := by
  intro x h
  simp only [laidB, List.mem_append] at h
  rcases h with h | h
  · exact bodyB_byte hx x h
  · exact four_byte _ x h
theorem laidB_len (n : Nat) (xs : List Nat) : (laidB n xs).length = (enc n).length + (enc xs.length).length + xs.length + 4 := by
  simp [laidB, bodyB, four]; omega
theorem opn_sealed (ys : List Nat) : opn (ys ++ four (sm 0 ys)) = (ys, 0) := by
  have h4 : (four (sm 0 ys)).length = 4 := rfl
  have hl : (ys ++ four (sm 0 ys)).length = ys.length + 4 := by rw [List.length_append, h4]
  unfold opn
  rw [if_neg (by omega), hl, show ys.length + 4 - 4 = ys.length by omega, List.drop_left, List.take_left, if_pos rfl]
theorem rdT_enc (xs rest : List Nat) (most : Nat) (hl : xs.length < 18446744073709551616) (hm : xs.length ≤ most) : rdT (enc xs.length ++ (xs ++ rest)) most = (xs, (enc xs.length).length + xs.length, 0) := by
  unfold rdT
  rw [rdU_enc _ _ hl]
  rw [if_neg (by omega), if_neg (by simp), if_neg (by show ¬ ((most : Int) < (xs.length : Int)); omega), if_neg (by simp)]
  simp
theorem held_laid (n : Nat) (xs rest : List Nat) (hn : n < 18446744073709551616) (h0 : n ≠ 0) (hl : xs.length < 18446744073709551616) : heldB (laidB n xs ++ rest) = (n, xs) := by
  have e1 : laidB n xs ++ rest = enc n ++ (enc xs.length ++ (xs ++ (four (sm 0 (bodyB n xs)) ++ rest))) := by simp [laidB, bodyB]
  have hlen : (laidB n xs ++ rest).length = (enc n).length + (enc xs.length).length + xs.length + 4 + rest.length := by rw [List.length_append, laidB_len]
  have hu : rdU (laidB n xs ++ rest) = (n, (enc n).length, 0) := by rw [e1, rdU_enc n _ hn]
  have hd : (laidB n xs ++ rest).drop (enc n).length = enc xs.length ++ (xs ++ (four (sm 0 (bodyB n xs)) ++ rest)) := by rw [e1, List.drop_left]
  have ht := rdT_enc xs (four (sm 0 (bodyB n xs)) ++ rest) (laidB n xs ++ rest).length hl (by omega)
  have hk : (laidB n xs ++ rest).take ((enc n).length + ((enc xs.length).length + xs.length) + 4) = laidB n xs := by
    rw [show (enc n).length + ((enc xs.length).length + xs.length) + 4 = (laidB n xs).length by rw [laidB_len]; omega, List.take_left]
  unfold heldB
  simp only [hu, hd, ht, hk]
  rw [if_neg (by simp [h0]), if_neg (by simp), if_neg (by omega), if_neg (by unfold laidB; rw [opn_sealed]; simp)]

/-- Where a twin lies. -/
structure Ar where
  g : Int
  f : Int
  s : Int
abbrev inA (d : Dev) (a : Ar) : Prop := 0 ≤ a.g ∧ a.g < d.r ∧ 0 ≤ a.f ∧ 2 ≤ a.s ∧ a.s ≤ d.s ∧ a.f ≤ d.s - a.s
def roomA (a : Ar) : Int := if a.s < 2 ∨ 16384 < a.s then 0 else max 0 (a.s / 2 * 64 - 24)
def lookE (d : Dev) (a : Ar) : Nat := if ¬ inA d a then 1 else if d.crashed = true then 60 else 0
/-- The bytes of sectors, one behind the other. -/
def secsB (d : Dev) (g f : Int) (n : Nat) : List Nat := ((List.range n).map fun (i : Nat) => readD d (g, f + i)).flatten
def begA (a : Ar) (h : Nat) : Int := a.f + h * (a.s / 2)
def halfA (d : Dev) (a : Ar) (h : Nat) : List Nat := secsB d a.g (begA a h) (a.s / 2).toNat
def numA (d : Dev) (a : Ar) (h : Nat) : Nat := (heldB (halfA d a h)).1
def txtA (d : Dev) (a : Ar) (h : Nat) : List Nat := (heldB (halfA d a h)).2
/-- Which half is told. -/
def tellA (d : Dev) (a : Ar) : Nat := if numA d a 1 > numA d a 0 then 1 else 0
def topA (d : Dev) (a : Ar) : Nat := numA d a (tellA d a)
def nextH (d : Dev) (a : Ar) : Nat := if topA d a = 0 then 0 else 1 - tellA d a
def nextN (d : Dev) (a : Ar) : Nat := if topA d a = 0 then 1 else (topA d a + 1) % 18446744073709551616
/-- Bytes in parts of a sector. -/
def chk (xs : List Nat) : List (List Nat) := if xs = [] then [] else xs.take 64 :: chk (xs.drop 64)
  termination_by xs.length
  decreasing_by
    rename_i h
    have : 0 < xs.length := List.length_pos_iff.2 h
    simp; omega
theorem chk_nil : chk [] = [] := by rw [chk, if_pos rfl]
theorem chk_cons {xs : List Nat} (h : xs ≠ []) : chk xs = xs.take 64 :: chk (xs.drop 64) := by rw [chk, if_neg h]
theorem chk_ind {P : List Nat → Prop} (h0 : P []) (h1 : ∀ xs, xs ≠ [] → P (xs.drop 64) → P xs) (xs : List Nat) : P xs := by
  generalize hn : xs.length = n
  induction n using Nat.strongRecOn generalizing xs with
  | _ n ih =>
    by_cases h : xs = []
    · rw [h]; exact h0
    · have hp : 0 < xs.length := List.length_pos_iff.2 h
      exact h1 xs h (ih (xs.drop 64).length (by rw [List.length_drop]; omega) _ rfl)
theorem chk_len (xs : List Nat) : (chk xs).length = (xs.length + 63) / 64 := by
  refine chk_ind (P := fun xs => (chk xs).length = (xs.length + 63) / 64) ?_ ?_ xs
  · rw [chk_nil]; rfl
  · intro xs h ih
    have hp : 0 < xs.length := List.length_pos_iff.2 h
    rw [chk_cons h, List.length_cons, ih, List.length_drop]
    omega
theorem chk_part (xs : List Nat) : ∀ c ∈ chk xs, c ≠ [] ∧ c.length ≤ 64 := by
  refine chk_ind (P := fun xs => ∀ c ∈ chk xs, c ≠ [] ∧ c.length ≤ 64) ?_ ?_ xs
  · rw [chk_nil]; simp
  · intro xs h ih c hc
    have hp : 0 < xs.length := List.length_pos_iff.2 h
    rw [chk_cons h] at hc
    rcases List.mem_cons.1 hc with rfl | hc
    · refine ⟨fun e => ?_, by rw [List.length_take]; omega⟩
      have := congrArg List.length e
      rw [List.length_take, List.length_nil] at this
      omega
    · exact ih c hc
theorem chk_byte (xs : List Nat) (hx : ∀ x ∈ xs, x < 256) : ∀ c ∈ chk xs, ∀ x ∈ c, x < 256 := by
  revert hx
  refine chk_ind (P := fun xs => (∀ x ∈ xs, x < 256) → ∀ c ∈ chk xs, ∀ x ∈ c, x < 256) ?_ ?_ xs
  · rw [chk_nil]; simp
  · intro xs h ih hx c hc
    rw [chk_cons h] at hc
    rcases List.mem_cons.1 hc with rfl | hc
    · exact fun x hx' => hx x (List.mem_of_mem_take hx')
    · exact ih (fun x hx' => hx x (List.mem_of_mem_drop hx')) c hc
/-- Parts written one behind the other, up to the first error. -/
def wrL (d : Dev) (g f : Int) : List (List Nat) → Dev × Nat
  | [] => (d, 0)
  | c :: r => if wErr d (g, f) c.length ≠ 0 then (writeD d (g, f) c, wErr d (g, f) c.length) else wrL (writeD d (g, f) c) g (f + 1) r
def wroteD (d : Dev) (a : Ar) (xs : List Nat) : Dev × Nat := wrL d a.g (begA a (nextH d a)) (chk (laidB (nextN d a) xs))
/-- What Save makes of a device, and its error. -/
def saveD (d : Dev) (a : Ar) (xs : List Nat) : Dev := if lookE d a ≠ 0 ∨ roomA a < xs.length then d else if (wroteD d a xs).2 ≠ 0 then (wroteD d a xs).1 else syncD (wroteD d a xs).1 a.g
def saveE (d : Dev) (a : Ar) (xs : List Nat) : Nat := if lookE d a ≠ 0 then lookE d a else if roomA a < xs.length then 2 else if (wroteD d a xs).2 ≠ 0 then (wroteD d a xs).2 else sErr (wroteD d a xs).1 a.g
def loadE (d : Dev) (a : Ar) : Nat := if lookE d a ≠ 0 then lookE d a else if topA d a = 0 then 8 else 0
end Go.Proofs.YthaihallfjjnpaaGreatDoor

namespace Go.Proofs.YthaihallfjjnpaaGreatDoor

/-- What parts that are written leave as it was. -/
theorem wrL_stays : ∀ (cs : List (List Nat)) (d : Dev) (g f : Int), (wrL d g f cs).1.safe = d.safe ∧ (wrL d g f cs).1.r = d.r ∧ (wrL d g f cs).1.s = d.s ∧ ∀ k, (∀ i : Nat, i < cs.length → k ≠ (g, f + i)) → getP (wrL d g f cs).1.pend k = getP d.pend k
  | [], d, g, f => ⟨rfl, rfl, rfl, fun _ _ => rfl⟩
  | c :: r, d, g, f => by
    have hw : (writeD d (g, f) c).safe = d.safe ∧ (writeD d (g, f) c).r = d.r ∧ (writeD d (g, f) c).s = d.s ∧ ∀ k, k ≠ (g, f) → getP (writeD d (g, f) c).pend k = getP d.pend k := by
      unfold writeD
      split
      · exact ⟨rfl, rfl, rfl, fun _ _ => rfl⟩
      · exact ⟨rfl, rfl, rfl, fun k hk => getP_put_other _ _ _ _ hk⟩
    obtain ⟨w1, w2, w3, w4⟩ := hw
    have h0 : ∀ k : Pl, (∀ i : Nat, i < (c :: r).length → k ≠ (g, f + i)) → k ≠ (g, f) := fun k hk => by have := hk 0 (by simp); simpa using this
    unfold wrL
    split
    · exact ⟨w1, w2, w3, fun k hk => w4 k (h0 k hk)⟩
    · obtain ⟨i1, i2, i3, i4⟩ := wrL_stays r (writeD d (g, f) c) g (f + 1)
      refine ⟨i1.trans w1, i2.trans w2, i3.trans w3, fun k hk => ?_⟩
      rw [i4 k (fun i hi => by have := hk (i + 1) (by simpa using hi); rw [show f + 1 + (i : Int) = f + ((i + 1 : Nat) : Int) by omega]; exact this), w4 k (h0 k hk)]
theorem okD_wrL : ∀ (cs : List (List Nat)) (d : Dev) (g f : Int), okD d → (∀ c ∈ cs, ∀ x ∈ c, x < 256) → okD (wrL d g f cs).1
  | [], d, g, f, h, _ => h
  | c :: r, d, g, f, h, hx => by
    have hw := okD_write (k := (g, f)) h (hx c List.mem_cons_self)
    unfold wrL
    split
    · exact hw
    · exact okD_wrL r _ g (f + 1) hw (fun c hc => hx c (List.mem_cons_of_mem _ hc))
/-- Where no error came, all parts are pending. -/
theorem wrL_good : ∀ (cs : List (List Nat)) (d : Dev) (g f : Int), (wrL d g f cs).2 = 0 → (∀ c ∈ cs, c.length ≤ 64) → (cs ≠ [] ∨ d.crashed = false) → (wrL d g f cs).1.crashed = false ∧ ∀ i : Nat, i < cs.length → getP (wrL d g f cs).1.pend (g, f + i) = some (fillC (cs.getD i []))
  | [], d, g, f, _, _, hc => ⟨by rcases hc with h | h; exact absurd rfl h; exact h, fun i hi => by simp at hi⟩
  | c :: r, d, g, f, h, hl, _ => by
    by_cases he : wErr d (g, f) c.length = 0
    · have e : wrL d g f (c :: r) = wrL (writeD d (g, f) c) g (f + 1) r := by
        conv => lhs; unfold wrL
        rw [if_neg (by simpa using he)]
      rw [e] at h ⊢
      have hn : ¬ (¬ hasD d (g, f) ∨ 64 < c.length ∨ d.crashed = true) ∧ ¬ (d.armed = true ∧ d.left = 0) := by
        unfold wErr at he
        split at he
        · cases he
        · rename_i h1
          split at he
          · cases he
          · split at he
            · cases he
            · split at he
              · cases he
              · rename_i h2 h3 h4
                refine ⟨?_, h4⟩
                rintro (e | e | e)
                · exact h1 e
                · exact h2 e
                · exact h3 e
      have ew : writeD d (g, f) c = doneD d (g, f) (fillC c) := if_neg hn.1
      have hcr : (writeD d (g, f) c).crashed = false := by
        rw [ew]
        show (d.crashed || (d.armed && decide (d.left = 0))) = false
        have h1 : d.crashed = false := by
          cases hh : d.crashed
          · rfl
          · exact absurd (.inr (.inr hh)) hn.1
        rw [h1]
        cases ha : d.armed
        · rfl
        · simp only [Bool.false_or, Bool.true_and, decide_eq_false_iff_not]
          exact fun e => hn.2 ⟨ha, e⟩
      obtain ⟨i1, i2⟩ := wrL_good r _ g (f + 1) h (fun c hc => hl c (List.mem_cons_of_mem _ hc)) (.inr hcr)
      refine ⟨i1, fun i hi => ?_⟩
      cases i with
      | zero =>
        have := (wrL_stays r (writeD d (g, f) c) g (f + 1)).2.2.2 (g, f) (fun j _ e => by simp only [Prod.mk.injEq, true_and] at e; omega)
        simp only [Int.natCast_zero, Int.add_zero, List.getD_cons_zero]
        rw [this, ew]
        exact getP_put_same _ _ _
      | succ i =>
        have := i2 i (by simpa using hi)
        rw [show f + ((i + 1 : Nat) : Int) = f + 1 + (i : Int) by omega, this]
        simp
    · have e : (wrL d g f (c :: r)).2 = wErr d (g, f) c.length := by
        conv => lhs; unfold wrL
        rw [if_pos he]
      exact absurd (e.symm.trans h) he
/-- No error comes of a device that is whole and not armed. -/
theorem wrL_free : ∀ (cs : List (List Nat)) (d : Dev) (g f : Int), d.crashed = false → d.armed = false → 0 ≤ g → g < d.r → 0 ≤ f → f + cs.length ≤ d.s → (∀ c ∈ cs, c.length ≤ 64) → (wrL d g f cs).2 = 0 ∧ (wrL d g f cs).1.armed = false
  | [], d, g, f, _, ha, _, _, _, _, _ => ⟨rfl, ha⟩
  | c :: r, d, g, f, hc, ha, g0, g1, f0, fl, hl => by
    simp only [List.length_cons] at fl
    have hk : hasD d (g, f) := ⟨g0, g1, f0, by show f < d.s; omega⟩
    have h64 := hl c List.mem_cons_self
    have he : wErr d (g, f) c.length = 0 := by
      unfold wErr
      rw [if_neg (fun e => e hk), if_neg (by omega), if_neg (by rw [hc]; simp), if_neg (by rw [ha]; simp)]
    have ew : writeD d (g, f) c = doneD d (g, f) (fillC c) := if_neg (by rintro (e | e | e); exact e hk; omega; rw [hc] at e; cases e)
    have e : wrL d g f (c :: r) = wrL (writeD d (g, f) c) g (f + 1) r := by
      conv => lhs; unfold wrL
      rw [if_neg (by simpa using he)]
    rw [e]
    refine wrL_free r _ g (f + 1) ?_ ?_ g0 ?_ (by omega) ?_ (fun c hc => hl c (List.mem_cons_of_mem _ hc))
    · rw [ew]; show (d.crashed || (d.armed && decide (d.left = 0))) = false; rw [hc, ha]; rfl
    · rw [ew]; exact ha
    · rw [ew]; exact g1
    · rw [ew]; show f + 1 + (r.length : Int) ≤ d.s; omega
theorem secsB_congr {d d' : Dev} {g f : Int} {n : Nat} (h : ∀ i : Nat, i < n → readD d' (g, f + i) = readD d (g, f + i)) : secsB d' g f n = secsB d g f n := by
  unfold secsB
  congr 1
  apply List.map_congr_left
  intro i hi
  exact h i (List.mem_range.1 hi)
theorem secsB_succ (d : Dev) (g f : Int) (n : Nat) : secsB d g f (n + 1) = readD d (g, f) ++ secsB d g (f + 1) n := by
  unfold secsB
  rw [List.range_succ_eq_map, List.map_cons, List.map_map, List.flatten_cons]
  simp only [Int.natCast_zero, Int.add_zero]
  congr 2
  apply List.map_congr_left
  intro i _
  simp only [Function.comp]
  rw [show f + ((i.succ : Nat) : Int) = f + 1 + (i : Int) by omega]
theorem secsB_snoc (d : Dev) (g f : Int) (n : Nat) : secsB d g f (n + 1) = secsB d g f n ++ readD d (g, f + n) := by
  unfold secsB
  rw [List.range_succ]
  simp
theorem secsB_len {d : Dev} (h : okD d) (g f : Int) (n : Nat) : (secsB d g f n).length = 64 * n := by
  induction n with
  | zero => rfl
  | succ n ih => rw [secsB_snoc, List.length_append, ih, (okC_read h _).1]; omega
theorem secsB_byte {d : Dev} (h : okD d) (g f : Int) (n : Nat) : ∀ x ∈ secsB d g f n, x < 256 := by
  induction n with
  | zero => intro x hx; simp [secsB] at hx
  | succ n ih =>
    rw [secsB_snoc]
    intro x hx
    rcases List.mem_append.1 hx with hx | hx
    · exact ih x hx
    · exact (okC_read h _).2 x hx
/-- Sectors that hold the parts of bytes begin with these. -/
theorem secsB_parts (d : Dev) (g : Int) (xs : List Nat) : ∀ (f : Int) (n : Nat), (chk xs).length ≤ n → (∀ i : Nat, i < (chk xs).length → readD d (g, f + i) = fillC ((chk xs).getD i [])) → ∃ rest, secsB d g f n = xs ++ rest := by
  refine chk_ind (P := fun xs => ∀ (f : Int) (n : Nat), (chk xs).length ≤ n → (∀ i : Nat, i < (chk xs).length → readD d (g, f + i) = fillC ((chk xs).getD i [])) → ∃ rest, secsB d g f n = xs ++ rest) ?_ ?_ xs
  · intro f n _ _
    exact ⟨_, rfl⟩
  · intro xs hne ih f n hn hr
    rw [chk_cons hne] at hn hr
    simp only [List.length_cons] at hn hr
    obtain ⟨m, rfl⟩ : ∃ m, n = m + 1 := ⟨n - 1, by omega⟩
    have h0 := hr 0 (by omega)
    simp only [Int.natCast_zero, Int.add_zero, List.getD_cons_zero] at h0
    have hs : ∀ i : Nat, i < (chk (xs.drop 64)).length → readD d (g, f + 1 + i) = fillC ((chk (xs.drop 64)).getD i []) := fun i hi => by
      have := hr (i + 1) (by omega)
      rw [show f + ((i + 1 : Nat) : Int) = f + 1 + (i : Int) by omega] at this
      rw [this]; simp
    obtain ⟨rest, e⟩ := ih (f + 1) m (by omega) hs
    rw [secsB_succ, h0]
    by_cases h64 : 64 ≤ xs.length
    · refine ⟨rest, ?_⟩
      rw [e]
      have : fillC (xs.take 64) = xs.take 64 := by
        unfold fillC
        rw [show 64 - (xs.take 64).length = 0 by rw [List.length_take]; omega]
        simp
      rw [this, ← List.append_assoc, List.take_append_drop]
    · refine ⟨List.replicate (64 - xs.length) 0 ++ secsB d g (f + 1) m, ?_⟩
      rw [List.take_of_length_le (by omega)]
      simp [fillC]
theorem read_pend {d : Dev} {k : Pl} {c : Ct} (h : getP d.pend k = some c) : readD d k = c := by unfold readD; rw [h]; rfl
theorem read_safe {d : Dev} {k : Pl} (h : getP d.pend k = none) : readD d k = d.safe k := by unfold readD; rw [h]; rfl
theorem read_synced (d : Dev) (g : Int) (k : Pl) : readD (syncedD d g) k = readD d k := by
  unfold readD
  show (getP (d.pend.filter (fun x => decide (x.1.1 ≠ g))) k).getD (if k.1 = g then (getP d.pend k).getD (d.safe k) else d.safe k) = _
  rw [getP_filter (fun p => decide (p.1 ≠ g))]
  by_cases h : k.1 = g
  · rw [if_neg (by simp [h]), if_pos h]; rfl
  · rw [if_pos (by simp [h]), if_neg h]
end Go.Proofs.YthaihallfjjnpaaGreatDoor

namespace Go.Proofs.YthaihallfjjnpaaGreatDoor

/-- The area that the laws work on: two halves of q sectors. -/
def arS (q : Nat) : Ar := ⟨0, 0, 2 * q⟩
theorem half_s (q : Nat) : (arS q).s / 2 = q := by show (2 * (q : Int)) / 2 = q; omega
theorem beg_s (q h : Nat) : begA (arS q) h = h * q := by unfold begA; rw [half_s]; show (0 : Int) + _ = _; omega
theorem half_eq (q : Nat) (d : Dev) (h : Nat) : halfA d (arS q) h = secsB d 0 (begA (arS q) h) q := by unfold halfA; rw [half_s]; rfl
theorem room_eq (q : Nat) (h1 : 1 ≤ q) (h2 : q ≤ 8192) : roomA (arS q) = 64 * q - 24 := by
  unfold roomA
  rw [half_s, if_neg (by show ¬ (2 * (q : Int) < 2 ∨ 16384 < 2 * (q : Int)); omega)]
  omega
/-- A device of one region and of these sectors on which nothing is pending. -/
structure Still (q : Nat) (d : Dev) : Prop where
  ok : okD d
  r : d.r = 1
  s : d.s = 2 * q
  pend : d.pend = []
  cr : d.crashed = false
  qb : q ≤ 100
theorem still_inA {q : Nat} {d : Dev} (hq : 1 ≤ q) (h : Still q d) : inA d (arS q) := by
  refine ⟨Int.le_refl _, ?_, Int.le_refl _, ?_, ?_, ?_⟩
  · rw [h.r]; show (0 : Int) < 1; decide
  · show 2 ≤ 2 * (q : Int); omega
  · rw [h.s]; exact Int.le_refl _
  · rw [h.s]; show (0 : Int) ≤ 2 * (q : Int) - 2 * (q : Int); omega
theorem still_look {q : Nat} {d : Dev} (hq : 1 ≤ q) (h : Still q d) : lookE d (arS q) = 0 := by
  unfold lookE
  rw [if_neg (fun e => e (still_inA hq h)), if_neg (by rw [h.cr]; simp)]
/-- i texts were saved, the last one is t. -/
structure Tw (q : Nat) (d : Dev) (i : Nat) (t : List Nat) : Prop where
  st : Still q d
  none : i = 0 → numA d (arS q) 0 = 0 ∧ numA d (arS q) 1 = 0
  some : i ≠ 0 → heldB (halfA d (arS q) ((i + 1) % 2)) = (i, t) ∧ numA d (arS q) (i % 2) = i - 1
theorem Tw.tells {q : Nat} {d : Dev} {i : Nat} {t : List Nat} (h : Tw q d i t) (hi : i ≠ 0) : tellA d (arS q) = (i + 1) % 2 ∧ topA d (arS q) = i ∧ txtA d (arS q) (tellA d (arS q)) = t := by
  obtain ⟨h1, h2⟩ := h.some hi
  have e1 : numA d (arS q) ((i + 1) % 2) = i := by unfold numA; rw [h1]
  have e2 : txtA d (arS q) ((i + 1) % 2) = t := by unfold txtA; rw [h1]
  have ht : tellA d (arS q) = (i + 1) % 2 := by
    unfold tellA
    rcases Nat.mod_two_eq_zero_or_one i with hp | hp
    · have hq : (i + 1) % 2 = 1 := by omega
      rw [hp] at h2; rw [hq] at e1 ⊢
      rw [if_pos (by omega)]
    · have hq : (i + 1) % 2 = 0 := by omega
      rw [hp] at h2; rw [hq] at e1 ⊢
      rw [if_neg (by omega)]
  exact ⟨ht, by unfold topA; rw [ht, e1], by rw [ht, e2]⟩
theorem Tw.top0 {q : Nat} {d : Dev} {t : List Nat} (h : Tw q d 0 t) : tellA d (arS q) = 0 ∧ topA d (arS q) = 0 := by
  obtain ⟨h1, h2⟩ := h.none rfl
  have ht : tellA d (arS q) = 0 := by unfold tellA; rw [if_neg (by omega)]
  exact ⟨ht, by unfold topA; rw [ht, h1]⟩
theorem Tw.next {q : Nat} {d : Dev} {i : Nat} {t : List Nat} (h : Tw q d i t) (hl : i < 1000) : nextH d (arS q) = i % 2 ∧ nextN d (arS q) = i + 1 := by
  unfold nextH nextN
  by_cases hi : i = 0
  · subst hi
    obtain ⟨h1, h2⟩ := h.top0
    rw [if_pos h2, if_pos h2]
    exact ⟨rfl, rfl⟩
  · obtain ⟨h1, h2, _⟩ := h.tells hi
    rw [if_neg (by omega), if_neg (by omega), h1, h2]
    omega
/-- The numbers of both halves. -/
theorem Tw.both {q : Nat} {d : Dev} {i : Nat} {t : List Nat} (h : Tw q d i t) (hi : i ≠ 0) : max (numA d (arS q) 0) (numA d (arS q) 1) = i ∧ min (numA d (arS q) 0) (numA d (arS q) 1) = i - 1 := by
  obtain ⟨h1, h2⟩ := h.some hi
  have e1 : numA d (arS q) ((i + 1) % 2) = i := by unfold numA; rw [h1]
  rcases Nat.mod_two_eq_zero_or_one i with hp | hp
  · have hq : (i + 1) % 2 = 1 := by omega
    rw [hp] at h2; rw [hq] at e1
    omega
  · have hq : (i + 1) % 2 = 0 := by omega
    rw [hp] at h2; rw [hq] at e1
    omega
theorem laid_parts {q n : Nat} {xs : List Nat} (hn : n < 128) (hl : xs.length ≤ 360) (hq : xs.length + 24 ≤ 64 * q) : (chk (laidB n xs)).length ≤ q ∧ chk (laidB n xs) ≠ [] := by
  have h1 : (enc n).length = 1 := by rw [enc_lt hn]; rfl
  have h2 : (enc xs.length).length ≤ 2 := Nat.le_trans (enc_mono 360 xs.length hl) (by rw [enc_ge (by omega), enc_lt (by omega)]; simp)
  have h3 := laidB_len n xs
  have h4 := chk_len (laidB n xs)
  refine ⟨by omega, fun e => ?_⟩
  rw [e] at h4
  simp only [List.length_nil] at h4
  omega
/-- What a text that is laid into a half leaves, with or without a crash, behind a restart. -/
theorem laid_left {q : Nat} {d : Dev} (hs : Still q d) (h n : Nat) (xs : List Nat) (hh : h < 2) (hn : n < 128) (h0 : n ≠ 0) (hl : xs.length ≤ 360) (hq : xs.length + 24 ≤ 64 * q) (hx : ∀ x ∈ xs, x < 256) (W : Dev × Nat) (hW : W = wrL d 0 (begA (arS q) h) (chk (laidB n xs))) (ns : List Int) (d2 : Dev) (hd2 : d2 = if W.2 ≠ 0 then W.1 else syncD W.1 0) :
    Still q (restartD d2 ns) ∧ halfA (restartD d2 ns) (arS q) (1 - h) = halfA d (arS q) (1 - h) ∧ (W.2 = 0 → sErr W.1 0 = 0 ∧ d2.pend = [] ∧ d2.crashed = false ∧ d2.armed = W.1.armed ∧ okD d2 ∧ d2.r = 1 ∧ d2.s = 2 * (q : Int) ∧ heldB (halfA (restartD d2 ns) (arS q) h) = (n, xs) ∧ ∀ k, readD d2 k = readD (restartD d2 ns) k) := by
  obtain ⟨hp1, hp2⟩ := laid_parts hn hl hq
  have hb : (begA (arS q) h : Int) = 0 ∧ h = 0 ∨ (begA (arS q) h : Int) = q ∧ h = 1 := by
    have : h = 0 ∨ h = 1 := by omega
    rcases this with rfl | rfl
    · exact .inl ⟨by rw [beg_s]; simp, rfl⟩
    · exact .inr ⟨by rw [beg_s]; simp, rfl⟩
  have hb' : (begA (arS q) (1 - h) : Int) = q ∧ h = 0 ∨ (begA (arS q) (1 - h) : Int) = 0 ∧ h = 1 := by
    have : h = 0 ∨ h = 1 := by omega
    rcases this with rfl | rfl
    · exact .inl ⟨by rw [beg_s]; simp, rfl⟩
    · exact .inr ⟨by rw [beg_s]; simp, rfl⟩
  obtain ⟨s1, s2, s3, s4⟩ := wrL_stays (chk (laidB n xs)) d 0 (begA (arS q) h)
  have ho := okD_wrL (chk (laidB n xs)) d 0 (begA (arS q) h) hs.ok (chk_byte _ (laidB_byte hx))
  have hg := wrL_good (chk (laidB n xs)) d 0 (begA (arS q) h)
  rw [← hW] at s1 s2 s3 s4 ho hg
  have hoth : ∀ i : Nat, i < q → getP W.1.pend (0, begA (arS q) (1 - h) + i) = none := fun i hi => by
    rw [s4 _ (fun j hj e => by simp only [Prod.mk.injEq, true_and] at e; omega), hs.pend]
    rfl
  have hsafe : ∀ i : Nat, i < q → readD d (0, begA (arS q) (1 - h) + i) = W.1.safe (0, begA (arS q) (1 - h) + i) := fun i _ => by
    unfold readD; rw [hs.pend, s1]; rfl
  by_cases he : W.2 = 0
  · obtain ⟨g1, g2⟩ := hg he (fun c hc => (chk_part _ c hc).2) (.inl hp2)
    have hse : sErr W.1 0 = 0 := by
      unfold sErr
      rw [if_neg (by rw [s2, hs.r]; simp), if_neg (by rw [g1]; simp)]
    have e2 : d2 = syncedD W.1 0 := by rw [hd2, if_neg (by simpa using he)]; unfold syncD; rw [if_pos hse]
    have hpe : d2.pend = [] := by
      rw [e2]
      show W.1.pend.filter (fun x => decide (x.1.1 ≠ 0)) = []
      rw [List.filter_eq_nil_iff]
      intro x hx
      have := ho.wid x hx
      have hr := hs.r
      unfold hasD at this
      rw [s2, hr] at this
      simp only [decide_eq_true_eq]
      omega
    have hrd : ∀ k, readD (restartD d2 ns) k = readD d2 k := fun k => by
      unfold readD
      rw [hpe]
      show (Option.none : Option Ct).getD (goR d2.safe d2.pend ns k) = _
      rw [hpe]
      simp [goR, getP_nil]
    have hod : okD d2 := by rw [e2]; exact okD_synced ho 0
    have hrs : ∀ k, readD (restartD d2 ns) k = readD W.1 k := fun k => by rw [hrd, e2, read_synced]
    refine ⟨⟨okD_restart hod ns, ?_, ?_, rfl, rfl, hs.qb⟩, ?_, fun _ => ⟨hse, hpe, ?_, ?_, hod, ?_, ?_, ?_, fun k => (hrd k).symm⟩⟩
    · show d2.r = 1; rw [e2]; exact s2.trans hs.r
    · show d2.s = 2 * (q : Int); rw [e2]; exact s3.trans hs.s
    · rw [half_eq q, half_eq q]
      refine secsB_congr fun i hi => ?_
      rw [hrs, hsafe i hi, read_safe (hoth i hi)]
    · rw [e2]; exact g1
    · rw [e2]; rfl
    · rw [e2]; exact s2.trans hs.r
    · rw [e2]; exact s3.trans hs.s
    · obtain ⟨rest, er⟩ := secsB_parts (restartD d2 ns) 0 (laidB n xs) (begA (arS q) h) q hp1 (fun i hi => by rw [hrs]; exact read_pend (g2 i hi))
      rw [half_eq q, er]
      exact held_laid n xs rest (by omega) h0 (by omega)
  · have e2 : d2 = W.1 := by rw [hd2, if_pos he]
    refine ⟨⟨?_, ?_, ?_, rfl, rfl, hs.qb⟩, ?_, fun e => absurd e he⟩
    · rw [e2]; exact okD_restart ho ns
    · show d2.r = 1; rw [e2]; exact s2.trans hs.r
    · show d2.s = 2 * (q : Int); rw [e2]; exact s3.trans hs.s
    · rw [half_eq q, half_eq q]
      refine secsB_congr fun i hi => ?_
      rw [hsafe i hi, e2]
      show (getP [] _).getD (goR W.1.safe W.1.pend ns _) = _
      rw [goR_other _ _ _ _ (hoth i hi)]
      rfl
theorem restart_still {q : Nat} {d : Dev} (hs : Still q d) (ns : List Int) : ∀ k, readD (restartD d ns) k = readD d k := fun k => by
  show (getP [] k).getD (goR d.safe d.pend ns k) = _
  unfold readD
  rw [hs.pend]
  simp [goR, getP_nil]
theorem half_congr {d d' : Dev} (h : ∀ k, readD d' k = readD d k) (a : Ar) (i : Nat) : halfA d' a i = halfA d a i := by
  unfold halfA
  exact secsB_congr fun _ _ => h _
/-- A text saved on a device that is not armed. -/
theorem Tw.save {q : Nat} {d : Dev} {i : Nat} {t xs : List Nat} (h : Tw q d i t) (hi : i < 100) (ha : d.armed = false) (hl : xs.length ≤ 360) (hq : xs.length + 24 ≤ 64 * q) (hx : ∀ x ∈ xs, x < 256) : saveE d (arS q) xs = 0 ∧ (saveD d (arS q) xs).armed = false ∧ Tw q (saveD d (arS q) xs) (i + 1) xs ∧ ∀ ns, Tw q (restartD (saveD d (arS q) xs) ns) (i + 1) xs := by
  obtain ⟨n1, n2⟩ := h.next (by omega)
  have hlk := still_look (by omega) h.st
  have hrm : ¬ roomA (arS q) < (xs.length : Int) := by rw [room_eq q (by omega) (by have := h.st.qb; omega)]; omega
  have hb : (begA (arS q) (i % 2) : Int) = 0 ∨ (begA (arS q) (i % 2) : Int) = q := by
    rcases Nat.mod_two_eq_zero_or_one i with e | e <;> rw [e, beg_s]
    · left; simp
    · right; simp
  obtain ⟨hp1, hp2⟩ := laid_parts (q := q) (n := i + 1) (xs := xs) (by omega) hl hq
  have hfree := wrL_free (chk (laidB (i + 1) xs)) d 0 (begA (arS q) (i % 2)) h.st.cr ha (by omega) (by rw [h.st.r]; omega) (by omega) (by rw [h.st.s]; omega) (fun c hc => (chk_part _ c hc).2)
  have eW : wroteD d (arS q) xs = wrL d 0 (begA (arS q) (i % 2)) (chk (laidB (i + 1) xs)) := by unfold wroteD; rw [n1, n2]; rfl
  have hE : saveE d (arS q) xs = sErr (wroteD d (arS q) xs).1 0 := by
    unfold saveE
    rw [if_neg (by simpa using hlk), if_neg hrm, if_neg (by rw [eW]; simpa using hfree.1)]
    rfl
  have hD : saveD d (arS q) xs = if (wroteD d (arS q) xs).2 ≠ 0 then (wroteD d (arS q) xs).1 else syncD (wroteD d (arS q) xs).1 0 := by
    unfold saveD
    rw [if_neg (by rintro (e | e); exact e hlk; exact hrm e)]
    rfl
  have key := fun ns => laid_left h.st (i % 2) (i + 1) xs (by omega) (by omega) (by omega) hl hq hx (wroteD d (arS q) xs) eW ns _ hD
  have hz : (wroteD d (arS q) xs).2 = 0 := by rw [eW]; exact hfree.1
  have hold : ∀ ns, Tw q (restartD (saveD d (arS q) xs) ns) (i + 1) xs := fun ns => by
    obtain ⟨k1, k2, k3⟩ := key ns
    obtain ⟨_, _, _, _, _, _, _, k4, _⟩ := k3 hz
    refine ⟨k1, fun e => by omega, fun _ => ⟨?_, ?_⟩⟩
    · rw [show (i + 1 + 1) % 2 = i % 2 by omega]; exact k4
    · have e1 : (i + 1) % 2 = 1 - i % 2 := by omega
      unfold numA
      rw [e1, k2]
      show numA d (arS q) (1 - i % 2) = _
      rw [← e1]
      by_cases hi0 : i = 0
      · subst hi0; exact (h.none rfl).2
      · have := (h.some hi0).1
        unfold numA; rw [this]; rfl
  obtain ⟨k1, k2, k3⟩ := key []
  obtain ⟨c1, c2, c3, c4, c5, c6, c7, c8, c9⟩ := k3 hz
  refine ⟨by rw [hE]; exact c1, by rw [c4, eW]; exact hfree.2, ?_, hold⟩
  have h0 := hold []
  have hcg := fun j => half_congr (fun k => c9 k) (arS q) j
  refine ⟨⟨c5, c6, c7, c2, c3, h.st.qb⟩, fun e => by omega, fun hne => ?_⟩
  obtain ⟨q1, q2⟩ := h0.some hne
  unfold numA at q2 ⊢
  rw [hcg, hcg]
  exact ⟨q1, q2⟩
/-- A text saved on an armed device, whatever a restart then leaves. -/
theorem Tw.crash {q : Nat} {d : Dev} {i : Nat} {t xs : List Nat} (h : Tw q d i t) (h0 : i ≠ 0) (hi : i < 100) (hl : xs.length ≤ 360) (hq : xs.length + 24 ≤ 64 * q) (hx : ∀ x ∈ xs, x < 256) (ns : List Int) :
    Still q (restartD (saveD d (arS q) xs) ns) ∧ heldB (halfA (restartD (saveD d (arS q) xs) ns) (arS q) ((i + 1) % 2)) = (i, t) ∧ (saveE d (arS q) xs = 0 → heldB (halfA (restartD (saveD d (arS q) xs) ns) (arS q) (i % 2)) = (i + 1, xs)) := by
  obtain ⟨n1, n2⟩ := h.next (by omega)
  have hlk := still_look (by omega) h.st
  have hrm : ¬ roomA (arS q) < (xs.length : Int) := by rw [room_eq q (by omega) (by have := h.st.qb; omega)]; omega
  have eW : wroteD d (arS q) xs = wrL d 0 (begA (arS q) (i % 2)) (chk (laidB (i + 1) xs)) := by unfold wroteD; rw [n1, n2]; rfl
  have hE : saveE d (arS q) xs = if (wroteD d (arS q) xs).2 ≠ 0 then (wroteD d (arS q) xs).2 else sErr (wroteD d (arS q) xs).1 0 := by
    unfold saveE
    rw [if_neg (by simpa using hlk), if_neg hrm]
    rfl
  have hD : saveD d (arS q) xs = if (wroteD d (arS q) xs).2 ≠ 0 then (wroteD d (arS q) xs).1 else syncD (wroteD d (arS q) xs).1 0 := by
    unfold saveD
    rw [if_neg (by rintro (e | e); exact e hlk; exact hrm e)]
    rfl
  obtain ⟨k1, k2, k3⟩ := laid_left h.st (i % 2) (i + 1) xs (by omega) (by omega) (by omega) hl hq hx (wroteD d (arS q) xs) eW ns _ hD
  refine ⟨k1, ?_, fun he => ?_⟩
  · have e1 : (i + 1) % 2 = 1 - i % 2 := by omega
    rw [e1, k2, ← e1]
    exact (h.some h0).1
  · have hz : (wroteD d (arS q) xs).2 = 0 := by
      rw [hE] at he
      split at he
      · assumption
      · rename_i hh; simpa using hh
    exact (k3 hz).2.2.2.2.2.2.2.1
/-- What is told behind a crash: the old text or the new one. -/
theorem Tw.told {q : Nat} {d : Dev} {i : Nat} {t xs : List Nat} (h : Tw q d i t) (h0 : i ≠ 0) (hi : i < 100) (hl : xs.length ≤ 360) (hq : xs.length + 24 ≤ 64 * q) (hx : ∀ x ∈ xs, x < 256) (ns : List Int) (d3 : Dev) (hd3 : d3 = restartD (saveD d (arS q) xs) ns)
    (l : List (List Nat)) (hll : l.length = i + 1) (hlt : l.getD (i - 1) [] = t) (hln : l.getD i [] = xs)
    (hr : ∀ j, j < 2 → (numA d3 (arS q) j = 0 ∨ (numA d3 (arS q) j ≤ i + 1 ∧ l.getD (numA d3 (arS q) j - 1) [] = txtA d3 (arS q) j))) :
    loadE d3 (arS q) = 0 ∧ (txtA d3 (arS q) (tellA d3 (arS q)) = xs ∨ (saveE d (arS q) xs ≠ 0 ∧ txtA d3 (arS q) (tellA d3 (arS q)) = t)) := by
  obtain ⟨c1, c2, c3⟩ := h.crash h0 hi hl hq hx ns
  rw [← hd3] at c1 c2 c3
  have o1 : numA d3 (arS q) ((i + 1) % 2) = i := by unfold numA; rw [c2]
  have o2 : txtA d3 (arS q) ((i + 1) % 2) = t := by unfold txtA; rw [c2]
  have hq := hr (i % 2) (by omega)
  have hpos : topA d3 (arS q) ≠ 0 ∧ (txtA d3 (arS q) (tellA d3 (arS q)) = xs ∨ (saveE d (arS q) xs ≠ 0 ∧ txtA d3 (arS q) (tellA d3 (arS q)) = t)) := by
    have hn : saveE d (arS q) xs = 0 → numA d3 (arS q) (i % 2) = i + 1 ∧ txtA d3 (arS q) (i % 2) = xs := fun he => by
      have := c3 he
      exact ⟨by unfold numA; rw [this], by unfold txtA; rw [this]⟩
    have hcase : numA d3 (arS q) (i % 2) ≤ i + 1 := by
      rcases hq with e | ⟨e, _⟩ <;> omega
    by_cases hnew : numA d3 (arS q) (i % 2) = i + 1
    · have htx : txtA d3 (arS q) (i % 2) = xs := by
        rcases hq with e | ⟨_, e⟩
        · omega
        · rw [← e, hnew]; exact hln
      have htell : tellA d3 (arS q) = i % 2 := by
        unfold tellA
        rcases Nat.mod_two_eq_zero_or_one i with hp | hp
        · have hq' : (i + 1) % 2 = 1 := by omega
          rw [hp] at hnew ⊢; rw [hq'] at o1
          rw [if_neg (by omega)]
        · have hq' : (i + 1) % 2 = 0 := by omega
          rw [hp] at hnew ⊢; rw [hq'] at o1
          rw [if_pos (by omega)]
      exact ⟨by unfold topA; rw [htell]; omega, .inl (by rw [htell]; exact htx)⟩
    · have hne : saveE d (arS q) xs ≠ 0 := fun he => hnew (hn he).1
      have hle : numA d3 (arS q) (i % 2) ≤ i := by omega
      have htell : txtA d3 (arS q) (tellA d3 (arS q)) = t ∧ topA d3 (arS q) = i := by
        by_cases heq : numA d3 (arS q) (i % 2) = i
        · have htx : txtA d3 (arS q) (i % 2) = t := by
            rcases hq with e | ⟨_, e⟩
            · omega
            · rw [← e, heq]; exact hlt
          have hall : ∀ j, j < 2 → txtA d3 (arS q) j = t ∧ numA d3 (arS q) j = i := fun j hj => by
            have : j = i % 2 ∨ j = (i + 1) % 2 := by omega
            rcases this with rfl | rfl
            · exact ⟨htx, heq⟩
            · exact ⟨o2, o1⟩
          have hlt2 : tellA d3 (arS q) < 2 := by unfold tellA; split <;> omega
          exact hall _ hlt2
        · have htell : tellA d3 (arS q) = (i + 1) % 2 := by
            unfold tellA
            rcases Nat.mod_two_eq_zero_or_one i with hp | hp
            · have hq' : (i + 1) % 2 = 1 := by omega
              rw [hp] at heq hle; rw [hq'] at o1 ⊢
              rw [if_pos (by omega)]
            · have hq' : (i + 1) % 2 = 0 := by omega
              rw [hp] at heq hle; rw [hq'] at o1 ⊢
              rw [if_neg (by omega)]
          exact ⟨by rw [htell]; exact o2, by unfold topA; rw [htell]; exact o1⟩
      exact ⟨by rw [htell.2]; exact h0, .inr ⟨hne, htell.1⟩⟩
  refine ⟨?_, hpos.2⟩
  unfold loadE
  rw [if_neg (by simpa using still_look (by omega) c1), if_neg hpos.1]
/-- A new device. -/
theorem held_zero (xs : List Nat) : heldB (0 :: xs) = (0, []) := by
  unfold heldB
  rw [if_pos (.inr rfl)]
theorem tw_new (q : Nat) (hq : 1 ≤ q) (hq2 : q ≤ 100) : Tw q (newD 1 (2 * q)) 0 [] := by
  have hz : ∀ j, numA (newD 1 (2 * q)) (arS q) j = 0 := fun j => by
    obtain ⟨m, rfl⟩ : ∃ m, q = m + 1 := ⟨q - 1, by omega⟩
    unfold numA
    rw [half_eq, secsB_succ]
    have e : readD (newD 1 (2 * ((m + 1 : Nat) : Int))) (0, begA (arS (m + 1)) j) = 0 :: List.replicate 63 0 := rfl
    rw [e, List.cons_append, held_zero]
  exact ⟨⟨okD_new _ _, rfl, rfl, rfl, rfl, hq2⟩, fun _ => ⟨hz 0, hz 1⟩, fun e => absurd rfl e⟩
end Go.Proofs.YthaihallfjjnpaaGreatDoor
