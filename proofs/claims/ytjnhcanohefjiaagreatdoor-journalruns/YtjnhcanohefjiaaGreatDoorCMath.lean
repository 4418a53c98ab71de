/- Sums of bytes, outside any program: to divide is linear over xor and takes nothing to nothing else; so sums are told apart by up to 32 neighbouring bits. -/
import Derived.Test.YtjnhcanohefjiaaGreatDoorKMath
namespace Go.Proofs.YtjnhcanohefjiaaGreatDoor

/-- To divide a number by a bit. -/
def dv (x : Nat) : Nat := if x % 2 = 1 then x / 2 ^^^ 3988292384 else x / 2
def dvs : Nat → Nat → Nat
  | 0, x => x
  | k + 1, x => dvs k (dv x)
/-- A state goes on with bytes. -/
def upd (x : Nat) (bs : List Nat) : Nat := bs.foldl (fun x b => dvs 8 (x ^^^ b)) x
theorem xor_half (x y : Nat) : (x ^^^ y) / 2 = x / 2 ^^^ y / 2 := by
  rw [← Nat.pow_one 2, ← Nat.shiftRight_eq_div_pow, ← Nat.shiftRight_eq_div_pow, ← Nat.shiftRight_eq_div_pow, Nat.shiftRight_xor_distrib]
theorem xor_odd (x y : Nat) : (x ^^^ y) % 2 = (x % 2 + y % 2) % 2 := by
  have h := Nat.xor_mod_two_pow (a := x) (b := y) (n := 1)
  rw [Nat.pow_one] at h
  rw [h]
  rcases Nat.mod_two_eq_zero_or_one x with h1 | h1 <;> rcases Nat.mod_two_eq_zero_or_one y with h2 | h2 <;> rw [h1, h2] <;> rfl
theorem dv_xor (x y : Nat) : dv (x ^^^ y) = dv x ^^^ dv y := by
  unfold dv
  rw [xor_half, xor_odd]
  rcases Nat.mod_two_eq_zero_or_one x with h1 | h1 <;> rcases Nat.mod_two_eq_zero_or_one y with h2 | h2 <;> simp only [h1, h2] <;> simp
  · ac_rfl
  · ac_rfl
  · rw [Nat.xor_assoc, Nat.xor_comm 3988292384, Nat.xor_assoc, Nat.xor_self, Nat.xor_zero]
theorem dvs_xor : ∀ (k x y : Nat), dvs k (x ^^^ y) = dvs k x ^^^ dvs k y
  | 0, _, _ => rfl
  | k + 1, x, y => by simp only [dvs, dv_xor, dvs_xor k]
theorem dvs_add : ∀ (a b x : Nat), dvs (a + b) x = dvs b (dvs a x)
  | 0, b, x => by rw [Nat.zero_add]; rfl
  | a + 1, b, x => by rw [show a + 1 + b = (a + b) + 1 by omega]; exact dvs_add a b (dv x)
theorem dvs_shift : ∀ (k y : Nat), dvs k (y * 2 ^ k) = y
  | 0, y => by simp [dvs]
  | k + 1, y => by
    rw [Nat.pow_succ, ← Nat.mul_assoc, dvs, dv, if_neg (by omega), Nat.mul_div_cancel _ (by decide)]
    exact dvs_shift k y
theorem dvs_zero : ∀ k : Nat, dvs k 0 = 0
  | 0 => rfl
  | k + 1 => dvs_zero k
theorem dv_lt (x : Nat) (h : x < 4294967296) : dv x < 4294967296 := by
  unfold dv
  split
  · exact Nat.xor_lt_two_pow (n := 32) (by omega) (by decide)
  · omega
theorem dvs_lt : ∀ (k x : Nat), x < 4294967296 → dvs k x < 4294967296
  | 0, _, h => h
  | k + 1, x, h => dvs_lt k _ (dv_lt x h)
theorem dv_ne (x : Nat) (h : x < 4294967296) (h0 : x ≠ 0) : dv x ≠ 0 := by
  unfold dv
  split
  · intro hz
    have e : x / 2 = 3988292384 := by
      have := congrArg (· ^^^ 3988292384) hz
      simpa [Nat.xor_assoc] using this
    omega
  · omega
theorem dvs_ne : ∀ (k x : Nat), x < 4294967296 → x ≠ 0 → dvs k x ≠ 0
  | 0, _, _, h0 => h0
  | k + 1, x, h, h0 => dvs_ne k _ (dv_lt x h) (dv_ne x h h0)
theorem upd_append (x : Nat) (as bs : List Nat) : upd x (as ++ bs) = upd (upd x as) bs := List.foldl_append
theorem upd_lt : ∀ (bs : List Nat) (x : Nat), x < 4294967296 → (∀ b ∈ bs, b < 256) → upd x bs < 4294967296
  | [], _, h, _ => h
  | b :: bs, x, h, hb => upd_lt bs _ (dvs_lt 8 _ (Nat.xor_lt_two_pow (n := 32) h (by have := hb b (List.mem_cons_self ..); omega))) (fun y hy => hb y (List.mem_cons_of_mem _ hy))
/-- Two texts of one length, turned by one another. -/
theorem upd_xor : ∀ (as bs : List Nat) (x y : Nat), as.length = bs.length → upd (x ^^^ y) (List.zipWith (· ^^^ ·) as bs) = upd x as ^^^ upd y bs
  | [], [], _, _, _ => rfl
  | a :: as, b :: bs, x, y, h => by
    show upd (dvs 8 (x ^^^ y ^^^ (a ^^^ b))) (List.zipWith (· ^^^ ·) as bs) = _
    have e : x ^^^ y ^^^ (a ^^^ b) = (x ^^^ a) ^^^ (y ^^^ b) := by ac_rfl
    rw [e, dvs_xor]
    exact upd_xor as bs _ _ (by simpa using h)
/-- Bytes as one number, the lowest first. -/
def le : List Nat → Nat
  | [] => 0
  | b :: bs => b + 256 * le bs
theorem le_cons_xor (b : Nat) (bs : List Nat) (h : b < 256) : le (b :: bs) = b ^^^ le bs * 2 ^ 8 := by
  have := Nat.two_pow_add_eq_or_of_lt (i := 8) (b := b) (by omega) (le bs)
  rw [le, show 256 * le bs = 2 ^ 8 * le bs from rfl, Nat.add_comm, Nat.mul_comm (le bs)]
  apply Nat.eq_of_testBit_eq
  intro i
  rw [this, Nat.testBit_or, Nat.testBit_xor, Nat.testBit_two_pow_mul]
  by_cases hi : 8 ≤ i
  · rw [Nat.testBit_lt_two_pow (Nat.lt_of_lt_of_le h (Nat.pow_le_pow_right (by decide) hi : 2 ^ 8 ≤ 2 ^ i))]
    simp
  · simp [hi]
/-- A state that goes on with bytes is divided by all their bits. -/
theorem upd_le : ∀ (bs : List Nat) (x : Nat), (∀ b ∈ bs, b < 256) → upd x bs = dvs (8 * bs.length) (x ^^^ le bs)
  | [], x, _ => by simp [upd, le, dvs]
  | b :: bs, x, h => by
    show upd (dvs 8 (x ^^^ b)) bs = _
    rw [upd_le bs _ (fun y hy => h y (List.mem_cons_of_mem _ hy)), le_cons_xor b bs (h b (List.mem_cons_self ..)), List.length_cons, show 8 * (bs.length + 1) = 8 + 8 * bs.length by omega, dvs_add, ← Nat.xor_assoc, dvs_xor 8 (x ^^^ b), dvs_shift]
/-- Bits that are turned within 32 neighbouring ones are told. -/
theorem upd_burst (as bs : List Nat) (x at_ e : Nat) (hl : as.length = bs.length) (ha : ∀ b ∈ as, b < 256) (hb : ∀ b ∈ bs, b < 256) (he : e < 4294967296) (h0 : e ≠ 0) (hat : at_ ≤ 8 * as.length) (hd : le as ^^^ le bs = e * 2 ^ at_) : upd x as ≠ upd x bs := by
  intro h
  rw [upd_le as x ha, upd_le bs x hb, ← hl] at h
  have h2 : dvs (8 * as.length) (x ^^^ le as) ^^^ dvs (8 * as.length) (x ^^^ le bs) = 0 := by rw [h, Nat.xor_self]
  rw [← dvs_xor, show x ^^^ le as ^^^ (x ^^^ le bs) = (x ^^^ x) ^^^ (le as ^^^ le bs) by ac_rfl, Nat.xor_self, Nat.zero_xor, hd] at h2
  obtain ⟨r, hr⟩ : ∃ r, 8 * as.length = at_ + r := ⟨8 * as.length - at_, by omega⟩
  rw [hr, dvs_add, dvs_shift] at h2
  exact dvs_ne r e he h0 h2
theorem xor_shift (x y k : Nat) : (x ^^^ y) * 2 ^ k = x * 2 ^ k ^^^ y * 2 ^ k := by
  rw [← Nat.shiftLeft_eq, ← Nat.shiftLeft_eq, ← Nat.shiftLeft_eq, Nat.shiftLeft_xor_distrib]
/-- A bit turned. -/
theorem le_flip : ∀ (xs : List Nat) (j r : Nat), (∀ b ∈ xs, b < 256) → j < xs.length → r < 8 → le (xs.set j (xs.getD j 0 ^^^ 2 ^ r)) = le xs ^^^ 2 ^ (8 * j + r)
  | [], _, _, _, h, _ => by simp at h
  | b :: bs, 0, r, hb, _, hr => by
    have h1 : b < 256 := hb b (List.mem_cons_self ..)
    have h2 : (2 : Nat) ^ r < 2 ^ 8 := Nat.pow_lt_pow_right (by decide) hr
    rw [List.set_cons_zero, List.getD_cons_zero, le_cons_xor _ bs (Nat.xor_lt_two_pow (n := 8) h1 h2), le_cons_xor b bs h1, Nat.mul_zero, Nat.zero_add]
    ac_rfl
  | b :: bs, j + 1, r, hb, hj, hr => by
    have h1 : b < 256 := hb b (List.mem_cons_self ..)
    rw [List.set_cons_succ, List.getD_cons_succ, le_cons_xor b _ h1, le_cons_xor b bs h1, le_flip bs j r (fun y hy => hb y (List.mem_cons_of_mem _ hy)) (by simpa using hj) hr, xor_shift, ← Nat.pow_add, show 8 * (j + 1) + r = 8 * j + r + 8 by omega, Nat.xor_assoc]
/-- All bits turned. -/
theorem turned (x : Nat) (h : x < 4294967296) : 4294967295 - x = 4294967295 ^^^ x := by
  have : (4294967295 : Nat) = 2 ^ 32 - 1 := rfl
  apply Nat.eq_of_testBit_eq
  intro i
  rw [this, show 2 ^ 32 - 1 - x = 2 ^ 32 - (x + 1) by omega, Nat.testBit_two_pow_sub_succ h, Nat.testBit_xor, Nat.testBit_two_pow_sub_one]
  by_cases hi : i < 32
  · simp [hi]
  · rw [Nat.testBit_lt_two_pow (Nat.lt_of_lt_of_le h (Nat.pow_le_pow_right (by decide) (by omega) : 2 ^ 32 ≤ 2 ^ i))]
    simp [hi]
/-- A byte below a number of whole bytes. -/
theorem byte_xor (b y : Nat) (h : b < 256) : b + 256 * y = b ^^^ y * 2 ^ 8 := by
  have := Nat.two_pow_add_eq_or_of_lt (i := 8) (b := b) (by omega) y
  rw [show 256 * y = 2 ^ 8 * y from rfl, Nat.add_comm, Nat.mul_comm y]
  apply Nat.eq_of_testBit_eq
  intro i
  rw [this, Nat.testBit_or, Nat.testBit_xor, Nat.testBit_two_pow_mul]
  by_cases hi : 8 ≤ i
  · rw [Nat.testBit_lt_two_pow (Nat.lt_of_lt_of_le h (Nat.pow_le_pow_right (by decide) hi : 2 ^ 8 ≤ 2 ^ i))]
    simp
  · simp [hi]
/-- Only the lowest byte of a state decides what is xored. -/
theorem step_tab (x c : Nat) : dvs 8 (x ^^^ c) = x / 256 ^^^ dvs 8 (x % 256 ^^^ c) := by
  have e : x = x % 256 ^^^ x / 256 * 2 ^ 8 := by
    rw [← byte_xor _ _ (Nat.mod_lt _ (by decide))]
    omega
  have e2 : x ^^^ c = x / 256 * 2 ^ 8 ^^^ (x % 256 ^^^ c) := by
    conv => lhs; rw [e]
    ac_rfl
  rw [e2, dvs_xor, dvs_shift]
/-- A bit and what is below it. -/
theorem bit_xor (k y : Nat) (h : y < 2 ^ k) : 2 ^ k + y = 2 ^ k ^^^ y := by
  have h1 := Nat.two_pow_add_eq_or_of_lt (i := k) (b := y) h 1
  rw [Nat.mul_one] at h1
  apply Nat.eq_of_testBit_eq
  intro i
  rw [h1, Nat.testBit_or, Nat.testBit_xor]
  by_cases hi : i = k
  · subst hi
    rw [Nat.testBit_lt_two_pow h]
    simp
  · rw [Nat.testBit_two_pow_of_ne (Ne.symm hi)]
    simp
theorem dvs_bit (k y : Nat) (h : y < 2 ^ k) : dvs 8 (2 ^ k + y) = dvs 8 (2 ^ k) ^^^ dvs 8 y := by rw [bit_xor k y h, dvs_xor]
/-- The sum behind a sum. -/
def sm (n : Nat) (xs : List Nat) : Nat := 4294967295 - upd (4294967295 - n) xs
theorem sm_lt (n : Nat) (xs : List Nat) : sm n xs < 4294967296 := by unfold sm; omega
theorem sm_upd (n : Nat) (xs : List Nat) (hx : ∀ x ∈ xs, x < 256) : 4294967295 - sm n xs = upd (4294967295 - n) xs := by
  have := upd_lt xs (4294967295 - n) (by omega) hx
  unfold sm
  omega
theorem sm_append (n : Nat) (as bs : List Nat) (ha : ∀ x ∈ as, x < 256) : sm (sm n as) bs = sm n (as ++ bs) := by
  rw [show sm (sm n as) bs = 4294967295 - upd (4294967295 - sm n as) bs from rfl, sm_upd n as ha, ← upd_append]
  rfl
/-- Two texts turned by one another. -/
theorem sm_turned (as bs : List Nat) (hl : as.length = bs.length) (ha : ∀ x ∈ as, x < 256) (hb : ∀ x ∈ bs, x < 256) :
    sm 0 as ^^^ sm 0 bs ^^^ sm 0 (List.replicate as.length 0) = sm 0 (List.zipWith (· ^^^ ·) as bs) := by
  have hz : ∀ x ∈ List.replicate as.length 0, x < 256 := fun x hx => by rw [List.eq_of_mem_replicate hx]; decide
  have hc : ∀ x ∈ List.zipWith (· ^^^ ·) as bs, x < 256 := by
    intro x hx
    obtain ⟨i, hi, rfl⟩ := List.getElem_of_mem hx
    rw [List.getElem_zipWith]
    exact Nat.xor_lt_two_pow (n := 8) (ha _ (List.getElem_mem _)) (hb _ (List.getElem_mem _))
  have e1 := upd_xor as bs 4294967295 0 hl
  have e2 := upd_xor bs (List.replicate as.length 0) 4294967295 4294967295 (by simp [hl])
  have e3 : List.zipWith (· ^^^ ·) bs (List.replicate as.length 0) = bs := by
    apply List.ext_getElem
    · simp [hl]
    · intro i h1 h2
      simp
  rw [e3, Nat.xor_self] at e2
  rw [Nat.xor_zero, e2] at e1
  unfold sm
  rw [Nat.sub_zero, turned _ (upd_lt as _ (by decide) ha), turned _ (upd_lt bs _ (by decide) hb), turned _ (upd_lt _ _ (by decide) hz), turned _ (upd_lt _ _ (by decide) hc), e1]
  generalize upd 4294967295 as = A
  generalize upd 4294967295 bs = B
  generalize upd 4294967295 (List.replicate as.length 0) = Z
  rw [show 4294967295 ^^^ A ^^^ (4294967295 ^^^ B) ^^^ (4294967295 ^^^ Z) = (4294967295 ^^^ 4294967295) ^^^ (4294967295 ^^^ (A ^^^ (B ^^^ Z))) by ac_rfl, Nat.xor_self, Nat.zero_xor]
/-- The four bytes of a sum. -/
def four (n : Nat) : List Nat := [n / 16777216 % 256, n / 65536 % 256, n / 256 % 256, n % 256]
theorem four_inj (n m : Nat) (hn : n < 4294967296) (hm : m < 4294967296) (h : four n = four m) : n = m := by
  simp only [four, List.cons.injEq, and_true] at h
  omega
theorem four_byte (n : Nat) : ∀ x ∈ four n, x < 256 := by
  intro x hx
  simp only [four, List.mem_cons, List.not_mem_nil, or_false] at hx
  omega
theorem le_inj : ∀ (as bs : List Nat), as.length = bs.length → (∀ x ∈ as, x < 256) → (∀ x ∈ bs, x < 256) → le as = le bs → as = bs
  | [], [], _, _, _, _ => rfl
  | a :: as, b :: bs, hl, ha, hb, h => by
    have h1 := ha a (List.mem_cons_self ..)
    have h2 := hb b (List.mem_cons_self ..)
    simp only [le] at h
    have e : a = b ∧ le as = le bs := by omega
    rw [e.1, le_inj as bs (by simpa using hl) (fun x hx => ha x (List.mem_cons_of_mem _ hx)) (fun x hx => hb x (List.mem_cons_of_mem _ hx)) e.2]
/-- Bits turned one by one. -/
theorem low_step (b i : Nat) : b % 2 ^ (i + 1) = if b / 2 ^ i % 2 = 1 then b % 2 ^ i ^^^ 2 ^ i else b % 2 ^ i := by
  have hm : b % 2 ^ (i + 1) = b % 2 ^ i + 2 ^ i * (b / 2 ^ i % 2) := by rw [Nat.pow_succ, Nat.mod_mul]
  rw [hm]
  split
  · rename_i h
    rw [h, Nat.mul_one, Nat.xor_comm, ← bit_xor i _ (Nat.mod_lt _ (Nat.two_pow_pos i)), Nat.add_comm]
  · rename_i h
    have : b / 2 ^ i % 2 = 0 := by omega
    rw [this, Nat.mul_zero, Nat.add_zero]
theorem bs_inj (xs ys : List Nat) (hx : ∀ x ∈ xs, x < 256) (hy : ∀ x ∈ ys, x < 256) (h : bs xs = bs ys) : xs = ys := by
  have e := congrArg (fun s : ByteArray => s.data.toList.map (·.toNat)) h
  simp only [bs, List.map_map] at e
  have key : ∀ zs : List Nat, (∀ x ∈ zs, x < 256) → zs.map ((fun x : UInt8 => x.toNat) ∘ fun n => UInt8.ofNat n) = zs := by
    intro zs hz
    conv => rhs; rw [← List.map_id zs]
    refine List.map_congr_left fun x hxz => ?_
    have := hz x hxz
    simp
    omega
  rw [key xs hx, key ys hy] at e
  exact e
end Go.Proofs.YtjnhcanohefjiaaGreatDoor
