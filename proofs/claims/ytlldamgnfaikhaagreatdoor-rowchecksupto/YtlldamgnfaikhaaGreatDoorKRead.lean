/- The walks of pack.canEnd, Uint. -/
import Derived.Test.YtlldamgnfaikhaaGreatDoorKMem
namespace Go.Proofs.YtlldamgnfaikhaaGreatDoor
open Go.RowKit Go.Sort

/-- May it be the last one? -/
def canB (y i : Nat) : Bool := !(decide ((i ≠ 0 ∧ y = 0) ∨ (i = 9 ∧ 1 < y)))
theorem andNot128_all : ∀ x : Fin 256, bits .andNot .u8 (x.val : Int) 128 = ((x.val % 128 : Nat) : Int) := by decide +kernel
theorem andNot128 (y : Nat) (h : y < 256) : bits .andNot .u8 (y : Int) 128 = ((y % 128 : Nat) : Int) := andNot128_all ⟨y, h⟩
theorem and128_all : ∀ x : Fin 256, bits .and .u8 (x.val : Int) 128 = if 128 ≤ x.val then 128 else 0 := by decide +kernel
theorem and128 (y : Nat) (h : y < 256) : bits .and .u8 (y : Int) 128 = if 128 ≤ y then 128 else 0 := and128_all ⟨y, h⟩
/-- Seven bits more. -/
theorem step_bits (X y k : Nat) (hy : y < 256) (hk : k < 10) (hX : X < 128 ^ k) : ∃ N : Nat, bits .or .u64 (X : Int) (IntKind.u64.wrap (IntKind.u64.wrap (bits .andNot .u8 (y : Int) 128) * 2 ^ (7 * k))) = (N : Int) ∧ ((k < 9 ∨ y % 128 ≤ 1) → N = X + y % 128 * 128 ^ k) := by
  have hp : (128 : Nat) ^ k = 2 ^ (7 * k) := by rw [Nat.pow_mul]
  have h9 : (2 : Nat) ^ (7 * k) ≤ 2 ^ 63 := Nat.pow_le_pow_right (by decide) (by omega)
  rw [andNot128 y hy, IntKind.wrap_u64, IntKind.wrap_u64]
  have e1 : (((y % 128 : Nat) : Int) % 18446744073709551616 * 2 ^ (7 * k)) % 18446744073709551616 = ((y % 128 * 2 ^ (7 * k) % 18446744073709551616 : Nat) : Int) := by
    have : ((y % 128 : Nat) : Int) % 18446744073709551616 = ((y % 128 : Nat) : Int) := by omega
    rw [this]
    generalize y % 128 = z
    rw [Int.natCast_emod, Int.natCast_mul, Int.natCast_pow]
    rfl
  rw [e1, (bits_nat .u64 64 (by decide) wraps_u64 X (y % 128 * 2 ^ (7 * k) % 18446744073709551616) (by rw [hp] at hX; omega) (by omega)).2]
  refine ⟨_, rfl, fun hh => ?_⟩
  have hlt : y % 128 * 2 ^ (7 * k) < 18446744073709551616 := by
    rcases hh with hh | hh
    · have h8 : (2 : Nat) ^ (7 * k) ≤ 2 ^ 56 := Nat.pow_le_pow_right (by decide) (by omega)
      have : y % 128 * 2 ^ (7 * k) ≤ 127 * 2 ^ 56 := Nat.mul_le_mul (by omega) h8
      omega
    · have : y % 128 * 2 ^ (7 * k) ≤ 1 * 2 ^ 63 := Nat.mul_le_mul hh h9
      omega
  rw [Nat.mod_eq_of_lt hlt, hp, Nat.or_comm, Nat.mul_comm (y % 128)]
  rw [hp] at hX
  rw [← Nat.two_pow_add_eq_or_of_lt hX, Nat.add_comm]
/-- The number with a sign at the begin of bytes; the text there. -/
def rdI (xs : List Nat) : Int × Nat × Nat := (unzz (rdU xs).1, (rdU xs).2.1, (rdU xs).2.2)
theorem BytesIn.part {w : World} {b o k n : Nat} {xs : List Nat} (h : BytesIn w (some ⟨b, o, none⟩) xs) (hk : k + n ≤ xs.length) : BytesIn w (some ⟨b, o + k, none⟩) ((xs.drop k).take n) := by
  intro i hi
  simp only [List.length_take, List.length_drop] at hi
  obtain ⟨b', o', e, h1⟩ := h (k + i) (by omega)
  cases e
  refine ⟨b, o + k, rfl, ?_⟩
  rw [Nat.add_assoc, h1]
  congr 2
  rw [List.getD_eq_getElem?_getD, List.getD_eq_getElem?_getD, List.getElem?_take, if_pos (by omega), List.getElem?_drop]
end Go.Proofs.YtlldamgnfaikhaaGreatDoor
