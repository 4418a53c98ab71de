/- Bits turned one by one in what was sealed: the mathematics of the law CrcBursts. -/
import Derived.Test.YtjgkoamhmmofbaaDoorOpen
namespace Go.Proofs.YtjgkoamhmmofbaaDoor
open Go.RowKit Go.Sort

/-- What was sealed, with the first i of the bits turned. -/
structure St (xs : List Nat) (b first i : Nat) (ys : List Nat) : Prop where
  len : ys.length = xs.length + 4
  byte : ∀ y ∈ ys, y < 256
  sum : ys.drop xs.length = four (sm 0 xs)
  num : le (ys.take xs.length) = le xs ^^^ b % 2 ^ (min i (8 * xs.length - first)) * 2 ^ first

theorem St.start (xs : List Nat) (b first : Nat) (hx : ∀ x ∈ xs, x < 256) : St xs b first 0 (xs ++ four (sm 0 xs)) := by
  refine ⟨by rw [List.length_append, four_length], ?_, List.drop_left, ?_⟩
  · intro x hm
    rcases List.mem_append.1 hm with h | h
    · exact hx x h
    · exact four_byte _ x h
  · rw [List.take_left, Nat.zero_min, Nat.pow_zero, Nat.mod_one, Nat.zero_mul, Nat.xor_zero]
theorem St.stay {xs ys : List Nat} {b first i : Nat} (h : St xs b first i ys) (hs : first + i < 8 * xs.length → b / 2 ^ i % 2 = 0) : St xs b first (i + 1) ys := by
  refine ⟨h.len, h.byte, h.sum, ?_⟩
  rw [h.num]
  by_cases hi : first + i < 8 * xs.length
  · rw [Nat.min_eq_left (by omega), Nat.min_eq_left (by omega), low_step, if_neg (by rw [hs hi]; decide)]
  · rw [Nat.min_eq_right (by omega), Nat.min_eq_right (by omega)]
theorem St.turn {xs ys : List Nat} {b first i : Nat} (h : St xs b first i ys) (hi : first + i < 8 * xs.length) (hs : b / 2 ^ i % 2 = 1) :
    St xs b first (i + 1) (ys.set ((first + i) / 8) (ys.getD ((first + i) / 8) 0 ^^^ 2 ^ ((first + i) % 8))) := by
  have hj : (first + i) / 8 < xs.length := by omega
  have hr : (first + i) % 8 < 8 := Nat.mod_lt _ (by decide)
  have hp : 2 ^ ((first + i) % 8) < 2 ^ 8 := Nat.pow_lt_pow_right (by decide) hr
  have hl := h.len
  have hgy : ys.getD ((first + i) / 8) 0 < 256 := byte_at h.byte _
  have hv : ys.getD ((first + i) / 8) 0 ^^^ 2 ^ ((first + i) % 8) < 256 := Nat.xor_lt_two_pow (n := 8) hgy hp
  refine ⟨by rw [List.length_set]; exact hl, ?_, ?_, ?_⟩
  · intro y hy
    rcases List.mem_or_eq_of_mem_set hy with h' | h'
    · exact h.byte y h'
    · rw [h']; exact hv
  · rw [List.drop_set_of_lt (by omega)]
    exact h.sum
  · have hg : ys.getD ((first + i) / 8) 0 = (ys.take xs.length).getD ((first + i) / 8) 0 := by
      rw [List.getD_eq_getElem?_getD, List.getD_eq_getElem?_getD, List.getElem?_take, if_pos hj]
    rw [List.take_set, hg, le_flip (ys.take xs.length) _ _ (fun y hy => h.byte y (List.mem_of_mem_take hy)) (by rw [List.length_take]; omega) hr, h.num,
      Nat.min_eq_left (by omega), Nat.min_eq_left (by omega), low_step b i, if_pos hs, xor_shift, ← Nat.pow_add, Nat.xor_assoc, show 8 * ((first + i) / 8) + (first + i) % 8 = i + first by omega]
theorem sm_ne {xs ys : List Nat} (hx : ∀ x ∈ xs, x < 256) (hy : ∀ x ∈ ys, x < 256) (h : upd 4294967295 xs ≠ upd 4294967295 ys) : sm 0 xs ≠ sm 0 ys := by
  intro e
  have h1 := sm_upd 0 xs hx
  have h2 := sm_upd 0 ys hy
  rw [Nat.sub_zero] at h1 h2
  rw [e] at h1
  exact h (h1.symm.trans h2)
/-- It is told. -/
theorem St.told {xs ys : List Nat} {b first : Nat} (h : St xs b first 32 ys) (hx : ∀ x ∈ xs, x < 256) (hb : b < 4294967296) (hf : first < 8 * xs.length) (hne : ys.take xs.length ≠ xs) : opn ys = ([], 11) := by
  have hl := h.len
  have hlt : (ys.take xs.length).length = xs.length := by rw [List.length_take]; omega
  have hbt : ∀ y ∈ ys.take xs.length, y < 256 := fun y hy => h.byte y (List.mem_of_mem_take hy)
  have he0 : b % 2 ^ (min 32 (8 * xs.length - first)) ≠ 0 := by
    intro e
    have := h.num
    rw [e, Nat.zero_mul, Nat.xor_zero] at this
    exact hne (le_inj _ _ hlt hbt hx this)
  have hd : le (ys.take xs.length) ^^^ le xs = b % 2 ^ (min 32 (8 * xs.length - first)) * 2 ^ first := by
    rw [h.num, Nat.xor_comm (le xs), Nat.xor_assoc, Nat.xor_self, Nat.xor_zero]
  have hu := upd_burst (ys.take xs.length) xs 4294967295 first _ hlt hbt hx (Nat.lt_of_le_of_lt (Nat.mod_le _ _) hb) he0 (by omega) hd
  have hs := sm_ne hbt hx hu
  unfold opn
  rw [if_neg (by omega), show ys.length - 4 = xs.length by omega, h.sum, if_neg]
  intro e
  exact hs (four_inj _ _ (sm_lt _ _) (sm_lt _ _) e).symm
end Go.Proofs.YtjgkoamhmmofbaaDoor
