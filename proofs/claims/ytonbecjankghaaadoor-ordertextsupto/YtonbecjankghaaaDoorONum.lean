/- The walk of order.number; a text cut at its first byte 0. -/
import Derived.Test.YtonbecjankghaaaDoorOLay
import Derived.Test.YtonbecjankghaaaDoorShelfC
namespace Go.Proofs.YtonbecjankghaaaDoor
open Go.RowKit Go.Sort

/-! ### A text cut at its first byte 0 -/
theorem index_skip0 {b : UInt8} {l : List UInt8} (h : b ≠ 0) : Lib.index (b :: l) [0] = if Lib.index l [0] == -1 then -1 else Lib.index l [0] + 1 := by
  have h1 : ([0] : List UInt8).isPrefixOf (b :: l) = false := by
    simp only [List.isPrefixOf, Bool.and_true, beq_eq_false_iff_ne, ne_eq]
    exact fun e => h e.symm
  rw [Lib.index, h1]; simp
theorem index_front0 (l : List UInt8) : Lib.index (0 :: l) [0] = 0 := by
  rw [Lib.index]; simp [List.isPrefixOf]
theorem index0 : ∀ r : List UInt8, (0 ∈ r → Lib.index r [0] = ((r.takeWhile (· != 0)).length : Nat)) ∧ (0 ∉ r → Lib.index r [0] = -1)
  | [] => ⟨fun h => by simp at h, fun _ => by decide⟩
  | c :: r => by
    obtain ⟨h1, h2⟩ := index0 r
    by_cases hc : c = 0
    · subst hc
      exact ⟨fun _ => by rw [index_front0]; simp, fun h => absurd (List.mem_cons_self) h⟩
    · have hb : (c != 0) = true := by simpa using hc
      rw [index_skip0 hc]
      constructor
      · intro hm
        have hm' : 0 ∈ r := by rcases List.mem_cons.1 hm with e | h'; exact absurd e.symm hc; exact h'
        rw [h1 hm', List.takeWhile_cons, hb]
        have : (((r.takeWhile (· != 0)).length : Int) == -1) = false := by simp
        rw [this]
        simp
      · intro hm
        rw [h2 (fun h => hm (List.mem_cons_of_mem _ h))]
        rfl
theorem cut0 (r : List UInt8) : Lib.cut r [0] = if 0 ∈ r then (r.takeWhile (· != 0), (r.dropWhile (· != 0)).drop 1, true) else (r, [], false) := by
  obtain ⟨h1, h2⟩ := index0 r
  by_cases h : 0 ∈ r
  · rw [if_pos h, Lib.cut, h1 h, if_pos (by omega)]
    have key : ∀ (p d : List UInt8), r = p ++ 0 :: d → r.take p.length = p ∧ r.drop (p.length + 1) = d := by
      rintro p d rfl
      simp
    obtain ⟨e1, e2⟩ := key _ _ (cut_text r h)
    simp only [Int.toNat_natCast, List.length_singleton]
    rw [e1, e2]
  · rw [if_neg h, Lib.cut, h2 h, if_neg (by decide)]

/-! ### A number of its bytes -/
theorem or_low (a c : Nat) (h : c < 256) : a * 256 ||| c = a * 256 + c := by
  have := Nat.shiftLeft_add_eq_or_of_lt (i := 8) (b := c) h a
  rw [Nat.shiftLeft_eq] at this
  exact this.symm
theorem or_step {T c : Nat} (hT : T < 72057594037927936) (h : c < 256) : bits BinOp.or IntKind.u64 ((T : Int) * 256) (c : Int) = ((T * 256 + c : Nat) : Int) := by
  have := bits_or_u64_nat (T * 256) c (by omega) (by omega)
  rw [or_low T c h] at this
  rw [← this]; congr 1
theorem turned_back {x : Nat} (h : x < 18446744073709551616) : IntKind.i64.wrap (bits BinOp.xor IntKind.u64 (x : Int) 9223372036854775808) = (x : Int) - 9223372036854775808 := by
  have e := bits_xor_u64_nat x 9223372036854775808 h (by decide)
  rw [xor_top h] at e
  have e' : bits BinOp.xor IntKind.u64 (x : Int) 9223372036854775808 = (((x + 9223372036854775808) % 18446744073709551616 : Nat) : Int) := e
  rw [e']
  rw [IntKind.wrap_i64]
  omega
theorem num8_snoc (l : List UInt8) (c : UInt8) : num8 (l ++ [c]) = num8 l * 256 + c.toNat := by simp [num8]
set_option maxHeartbeats 1000000 in
theorem number_ (s : ByteArray) (w : World) (hs : s.size = 8) :
    Calls Tryd.prog 23 #[.string s] w fun e w' => e = .returned (.int .i64 ((num8 s.data.toList : Int) - 9223372036854775808)) ∧ w' = w := by
  obtain ⟨R, hR⟩ : ∃ R : Int, R = (num8 s.data.toList : Int) - 9223372036854775808 := ⟨_, rfl⟩
  have HR := Lib.hid hR
  rw [← hR]
  clear hR
  go_enter Tryd.func23, Tryd.ntmps23
  go_wp2_with fail
  go_loopw [3, 7] (fun tv iv wr => ∃ (i T : Nat), i ≤ 8 ∧ iv = .int .i64 i ∧ tv = .int .u64 T ∧ Hid (T = num8 (s.data.toList.take i)) ∧ wr = w) (fun _ iv _ => 8 - (intOf iv).toNat)
  case atStart => exact ⟨0, 0, Nat.zero_le _, rfl, rfl, rfl, rfl⟩
  case round =>
    obtain ⟨i, T, hi, rfl, rfl, HT, rfl⟩ := hrel
    have hTl : T < 256 ^ i := by
      have := num8_lt (s.data.toList.take i)
      rw [← HT.out, List.length_take, ← size_list, hs, Nat.min_eq_left hi] at this
      exact this
    by_cases hlt : i < 8
    · have hlt2 : (i : Int) < 8 := by omega
      have his : i < s.size := by omega
      have hT56 : T < 72057594037927936 := Nat.lt_of_lt_of_le hTl (by show 256 ^ i ≤ 256 ^ 7; exact Nat.pow_le_pow_right (by decide) (by omega))
      have hc := s[i].toNat_lt
      have hor := or_step (T := T) (c := s[i].toNat) hT56 (by omega)
      have HT2 : Hid (T * 256 + s[i].toNat = num8 (s.data.toList.take (i + 1))) := by
        show _ = _
        rw [List.take_add_one, List.getElem?_eq_getElem (by rw [← size_list]; exact his)]
        show _ = num8 (s.data.toList.take i ++ [s[i]])
        rw [num8_snoc, ← HT.out]
      have hm : (T : Int) * 256 % 18446744073709551616 = (T : Int) * 256 := by omega
      clear HT hTl HR
      go_wp2_with fail
      go_roundw
      case rel => exact ⟨i + 1, T * 256 + s[i].toNat, by omega, by go_num, rfl, HT2, trivial⟩
      case measure => simp [intOf]; omega
    · obtain rfl : i = 8 := by omega
      have e1 : s.data.toList.take 8 = s.data.toList := List.take_of_length_le (by rw [← size_list, hs]; exact Nat.le_refl _)
      rw [e1] at HT
      have hTl2 : T < 18446744073709551616 := hTl
      have hback := turned_back hTl2
      rw [← HT.out] at HR
      clear HT hTl e1
      go_wp2_with fail
      go_ret
      exact ⟨ret_int HR.out.symm, rfl⟩
end Go.Proofs.YtonbecjankghaaaDoor
