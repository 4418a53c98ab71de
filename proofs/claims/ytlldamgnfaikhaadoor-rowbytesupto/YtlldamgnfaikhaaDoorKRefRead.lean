/- The walks of the document's Uint, Int, Text. -/
import Derived.Test.YtlldamgnfaikhaaDoorKRead
namespace Go.Proofs.YtlldamgnfaikhaaDoor
open Go.RowKit Go.Sort

/-- The number that bytes say, the lowest group first. -/
def num : List Nat → Nat
  | [] => 0
  | x :: xs => x % 128 + 128 * num xs
theorem num_append (xs ys : List Nat) : num (xs ++ ys) = num xs + 128 ^ xs.length * num ys := by
  induction xs with
  | nil => simp [num]
  | cons x xs ih =>
    simp only [List.cons_append, num, ih, List.length_cons, Nat.pow_succ]
    rw [Nat.mul_add, ← Nat.mul_assoc, Nat.mul_comm 128 (128 ^ xs.length), Nat.add_assoc]
theorem num_lt (xs : List Nat) : num xs < 128 ^ xs.length := by
  induction xs with
  | nil => simp [num]
  | cons x xs ih =>
    simp only [num, List.length_cons, Nat.pow_succ]
    omega
theorem take_snoc (xs : List Nat) (k : Nat) (h : k < xs.length) : xs.take (k + 1) = xs.take k ++ [xs.getD k 0] := by
  rw [List.take_succ_eq_append_getElem h, List.getD_eq_getElem?_getD, List.getElem?_eq_getElem h]
  rfl
theorem num_take (xs : List Nat) (k : Nat) (h : k < xs.length) : num (xs.take (k + 1)) = num (xs.take k) + 128 ^ k * (xs.getD k 0 % 128) := by
  rw [take_snoc xs k h, num_append, List.length_take, Nat.min_eq_left (by omega)]
  simp [num]
theorem drop_at (xs : List Nat) (k : Nat) (h : k < xs.length) : xs.drop k = xs.getD k 0 :: xs.drop (k + 1) := by
  rw [List.drop_eq_getElem_cons h, List.getD_eq_getElem?_getD, List.getElem?_eq_getElem h]
  rfl
/-- A byte more of the row. -/
theorem dec_step (xs : List Nat) (k : Nat) (h : k < xs.length) (hk : k < 10) (hy : 128 ≤ xs.getD k 0) (hb : xs.getD k 0 < 256) (R : Nat × Nat × Nat) (hR : R = dec (num (xs.take k)) k (xs.drop k)) : R = dec (num (xs.take (k + 1))) (k + 1) (xs.drop (k + 1)) := by
  rw [hR, drop_at xs k h, dec, if_neg (by omega), if_pos hy, num_take xs k h, Nat.mul_comm (128 ^ k), show xs.getD k 0 - 128 = xs.getD k 0 % 128 by omega]
/-- The row has ended. -/
theorem dec_stop (xs : List Nat) (k : Nat) (hk : k ≤ 10) (hl : k ≤ xs.length) (R : Nat × Nat × Nat) (hR : R = dec (num (xs.take k)) k (xs.drop k)) (hstop : k < xs.length → k < 10 → xs.getD k 0 < 128) :
    (k = 10 → R = (0, 0, 3)) ∧ (k ≠ 10 → k = xs.length → R = (0, 0, 12)) ∧ (k ≠ 10 → k < xs.length → ((k = 9 ∧ 1 < xs.getD k 0) ∨ (0 < k ∧ xs.getD k 0 = 0)) → R = (0, 0, 3)) ∧
      (k ≠ 10 → k < xs.length → ¬ ((k = 9 ∧ 1 < xs.getD k 0) ∨ (0 < k ∧ xs.getD k 0 = 0)) → R = (num (xs.take (k + 1)), k + 1, 0)) := by
  refine ⟨fun h => ?_, fun h1 h2 => ?_, fun h1 h2 h3 => ?_, fun h1 h2 h3 => ?_⟩
  · subst h
    rw [hR]
    cases List.drop 10 xs <;> rfl
  · rw [hR, List.drop_eq_nil_of_le (by omega), dec, if_neg h1]
  · have := hstop h2 (by omega)
    rw [hR, drop_at xs k h2, dec, if_neg h1, if_neg (by omega), if_pos (by omega)]
  · have := hstop h2 (by omega)
    rw [hR, drop_at xs k h2, dec, if_neg h1, if_neg (by omega), if_neg (by omega), num_take xs k h2, Nat.mul_comm (128 ^ k), Nat.mod_eq_of_lt (by omega)]
/-- From the highest group down. -/
theorem horner (xs : List Nat) (i : Nat) (N T : Nat) (h : i < xs.length) (hN : T = num (xs.take (i + 1)) + 128 ^ (i + 1) * N) : T = num (xs.take i) + 128 ^ i * (N * 128 + xs.getD i 0 % 128) := by
  rw [hN, num_take xs i h, Nat.pow_succ, Nat.mul_add, Nat.mul_assoc, Nat.mul_comm N 128]
  omega
set_option maxRecDepth 100000 in
set_option maxHeartbeats 2000000 in
theorem ruint_ (a : Option Addr) (xs : List Nat) (c : Nat) (w : World) (h : BytesIn w a xs) (hb : ∀ x ∈ xs, x < 256) (hlim : xs.length ≤ 9223372036854775807) :
    Calls Tryd.prog 37 #[.slice a xs.length c] w fun e w' => e = .returned (.tuple #[.int .u64 (rdU xs).1, .int .i64 (rdU xs).2.1, .int .i64 (rdU xs).2.2]) ∧ w' = w := by
  have hbk : ∀ k, k < xs.length → xs.getD k 0 < 256 := fun k hk => hb _ (by rw [List.getD_eq_getElem?_getD, List.getElem?_eq_getElem hk]; exact List.getElem_mem hk)
  have hRlt := (rdU_lt xs hb).1
  have HB := Lib.hid h
  have HA := Lib.hid hbk
  obtain ⟨R, hR⟩ : ∃ R, R = rdU xs := ⟨_, rfl⟩
  rw [← hR] at hRlt ⊢
  have HR : Hid (R = dec (num (xs.take 0)) 0 (xs.drop 0)) := hR
  clear h hb hbk hR
  generalize hL : xs.length = len at *
  have HLen := Lib.hid hL
  clear hL
  go_enter Tryd.func37, Tryd.ntmps37
  go_wp2_with fail
  go_loopw [5] (fun kv wr => ∃ (k : Nat), k ≤ 10 ∧ k ≤ len ∧ kv = .int .i64 k ∧ wr = w ∧ R = dec (num (xs.take k)) k (xs.drop k)) (fun kv _ => 10 - (intOf kv).toNat)
  case atStart => exact ⟨0, by omega, by omega, rfl, rfl, HR.out⟩
  case round =>
    obtain ⟨k, hk, hkl, rfl, rfl, hRk⟩ := hrel
    have HRk := Lib.hid hRk
    clear hRk
    by_cases hgo : k < len ∧ k < 10 ∧ 128 ≤ xs.getD k 0
    · obtain ⟨g1, g2, g3⟩ := hgo
      have hlt : k < xs.length := by rw [HLen.out]; exact g1
      have HN := Lib.hid (dec_step xs k hlt g2 g3 (HA.out k g1) R HRk.out)
      obtain ⟨b, o, rfl, hc⟩ := HB.out k hlt
      have hy := HA.out k g1
      generalize xs.getD k 0 = y at *
      have hki : (0 : Int) ≤ (k : Int) := by omega
      have hkl2 : (k : Int) < (len : Int) := by omega
      clear hlt HRk
      go_wp2_with fail
      go_roundw
      case rel => exact ⟨k + 1, by omega, by omega, by go_num, trivial, HN.out⟩
      case measure => simp [intOf]; omega
    · have hstop : k < xs.length → k < 10 → xs.getD k 0 < 128 := fun h1 h2 => by
        rw [HLen.out] at h1
        omega
      have hS := dec_stop xs k hk (by rw [HLen.out]; exact hkl) R HRk.out hstop
      rw [HLen.out] at hS hstop
      by_cases h10 : k = 10
      · subst h10
        obtain rfl := hS.1 rfl
        clear hS HRk HR hgo hstop
        by_cases h10l : (10 : Nat) < len
        · have hg0 : ((10 : Nat) : Int) < (len : Int) := by omega
          go_wp2_with fail
          go_ret3
          exact ⟨rfl, rfl⟩
        · have hg0 : (len : Int) = 10 := by omega
          obtain rfl : len = 10 := by omega
          go_wp2_with fail
          go_ret3
          exact ⟨rfl, rfl⟩
      · by_cases hkl2 : k = len
        · obtain rfl := hS.2.1 h10 hkl2
          clear hS HRk HR hgo hstop
          subst hkl2
          have hk10 : ((k : Int) == 10) = false := by rw [beq_eq_false_iff_ne]; omega
          go_wp2_with fail
          go_ret3
          exact ⟨rfl, rfl⟩
        · have hk1 : k < len := by omega
          have hk2 : k < 10 := by omega
          have hlt : k < xs.length := by rw [HLen.out]; exact hk1
          have hy := hstop hk1 hk2
          obtain ⟨b, o, rfl, hc⟩ := HB.out k hlt
          have hb3 := hS.2.2.1 h10 hk1
          have hb4 := hS.2.2.2 h10 hk1
          have H3 := Lib.hid hb3
          have H4 := Lib.hid hb4
          clear hb3 hb4 hS hstop hgo HRk HR
          obtain ⟨y, hyy⟩ : ∃ y, y = xs.getD k 0 := ⟨_, rfl⟩
          rw [← hyy] at hc hy H3 H4
          clear hyy
          have hk10 : ((k : Int) == 10) = false := by rw [beq_eq_false_iff_ne]; omega
          have hkln : ((k : Int) == (len : Int)) = false := by rw [beq_eq_false_iff_ne]; omega
          have hki : (0 : Int) ≤ (k : Int) := by omega
          have hkll : (k : Int) < (len : Int) := by omega
          by_cases hbad : (k = 9 ∧ 1 < y) ∨ (0 < k ∧ y = 0)
          · obtain rfl := H3.out hbad
            clear H3 H4
            by_cases h9 : k = 9
            · subst h9
              by_cases hy1 : 1 < y
              · have hd : (1 : Int) < (y : Int) := by omega
                go_wp2_with fail
                go_ret3
                exact ⟨rfl, rfl⟩
              · obtain rfl : y = 0 := by omega
                go_wp2_with fail
                go_ret3
                exact ⟨rfl, rfl⟩
            · obtain ⟨h0, rfl⟩ : 0 < k ∧ y = 0 := by omega
              have hk9 : ((k : Int) == 9) = false := by rw [beq_eq_false_iff_ne]; omega
              have hk0 : (0 : Int) < k := by omega
              go_wp2_with fail
              go_ret3
              exact ⟨rfl, rfl⟩
          · have hT := H4.out hbad
            have hT1 : R.1 = num (xs.take (k + 1)) := by rw [hT]
            have hR2 : R = (R.1, k + 1, 0) := by rw [hT]
            clear hT H3 H4
            generalize R.1 = T at *
            subst hR2
            have HT := Lib.hid hT1
            clear hT1
            by_cases h9 : k = 9
            · subst h9
              obtain rfl : y = 1 := by omega
              clear hbad h10 hkl2
              rename World => W1
              go_wp2_with fail
              go_loopw [6, 7] (fun nv iv wr' => ∃ (j N : Nat), nv = .int .u64 N ∧ iv = .int .i64 ((j : Int) - 1) ∧ wr' = W1 ∧ j ≤ 9 + 1 ∧ T = num (xs.take j) + 128 ^ j * N) (fun _ iv _ => (intOf iv + 1).toNat)
              case atStart => exact ⟨9 + 1, 0, rfl, by go_num, rfl, Nat.le_refl _, by rw [HT.out]; simp⟩
              case round =>
                obtain ⟨j, N, rfl, rfl, rfl, hj, hTN⟩ := hrel
                by_cases hj0 : j = 0
                · subst hj0
                  obtain rfl : T = N := by rw [hTN]; simp [num]
                  clear hTN HT
                  go_wp2_with fail
                  go_ret3
                  exact ⟨rfl, rfl⟩
                · obtain ⟨i, rfl⟩ : ∃ i, j = i + 1 := ⟨j - 1, by omega⟩
                  have hil : i < xs.length := by rw [HLen.out]; omega
                  have hT2 := horner xs i N T hil hTN
                  obtain ⟨b', o', hbo, hci⟩ := HB.out i hil
                  cases hbo
                  have hzi := HA.out i (by rw [HLen.out] at hil; exact hil)
                  have hle : N * 128 + xs.getD i 0 % 128 < 18446744073709551616 := by
                    have h1 : 1 * (N * 128 + xs.getD i 0 % 128) ≤ 128 ^ i * (N * 128 + xs.getD i 0 % 128) := Nat.mul_le_mul_right _ (Nat.pow_pos (by decide))
                    omega
                  have hilen : (i : Int) < len := by rw [HLen.out] at hil; omega
                  have hi0 : (0 : Int) ≤ (i : Int) := by omega
                  have e : (((i + 1 : Nat) : Int) - 1) = (i : Int) := by omega
                  rw [e]
                  have H2 := Lib.hid hT2
                  generalize xs.getD i 0 = z at *
                  clear hTN hT2 hil e HT
                  go_wp2_with fail
                  go_roundw
                  case rel => exact ⟨i, N * 128 + z % 128, by go_num, rfl, trivial, by omega, H2.out⟩
                  case measure => first | (simp [intOf]; done) | (simp [intOf]; omega)
            · have hk9 : ((k : Int) == 9) = false := by rw [beq_eq_false_iff_ne]; omega
              by_cases h0 : k = 0
              · subst h0
                clear hbad h10 h9 hkl2
                rw [Nat.add_zero] at hc
                rename World => W1
                go_wp2_with fail
                go_loopw [6, 7] (fun nv iv wr' => ∃ (j N : Nat), nv = .int .u64 N ∧ iv = .int .i64 ((j : Int) - 1) ∧ wr' = W1 ∧ j ≤ 0 + 1 ∧ T = num (xs.take j) + 128 ^ j * N) (fun _ iv _ => (intOf iv + 1).toNat)
                case atStart => exact ⟨0 + 1, 0, rfl, by go_num, rfl, Nat.le_refl _, by rw [HT.out]; simp⟩
                case round =>
                  obtain ⟨j, N, rfl, rfl, rfl, hj, hTN⟩ := hrel
                  by_cases hj0 : j = 0
                  · subst hj0
                    obtain rfl : T = N := by rw [hTN]; simp [num]
                    clear hTN HT
                    go_wp2_with fail
                    go_ret3
                    exact ⟨rfl, rfl⟩
                  · obtain ⟨i, rfl⟩ : ∃ i, j = i + 1 := ⟨j - 1, by omega⟩
                    have hil : i < xs.length := by rw [HLen.out]; omega
                    have hT2 := horner xs i N T hil hTN
                    obtain ⟨b', o', hbo, hci⟩ := HB.out i hil
                    cases hbo
                    have hzi := HA.out i (by rw [HLen.out] at hil; exact hil)
                    have hle : N * 128 + xs.getD i 0 % 128 < 18446744073709551616 := by
                      have h1 : 1 * (N * 128 + xs.getD i 0 % 128) ≤ 128 ^ i * (N * 128 + xs.getD i 0 % 128) := Nat.mul_le_mul_right _ (Nat.pow_pos (by decide))
                      omega
                    have hilen : (i : Int) < len := by rw [HLen.out] at hil; omega
                    have hi0 : (0 : Int) ≤ (i : Int) := by omega
                    have e : (((i + 1 : Nat) : Int) - 1) = (i : Int) := by omega
                    rw [e]
                    have H2 := Lib.hid hT2
                    generalize xs.getD i 0 = z at *
                    clear hTN hT2 hil e HT
                    go_wp2_with fail
                    go_roundw
                    case rel => exact ⟨i, N * 128 + z % 128, by go_num, rfl, trivial, by omega, H2.out⟩
                    case measure => first | (simp [intOf]; done) | (simp [intOf]; omega)
              · have hy0 : ((y : Int) == 0) = false := by rw [beq_eq_false_iff_ne]; omega
                have hk0 : (0 : Int) < k := by omega
                clear hbad
                rename World => W1
                go_wp2_with fail
                go_loopw [6, 7] (fun nv iv wr' => ∃ (j N : Nat), nv = .int .u64 N ∧ iv = .int .i64 ((j : Int) - 1) ∧ wr' = W1 ∧ j ≤ k + 1 ∧ T = num (xs.take j) + 128 ^ j * N) (fun _ iv _ => (intOf iv + 1).toNat)
                case atStart => exact ⟨k + 1, 0, rfl, by go_num, rfl, Nat.le_refl _, by rw [HT.out]; simp⟩
                case round =>
                  obtain ⟨j, N, rfl, rfl, rfl, hj, hTN⟩ := hrel
                  by_cases hj0 : j = 0
                  · subst hj0
                    obtain rfl : T = N := by rw [hTN]; simp [num]
                    clear hTN HT
                    go_wp2_with fail
                    go_ret3
                    exact ⟨rfl, rfl⟩
                  · obtain ⟨i, rfl⟩ : ∃ i, j = i + 1 := ⟨j - 1, by omega⟩
                    have hil : i < xs.length := by rw [HLen.out]; omega
                    have hT2 := horner xs i N T hil hTN
                    obtain ⟨b', o', hbo, hci⟩ := HB.out i hil
                    cases hbo
                    have hzi := HA.out i (by rw [HLen.out] at hil; exact hil)
                    have hle : N * 128 + xs.getD i 0 % 128 < 18446744073709551616 := by
                      have h1 : 1 * (N * 128 + xs.getD i 0 % 128) ≤ 128 ^ i * (N * 128 + xs.getD i 0 % 128) := Nat.mul_le_mul_right _ (Nat.pow_pos (by decide))
                      omega
                    have hilen : (i : Int) < len := by rw [HLen.out] at hil; omega
                    have hi0 : (0 : Int) ≤ (i : Int) := by omega
                    have e : (((i + 1 : Nat) : Int) - 1) = (i : Int) := by omega
                    rw [e]
                    have H2 := Lib.hid hT2
                    generalize xs.getD i 0 = z at *
                    clear hTN hT2 hil e HT
                    go_wp2_with fail
                    go_roundw
                    case rel => exact ⟨i, N * 128 + z % 128, by go_num, rfl, trivial, by omega, H2.out⟩
                    case measure => first | (simp [intOf]; done) | (simp [intOf]; omega)
end Go.Proofs.YtlldamgnfaikhaaDoor
