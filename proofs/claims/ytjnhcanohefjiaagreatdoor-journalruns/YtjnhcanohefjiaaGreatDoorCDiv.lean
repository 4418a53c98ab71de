/- The walks of crc.divide, crc.Remainder, and of the document's. -/
import Derived.Test.YtjnhcanohefjiaaGreatDoorTMem
namespace Go.Proofs.YtjnhcanohefjiaaGreatDoor
open Go.RowKit Go.Sort

theorem odd_ (x : Nat) (h : x < 4294967296) : bits .and .u32 (x : Int) 1 = ((x % 2 : Nat) : Int) := by
  have := u32_and_nat x 1 h (by decide)
  rw [nat_mask1] at this
  exact this
theorem xor_ (x y : Nat) (h : x < 4294967296) (h2 : y < 4294967296) : bits .xor .u32 (x : Int) (y : Int) = ((x ^^^ y : Nat) : Int) := u32_xor_nat x y h h2
theorem xord (x : Nat) (h : x < 4294967296) : bits .xor .u32 ((x : Int) / 2) 3988292384 = ((x / 2 ^^^ 3988292384 : Nat) : Int) := u32_xor_nat (x / 2) 3988292384 (by omega) (by decide)
theorem dv_odd {x : Nat} (h : x % 2 = 1) : dv x = x / 2 ^^^ 3988292384 := if_pos h
theorem dv_even {x : Nat} (h : ¬ x % 2 = 1) : dv x = x / 2 := if_neg h
set_option maxHeartbeats 400000 in
theorem divide_ (x : Nat) (w : World) (h : x < 4294967296) :
    Calls Tryz.prog 125 #[.int .u32 x] w fun e w' => e = .returned (.int .u32 (dv x : Nat)) ∧ w' = w := by
  have h1 := odd_ x h
  have h2 := xord x h
  by_cases hx : x % 2 = 1
  · rw [dv_odd hx]
    have hb : (((x : Int) % 2) == 1) = true := beq_iff_eq.2 (by omega)
    clear hx
    go_enter Tryz.func125, Tryz.ntmps125
    go_wp2_with fail
    go_ret
    exact ⟨rfl, rfl⟩
  · rw [dv_even hx]
    have hb : (((x : Int) % 2) == 1) = false := beq_eq_false_iff_ne.2 (by omega)
    clear hx
    go_enter Tryz.func125, Tryz.ntmps125
    go_wp2_with fail
    go_ret
    exact ⟨rfl, rfl⟩
set_option maxHeartbeats 400000 in
theorem rdivide_ (x : Nat) (w : World) (h : x < 4294967296) :
    Calls Tryz.prog 116 #[.int .u32 x] w fun e w' => e = .returned (.int .u32 (dv x : Nat)) ∧ w' = w := by
  have h2 := xord x h
  by_cases hx : x % 2 = 1
  · rw [dv_odd hx]
    have hb : (((x : Int) % 2) == 1) = true := beq_iff_eq.2 (by omega)
    clear hx
    go_enter Tryz.func116, Tryz.ntmps116
    go_wp2_with fail
    go_ret
    exact ⟨rfl, rfl⟩
  · rw [dv_even hx]
    have hb : (((x : Int) % 2) == 1) = false := beq_eq_false_iff_ne.2 (by omega)
    clear hx
    go_enter Tryz.func116, Tryz.ntmps116
    go_wp2_with fail
    go_ret
    exact ⟨rfl, rfl⟩
theorem dvs_snoc (k x : Nat) : dvs (k + 1) x = dv (dvs k x) := by rw [dvs_add k 1 x]; rfl
set_option maxHeartbeats 400000 in
theorem rem_ (x : Nat) (w : World) (h : x < 256) :
    Calls Tryz.prog 124 #[.int .u8 x] w fun e w' => e = .returned (.int .u32 (dvs 8 x : Nat)) ∧ w' = w := by
  have HD : Hid (∀ y : Nat, y < 4294967296 → Calls Tryz.prog 125 #[.int .u32 y] w fun e w' => e = .returned (.int .u32 (dv y : Nat)) ∧ w' = w) := fun y hy => divide_ y w hy
  go_enter Tryz.func124, Tryz.ntmps124
  go_wp2_with fail
  go_loopw [3, 6] (fun nv iv wr => ∃ i y : Nat, iv = .int .i64 i ∧ nv = .int .u32 y ∧ Hid (y = dvs i x) ∧ i ≤ 8 ∧ wr = w) (fun _ iv _ => (8 - intOf iv).toNat)
  case atStart => exact ⟨0, x, rfl, rfl, Lib.hid rfl, by decide, rfl⟩
  case round =>
    obtain ⟨i, y, rfl, rfl, hy, hi, rfl⟩ := hrel
    have hy32 : y < 4294967296 := by rw [hy.out]; exact dvs_lt i x (by omega)
    by_cases h8 : i = 8
    · have hge : decide ((i : Int) < 8) = false := decide_eq_false (by omega)
      have H8 := Lib.hid h8
      clear h8
      go_wp2_with fail
      go_ret
      exact ⟨ret_int (by rw [hy.out, H8.out]), rfl⟩
    · have hlt : decide ((i : Int) < 8) = true := decide_eq_true (by omega)
      go_wp2_with fail
      refine (HD.out y hy32).mono ?_
      rintro e w1 ⟨rfl, rfl⟩
      go_wp2_with fail
      go_roundw
      case rel => exact ⟨i + 1, dv y, by go_num, rfl, Lib.hid (by rw [dvs_snoc, hy.out]), by omega, trivial⟩
      case measure => simp [intOf]; omega
set_option maxHeartbeats 400000 in
theorem rrem_ (x : Nat) (w : World) (h : x < 4294967296) :
    Calls Tryz.prog 103 #[.int .u32 x] w fun e w' => e = .returned (.int .u32 (dvs 8 x : Nat)) ∧ w' = w := by
  have HD : Hid (∀ y : Nat, y < 4294967296 → Calls Tryz.prog 116 #[.int .u32 y] w fun e w' => e = .returned (.int .u32 (dv y : Nat)) ∧ w' = w) := fun y hy => rdivide_ y w hy
  go_enter Tryz.func103, Tryz.ntmps103
  go_wp2_with fail
  go_loopw [0, 3] (fun nv iv wr => ∃ i y : Nat, iv = .int .i64 i ∧ nv = .int .u32 y ∧ Hid (y = dvs i x) ∧ i ≤ 8 ∧ wr = w) (fun _ iv _ => (8 - intOf iv).toNat)
  case atStart => exact ⟨0, x, rfl, rfl, Lib.hid rfl, by decide, rfl⟩
  case round =>
    obtain ⟨i, y, rfl, rfl, hy, hi, rfl⟩ := hrel
    have hy32 : y < 4294967296 := by rw [hy.out]; exact dvs_lt i x (by omega)
    by_cases h8 : i = 8
    · have hge : decide ((i : Int) < 8) = false := decide_eq_false (by omega)
      have H8 := Lib.hid h8
      clear h8
      go_wp2_with fail
      go_ret
      exact ⟨ret_int (by rw [hy.out, H8.out]), rfl⟩
    · have hlt : decide ((i : Int) < 8) = true := decide_eq_true (by omega)
      go_wp2_with fail
      refine (HD.out y hy32).mono ?_
      rintro e w1 ⟨rfl, rfl⟩
      go_wp2_with fail
      go_roundw
      case rel => exact ⟨i + 1, dv y, by go_num, rfl, Lib.hid (by rw [dvs_snoc, hy.out]), by omega, trivial⟩
      case measure => simp [intOf]; omega
end Go.Proofs.YtjnhcanohefjiaaGreatDoor
