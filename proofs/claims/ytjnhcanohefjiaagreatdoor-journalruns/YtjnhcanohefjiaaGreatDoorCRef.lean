/- The walk of the document's Update. -/
import Derived.Test.YtjnhcanohefjiaaGreatDoorCUpd
namespace Go.Proofs.YtjnhcanohefjiaaGreatDoor
open Go.RowKit Go.Sort

set_option maxRecDepth 100000 in
set_option maxHeartbeats 1000000 in
theorem rupd_ (n : Nat) (a : Option Addr) (xs : List Nat) (c : Nat) (w : World) (h : BytesIn w a xs) (hx : ∀ x ∈ xs, x < 256) (hn : n < 4294967296) (hlim : xs.length ≤ 281474976710656) :
    Calls Tryz.prog 95 #[.int .u32 n, .slice a xs.length c] w fun e w' => e = .returned (.int .u32 (sm n xs : Nat)) ∧ w' = w := by
  have HB := Lib.hid h
  have Hx := Lib.hid hx
  have HR : Hid (∀ y : Nat, y < 4294967296 → Calls Tryz.prog 103 #[.int .u32 y] w fun e w' => e = .returned (.int .u32 (dvs 8 y : Nat)) ∧ w' = w) := fun y hy => rrem_ y w hy
  clear h hx
  have hnn : 4294967295 - (n : Int) = ((4294967295 - n : Nat) : Int) := by omega
  obtain ⟨m, hm⟩ : ∃ m, m = 4294967295 - n := ⟨_, rfl⟩
  rw [← hm] at hnn
  have hm32 : m < 4294967296 := by omega
  have HM := Lib.hid hm
  clear hm
  go_enter Tryz.func95, Tryz.ntmps95
  go_wp2_with fail
  clear hnn
  go_loopw [5, 6] (fun xv iv wr => ∃ i x : Nat, iv = .int .i64 i ∧ xv = .int .u32 x ∧ Hid (x = upd m (xs.take i)) ∧ x < 4294967296 ∧ i ≤ xs.length ∧ wr = w) (fun _ iv _ => (xs.length - intOf iv).toNat)
  case atStart => exact ⟨0, m, rfl, rfl, Lib.hid rfl, hm32, Nat.zero_le _, rfl⟩
  case round =>
    obtain ⟨i, x, rfl, rfl, hux, hx32, hi, rfl⟩ := hrel
    by_cases hil : i = xs.length
    · have hge : decide (i < xs.length) = false := decide_eq_false (by omega)
      have hn2 : 4294967295 - (x : Int) = ((4294967295 - x : Nat) : Int) := by omega
      have HI := Lib.hid hil
      clear hil
      go_wp2_with fail
      go_ret
      refine ⟨ret_int ?_, rfl⟩
      unfold sm
      rw [← HM.out, hux.out, HI.out, List.take_length]
    · have hlt : decide (i < xs.length) = true := decide_eq_true (by omega)
      obtain ⟨b0, o0, rfl, hc⟩ := HB.out i (by omega)
      have hu := upd_snoc m xs i (by omega)
      have hy := byte_at Hx.out i
      rw [← hux.out] at hu
      generalize xs.getD i 0 = y at *
      have hxx := xor_ x y hx32 (by omega)
      have hxy : x ^^^ y < 4294967296 := Nat.xor_lt_two_pow (n := 32) hx32 (by omega)
      have H8 := Lib.hid (HR.out (x ^^^ y) hxy)
      rw [← hu] at H8
      have hx' : upd m (xs.take (i + 1)) < 4294967296 := by rw [hu]; exact dvs_lt 8 _ hxy
      obtain ⟨x', hxe⟩ : ∃ x', x' = upd m (xs.take (i + 1)) := ⟨_, rfl⟩
      rw [← hxe] at H8 hx'
      have HXE := Lib.hid hxe
      clear hxe hu hux
      generalize x ^^^ y = xy at *
      go_wp2_with fail
      refine H8.out.mono ?_
      rintro e w1 ⟨rfl, rfl⟩
      go_wp2_with fail
      go_roundw
      case rel => exact ⟨i + 1, x', by go_num, rfl, HXE, hx', by omega, trivial⟩
      case measure => simp [intOf]; omega
end Go.Proofs.YtjnhcanohefjiaaGreatDoor
