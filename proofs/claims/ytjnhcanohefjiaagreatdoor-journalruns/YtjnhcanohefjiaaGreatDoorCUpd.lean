/- The walks of crc.Update and crc.Sum. -/
import Derived.Test.YtjnhcanohefjiaaGreatDoorCTab
namespace Go.Proofs.YtjnhcanohefjiaaGreatDoor
open Go.RowKit Go.Sort

theorem not32 (n : Nat) (h : n < 4294967296) : bits .xor .u32 IntKind.u32.max (n : Int) = ((4294967295 - n : Nat) : Int) := by
  rw [turned n h]
  exact u32_xor_nat 4294967295 n (by decide) h
theorem low8 (x y : Nat) (hy : y < 256) : bits .xor .u8 ((x : Int) % 256) (y : Int) = ((x % 256 ^^^ y : Nat) : Int) := u8_xor_nat (x % 256) y (Nat.mod_lt _ (by decide)) hy
theorem high8 (x y : Nat) (hx : x < 4294967296) (hy : y < 4294967296) : bits .xor .u32 ((x : Int) / 256) (y : Int) = ((x / 256 ^^^ y : Nat) : Int) := u32_xor_nat (x / 256) y (by omega) hy
theorem upd_snoc (x : Nat) (xs : List Nat) (i : Nat) (h : i < xs.length) : upd x (xs.take (i + 1)) = dvs 8 (upd x (xs.take i) ^^^ xs.getD i 0) := by
  rw [List.take_add_one, List.getElem?_eq_getElem h, Option.toList, upd_append]
  simp [upd, List.getD_eq_getElem?_getD, List.getElem?_eq_getElem h]
theorem byte_at {xs : List Nat} (hx : ∀ x ∈ xs, x < 256) (i : Nat) : xs.getD i 0 < 256 := by
  rw [List.getD_eq_getElem?_getD]
  by_cases h : i < xs.length
  · rw [List.getElem?_eq_getElem h]
    exact hx _ (List.getElem_mem h)
  · rw [List.getElem?_eq_none (by omega)]
    decide
set_option maxRecDepth 100000 in
set_option maxHeartbeats 1000000 in
theorem upd_ (n : Nat) (a : Option Addr) (xs : List Nat) (c : Nat) (w : World) (h : BytesIn w a xs) (hx : ∀ x ∈ xs, x < 256) (hn : n < 4294967296) (hlim : xs.length ≤ 281474976710656) :
    Calls Tryz.prog 113 #[.int .u32 n, .slice a xs.length c] w fun e w' => e = .returned (.int .u32 (sm n xs : Nat)) ∧ Below w.heap.size w w' := by
  have hz := (zero_of_info infoT).1
  have hsz := Lib.hid (zero_of_info infoT).2
  have HT := Lib.hid tab_
  have HB := Lib.hid h
  have Hx := Lib.hid hx
  clear h hx
  go_enter Tryz.func113, Tryz.ntmps113
  go_wp2_with fail
  refine (HT.out w).mono ?_
  rintro e w1 ⟨rfl, hb1⟩
  have Hb1 := Lib.hid hb1
  clear hb1 HT
  have HS : Hid ((Instr.storeAt 200 (.pointer (some ⟨w1.heap.size, 0, none⟩)) (.agg (tabTo 256))).run Tryz.prog (w1.alloc (.cells (Array.replicate 256 (.int .u32 0)) 200)) = .ok () (w1.alloc (.cells (tabTo 256) 200))) := Lib.hid (run_storeAt_new w1 200 _ (tabTo 256) (by rw [tabTo_size]; exact hsz.out) (by rw [tabTo_size, Array.size_replicate]) (tabTo_all 256))
  go_wp2_with (first | (refine wpList_store_at rfl 200 _ _ rfl _ _ rfl rfl HS.out ?_) | fail)
  obtain ⟨W, hW⟩ : ∃ W, W = w1.alloc (.cells (tabTo 256) 200) := ⟨_, rfl⟩
  have HW : Hid (Below w.heap.size w W) := Lib.hid (by rw [hW]; exact Hb1.out.alloc Hb1.out.size _)
  have HK : Hid (∀ k : Nat, k < 256 → W.cell? ⟨w1.heap.size, k, none⟩ = some (.int .u32 (dvs 8 k : Nat))) := Lib.hid fun k hk => by
    rw [hW, tab_cell w1 256 k hk, if_pos hk]
  have HB1 := Lib.hid (HB.out.on HW.out)
  rw [← hW]
  clear hW HS hsz hz Hb1 HB
  have hnn := not32 n hn
  obtain ⟨m, hm⟩ : ∃ m, m = 4294967295 - n := ⟨_, rfl⟩
  rw [← hm] at hnn
  have hm32 : m < 4294967296 := by omega
  have HM := Lib.hid hm
  clear hm
  generalize w1.heap.size = gk at *
  generalize tabTo 256 = T at *
  rw [hnn]
  clear hnn
  go_loopw [6, 14] (fun xv iv wr => ∃ i x : Nat, iv = .int .i64 i ∧ xv = .int .u32 x ∧ Hid (x = upd m (xs.take i)) ∧ x < 4294967296 ∧ i ≤ xs.length ∧ wr = W) (fun _ iv _ => (xs.length - intOf iv).toNat)
  case atStart => exact ⟨0, m, rfl, rfl, Lib.hid rfl, hm32, Nat.zero_le _, rfl⟩
  case round =>
    obtain ⟨i, x, rfl, rfl, hux, hx32, hi, rfl⟩ := hrel
    by_cases hil : i = xs.length
    · have hge : decide (i < xs.length) = false := decide_eq_false (by omega)
      have hn2 := not32 x hx32
      have HI := Lib.hid hil
      clear hil
      go_wp2_with fail
      go_ret
      refine ⟨ret_int ?_, HW.out⟩
      unfold sm
      rw [← HM.out, hux.out, HI.out, List.take_length]
    · have hlt : decide (i < xs.length) = true := decide_eq_true (by omega)
      obtain ⟨b0, o0, rfl, hc⟩ := HB1.out i (by omega)
      have hu := upd_snoc m xs i (by omega)
      have hy := byte_at Hx.out i
      rw [← hux.out] at hu
      generalize xs.getD i 0 = y at *
      have h8 := low8 x y hy
      have hst := step_tab x y
      have hk256 : x % 256 ^^^ y < 256 := Nat.xor_lt_two_pow (n := 8) (Nat.mod_lt _ (by decide)) hy
      generalize x % 256 ^^^ y = k at *
      have hck := HK.out k hk256
      have hxx := high8 x (dvs 8 k) hx32 (dvs_lt 8 k (by omega))
      rw [← hst, ← hu] at hxx
      have hx' : upd m (xs.take (i + 1)) < 4294967296 := by rw [hu, hst]; exact Nat.xor_lt_two_pow (n := 32) (by omega) (dvs_lt 8 k (by omega))
      obtain ⟨x', hxe⟩ : ∃ x', x' = upd m (xs.take (i + 1)) := ⟨_, rfl⟩
      rw [← hxe] at hxx hx'
      have HXE := Lib.hid hxe
      clear hxe hu hst hux
      go_wp2_with fail
      go_roundw
      case rel => exact ⟨i + 1, x', by go_num, rfl, HXE, hx', by omega, trivial⟩
      case measure => simp [intOf]; omega
theorem sum_ (a : Option Addr) (xs : List Nat) (c : Nat) (w : World) (h : BytesIn w a xs) (hx : ∀ x ∈ xs, x < 256) (hlim : xs.length ≤ 281474976710656) :
    Calls Tryz.prog 100 #[.slice a xs.length c] w fun e w' => e = .returned (.int .u32 (sm 0 xs : Nat)) ∧ Below w.heap.size w w' := by
  have H := Lib.hid (upd_ 0 a xs c w h hx (by decide) hlim)
  clear h hx
  go_enter Tryz.func100, Tryz.ntmps100
  go_wp2_with fail
  refine H.out.mono ?_
  rintro e w1 ⟨rfl, hb⟩
  have Hb := Lib.hid hb
  clear hb H
  go_wp2_with fail
  go_ret
  exact ⟨rfl, Hb.out⟩
end Go.Proofs.YtjnhcanohefjiaaGreatDoor
