/- The walks of a line's methods that only look: Len, compare, Less. -/
import Derived.Test.YtnkdhipeklphaaaDoorHMem
import Derived.Shelf.SlicesG.Cmp
import Derived.Sort.Grow
import Derived.Deep.RegionHeld
import Derived.Deep.RegionHeld3
namespace Go.Proofs.YtnkdhipeklphaaaDoor
open Go.RowKit Go.Sort

theorem nanInt_ (x : Int) (w : World) : Calls Tryd.prog 56 #[.int .i64 x] w fun e w' => e = .returned (.bool false) ∧ w' = w := by
  go_enter Tryd.func56, Tryd.ntmps56
  go_wp2_with fail
  go_ret
  exact ⟨rfl, rfl⟩
theorem nanStr_ (s : ByteArray) (w : World) : Calls Tryd.prog 57 #[.string s] w fun e w' => e = .returned (.bool false) ∧ w' = w := by
  go_enter Tryd.func57, Tryd.ntmps57
  go_wp2_with fail
  go_ret
  exact ⟨rfl, rfl⟩
theorem toList_inj {s t : ByteArray} (h : s.toList = t.toList) : s = t := by
  have e : s.data.toList = t.data.toList := by rw [Lib.toList_data, Lib.toList_data] at h; exact h
  obtain ⟨⟨l⟩⟩ := s; obtain ⟨⟨m⟩⟩ := t
  simp at e; rw [e]
/-- Values that may be and are not told apart are the same. -/
theorem cmpStr_ (s t : ByteArray) (w : World) : Calls Tryd.prog 42 #[.string s, .string t] w fun e w' => e = .returned (.int .i64 (cmpT s.toList t.toList)) ∧ w' = w := by
  by_cases h1 : Op.bytesLess s.toList t.toList = true
  · go_enter Tryd.func42, Tryd.ntmps42
    go_wp2_with (go_at_call 57; refine (nanStr_ _ _).mono ?_; rintro e w' ⟨rfl, rfl⟩)
    go_ret
    exact ⟨ret_int (by rw [cmpT, if_pos h1]), rfl⟩
  · have h1' : Op.bytesLess s.toList t.toList = false := by simpa using h1
    by_cases h2 : s.toList = t.toList
    · obtain rfl := toList_inj h2
      have h2' : (s.toList == s.toList) = true := by simp
      go_enter Tryd.func42, Tryd.ntmps42
      go_wp2_with (go_at_call 57; refine (nanStr_ _ _).mono ?_; rintro e w' ⟨rfl, rfl⟩)
      go_ret
      exact ⟨ret_int (by rw [cmpT, if_neg h1, h1', h2']; rfl), rfl⟩
    · have h2' : (s.toList == t.toList) = false := by simpa using h2
      go_enter Tryd.func42, Tryd.ntmps42
      go_wp2_with (go_at_call 57; refine (nanStr_ _ _).mono ?_; rintro e w' ⟨rfl, rfl⟩)
      go_ret
      exact ⟨ret_int (by rw [cmpT, if_neg h1, h1', h2']; rfl), rfl⟩
theorem cmpInt_ (x y : Int) (w : World) : Calls Tryd.prog 41 #[.int .i64 x, .int .i64 y] w fun e w' => e = .returned (.int .i64 (Lib.compareInt x y)) ∧ w' = w := by
  rcases cmpI_cases x y with ⟨h1, h2⟩ | ⟨h1, h2⟩ | ⟨h1, h2⟩
  · rw [h1]
    go_enter Tryd.func41, Tryd.ntmps41
    go_wp2_with (go_at_call 56; refine (nanInt_ _ _).mono ?_; rintro e w' ⟨rfl, rfl⟩)
    go_ret
    exact ⟨rfl, rfl⟩
  · rw [h1]
    subst h2
    go_enter Tryd.func41, Tryd.ntmps41
    go_wp2_with (go_at_call 56; refine (nanInt_ _ _).mono ?_; rintro e w' ⟨rfl, rfl⟩)
    go_ret
    exact ⟨rfl, rfl⟩
  · rw [h1]
    have h3 : ¬ x < y := by omega
    go_enter Tryd.func41, Tryd.ntmps41
    go_wp2_with (go_at_call 56; refine (nanInt_ _ _).mono ?_; rintro e w' ⟨rfl, rfl⟩)
    go_ret
    exact ⟨rfl, rfl⟩
theorem len_ (a : Option Addr) (n c : Nat) (w : World) : Calls Tryd.prog 82 #[.slice a n c] w fun e w' => e = .returned (.int .i64 n) ∧ w' = w := by
  go_enter Tryd.func82, Tryd.ntmps82
  go_wp2
  go_ret
  exact ⟨rfl, rfl⟩
set_option maxHeartbeats 1000000 in
theorem or_ (B : Nat) (x y z r : Int) (w : World) (h0 : w.cell? ⟨B, 0, none⟩ = some (.int .i64 x)) (h1 : w.cell? ⟨B, 1, none⟩ = some (.int .i64 y)) (h2 : w.cell? ⟨B, 2, none⟩ = some (.int .i64 z)) (HR : Hid (r = if x = 0 then (if y = 0 then z else y) else x)) :
    Calls Tryd.prog 40 #[.slice (some ⟨B, 0, none⟩) 3 3] w fun e w' => e = .returned (.int .i64 r) ∧ w' = w := by
  go_enter Tryd.func40, Tryd.ntmps40
  go_wp2
  go_loopw [8] (fun iv wy => ∃ i : Nat, i ≤ 3 ∧ iv = .int .i64 i ∧ wy = w ∧ Hid ((0 < i → x = 0) ∧ (1 < i → y = 0) ∧ (2 < i → z = 0))) (fun iv _ => 3 - (intOf iv).toNat)
  case atStart => exact ⟨0, by omega, rfl, rfl, ⟨fun h => by omega, fun h => by omega, fun h => by omega⟩⟩
  case round =>
    obtain ⟨i, hi, rfl, rfl, H⟩ := hrel
    rcases (by omega : i = 0 ∨ i = 1 ∨ i = 2 ∨ i = 3) with rfl | rfl | rfl | rfl
    · by_cases hx : x = 0
      · have HX := Lib.hid hx
        have hx' : (x != 0) = false := by simp [hx]
        clear hx
        have HREL : Hid (Hid ((0 < 1 → x = 0) ∧ (1 < 1 → y = 0) ∧ (2 < 1 → z = 0))) := ⟨fun _ => HX.out, fun h => by omega, fun h => by omega⟩
        go_wp2_with fail
        go_roundw
        case rel => exact ⟨1, by omega, by go_num, trivial, HREL.out⟩
        case measure => simp [intOf]
      · have hx' : (x != 0) = true := by simp [hx]
        have HN : Hid (r = x) := by
          show r = x
          rw [HR.out, if_neg hx]
        clear hx
        go_wp2_with fail
        go_ret
        exact ⟨ret_int HN.out.symm, rfl⟩
    · by_cases hx : y = 0
      · have HX := Lib.hid hx
        have hx' : (y != 0) = false := by simp [hx]
        clear hx
        have HREL : Hid (Hid ((0 < 2 → x = 0) ∧ (1 < 2 → y = 0) ∧ (2 < 2 → z = 0))) := ⟨fun _ => H.out.1 (by omega), fun _ => HX.out, fun h => by omega⟩
        go_wp2_with fail
        go_roundw
        case rel => exact ⟨2, by omega, by go_num, trivial, HREL.out⟩
        case measure => simp [intOf]
      · have hx' : (y != 0) = true := by simp [hx]
        have HN : Hid (r = y) := by
          show r = y
          rw [HR.out, if_pos (H.out.1 (by omega)), if_neg hx]
        clear hx
        go_wp2_with fail
        go_ret
        exact ⟨ret_int HN.out.symm, rfl⟩
    · by_cases hx : z = 0
      · have HX := Lib.hid hx
        have hx' : (z != 0) = false := by simp [hx]
        clear hx
        have HREL : Hid (Hid ((0 < 3 → x = 0) ∧ (1 < 3 → y = 0) ∧ (2 < 3 → z = 0))) := ⟨fun _ => H.out.1 (by omega), fun _ => H.out.2.1 (by omega), fun _ => HX.out⟩
        go_wp2_with fail
        go_roundw
        case rel => exact ⟨3, by omega, by go_num, trivial, HREL.out⟩
        case measure => simp [intOf]
      · have hx' : (z != 0) = true := by simp [hx]
        have HN : Hid (r = z) := by
          show r = z
          rw [HR.out, if_pos (H.out.1 (by omega)), if_pos (H.out.2.1 (by omega))]
        clear hx
        go_wp2_with fail
        go_ret
        exact ⟨ret_int HN.out.symm, rfl⟩
    · have HN : Hid (r = 0) := by
        show r = 0
        rw [HR.out, if_pos (H.out.1 (by omega)), if_pos (H.out.2.1 (by omega)), H.out.2.2 (by omega)]
      go_wp2_with fail
      go_ret
      exact ⟨ret_int HN.out.symm, rfl⟩
end Go.Proofs.YtnkdhipeklphaaaDoor
