/- The walk of table's Name. -/
import Derived.Test.YtlgnllnjhpihdaaDoorTbName
namespace Go.Proofs.YtlgnllnjhpihdaaDoor
open Go.RowKit Go.Sort

theorem lst_at (s : ByteArray) (i : Nat) (h : i < s.size) : (lst s)[i]'(by rw [← size_lst]; exact h) = s[i] := rfl
theorem all_ok {s : ByteArray} (h : ∀ j (hj : j < s.size), okB s[j] = true) : (lst s).all okB = true := by
  rw [List.all_eq_true]
  intro x hx
  obtain ⟨j, hj, rfl⟩ := List.getElem_of_mem hx
  exact h j (by rw [size_lst]; exact hj)
theorem head_at {s : ByteArray} (h : 0 < s.size) : headOk (lst s) = smallB s[0] := by
  obtain ⟨⟨l⟩⟩ := s
  cases l with
  | nil => exact absurd h (by decide)
  | cons a l => rfl
theorem name_empty {s : ByteArray} (h : s.size = 0) : nameL (lst s) = false := by
  have : lst s = [] := List.eq_nil_of_length_eq_zero (by rw [← size_lst]; exact h)
  rw [this]; rfl
theorem name_long {s : ByteArray} (h : ¬ s.size ≤ 32) : nameL (lst s) = false := by
  have : decide ((lst s).length ≤ 32) = false := decide_eq_false (by rw [← size_lst]; exact h)
  simp [nameL, this]
theorem name_head {s : ByteArray} (h : 0 < s.size) (h1 : smallB s[0] = false) : nameL (lst s) = false := by
  have := head_at h
  simp [nameL, this, h1]
theorem name_bad {s : ByteArray} {i : Nat} (h : i < s.size) (h1 : okB s[i] = false) : nameL (lst s) = false := by
  have : (lst s).all okB = false := by
    rw [List.all_eq_false]
    exact ⟨(lst s)[i]'(by rw [← size_lst]; exact h), List.getElem_mem _, by rw [lst_at s i h, h1]; decide⟩
  simp [nameL, this]
theorem name_end {s : ByteArray} (h : 0 < s.size) (h32 : s.size ≤ 32) (h1 : smallB s[0] = true) (h2 : ∀ j (hj : j < s.size), okB s[j] = true) : nameL (lst s) = !resL (lst s) := by
  have e1 := head_at h
  have e2 := all_ok h2
  have e3 : decide ((lst s).length ≤ 32) = true := decide_eq_true (by rw [← size_lst]; exact h32)
  simp only [nameL, e1, h1, e2, e3, Bool.true_and]
set_option maxHeartbeats 1000000 in
theorem name_ (s : ByteArray) (w : World) : Calls Tryd.prog 12 #[.string s] w fun e w' => e = .returned (.bool (nameL (lst s))) ∧ w' = w := by
  have HS : Hid (∀ c W, Calls Tryd.prog 32 #[.int .u8 (UInt8.toNat c : Int)] W fun e w' => e = .returned (.bool (smallB c)) ∧ w' = W) := fun c W => small_ c W
  have HD : Hid (∀ c W, Calls Tryd.prog 33 #[.int .u8 (UInt8.toNat c : Int)] W fun e w' => e = .returned (.bool (digitB c)) ∧ w' = W) := fun c W => digit_ c W
  have HR := Lib.hid (reserved_ s w)
  obtain ⟨n, hn⟩ : ∃ n, s.size = n := ⟨_, rfl⟩
  have HN := Lib.hid hn
  obtain ⟨R, hR⟩ : ∃ R, nameL (lst s) = R := ⟨_, rfl⟩
  have HQ := Lib.hid hR
  rw [hR]
  clear hR
  by_cases h0 : n = 0
  · have HF : Hid (R = false) := by
      show _ = _
      rw [← HQ.out]; exact name_empty (by rw [HN.out]; exact h0)
    have h1 : (s.toList == []) = true := by
      rw [toList_lst, List.eq_nil_of_length_eq_zero (l := lst s) (by rw [← size_lst, HN.out]; exact h0)]; rfl
    clear h0 hn
    go_enter Tryd.func12, Tryd.ntmps12
    go_wp2_with fail
    go_ret
    exact ⟨by rw [HF.out]; rfl, rfl⟩
  have h1 : (s.toList == []) = false := by
    rw [toList_lst]
    cases e : lst s with
    | nil => exact absurd (by rw [← HN.out, size_lst, e]; rfl) h0
    | cons a l => rfl
  by_cases h32 : n ≤ 32
  · have h2 : ¬ ((32 : Int) < (n : Int)) := by omega
    have h3 : (0 : Int) < (n : Int) := by omega
    have hs0 : 0 < s.size := by rw [hn]; omega
    cases hh : smallB s[0] with
    | false =>
      have HF : Hid (R = false) := by
        show _ = _
        rw [← HQ.out]; exact name_head hs0 hh
      go_enter Tryd.func12, Tryd.ntmps12
      go_wp2_with (first | (go_at_call 32; refine (HS.out _ _).mono ?_; rintro e w1 ⟨rfl, rfl⟩; rw [hh]) | fail)
      go_ret
      exact ⟨by rw [HF.out]; rfl, rfl⟩
    | true =>
      have HH := Lib.hid hh
      go_enter Tryd.func12, Tryd.ntmps12
      go_wp2_with (first | (go_at_call 32; refine (HS.out _ _).mono ?_; rintro e w1 ⟨rfl, rfl⟩; rw [hh]) | fail)
      clear hh h1
      go_loopw [19] (fun iv wr => ∃ i : Nat, i ≤ n ∧ iv = .int .i64 i ∧ wr = w1 ∧ Hid (∀ j (hj : j < s.size), j < i → okB s[j] = true)) (fun iv _ => n - (intOf iv).toNat)
      case atStart => exact ⟨0, Nat.zero_le _, rfl, rfl, fun j _ hj => by omega⟩
      case round =>
        obtain ⟨i, hi, rfl, rfl, HV⟩ := hrel
        by_cases hlt : i < n
        · have hlt2 : (i : Int) < (n : Int) := by omega
          have hin : i < s.size := by rw [hn]; exact hlt
          obtain ⟨c, hc⟩ : ∃ c, s[i] = c := ⟨_, rfl⟩
          have HC : Hid (s[i] = c) := hc
          have HV2 : Hid (okB c = true → ∀ j (hj : j < s.size), j < i + 1 → okB s[j] = true) := fun ho j hj hji => by
            rcases Nat.lt_or_ge j i with hh | hh
            · exact HV.out j hj hh
            · obtain rfl : j = i := by omega
              rw [HC.out]; exact ho
          have HF : Hid (okB c = false → R = false) := fun ho => by
            rw [← HQ.out]; exact name_bad hin (by rw [HC.out]; exact ho)
          cases hs : smallB c with
          | true =>
            have HV3 := Lib.hid (HV2.out (by simp [okB, hs]))
            clear HV HV2 HF HC
            go_wp2_with (first | (go_at_call 32; refine (HS.out _ _).mono ?_; rintro e w1 ⟨rfl, rfl⟩; rw [hs]) | fail)
            go_roundw
            case rel => exact ⟨i + 1, by omega, by go_num, by trivial, HV3⟩
            case measure => simp [intOf]; omega
          | false =>
            cases hd : digitB c with
            | true =>
              have HV3 := Lib.hid (HV2.out (by simp [okB, hd]))
              clear HV HV2 HF HC
              go_wp2_with (first | (go_at_call 32; refine (HS.out _ _).mono ?_; rintro e w1 ⟨rfl, rfl⟩; rw [hs]) | (go_at_call 33; refine (HD.out _ _).mono ?_; rintro e w1 ⟨rfl, rfl⟩; rw [hd]) | fail)
              go_roundw
              case rel => exact ⟨i + 1, by omega, by go_num, by trivial, HV3⟩
              case measure => simp [intOf]; omega
            | false =>
              by_cases h95 : c.toNat = 95
              · have HV3 := Lib.hid (HV2.out (by simp [okB, h95]))
                have e5 : ((c.toNat : Int) != 95) = false := by rw [h95]; rfl
                clear HV HV2 HF HC h95
                go_wp2_with (first | (go_at_call 32; refine (HS.out _ _).mono ?_; rintro e w1 ⟨rfl, rfl⟩; rw [hs]) | (go_at_call 33; refine (HD.out _ _).mono ?_; rintro e w1 ⟨rfl, rfl⟩; rw [hd]) | fail)
                go_roundw
                case rel => exact ⟨i + 1, by omega, by go_num, by trivial, HV3⟩
                case measure => simp [intOf]; omega
              · have HF2 := Lib.hid (HF.out (by simp [okB, hs, hd, h95]))
                have e5 : ((c.toNat : Int) != 95) = true := by simp; omega
                clear HV HV2 HF HC h95
                go_wp2_with (first | (go_at_call 32; refine (HS.out _ _).mono ?_; rintro e w1 ⟨rfl, rfl⟩; rw [hs]) | (go_at_call 33; refine (HD.out _ _).mono ?_; rintro e w1 ⟨rfl, rfl⟩; rw [hd]) | fail)
                go_ret
                exact ⟨by rw [HF2.out]; rfl, rfl⟩
        · obtain rfl : i = n := by omega
          have HF : Hid (R = !resL (lst s)) := by
            show _ = _
            rw [← HQ.out]; exact name_end (by rw [HN.out]; omega) (by rw [HN.out]; exact h32) HH.out (fun j hj => HV.out j hj (by rw [← HN.out]; exact hj))
          clear HV
          go_wp2_with (first | (go_at_call 14; refine HR.out.mono ?_; rintro e w1 ⟨rfl, rfl⟩) | fail)
          go_ret
          exact ⟨by rw [HF.out]; rfl, rfl⟩
  · have HF : Hid (R = false) := by
      show _ = _
      rw [← HQ.out]; exact name_long (by rw [HN.out]; exact h32)
    have h2 : ((32 : Int) < (n : Int)) := by omega
    go_enter Tryd.func12, Tryd.ntmps12
    go_wp2_with fail
    go_ret
    exact ⟨by rw [HF.out]; rfl, rfl⟩
end Go.Proofs.YtlgnllnjhpihdaaDoor
