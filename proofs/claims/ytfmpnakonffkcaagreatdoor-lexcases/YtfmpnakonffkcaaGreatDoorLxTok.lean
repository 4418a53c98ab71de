/- The walks of lex's small functions: letter, digit, blank, ofWord, span, isSign, sign, textLen. -/
import Derived.Test.YtfmpnakonffkcaaGreatDoorLxMem
namespace Go.Proofs.YtfmpnakonffkcaaGreatDoor
open Go.RowKit Go.Sort

theorem lst_at (s : ByteArray) (i : Nat) (h : i < s.size) : (lst s)[i]'(by rw [← size_lst]; exact h) = s[i] := rfl
theorem drop_at (s : ByteArray) (i : Nat) (h : i < s.size) : (lst s).drop i = s[i] :: (lst s).drop (i + 1) := by
  rw [List.drop_eq_getElem_cons (by rw [← size_lst]; exact h)]; rfl
theorem drop_end (s : ByteArray) (i : Nat) (h : s.size ≤ i) : (lst s).drop i = [] := List.drop_eq_nil_of_le (by rw [← size_lst]; exact h)
theorem extract_lst (s : ByteArray) (i j : Nat) : lst (s.extract i j) = ((lst s).take j).drop i := by
  show (s.extract i j).data.toList = _
  rw [Lib.extract_data, List.drop_take]; rfl
theorem let_int {c : UInt8} : letB c = ((decide ((97 : Int) ≤ (c.toNat : Int)) && decide ((c.toNat : Int) ≤ 122)) || (decide ((65 : Int) ≤ (c.toNat : Int)) && decide ((c.toNat : Int) ≤ 90))) := by
  unfold letB
  congr 2 <;> exact decide_eq_decide.2 (by omega)
theorem dig_int {c : UInt8} : isDig c = (decide ((48 : Int) ≤ (c.toNat : Int)) && decide ((c.toNat : Int) ≤ 57)) := by
  unfold isDig
  congr 1 <;> exact decide_eq_decide.2 (by omega)
set_option maxHeartbeats 1000000 in
theorem letter_ (c : UInt8) (w : World) : Calls Tryz.prog 26 #[.int .u8 (c.toNat : Int)] w fun e w' => e = .returned (.bool (letB c)) ∧ w' = w := by
  rw [let_int]
  generalize (c.toNat : Int) = x
  by_cases h1 : (97 : Int) ≤ x <;> by_cases h2 : x ≤ 122 <;> by_cases h3 : (65 : Int) ≤ x <;> by_cases h4 : x ≤ 90 <;> first
    | (exfalso; omega)
    | (go_enter Tryz.func26, Tryz.ntmps26
       go_wp2_with fail
       go_ret
       first | exact ⟨rfl, rfl⟩ | exact ⟨by simp_all, rfl⟩)
set_option maxHeartbeats 1000000 in
theorem digit_ (c : UInt8) (w : World) : Calls Tryz.prog 29 #[.int .u8 (c.toNat : Int)] w fun e w' => e = .returned (.bool (isDig c)) ∧ w' = w := by
  rw [dig_int]
  generalize (c.toNat : Int) = x
  by_cases h1 : (48 : Int) ≤ x <;> by_cases h2 : x ≤ 57 <;> first
    | (exfalso; omega)
    | (go_enter Tryz.func29, Tryz.ntmps29
       go_wp2_with fail
       go_ret
       first | exact ⟨rfl, rfl⟩ | exact ⟨by simp_all, rfl⟩)
theorem blk_int {c : UInt8} : blk c = (((c.toNat : Int) == 32) || ((c.toNat : Int) == 9) || ((c.toNat : Int) == 10) || ((c.toNat : Int) == 13)) := by
  have h : ∀ n : Nat, decide (c.toNat = n) = ((c.toNat : Int) == (n : Int)) := fun n => by
    by_cases e : c.toNat = n
    · rw [decide_eq_true e, e]; simp
    · rw [decide_eq_false e]; exact (beq_eq_false_iff_ne.2 (by omega)).symm
  unfold blk
  rw [h 32, h 9, h 10, h 13]; rfl
set_option maxHeartbeats 1000000 in
theorem blank_ (c : UInt8) (w : World) : Calls Tryz.prog 17 #[.int .u8 (c.toNat : Int)] w fun e w' => e = .returned (.bool (blk c)) ∧ w' = w := by
  rw [blk_int]
  generalize (c.toNat : Int) = x
  cases h1 : (x == 32) <;> cases h2 : (x == 9) <;> cases h3 : (x == 10) <;> cases h4 : (x == 13) <;>
    (go_enter Tryz.func17, Tryz.ntmps17
     go_wp2_with fail
     go_ret
     first | exact ⟨rfl, rfl⟩ | exact ⟨by simp_all, rfl⟩)
set_option maxHeartbeats 1000000 in
theorem ofWord_ (c : UInt8) (w : World) : Calls Tryz.prog 27 #[.int .u8 (c.toNat : Int)] w fun e w' => e = .returned (.bool (ofW c)) ∧ w' = w := by
  have HL := Lib.hid (letter_ c)
  have HD := Lib.hid (digit_ c)
  have HE : Hid (ofW c = (letB c || isDig c || ((c.toNat : Int) == 95))) := by
    show _ = _
    unfold ofW
    congr 1
    by_cases e : c.toNat = 95
    · rw [decide_eq_true e, e]; rfl
    · rw [decide_eq_false e]; exact (beq_eq_false_iff_ne.2 (by omega)).symm
  rw [HE.out]
  clear HE
  cases h1 : letB c <;> cases h2 : isDig c <;> cases h3 : ((c.toNat : Int) == 95) <;>
    (rw [h1] at HL; rw [h2] at HD
     go_enter Tryz.func27, Tryz.ntmps27
     go_wp2_with (first
       | (go_at_call 26; refine (HL.out _).mono ?_; rintro e w1 ⟨rfl, rfl⟩)
       | (go_at_call 29; refine (HD.out _).mono ?_; rintro e w1 ⟨rfl, rfl⟩)
       | fail)
     go_ret
     first | exact ⟨rfl, rfl⟩ | exact ⟨by simp_all, rfl⟩)
/-- How many bytes a text begins with that are all so. -/
theorem tw_step {p : UInt8 → Bool} {l : List UInt8} {i : Nat} (hi : i < l.length) (h : ∀ j (hj : j < l.length), j < i → p l[j] = true) (h1 : p l[i] = false) : (l.takeWhile p).length = i := by
  induction l generalizing i with
  | nil => simp at hi
  | cons c l ih =>
    cases i with
    | zero => rw [List.takeWhile_cons]; simp only [List.getElem_cons_zero] at h1; rw [h1]; rfl
    | succ i =>
      have h0 := h 0 (by simp) (Nat.succ_pos _)
      simp only [List.getElem_cons_zero] at h0
      rw [List.takeWhile_cons, h0]
      simp only [if_true, List.length_cons]
      rw [ih (by simpa using hi) (fun j hj hji => by have := h (j + 1) (by simpa using hj) (by omega); simpa using this) (by simpa using h1)]
theorem tw_whole {p : UInt8 → Bool} {l : List UInt8} (h : ∀ j (hj : j < l.length), p l[j] = true) : (l.takeWhile p).length = l.length := by
  induction l with
  | nil => rfl
  | cons c l ih =>
    have h0 := h 0 (by simp)
    simp only [List.getElem_cons_zero] at h0
    rw [List.takeWhile_cons, h0]
    simp only [if_true, List.length_cons]
    rw [ih (fun j hj => by have := h (j + 1) (by simpa using hj); simpa using this)]
set_option maxHeartbeats 1000000 in
theorem span_ (g : Nat) (p : UInt8 → Bool) (s : ByteArray) (w : World) (eg : ∀ args w, (callFunc g args).run Tryz.prog w = .ok (.enter g args) w)
    (hp : ∀ c W, Calls Tryz.prog g #[.int .u8 (UInt8.toNat c : Int)] W fun e w' => e = .returned (.bool (p c)) ∧ w' = W) (hs : s.size ≤ 140737488355328) :
    Calls Tryz.prog 16 #[.string s, .func (.func g) #[] #[]] w fun e w' => e = .returned (.int .i64 (((lst s).takeWhile p).length : Nat)) ∧ w' = w := by
  have HP := Lib.hid hp
  obtain ⟨n, hn⟩ : ∃ n, s.size = n := ⟨_, rfl⟩
  obtain ⟨R, hR⟩ : ∃ R, ((lst s).takeWhile p).length = R := ⟨_, rfl⟩
  have HAt : Hid (∀ i (hi : i < s.size), (∀ j (hj : j < s.size), j < i → p s[j] = true) → p s[i] = false → R = i) := fun i hi h h1 => by
    rw [← hR]; exact tw_step (by rw [← size_lst]; exact hi) (fun j hj hji => h j (by rw [size_lst]; exact hj) hji) h1
  have HAll : Hid ((∀ j (hj : j < s.size), p s[j] = true) → R = n) := fun h => by
    rw [← hR, ← hn, size_lst]; exact tw_whole (fun j hj => h j (by rw [size_lst]; exact hj))
  rw [hR]
  rw [hn] at hs
  clear hp hR
  go_enter Tryz.func16, Tryz.ntmps16
  go_wp2_with fail
  go_loopw [5, 8] (fun _ iv wr => ∃ i : Nat, i ≤ n ∧ iv = .int .i64 i ∧ wr = w ∧ Hid (∀ j (hj : j < s.size), j < i → p s[j] = true)) (fun _ iv _ => n - (intOf iv).toNat)
  case atStart => exact ⟨0, Nat.zero_le _, rfl, rfl, fun j _ hj => by omega⟩
  case round =>
    obtain ⟨i, hi, rfl, rfl, HV⟩ := hrel
    by_cases hlt : i < n
    · have hlt2 : (i : Int) < (n : Int) := by omega
      have hin : i < s.size := by rw [hn]; exact hlt
      obtain ⟨c, hc⟩ : ∃ c, s[i] = c := ⟨_, rfl⟩
      have HC : Hid (s[i] = c) := hc
      cases hb : p c with
      | true =>
        have HV2 : Hid (∀ j (hj : j < s.size), j < i + 1 → p s[j] = true) := fun j hj hji => by
          rcases Nat.lt_or_ge j i with hh | hh
          · exact HV.out j hj hh
          · obtain rfl : j = i := by omega
            rw [HC.out]; exact hb
        have HQ := Lib.hid (HP.out c)
        rw [hb] at HQ
        clear HV HAt HAll HC hb
        go_wp2_with (first | (go_at_fn g; refine (HQ.out _).mono ?_; rintro e w1 ⟨rfl, rfl⟩) | fail)
        go_roundw
        case rel => exact ⟨i + 1, by omega, by go_num, by trivial, HV2⟩
        case measure => simp [intOf]; omega
      | false =>
        have HF : Hid (R = i) := HAt.out i hin HV.out (by rw [HC.out]; exact hb)
        have HQ := Lib.hid (HP.out c)
        rw [hb] at HQ
        clear HV HAt HAll HC hb
        go_wp2_with (first | (go_at_fn g; refine (HQ.out _).mono ?_; rintro e w1 ⟨rfl, rfl⟩) | fail)
        go_ret
        exact ⟨by rw [HF.out]; rfl, rfl⟩
    · obtain rfl : i = n := by omega
      have HF : Hid (R = i) := HAll.out (fun j hj => HV.out j hj (by omega))
      clear HV HAt HAll
      go_wp2_with fail
      go_ret
      exact ⟨by rw [HF.out]; rfl, rfl⟩
end Go.Proofs.YtfmpnakonffkcaaGreatDoor
