/- The walk of the document's Name. -/
import Derived.Test.YtlgnllnjhpihdaaDoorTbRName
namespace Go.Proofs.YtlgnllnjhpihdaaDoor
open Go.RowKit Go.Sort

theorem name_none {s : ByteArray} {i : Nat} (h : i < s.size) (h1 : smallB s[i] = false) (h2 : i = 0 ∨ okB s[i] = false) : nameL (lst s) = false := by
  rcases h2 with rfl | h2
  · exact name_head h h1
  · exact name_bad h h2
set_option maxHeartbeats 1000000 in
theorem rname_ (s : ByteArray) (w : World) (hsz : s.size ≤ 140737488355328) : Calls Tryd.prog 13 #[.string s] w fun e w' => e = .returned (.bool (nameL (lst s))) ∧ Below w.heap.size w w' := by
  have HR := Lib.hid (rreserved_ s w)
  obtain ⟨n, hn⟩ : ∃ n, s.size = n := ⟨_, rfl⟩
  have HN := Lib.hid hn
  rw [hn] at hsz
  obtain ⟨R, hR⟩ : ∃ R, nameL (lst s) = R := ⟨_, rfl⟩
  have HQ := Lib.hid hR
  rw [hR]
  clear hR
  go_enter Tryd.func13, Tryd.ntmps13
  go_wp2_with fail
  go_loopw [3, 4, 5] (fun iv s4 s5 wr => ∃ i : Nat, i ≤ n ∧ iv = .int .i64 i ∧ wr = w ∧ Hid (∀ j (hj : j < s.size), j < i → okB s[j] = true) ∧ Hid (∀ hj : 0 < s.size, 0 < i → smallB s[0] = true)) (fun iv _ _ _ => n - (intOf iv).toNat)
  case atStart => exact ⟨0, Nat.zero_le _, rfl, rfl, fun j _ hj => by omega, fun _ h => by omega⟩
  case round =>
    obtain ⟨i, hi, rfl, rfl, HV, HW⟩ := hrel
    by_cases hlt : i < n
    · have hlt2 : (i : Int) < (n : Int) := by omega
      have hin : i < s.size := by rw [hn]; exact hlt
      obtain ⟨c, hc⟩ : ∃ c, s[i] = c := ⟨_, rfl⟩
      have HC : Hid (s[i] = c) := hc
      have HG : Hid (okB c = true → (i = 0 → smallB c = true) → (∀ j (hj : j < s.size), j < i + 1 → okB s[j] = true) ∧ (∀ hj : 0 < s.size, 0 < i + 1 → smallB s[0] = true)) := fun ho hz => by
        refine ⟨fun j hj hji => ?_, fun hj _ => ?_⟩
        · rcases Nat.lt_or_ge j i with hh | hh
          · exact HV.out j hj hh
          · obtain rfl : j = i := by omega
            rw [HC.out]; exact ho
        · rcases Nat.eq_zero_or_pos i with h0 | h0
          · subst h0; rw [HC.out]; exact hz rfl
          · exact HW.out hj h0
      have HF : Hid (smallB c = false → (i = 0 ∨ okB c = false) → R = false) := fun h1 h2 => by
        rw [← HQ.out]; exact name_none hin (by rw [HC.out]; exact h1) (by rw [HC.out]; exact h2)
      have h97 : smallB c = (decide (97 ≤ c.toNat) && decide (c.toNat ≤ 122)) := rfl
      have h48 : digitB c = (decide (48 ≤ c.toNat) && decide (c.toNat ≤ 57)) := rfl
      by_cases a1 : 97 ≤ c.toNat
      · by_cases a2 : c.toNat ≤ 122
        · have hs : smallB c = true := by rw [h97]; simp [a1, a2]
          obtain ⟨g1, g2⟩ := HG.out (by simp [okB, hs]) (fun _ => hs)
          have G1 := Lib.hid g1
          have G2 := Lib.hid g2
          clear g1 g2 HG HF HV HW HC h97 h48 hs
          have b1 : (97 : Int) ≤ (c.toNat : Int) := by omega
          have b2 : (c.toNat : Int) ≤ 122 := by omega
          have b3 : (48 : Int) ≤ (c.toNat : Int) := by omega
          have b4 : ¬ ((c.toNat : Int) ≤ 57) := by omega
          have b5 : ((c.toNat : Int) == 95) = false := by simp; omega
          go_wp2_with fail
          go_roundw
          case rel => exact ⟨i + 1, by omega, by go_num, by trivial, G1, G2⟩
          case measure => simp [intOf]; omega
        · have hs : smallB c = false := by rw [h97]; simp [a2]
          have hd : digitB c = false := by rw [h48]; simp; omega
          have HF2 := Lib.hid (HF.out hs (.inr (by simp [okB, hs, hd]; omega)))
          clear HG HF HV HW HC h97 h48 hs hd
          have b1 : (97 : Int) ≤ (c.toNat : Int) := by omega
          have b2 : ¬ ((c.toNat : Int) ≤ 122) := by omega
          have b3 : (48 : Int) ≤ (c.toNat : Int) := by omega
          have b4 : ¬ ((c.toNat : Int) ≤ 57) := by omega
          have b5 : ((c.toNat : Int) == 95) = false := by simp; omega
          go_wp2_with fail
          go_ret
          exact ⟨by rw [HF2.out]; rfl, Below.refl _ _⟩
      · have hs : smallB c = false := by rw [h97]; simp [a1]
        have b1 : ¬ ((97 : Int) ≤ (c.toNat : Int)) := by omega
        by_cases hok : (48 ≤ c.toNat ∧ c.toNat ≤ 57) ∨ c.toNat = 95
        · have ho : okB c = true := by
            rcases hok with ⟨x, y⟩ | x
            · simp [okB, h48, x, y]
            · simp [okB, x]
          by_cases i0 : i = 0
          · have HF2 := Lib.hid (HF.out hs (.inl i0))
            subst i0
            clear HG HF HV HW HC h97 h48 hs ho a1
            have b9 : ¬ ((0 : Int) < ((0 : Nat) : Int)) := by simp
            rcases hok with ⟨x, y⟩ | x
            · have b3 : (48 : Int) ≤ (c.toNat : Int) := by omega
              have b4 : ((c.toNat : Int) ≤ 57) := by omega
              clear x y
              go_wp2_with fail
              go_ret
              exact ⟨by rw [HF2.out]; rfl, Below.refl _ _⟩
            · have b3 : (48 : Int) ≤ (c.toNat : Int) := by omega
              have b4 : ¬ ((c.toNat : Int) ≤ 57) := by omega
              have b5 : ((c.toNat : Int) == 95) = true := by rw [x]; rfl
              clear x
              go_wp2_with fail
              go_ret
              exact ⟨by rw [HF2.out]; rfl, Below.refl _ _⟩
          · obtain ⟨g1, g2⟩ := HG.out ho (fun h => absurd h i0)
            have G1 := Lib.hid g1
            have G2 := Lib.hid g2
            clear g1 g2 HG HF HV HW HC h97 h48 hs ho a1
            have b9 : ((0 : Int) < (i : Int)) := by omega
            have b10 : 0 < i := by omega
            have b11 : decide (0 < i) = true := by simpa using b10
            have b12 : decide ((0 : Int) < (i : Int)) = true := by simpa using b10
            clear i0
            rcases hok with ⟨x, y⟩ | x
            · have b3 : (48 : Int) ≤ (c.toNat : Int) := by omega
              have b4 : ((c.toNat : Int) ≤ 57) := by omega
              clear x y
              go_wp2_with fail
              go_roundw
              case rel => exact ⟨i + 1, by omega, by go_num, by trivial, G1, G2⟩
              case measure => simp [intOf]; omega
            · have b3 : (48 : Int) ≤ (c.toNat : Int) := by omega
              have b4 : ¬ ((c.toNat : Int) ≤ 57) := by omega
              have b5 : ((c.toNat : Int) == 95) = true := by rw [x]; rfl
              clear x
              go_wp2_with fail
              go_roundw
              case rel => exact ⟨i + 1, by omega, by go_num, by trivial, G1, G2⟩
              case measure => simp [intOf]; omega
        · have h5 : ¬ c.toNat = 95 := fun h => hok (.inr h)
          have hd : digitB c = false := by
            rw [h48]
            cases e : (decide (48 ≤ c.toNat) && decide (c.toNat ≤ 57)) with
            | false => rfl
            | true => simp at e; exact absurd (.inl e) hok
          have HF2 := Lib.hid (HF.out hs (.inr (by simp [okB, hs, hd, h5])))
          have b5 : ((c.toNat : Int) == 95) = false := by simp; omega
          clear HG HF HV HW HC h97 h48 hs hd h5
          by_cases x : 48 ≤ c.toNat
          · have b3 : (48 : Int) ≤ (c.toNat : Int) := by omega
            have b4 : ¬ ((c.toNat : Int) ≤ 57) := fun h => hok (.inl ⟨x, by omega⟩)
            clear hok x
            go_wp2_with fail
            go_ret
            exact ⟨by rw [HF2.out]; rfl, Below.refl _ _⟩
          · have b3 : ¬ ((48 : Int) ≤ (c.toNat : Int)) := by omega
            clear hok x
            go_wp2_with fail
            go_ret
            exact ⟨by rw [HF2.out]; rfl, Below.refl _ _⟩
    · obtain rfl : i = n := by omega
      have hii : ¬ ((i : Int) < (i : Int)) := by omega
      by_cases h0 : i = 0
      · have HF : Hid (R = false) := by
          show _ = _
          rw [← HQ.out]; exact name_empty (by rw [HN.out]; exact h0)
        subst h0
        have b9 : ¬ ((0 : Int) < ((0 : Nat) : Int)) := by simp
        clear HV HW
        go_wp2_with fail
        go_ret
        exact ⟨by rw [HF.out]; rfl, Below.refl _ _⟩
      · have b9 : ((0 : Int) < (i : Int)) := by omega
        by_cases h32 : i ≤ 32
        · have b8 : ((i : Int) ≤ 32) := by omega
          have hs0 : 0 < s.size := by rw [hn]; omega
          have HF : Hid (R = !resL (lst s)) := by
            show _ = _
            rw [← HQ.out]; exact name_end hs0 (by rw [HN.out]; exact h32) (HW.out hs0 (by omega)) (fun j hj => HV.out j hj (by rw [← HN.out]; exact hj))
          clear HV HW hs0
          go_wp2_with (first | (go_at_call 15; refine HR.out.mono ?_; rintro e w1 ⟨rfl, hb⟩) | fail)
          go_ret
          exact ⟨by rw [HF.out]; rfl, hb⟩
        · have b8 : ¬ ((i : Int) ≤ 32) := by omega
          have HF : Hid (R = false) := by
            show _ = _
            rw [← HQ.out]; exact name_long (by rw [HN.out]; exact h32)
          clear HV HW
          go_wp2_with fail
          go_ret
          exact ⟨by rw [HF.out]; rfl, Below.refl _ _⟩
end Go.Proofs.YtlgnllnjhpihdaaDoor
