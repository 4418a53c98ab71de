/- The walk of container/heap's down over a line. -/
import Derived.Test.YtnkdhipeklphaaaDoorHUp
namespace Go.Proofs.YtnkdhipeklphaaaDoor
open Go.RowKit Go.Sort

/-- Where down stands: nothing was done, or it has gone down to i. -/
def DnSt (S : Nat → Sl) (b : Nat → Nat) (m i0 i : Nat) : Prop := (i = i0 ∧ Mid kle (fun k => S (b k)) m i0) ∨ (i0 < i ∧ Dn kle (fun k => S (b k)) m i)
theorem DnSt.mid {S : Nat → Sl} {b : Nat → Nat} {m i0 i : Nat} (h : DnSt S b m i0 i) : Mid kle (fun k => S (b k)) m i := by
  rcases h with ⟨rfl, h⟩ | ⟨_, h⟩
  · exact h
  · exact h.1
theorem DnSt.ge {S : Nat → Sl} {b : Nat → Nat} {m i0 i : Nat} (h : DnSt S b m i0 i) : i0 ≤ i := by
  rcases h with ⟨rfl, _⟩ | ⟨h, _⟩ <;> omega
theorem DnSt.done {S : Nat → Sl} {b : Nat → Nat} {m i0 i : Nat} (h : DnSt S b m i0 i) (hc : ∀ k, 0 < k → k < m → par k = i → kle (S (b i)) (S (b k))) : (decide (i0 < i) = true → Hp kle (fun k => S (b k)) m) ∧ (decide (i0 < i) = false → Up kle (fun k => S (b k)) m i0) := by
  rcases h with ⟨rfl, h⟩ | ⟨hlt, h⟩
  · exact ⟨fun e => by simp at e, fun _ => mid_up h hc⟩
  · refine ⟨fun _ => dn_done h hc, fun e => ?_⟩
    have := of_decide_eq_false e
    omega
theorem ch_none {S : Nat → Sl} {b : Nat → Nat} {m i : Nat} (h : m ≤ 2 * i + 1) : ∀ k, 0 < k → k < m → par k = i → kle (S (b i)) (S (b k)) := fun k hk hm hp => by
  have := (par_iff hk).1 hp
  omega
theorem ch_one {a : Nat → Sl} {m i : Nat} {x : Sl} (h : m ≤ 2 * i + 2) (hx : kle x (a (2 * i + 1))) : ∀ k, 0 < k → k < m → par k = i → kle x (a k) := fun k hk hm hp => by
  rcases (par_iff hk).1 hp with rfl | rfl
  · exact hx
  · omega
theorem ch_two {a : Nat → Sl} {m i : Nat} {x : Sl} (hx : kle x (a (2 * i + 1))) (hy : kle x (a (2 * i + 2))) : ∀ k, 0 < k → k < m → par k = i → kle x (a k) := fun k hk _ hp => by
  rcases (par_iff hk).1 hp with rfl | rfl
  · exact hx
  · exact hy
set_option maxHeartbeats 1000000 in
theorem down_ {w : World} {N hb : Nat} {ty : TypeId} {rs : List Value} {v : Value} {n : Nat} {b : Nat → Nat} {S : Nat → Sl} (h : Ln w N hb ty rs v n b S) (i0 m : Nat) (hm : m ≤ n) (hi0 : i0 ≤ n) (hd : Mid kle (fun k => S (b k)) m i0) :
    Calls Tryd.prog 32 #[ifL hb, .int .i64 i0, .int .i64 m] w fun e w' => ∃ b' r, e = .returned (.bool r) ∧ Ln w' N hb ty rs v n b' S ∧ Pm m b b' ∧ (∀ k, m ≤ k → b' k = b k) ∧ Fr N hb w w' ∧ (r = true → Hp kle (fun k => S (b' k)) m) ∧ (r = false → Up kle (fun k => S (b' k)) m i0) := by
  have n1 := na_less
  have n2 := na_swap
  have HL := Lib.hid h
  have HD := Lib.hid hd
  have hlim := h.lim
  obtain ⟨a, c, rfl, _, _⟩ := h.len
  clear h hd
  unfold ifL
  go_enter Tryd.func32, Tryd.ntmps32
  go_wp2_with fail
  go_loopw [7] (fun iv wr => ∃ (i : Nat) (b' : Nat → Nat), iv = .int .i64 i ∧ i ≤ n ∧ Hid (Ln wr N hb ty rs (.slice a n c) n b' S ∧ Pm m b b' ∧ (∀ k, m ≤ k → b' k = b k) ∧ Fr N hb w wr ∧ DnSt S b' m i0 i)) (fun iv _ => n - (intOf iv).toNat)
  case atStart => exact ⟨i0, b, rfl, hi0, HL.out, Pm.refl _ _, fun _ _ => rfl, Fr.refl _ _ _, .inl ⟨rfl, HD.out⟩⟩
  case round =>
    obtain ⟨i, b', rfl, hin, H⟩ := hrel
    clear HL HD
    have hcell := H.out.1.head.1
    have ml := m_less ⟨hb, 0, none⟩ _ wr hcell
    by_cases h1 : m ≤ 2 * i + 1
    · have h1' : (m : Int) ≤ 2 * (i : Int) + 1 := by omega
      clear ml hcell
      go_wp2_with fail
      go_ret
      exact ⟨b', _, rfl, H.out.1, H.out.2.1, H.out.2.2.1, H.out.2.2.2.1, (H.out.2.2.2.2.done (ch_none h1)).1, (H.out.2.2.2.2.done (ch_none h1)).2⟩
    · have h1' : ¬ (m : Int) ≤ 2 * (i : Int) + 1 := by omega
      have h1'' : ¬ 2 * (i : Int) + 1 < 0 := by omega
      by_cases h2 : 2 * i + 2 < m
      · have h2' : 2 * (i : Int) + 1 + 1 < (m : Int) := by omega
        have h2'' : 2 * (i : Int) + 2 < (m : Int) := by omega
        obtain ⟨q1, hq1⟩ : ∃ q, q = decide (cmpS (S (b' (2 * i + 2))) (S (b' (2 * i + 1))) < 0) := ⟨_, rfl⟩
        have HLe1 : Hid (Calls Tryd.prog 83 #[.slice a n c, .int .i64 (2 * (i : Int) + 1 + 1), .int .i64 (2 * (i : Int) + 1)] wr fun e w' => e = .returned (.bool q1) ∧ Below wr.heap.size wr w') := by
          have := less_ H.out.1 (2 * i + 2) (2 * i + 1) (by omega) (by omega)
          rw [← hq1] at this
          rw [show (2 * (i : Int) + 1 + 1 : Int) = ((2 * i + 2 : Nat) : Int) by omega, show (2 * (i : Int) + 1 : Int) = ((2 * i + 1 : Nat) : Int) by omega]
          exact this
        go_wp2_with fail
        refine HLe1.out.mono ?_
        rintro e w2 ⟨rfl, hb2⟩
        have HL2 := Lib.hid (H.out.1.on hb2)
        have HF2 := Lib.hid (H.out.2.2.2.1.trans (below_fr hb2 N hb))
        have HQ1 := Lib.hid hq1
        have hcell2 := HL2.out.head.1
        have ml2 := m_less ⟨hb, 0, none⟩ _ w2 hcell2
        clear hb2 hq1 HLe1 hcell ml
        cases q1
        · have HMIN : Hid (∀ k, 0 < k → k < m → par k = i → kle (S (b' (2 * i + 1))) (S (b' k))) := ch_two (a := fun k => S (b' k)) (tot_kle.refl _) (of_decide_eq_false HQ1.out.symm)
          obtain ⟨q2, hq2⟩ : ∃ q, q = decide (cmpS (S (b' (2 * i + 1))) (S (b' i)) < 0) := ⟨_, rfl⟩
          have HLe2 : Hid (Calls Tryd.prog 83 #[.slice a n c, .int .i64 (2 * (i : Int) + 1), .int .i64 (i : Int)] w2 fun e w' => e = .returned (.bool q2) ∧ Below w2.heap.size w2 w') := by
            have := less_ HL2.out (2 * i + 1) i (by omega) (by omega)
            rw [← hq2] at this
            rw [show (2 * (i : Int) + 1 : Int) = ((2 * i + 1 : Nat) : Int) by omega]
            exact this
          go_wp2_with fail
          refine HLe2.out.mono ?_
          rintro e w3 ⟨rfl, hb3⟩
          have HL3 := Lib.hid (HL2.out.on hb3)
          have HF3 := Lib.hid (HF2.out.trans (below_fr hb3 N hb))
          have HQ2 := Lib.hid hq2
          have hcell3 := HL3.out.head.1
          have ms := m_swap ⟨hb, 0, none⟩ _ w3 hcell3
          clear hb3 hq2 HLe2
          cases q2
          · go_wp2_with fail
            go_ret
            have hle : kle (S (b' i)) (S (b' (2 * i + 1))) := of_decide_eq_false HQ2.out.symm
            have hch : ∀ k, 0 < k → k < m → par k = i → kle (S (b' i)) (S (b' k)) := fun k hk hkm hp => tot_kle.trans _ _ _ hle (HMIN.out k hk hkm hp)
            exact ⟨b', _, rfl, HL3.out, H.out.2.1, H.out.2.2.1, HF3.out, (H.out.2.2.2.2.done hch).1, (H.out.2.2.2.2.done hch).2⟩
          · have HSw : Hid (Calls Tryd.prog 84 #[.slice a n c, .int .i64 (i : Int), .int .i64 (2 * (i : Int) + 1)] w3 fun e w' => e = .returned (.tuple #[]) ∧ Ln w' N hb ty rs (.slice a n c) n (sw b' i (2 * i + 1)) S ∧ Fr N hb w3 w') := by
              rw [show (2 * (i : Int) + 1 : Int) = ((2 * i + 1 : Nat) : Int) by omega]
              exact swap_ HL3.out i (2 * i + 1) (by omega) (by omega)
            go_wp2_with fail
            refine HSw.out.mono ?_
            rintro e w4 ⟨rfl, hl4, hf4⟩
            have HL4 := Lib.hid hl4
            have HF4 := Lib.hid (HF3.out.trans hf4)
            have HDN : Hid (DnSt S (sw b' i (2 * i + 1)) m i0 (2 * i + 1)) := by
              refine .inr ⟨by have := H.out.2.2.2.2.ge; omega, dn_sw (dn_step tot_kle (a := fun k => S (b' k)) (by omega) (by omega) ((par_iff (by omega)).2 (by omega)) H.out.2.2.2.2.mid HMIN.out ?_)⟩
              exact fun hk => hk (of_decide_eq_true HQ2.out.symm)
            have HPM : Hid (Pm m b (sw b' i (2 * i + 1)) ∧ ∀ k, m ≤ k → sw b' i (2 * i + 1) k = b k) := by
              refine ⟨H.out.2.1.trans (pm_sw b' (by omega) (by omega)), fun k hk => ?_⟩
              rw [sw_far b' (by omega) (by omega)]
              exact H.out.2.2.1 k hk
            clear hl4 hf4 HSw ms hcell3
            go_wp2_with fail
            go_roundw
            case rel => exact ⟨2 * i + 1, sw b' i (2 * i + 1), by go_num, by omega, HL4.out, HPM.out.1, HPM.out.2, HF4.out, HDN.out⟩
            case measure => simp [intOf]; omega
        · have HMIN : Hid (∀ k, 0 < k → k < m → par k = i → kle (S (b' (2 * i + 2))) (S (b' k))) := ch_two (a := fun k => S (b' k)) (kle_of_klt (show cmpS _ _ < 0 from of_decide_eq_true HQ1.out.symm)) (tot_kle.refl _)
          obtain ⟨q2, hq2⟩ : ∃ q, q = decide (cmpS (S (b' (2 * i + 2))) (S (b' i)) < 0) := ⟨_, rfl⟩
          have HLe2 : Hid (Calls Tryd.prog 83 #[.slice a n c, .int .i64 (2 * (i : Int) + 1 + 1), .int .i64 (i : Int)] w2 fun e w' => e = .returned (.bool q2) ∧ Below w2.heap.size w2 w') := by
            have := less_ HL2.out (2 * i + 2) i (by omega) (by omega)
            rw [← hq2] at this
            rw [show (2 * (i : Int) + 1 + 1 : Int) = ((2 * i + 2 : Nat) : Int) by omega]
            exact this
          go_wp2_with fail
          refine HLe2.out.mono ?_
          rintro e w3 ⟨rfl, hb3⟩
          have HL3 := Lib.hid (HL2.out.on hb3)
          have HF3 := Lib.hid (HF2.out.trans (below_fr hb3 N hb))
          have HQ2 := Lib.hid hq2
          have hcell3 := HL3.out.head.1
          have ms := m_swap ⟨hb, 0, none⟩ _ w3 hcell3
          clear hb3 hq2 HLe2
          cases q2
          · go_wp2_with fail
            go_ret
            have hle : kle (S (b' i)) (S (b' (2 * i + 2))) := of_decide_eq_false HQ2.out.symm
            have hch : ∀ k, 0 < k → k < m → par k = i → kle (S (b' i)) (S (b' k)) := fun k hk hkm hp => tot_kle.trans _ _ _ hle (HMIN.out k hk hkm hp)
            exact ⟨b', _, rfl, HL3.out, H.out.2.1, H.out.2.2.1, HF3.out, (H.out.2.2.2.2.done hch).1, (H.out.2.2.2.2.done hch).2⟩
          · have HSw : Hid (Calls Tryd.prog 84 #[.slice a n c, .int .i64 (i : Int), .int .i64 (2 * (i : Int) + 1 + 1)] w3 fun e w' => e = .returned (.tuple #[]) ∧ Ln w' N hb ty rs (.slice a n c) n (sw b' i (2 * i + 2)) S ∧ Fr N hb w3 w') := by
              rw [show (2 * (i : Int) + 1 + 1 : Int) = ((2 * i + 2 : Nat) : Int) by omega]
              exact swap_ HL3.out i (2 * i + 2) (by omega) (by omega)
            go_wp2_with fail
            refine HSw.out.mono ?_
            rintro e w4 ⟨rfl, hl4, hf4⟩
            have HL4 := Lib.hid hl4
            have HF4 := Lib.hid (HF3.out.trans hf4)
            have HDN : Hid (DnSt S (sw b' i (2 * i + 2)) m i0 (2 * i + 2)) := by
              refine .inr ⟨by have := H.out.2.2.2.2.ge; omega, dn_sw (dn_step tot_kle (a := fun k => S (b' k)) (by omega) (by omega) ((par_iff (by omega)).2 (by omega)) H.out.2.2.2.2.mid HMIN.out ?_)⟩
              exact fun hk => hk (of_decide_eq_true HQ2.out.symm)
            have HPM : Hid (Pm m b (sw b' i (2 * i + 2)) ∧ ∀ k, m ≤ k → sw b' i (2 * i + 2) k = b k) := by
              refine ⟨H.out.2.1.trans (pm_sw b' (by omega) (by omega)), fun k hk => ?_⟩
              rw [sw_far b' (by omega) (by omega)]
              exact H.out.2.2.1 k hk
            clear hl4 hf4 HSw ms hcell3
            go_wp2_with fail
            go_roundw
            case rel => exact ⟨2 * i + 2, sw b' i (2 * i + 2), by go_num, by omega, HL4.out, HPM.out.1, HPM.out.2, HF4.out, HDN.out⟩
            case measure => simp [intOf]; omega
      · have h2' : ¬ 2 * (i : Int) + 1 + 1 < (m : Int) := by omega
        have h2'' : ¬ 2 * (i : Int) + 2 < (m : Int) := by omega
        have HMIN : Hid (∀ k, 0 < k → k < m → par k = i → kle (S (b' (2 * i + 1))) (S (b' k))) := ch_one (a := fun k => S (b' k)) (by omega) (tot_kle.refl _)
        obtain ⟨q2, hq2⟩ : ∃ q, q = decide (cmpS (S (b' (2 * i + 1))) (S (b' i)) < 0) := ⟨_, rfl⟩
        have HLe2 : Hid (Calls Tryd.prog 83 #[.slice a n c, .int .i64 (2 * (i : Int) + 1), .int .i64 (i : Int)] wr fun e w' => e = .returned (.bool q2) ∧ Below wr.heap.size wr w') := by
          have := less_ H.out.1 (2 * i + 1) i (by omega) (by omega)
          rw [← hq2] at this
          rw [show (2 * (i : Int) + 1 : Int) = ((2 * i + 1 : Nat) : Int) by omega]
          exact this
        go_wp2_with fail
        refine HLe2.out.mono ?_
        rintro e w3 ⟨rfl, hb3⟩
        have HL3 := Lib.hid (H.out.1.on hb3)
        have HF3 := Lib.hid (H.out.2.2.2.1.trans (below_fr hb3 N hb))
        have HQ2 := Lib.hid hq2
        have hcell3 := HL3.out.head.1
        have ms := m_swap ⟨hb, 0, none⟩ _ w3 hcell3
        clear hb3 hq2 HLe2
        cases q2
        · go_wp2_with fail
          go_ret
          have hle : kle (S (b' i)) (S (b' (2 * i + 1))) := of_decide_eq_false HQ2.out.symm
          have hch : ∀ k, 0 < k → k < m → par k = i → kle (S (b' i)) (S (b' k)) := fun k hk hkm hp => tot_kle.trans _ _ _ hle (HMIN.out k hk hkm hp)
          exact ⟨b', _, rfl, HL3.out, H.out.2.1, H.out.2.2.1, HF3.out, (H.out.2.2.2.2.done hch).1, (H.out.2.2.2.2.done hch).2⟩
        · have HSw : Hid (Calls Tryd.prog 84 #[.slice a n c, .int .i64 (i : Int), .int .i64 (2 * (i : Int) + 1)] w3 fun e w' => e = .returned (.tuple #[]) ∧ Ln w' N hb ty rs (.slice a n c) n (sw b' i (2 * i + 1)) S ∧ Fr N hb w3 w') := by
            rw [show (2 * (i : Int) + 1 : Int) = ((2 * i + 1 : Nat) : Int) by omega]
            exact swap_ HL3.out i (2 * i + 1) (by omega) (by omega)
          go_wp2_with fail
          refine HSw.out.mono ?_
          rintro e w4 ⟨rfl, hl4, hf4⟩
          have HL4 := Lib.hid hl4
          have HF4 := Lib.hid (HF3.out.trans hf4)
          have HDN : Hid (DnSt S (sw b' i (2 * i + 1)) m i0 (2 * i + 1)) := by
            refine .inr ⟨by have := H.out.2.2.2.2.ge; omega, dn_sw (dn_step tot_kle (a := fun k => S (b' k)) (by omega) (by omega) ((par_iff (by omega)).2 (by omega)) H.out.2.2.2.2.mid HMIN.out ?_)⟩
            exact fun hk => hk (of_decide_eq_true HQ2.out.symm)
          have HPM : Hid (Pm m b (sw b' i (2 * i + 1)) ∧ ∀ k, m ≤ k → sw b' i (2 * i + 1) k = b k) := by
            refine ⟨H.out.2.1.trans (pm_sw b' (by omega) (by omega)), fun k hk => ?_⟩
            rw [sw_far b' (by omega) (by omega)]
            exact H.out.2.2.1 k hk
          clear hl4 hf4 HSw ms hcell3
          go_wp2_with fail
          go_roundw
          case rel => exact ⟨2 * i + 1, sw b' i (2 * i + 1), by go_num, by omega, HL4.out, HPM.out.1, HPM.out.2, HF4.out, HDN.out⟩
          case measure => simp [intOf]; omega
end Go.Proofs.YtnkdhipeklphaaaDoor
