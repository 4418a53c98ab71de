/- The walks of container/heap's Push, Pop, Fix over a line. -/
import Derived.Test.YtnkdhipeklphaaaDoorHDown
namespace Go.Proofs.YtnkdhipeklphaaaDoor
open Go.RowKit Go.Sort

set_option maxHeartbeats 1000000 in
theorem kpush_ {w : World} {N hb : Nat} {ty : TypeId} {rs : List Value} {v : Value} {n : Nat} {b : Nat → Nat} {S : Nat → Sl} (h : Ln w N hb ty rs v n b S) (s p : Nat) (hs : SlotAt w s (S s) p) (hNs : N ≤ s) (hnot : ∀ k, k < n → b k ≠ s) (hn : n + 1 ≤ 17592186044416) (hp : Hp kle (fun k => S (b k)) n) :
    Calls Tryd.prog 20 #[ifL hb, .iface 56 (.pointer (some ⟨s, 0, none⟩))] w fun e w' => e = .returned (.tuple #[]) ∧ ∃ v' b', Ln w' N hb ty rs v' (n + 1) b' S ∧ Hp kle (fun k => S (b' k)) (n + 1) ∧ Pm (n + 1) (put b n s) b' ∧ Fr N hb w w' := by
  have n3 := na_len
  have n4 := na_push
  have mp := m_push
  have HP := Lib.hid (lpush_ h s p hs hNs hnot hn)
  have HH := Lib.hid hp
  clear h hs hnot hp
  unfold ifL
  go_enter Tryd.func20, Tryd.ntmps20
  go_wp2_with fail
  refine HP.out.mono ?_
  rintro e w2 ⟨rfl, v', hl, hf⟩
  have HL := Lib.hid hl
  have HF := Lib.hid hf
  have hcell := hl.head.1
  obtain ⟨a, c, rfl, _, _⟩ := hl.len
  have mk := m_len ⟨hb, 0, none⟩ _ w2 hcell
  have HLn : Hid (Calls Tryd.prog 82 #[.slice a (n + 1) c] w2 fun e w' => e = .returned (.int .i64 ((n : Int) + 1)) ∧ w' = w2) := len_ a (n + 1) c w2
  have HUp : Hid (Calls Tryd.prog 31 #[.iface 61 (.pointer (some ⟨hb, 0, none⟩)), .int .i64 (n : Int)] w2 fun e w' => e = .returned (.tuple #[]) ∧ ∃ b', Ln w' N hb ty rs (.slice a (n + 1) c) (n + 1) b' S ∧ Hp kle (fun k => S (b' k)) (n + 1) ∧ Pm (n + 1) (put b n s) b' ∧ (∀ k, n + 1 ≤ k → b' k = put b n s k) ∧ Fr N hb w2 w') := by
    refine up_ HL.out (n + 1) n (Nat.le_refl _) (by omega) (hp_push ?_)
    intro k hk hkn
    have h1 : par k < k := par_lt hk
    show kle (S (put b n s (par k))) (S (put b n s k))
    rw [put_old (by omega), put_old (by omega)]
    exact HH.out k hk hkn
  clear hl hf HP
  go_wp2_with fail
  refine HLn.out.mono ?_
  rintro e w3 ⟨rfl, rfl⟩
  go_wp2_with fail
  refine HUp.out.mono ?_
  rintro e w4 ⟨rfl, b', h1, h2, h3, _, h5⟩
  have HE : Hid (Ln w4 N hb ty rs (.slice a (n + 1) c) (n + 1) b' S ∧ Hp kle (fun k => S (b' k)) (n + 1) ∧ Pm (n + 1) (put b n s) b' ∧ Fr N hb w w4) := ⟨h1, h2, h3, HF.out.trans h5⟩
  clear h1 h2 h3 h5 HUp HLn mk hcell
  go_wp2_with fail
  go_end0
  exact ⟨rfl, _, b', HE.out.1, HE.out.2.1, HE.out.2.2.1, HE.out.2.2.2⟩
theorem hp_less {a : Nat → Sl} {m n : Nat} (h : Hp kle a n) (hm : m ≤ n) : Hp kle a m := fun k hk hkm => h k hk (by omega)
set_option maxHeartbeats 1000000 in
theorem kpop_ {w : World} {N hb : Nat} {ty : TypeId} {rs : List Value} {v : Value} {m : Nat} {b : Nat → Nat} {S : Nat → Sl} (h : Ln w N hb ty rs v (m + 1) b S) (hp : Hp kle (fun k => S (b k)) (m + 1)) :
    Calls Tryd.prog 33 #[ifL hb] w fun e w' => e = .returned (.iface 56 (pt (b 0))) ∧ ∃ v' b', Ln w' N hb ty rs v' m b' S ∧ Hp kle (fun k => S (b' k)) m ∧ Pm (m + 1) b b' ∧ b' m = b 0 ∧ SlotAt w' (b 0) (S (b 0)) m ∧ Fr N hb w w' := by
  have n2 := na_swap
  have n3 := na_len
  have n5 := na_pop
  have mp := m_pop
  have HL := Lib.hid h
  have hcell := h.head.1
  obtain ⟨a, c, rfl, _, _⟩ := h.len
  have mk := m_len ⟨hb, 0, none⟩ _ w hcell
  have ms := m_swap ⟨hb, 0, none⟩ _ w hcell
  have HLn : Hid (Calls Tryd.prog 82 #[.slice a (m + 1) c] w fun e w' => e = .returned (.int .i64 ((m : Int) + 1)) ∧ w' = w) := len_ a (m + 1) c w
  have HSw : Hid (Calls Tryd.prog 84 #[.slice a (m + 1) c, .int .i64 0, .int .i64 (m : Int)] w fun e w' => e = .returned (.tuple #[]) ∧ Ln w' N hb ty rs (.slice a (m + 1) c) (m + 1) (sw b 0 m) S ∧ Fr N hb w w') := swap_ h 0 m (by omega) (by omega)
  have HMid : Hid (Mid kle (fun k => S (sw b 0 m k)) m 0) := by
    show Mid _ _ _ _
    rw [← sw_S']
    by_cases hm : m = 0
    · subst hm; exact ⟨fun k _ h => by omega, fun k _ h => by omega⟩
    · exact hp_cut tot_kle hp (by omega)
  have hlim := h.lim
  clear h hp
  unfold ifL
  go_enter Tryd.func33, Tryd.ntmps33
  go_wp2_with fail
  refine HLn.out.mono ?_
  rintro e w1 ⟨rfl, rfl⟩
  go_wp2_with fail
  refine HSw.out.mono ?_
  rintro e w2 ⟨rfl, hl2, hf2⟩
  have HDn : Hid (Calls Tryd.prog 32 #[.iface 61 (.pointer (some ⟨hb, 0, none⟩)), .int .i64 0, .int .i64 (m : Int)] w2 fun e w' => ∃ b' r, e = .returned (.bool r) ∧ Ln w' N hb ty rs (.slice a (m + 1) c) (m + 1) b' S ∧ Pm m (sw b 0 m) b' ∧ (∀ k, m ≤ k → b' k = sw b 0 m k) ∧ Fr N hb w2 w' ∧ (r = true → Hp kle (fun k => S (b' k)) m) ∧ (r = false → Up kle (fun k => S (b' k)) m 0)) := down_ hl2 0 m (by omega) (by omega) HMid.out
  have HF2 := Lib.hid hf2
  clear hl2 hf2 HSw HLn mk ms hcell HMid
  go_wp2_with fail
  refine HDn.out.mono ?_
  rintro e w3 ⟨b', r, rfl, hl3, hpm, htl, hf3, hr1, hr2⟩
  have HE : Hid (Hp kle (fun k => S (b' k)) m ∧ Pm (m + 1) b b' ∧ b' m = b 0) := by
    refine ⟨?_, (pm_sw b (by omega) (by omega)).trans (hpm.mono (by omega) htl), by rw [htl m (Nat.le_refl _), sw_right]⟩
    cases r
    · exact up_done (hr2 rfl) (.inl rfl)
    · exact hr1 rfl
  have HF3 := Lib.hid (HF2.out.trans hf3)
  have HPop := Lib.hid (lpop_ hl3)
  clear hl3 hpm htl hf3 hr1 hr2 HDn HF2
  go_wp2_with fail
  refine HPop.out.mono ?_
  rintro e w4 ⟨rfl, ⟨v', hl4⟩, hs4, hf4⟩
  rw [HE.out.2.2] at hs4
  have HG : Hid (Ln w4 N hb ty rs v' m b' S ∧ SlotAt w4 (b 0) (S (b 0)) m ∧ Fr N hb w1 w4) := ⟨hl4, hs4, HF3.out.trans hf4⟩
  have hbm := HE.out.2.2
  unfold pt
  clear hl4 hs4 hf4 HPop
  go_wp2_with fail
  go_ret
  exact ⟨rfl, v', b', HG.out.1, HE.out.1, HE.out.2.1, hbm, HG.out.2.1, HG.out.2.2⟩
set_option maxHeartbeats 1000000 in
theorem kfix_ {w : World} {N hb : Nat} {ty : TypeId} {rs : List Value} {v : Value} {n : Nat} {b : Nat → Nat} {S : Nat → Sl} (h : Ln w N hb ty rs v n b S) (i : Nat) (hi : i < n) (hp : Mid kle (fun k => S (b k)) n i) :
    Calls Tryd.prog 24 #[ifL hb, .int .i64 i] w fun e w' => e = .returned (.tuple #[]) ∧ ∃ b', Ln w' N hb ty rs v n b' S ∧ Hp kle (fun k => S (b' k)) n ∧ Pm n b b' ∧ Fr N hb w w' := by
  have n3 := na_len
  have HL := Lib.hid h
  have hcell := h.head.1
  obtain ⟨a, c, rfl, _, _⟩ := h.len
  have mk := m_len ⟨hb, 0, none⟩ _ w hcell
  have HLn : Hid (Calls Tryd.prog 82 #[.slice a n c] w fun e w' => e = .returned (.int .i64 (n : Int)) ∧ w' = w) := len_ a n c w
  have HDn : Hid (Calls Tryd.prog 32 #[.iface 61 (.pointer (some ⟨hb, 0, none⟩)), .int .i64 (i : Int), .int .i64 (n : Int)] w fun e w' => ∃ b' r, e = .returned (.bool r) ∧ Ln w' N hb ty rs (.slice a n c) n b' S ∧ Pm n b b' ∧ (∀ k, n ≤ k → b' k = b k) ∧ Fr N hb w w' ∧ (r = true → Hp kle (fun k => S (b' k)) n) ∧ (r = false → Up kle (fun k => S (b' k)) n i)) := down_ h i n (Nat.le_refl _) (by omega) hp
  clear h hp
  unfold ifL
  go_enter Tryd.func24, Tryd.ntmps24
  go_wp2_with fail
  refine HLn.out.mono ?_
  rintro e w1 ⟨rfl, rfl⟩
  go_wp2_with fail
  refine HDn.out.mono ?_
  rintro e w3 ⟨b', r, rfl, hl3, hpm, htl, hf3, hr1, hr2⟩
  cases r
  · have HUp := Lib.hid (up_ hl3 n i (Nat.le_refl _) hi (hr2 rfl))
    unfold ifL at HUp
    have HE : Hid (Pm n b b' ∧ Fr N hb w1 w3) := ⟨hpm, hf3⟩
    clear hl3 hpm htl hf3 hr1 hr2 HDn HLn mk hcell
    go_wp2_with fail
    refine HUp.out.mono ?_
    rintro e w4 ⟨rfl, b2, k1, k2, k3, _, k5⟩
    have HG : Hid (Ln w4 N hb ty rs (.slice a n c) n b2 S ∧ Hp kle (fun k => S (b2 k)) n ∧ Pm n b b2 ∧ Fr N hb w1 w4) := ⟨k1, k2, HE.out.1.trans k3, HE.out.2.trans k5⟩
    clear k1 k2 k3 k5 HUp
    go_wp2_with fail
    go_end0
    exact ⟨rfl, b2, HG.out.1, HG.out.2.1, HG.out.2.2.1, HG.out.2.2.2⟩
  · have HG : Hid (Ln w3 N hb ty rs (.slice a n c) n b' S ∧ Hp kle (fun k => S (b' k)) n ∧ Pm n b b' ∧ Fr N hb w1 w3) := ⟨hl3, hr1 rfl, hpm, hf3⟩
    clear hl3 hpm htl hf3 hr1 hr2 HDn HLn mk hcell
    go_wp2_with fail
    go_end0
    exact ⟨rfl, b', HG.out.1, HG.out.2.1, HG.out.2.2.1, HG.out.2.2.2⟩
set_option maxHeartbeats 1000000 in
theorem kremove_ {w : World} {N hb : Nat} {ty : TypeId} {rs : List Value} {v : Value} {m : Nat} {b : Nat → Nat} {S : Nat → Sl} (h : Ln w N hb ty rs v (m + 1) b S) (i : Nat) (hi : i < m + 1) (hp : Hp kle (fun k => S (b k)) (m + 1)) :
    Calls Tryd.prog 25 #[ifL hb, .int .i64 i] w fun e w' => e = .returned (.iface 56 (pt (b i))) ∧ ∃ v' b', Ln w' N hb ty rs v' m b' S ∧ Hp kle (fun k => S (b' k)) m ∧ Pm (m + 1) b b' ∧ b' m = b i ∧ SlotAt w' (b i) (S (b i)) m ∧ Fr N hb w w' := by
  have n2 := na_swap
  have n3 := na_len
  have n5 := na_pop
  have mp := m_pop
  have HL := Lib.hid h
  have hcell := h.head.1
  obtain ⟨a, c, rfl, _, _⟩ := h.len
  have mk := m_len ⟨hb, 0, none⟩ _ w hcell
  have ms := m_swap ⟨hb, 0, none⟩ _ w hcell
  have hlim := h.lim
  have HLn : Hid (Calls Tryd.prog 82 #[.slice a (m + 1) c] w fun e w' => e = .returned (.int .i64 ((m : Int) + 1)) ∧ w' = w) := len_ a (m + 1) c w
  by_cases him : i = m
  · subst him
    have HPop := Lib.hid (lpop_ h)
    have HH := Lib.hid hp
    clear h hp
    unfold ifL
    go_enter Tryd.func25, Tryd.ntmps25
    go_wp2_with fail
    refine HLn.out.mono ?_
    rintro e w1 ⟨rfl, rfl⟩
    go_wp2_with fail
    refine HPop.out.mono ?_
    rintro e w4 ⟨rfl, ⟨v', hl4⟩, hs4, hf4⟩
    have HG : Hid (Ln w4 N hb ty rs v' i b S ∧ SlotAt w4 (b i) (S (b i)) i ∧ Fr N hb w1 w4) := ⟨hl4, hs4, hf4⟩
    unfold pt
    clear hl4 hs4 hf4 HPop HLn mk ms hcell
    go_wp2_with fail
    go_ret
    exact ⟨rfl, v', b, HG.out.1, hp_less HH.out (by omega), Pm.refl _ _, rfl, HG.out.2.1, HG.out.2.2⟩
  · have him' : ((m : Int) != (i : Int)) = true := bne_iff_ne.2 (by omega)
    have HSw : Hid (Calls Tryd.prog 84 #[.slice a (m + 1) c, .int .i64 (i : Int), .int .i64 (m : Int)] w fun e w' => e = .returned (.tuple #[]) ∧ Ln w' N hb ty rs (.slice a (m + 1) c) (m + 1) (sw b i m) S ∧ Fr N hb w w') := swap_ h i m (by omega) (by omega)
    have HMid : Hid (Mid kle (fun k => S (sw b i m k)) m i) := by
      show Mid _ _ _ _
      rw [← sw_S']
      exact hp_cut tot_kle hp (by omega)
    clear h hp
    unfold ifL
    go_enter Tryd.func25, Tryd.ntmps25
    go_wp2_with fail
    refine HLn.out.mono ?_
    rintro e w1 ⟨rfl, rfl⟩
    go_wp2_with fail
    refine HSw.out.mono ?_
    rintro e w2 ⟨rfl, hl2, hf2⟩
    have HDn : Hid (Calls Tryd.prog 32 #[.iface 61 (.pointer (some ⟨hb, 0, none⟩)), .int .i64 (i : Int), .int .i64 (m : Int)] w2 fun e w' => ∃ b' r, e = .returned (.bool r) ∧ Ln w' N hb ty rs (.slice a (m + 1) c) (m + 1) b' S ∧ Pm m (sw b i m) b' ∧ (∀ k, m ≤ k → b' k = sw b i m k) ∧ Fr N hb w2 w' ∧ (r = true → Hp kle (fun k => S (b' k)) m) ∧ (r = false → Up kle (fun k => S (b' k)) m i)) := down_ hl2 i m (by omega) (by omega) HMid.out
    have HF2 := Lib.hid hf2
    clear hl2 hf2 HSw HLn mk ms hcell HMid
    go_wp2_with fail
    refine HDn.out.mono ?_
    rintro e w3 ⟨b', r, rfl, hl3, hpm, htl, hf3, hr1, hr2⟩
    cases r
    · have HUp := Lib.hid (up_ hl3 m i (by omega) (by omega) (hr2 rfl))
      unfold ifL at HUp
      have HE : Hid (Pm (m + 1) b b' ∧ b' m = b i ∧ Fr N hb w1 w3) := ⟨(pm_sw b (by omega) (by omega)).trans (hpm.mono (by omega) htl), by rw [htl m (Nat.le_refl _), sw_right], HF2.out.trans hf3⟩
      clear hl3 hpm htl hf3 hr1 hr2 HDn HF2
      go_wp2_with fail
      refine HUp.out.mono ?_
      rintro e w4 ⟨rfl, b2, k1, k2, k3, k4, k5⟩
      have hbm : b2 m = b i := by rw [k4 m (Nat.le_refl _)]; exact HE.out.2.1
      have HG : Hid (Hp kle (fun k => S (b2 k)) m ∧ Pm (m + 1) b b2 ∧ Fr N hb w1 w4) := ⟨k2, HE.out.1.trans (k3.mono (by omega) k4), HE.out.2.2.trans k5⟩
      have HPop := Lib.hid (lpop_ k1)
      clear k1 k2 k3 k4 k5 HUp
      go_wp2_with fail
      refine HPop.out.mono ?_
      rintro e w5 ⟨rfl, ⟨v', hl4⟩, hs4, hf4⟩
      rw [hbm] at hs4
      have HK : Hid (Ln w5 N hb ty rs v' m b2 S ∧ SlotAt w5 (b i) (S (b i)) m ∧ Fr N hb w1 w5) := ⟨hl4, hs4, HG.out.2.2.trans hf4⟩
      unfold pt
      clear hl4 hs4 hf4 HPop
      go_wp2_with fail
      go_ret
      exact ⟨rfl, v', b2, HK.out.1, HG.out.1, HG.out.2.1, hbm, HK.out.2.1, HK.out.2.2⟩
    · have hbm : b' m = b i := by rw [htl m (Nat.le_refl _), sw_right]
      have HG : Hid (Hp kle (fun k => S (b' k)) m ∧ Pm (m + 1) b b' ∧ Fr N hb w1 w3) := ⟨hr1 rfl, (pm_sw b (by omega) (by omega)).trans (hpm.mono (by omega) htl), HF2.out.trans hf3⟩
      have HPop := Lib.hid (lpop_ hl3)
      clear hl3 hpm htl hf3 hr1 hr2 HDn HF2
      go_wp2_with fail
      refine HPop.out.mono ?_
      rintro e w5 ⟨rfl, ⟨v', hl4⟩, hs4, hf4⟩
      rw [hbm] at hs4
      have HK : Hid (Ln w5 N hb ty rs v' m b' S ∧ SlotAt w5 (b i) (S (b i)) m ∧ Fr N hb w1 w5) := ⟨hl4, hs4, HG.out.2.2.trans hf4⟩
      unfold pt
      clear hl4 hs4 hf4 HPop
      go_wp2_with fail
      go_ret
      exact ⟨rfl, v', b', HK.out.1, HG.out.1, HG.out.2.1, hbm, HK.out.2.1, HK.out.2.2⟩
end Go.Proofs.YtnkdhipeklphaaaDoor
