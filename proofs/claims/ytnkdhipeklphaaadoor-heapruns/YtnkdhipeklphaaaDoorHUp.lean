/- The walks of container/heap's up and down over a line. -/
import Derived.Test.YtnkdhipeklphaaaDoorHPush
namespace Go.Proofs.YtnkdhipeklphaaaDoor
open Go.RowKit Go.Sort

/-- The line behind its interface. -/
def ifL (hb : Nat) : Value := .iface 61 (.pointer (some ⟨hb, 0, none⟩))
theorem na_ (a : Addr) (W : World) : (nilAhead 265 61 (.pointer (some a)) "Less").run Tryd.prog W = .ok (some false) W ∧ (nilAhead 265 61 (.pointer (some a)) "Swap").run Tryd.prog W = .ok (some false) W ∧ (nilAhead 265 61 (.pointer (some a)) "Len").run Tryd.prog W = .ok (some false) W ∧ (nilAhead 265 61 (.pointer (some a)) "Push").run Tryd.prog W = .ok (some false) W ∧ (nilAhead 265 61 (.pointer (some a)) "Pop").run Tryd.prog W = .ok (some false) W := ⟨by kernel_rfl, by kernel_rfl, by kernel_rfl, by kernel_rfl, by kernel_rfl⟩
theorem m_push (a : Addr) (W : World) : (Go.method 265 61 (.pointer (some a)) "Push").run Tryd.prog W = .ok (87, .pointer (some a)) W := by kernel_rfl
theorem m_pop (a : Addr) (W : World) : (Go.method 265 61 (.pointer (some a)) "Pop").run Tryd.prog W = .ok (86, .pointer (some a)) W := by kernel_rfl
theorem loadLine (a : Addr) (v : Value) (W : World) (h : W.cell? a = some v) : (loadVar 51 a).run Tryd.prog W = .ok v W := by
  simp [loadVar, isAgg, underlying, Tryd.underlying51, h, Result.andThen]
theorem m_less0 (a : Addr) (W : World) : (Go.method 265 61 (.pointer (some a)) "Less").run Tryd.prog W = ((loadVar 51 a) >>= fun v => pure (83, v)).run Tryd.prog W := by kernel_rfl
theorem m_less (a : Addr) (v : Value) (W : World) (h : W.cell? a = some v) : (Go.method 265 61 (.pointer (some a)) "Less").run Tryd.prog W = .ok (83, v) W := by
  rw [m_less0]; simp only [Sem.run_bind, loadLine a v W h, Result.andThen_ok, Sem.run_pure]
theorem m_swap0 (a : Addr) (W : World) : (Go.method 265 61 (.pointer (some a)) "Swap").run Tryd.prog W = ((loadVar 51 a) >>= fun v => pure (84, v)).run Tryd.prog W := by kernel_rfl
theorem m_swap (a : Addr) (v : Value) (W : World) (h : W.cell? a = some v) : (Go.method 265 61 (.pointer (some a)) "Swap").run Tryd.prog W = .ok (84, v) W := by
  rw [m_swap0]; simp only [Sem.run_bind, loadLine a v W h, Result.andThen_ok, Sem.run_pure]
theorem m_len0 (a : Addr) (W : World) : (Go.method 265 61 (.pointer (some a)) "Len").run Tryd.prog W = ((loadVar 51 a) >>= fun v => pure (82, v)).run Tryd.prog W := by kernel_rfl
theorem m_len (a : Addr) (v : Value) (W : World) (h : W.cell? a = some v) : (Go.method 265 61 (.pointer (some a)) "Len").run Tryd.prog W = .ok (82, v) W := by
  rw [m_len0]; simp only [Sem.run_bind, loadLine a v W h, Result.andThen_ok, Sem.run_pure]
theorem na_less (a : Addr) (W : World) : (nilAhead 265 61 (.pointer (some a)) "Less").run Tryd.prog W = .ok (some false) W := by kernel_rfl
theorem na_swap (a : Addr) (W : World) : (nilAhead 265 61 (.pointer (some a)) "Swap").run Tryd.prog W = .ok (some false) W := by kernel_rfl
theorem na_len (a : Addr) (W : World) : (nilAhead 265 61 (.pointer (some a)) "Len").run Tryd.prog W = .ok (some false) W := by kernel_rfl
theorem na_push (a : Addr) (W : World) : (nilAhead 265 61 (.pointer (some a)) "Push").run Tryd.prog W = .ok (some false) W := by kernel_rfl
theorem na_pop (a : Addr) (W : World) : (nilAhead 265 61 (.pointer (some a)) "Pop").run Tryd.prog W = .ok (some false) W := by kernel_rfl
theorem sw_S (S : Nat → Sl) (b : Nat → Nat) (i j l : Nat) : sw (fun k => S (b k)) i j l = S (sw b i j l) := by
  unfold sw; split
  · rfl
  · split <;> rfl
theorem sw_S' (S : Nat → Sl) (b : Nat → Nat) (i j : Nat) : sw (fun k => S (b k)) i j = fun l => S (sw b i j l) := funext fun l => sw_S S b i j l
theorem up_sw {S : Nat → Sl} {b : Nat → Nat} {n i j m : Nat} (h : Up kle (sw (fun k => S (b k)) i j) n m) : Up kle (fun l => S (sw b i j l)) n m := by rw [sw_S'] at h; exact h
theorem dn_sw {S : Nat → Sl} {b : Nat → Nat} {n i j m : Nat} (h : Dn kle (sw (fun k => S (b k)) i j) n m) : Dn kle (fun l => S (sw b i j l)) n m := by rw [sw_S'] at h; exact h
set_option maxHeartbeats 1000000 in
theorem up_ {w : World} {N hb : Nat} {ty : TypeId} {rs : List Value} {v : Value} {n : Nat} {b : Nat → Nat} {S : Nat → Sl} (h : Ln w N hb ty rs v n b S) (m j : Nat) (hm : m ≤ n) (hj : j < m) (hu : Up kle (fun k => S (b k)) m j) :
    Calls Tryd.prog 31 #[ifL hb, .int .i64 j] w fun e w' => e = .returned (.tuple #[]) ∧ ∃ b', Ln w' N hb ty rs v n b' S ∧ Hp kle (fun k => S (b' k)) m ∧ Pm m b b' ∧ (∀ k, m ≤ k → b' k = b k) ∧ Fr N hb w w' := by
  have n1 := na_less
  have n2 := na_swap
  have HL := Lib.hid h
  have HU := Lib.hid hu
  have hlim := h.lim
  obtain ⟨a, c, rfl, _, _⟩ := h.len
  clear h hu
  unfold ifL
  go_enter Tryd.func31, Tryd.ntmps31
  go_wp2_with fail
  go_loopw [1] (fun jv wr => ∃ (jj : Nat) (b' : Nat → Nat), jv = .int .i64 jj ∧ jj < m ∧ Hid (Ln wr N hb ty rs (.slice a n c) n b' S ∧ Up kle (fun k => S (b' k)) m jj ∧ (Pm m b b' ∧ ∀ k, m ≤ k → b' k = b k) ∧ Fr N hb w wr)) (fun jv _ => (intOf jv).toNat)
  case atStart => exact ⟨j, b, rfl, hj, HL.out, HU.out, ⟨Pm.refl _ _, fun _ _ => rfl⟩, Fr.refl _ _ _⟩
  case round =>
    obtain ⟨jj, b', rfl, hjn, H⟩ := hrel
    clear HL HU
    have hcell := H.out.1.head.1
    have ml := m_less ⟨hb, 0, none⟩ _ wr hcell
    by_cases h0 : jj = 0
    · subst h0
      go_wp2_with fail
      go_end0
      exact ⟨rfl, b', H.out.1, up_done H.out.2.1 (.inl rfl), H.out.2.2.1.1, H.out.2.2.1.2, H.out.2.2.2⟩
    · obtain ⟨k, rfl⟩ : ∃ k, jj = k + 1 := ⟨jj - 1, by omega⟩
      obtain ⟨i, hi⟩ : ∃ i, i = k / 2 := ⟨_, rfl⟩
      have e1 : ((k : Int)).tdiv 2 = (i : Int) := by rw [Int.tdiv_eq_ediv_of_nonneg (by omega)]; omega
      have e2 : ((i : Int) == ((k : Int) + 1)) = false := beq_eq_false_iff_ne.2 (by omega)
      obtain ⟨q, hq⟩ : ∃ q, q = decide (cmpS (S (b' (k + 1))) (S (b' i)) < 0) := ⟨_, rfl⟩
      have HLe : Hid (Calls Tryd.prog 83 #[.slice a n c, .int .i64 ((k : Int) + 1), .int .i64 (i : Int)] wr fun e w' => e = .returned (.bool q) ∧ Below wr.heap.size wr w') := by
        rw [hq]; exact less_ H.out.1 (k + 1) i (by omega) (by omega)
      have HP : Hid (par (k + 1) = i) := by rw [hi]; rfl
      have hik : i < k + 1 := by omega
      clear hi
      go_wp2_with fail
      refine HLe.out.mono ?_
      rintro e w2 ⟨rfl, hb2⟩
      have HL2 := Lib.hid (H.out.1.on hb2)
      have HF2 := Lib.hid (H.out.2.2.2.trans (below_fr hb2 N hb))
      have HQ := Lib.hid hq
      have hcell2 := HL2.out.head.1
      have ms := m_swap ⟨hb, 0, none⟩ _ w2 hcell2
      clear hb2 hq HLe hcell ml
      cases q
      · go_wp2_with fail
        go_end0
        refine ⟨rfl, b', HL2.out, up_done H.out.2.1 (.inr (.inr ?_)), H.out.2.2.1.1, H.out.2.2.1.2, HF2.out⟩
        rw [HP.out]
        exact of_decide_eq_false HQ.out.symm
      · have HSw : Hid (Calls Tryd.prog 84 #[.slice a n c, .int .i64 (i : Int), .int .i64 ((k : Int) + 1)] w2 fun e w' => e = .returned (.tuple #[]) ∧ Ln w' N hb ty rs (.slice a n c) n (sw b' i (k + 1)) S ∧ Fr N hb w2 w') := swap_ HL2.out i (k + 1) (by omega) (by omega)
        go_wp2_with fail
        refine HSw.out.mono ?_
        rintro e w3 ⟨rfl, hl3, hf3⟩
        have HL3 := Lib.hid hl3
        have HF3 := Lib.hid (HF2.out.trans hf3)
        clear hl3 hf3 HSw ms hcell2
        have HREL : Hid (Up kle (fun l => S (sw b' i (k + 1) l)) m i) := by
          have hstep := up_step tot_kle (a := fun l => S (b' l)) (Nat.succ_pos k) hjn H.out.2.1 (by rw [HP.out]; exact fun hk => hk (of_decide_eq_true HQ.out.symm))
          rw [HP.out] at hstep
          exact up_sw hstep
        have HPM : Hid (Pm m b (sw b' i (k + 1)) ∧ ∀ l, m ≤ l → sw b' i (k + 1) l = b l) :=
          ⟨H.out.2.2.1.1.trans (pm_sw b' (by omega) hjn), fun l hl => by rw [sw_far b' (by omega) (by omega)]; exact H.out.2.2.1.2 l hl⟩
        go_wp2_with fail
        go_roundw
        case rel => exact ⟨i, sw b' i (k + 1), by go_num, by omega, HL3.out, HREL.out, HPM.out, HF3.out⟩
        case measure => simp [intOf]; omega
end Go.Proofs.YtnkdhipeklphaaaDoor
