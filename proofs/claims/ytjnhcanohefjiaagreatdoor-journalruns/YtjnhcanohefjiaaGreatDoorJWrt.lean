/- journal.write: what waits is laid into its sectors. -/
import Derived.Test.YtjnhcanohefjiaaGreatDoorJClean
namespace Go.Proofs.YtjnhcanohefjiaaGreatDoor
open Go.RowKit Go.Sort Go.Maps

theorem wrt_end {a : Ar} {row : List Nat} {d : Dev} {sf i : Nat} (hi : i ≤ cntJ row sf) (h : (wrtS a row (sf / 64) d i).2 ≠ 0) : wrtD a row sf d = (wrtS a row (sf / 64) d i).1 ∧ wrtE a row sf d = (wrtS a row (sf / 64) d i).2 := by
  have e := wrt_stop a row (sf / 64) d i (cntJ row sf - i) h
  rw [show i + (cntJ row sf - i) = cntJ row sf by omega] at e
  unfold wrtD wrtE
  rw [e, if_pos h, if_pos h]
  exact ⟨rfl, rfl⟩
set_option maxRecDepth 100000 in
set_option maxHeartbeats 2000000 in
theorem jwrite_ {w : World} {base p q aa bb : Nat} {d : Dev} {K : Nat} {J : Jr} {rv ev : Value} (h : JrIn w base p q J rv ev) (hd : DevIn w p aa bb d K) (hsf : J.sf < J.pss.length) (hK : K + J.a.s.toNat < 1000000) :
    Calls Tryz.prog 43 #[.pointer (some ⟨q, 0, none⟩)] w (Wrote w p aa bb (wrtD J.a J.row (J.upto J.sf) d) (K + J.a.s.toNat) (wrtE J.a J.row (J.upto J.sf) d)) := by
  have hs := h.ok.s
  have hlen := h.ok.len
  have hrl := h.ok.row_le
  have hcn := h.ok.count
  have hult := upto_lt hsf
  obtain ⟨cnt1, cnt2⟩ := cnt_le hult hlen
  obtain ⟨_, _, _, _, _, c5, _, c7, _⟩ := h.cells
  obtain ⟨ra, rc, hrv, _⟩ := h.row.bytes
  have HJ : Hid (∀ V, Fd p aa bb w V → JrIn V base p q J rv ev) := fun V hV => h.fd hd hV
  have HEd : Hid (∀ V, Below w.heap.size w V → Calls Tryz.prog 45 #[.pointer (some ⟨q, 0, none⟩), .int .i64 J.sf] V fun e w' => e = .returned (.int .i64 (J.upto J.sf : Nat)) ∧ w' = V) := fun V hV => jend_ (h.on hV) J.sf h.ok.sf
  have HEnd : Hid (∀ i, i ≤ cntJ J.row (J.upto J.sf) → (wrtS J.a J.row (J.upto J.sf / 64) d i).2 ≠ 0 → wrtD J.a J.row (J.upto J.sf) d = (wrtS J.a J.row (J.upto J.sf / 64) d i).1 ∧ wrtE J.a J.row (J.upto J.sf) d = (wrtS J.a J.row (J.upto J.sf / 64) d i).2) := fun i hi hh => wrt_end hi hh
  have HFin : Hid ((wrtS J.a J.row (J.upto J.sf / 64) d (cntJ J.row (J.upto J.sf))).2 = 0 → wrtD J.a J.row (J.upto J.sf) d = syncD (wrtS J.a J.row (J.upto J.sf / 64) d (cntJ J.row (J.upto J.sf))).1 J.a.g ∧ wrtE J.a J.row (J.upto J.sf) d = sErr (wrtS J.a J.row (J.upto J.sf / 64) d (cntJ J.row (J.upto J.sf))).1 J.a.g) := fun h0 => by
    have h0' : ¬ (wrtS J.a J.row (J.upto J.sf / 64) d (cntJ J.row (J.upto J.sf))).2 ≠ 0 := fun e => e h0
    unfold wrtD wrtE
    simp only [if_neg h0']
    exact ⟨trivial, trivial⟩
  have HD0 : Hid (DevIn w p aa bb (wrtS J.a J.row (J.upto J.sf / 64) d 0).1 (K + 0)) := hd
  have F7 : Hid (∀ V, Below w.heap.size w V → V.cell? ⟨q, 7, none⟩ = some (.int .i64 J.sf)) := fun V hV => (h.on hV).cells.2.2.2.2.2.2.2.1
  have F5 : Hid (∀ V, Below w.heap.size w V → V.cell? ⟨q, 5, none⟩ = some rv) := fun V hV => (h.on hV).cells.2.2.2.2.2.1
  subst hrv
  generalize wrtD J.a J.row (J.upto J.sf) d = cD at *
  generalize wrtE J.a J.row (J.upto J.sf) d = cE at *
  generalize hcj : cntJ J.row (J.upto J.sf) = cnt at *
  generalize hu : J.upto J.sf = u at *
  generalize hrn : J.row.length = n at *
  obtain ⟨f0, hf0⟩ : ∃ f0, f0 = u / 64 := ⟨_, rfl⟩
  obtain ⟨l0, hl0⟩ : ∃ l0, l0 = (n - 1) / 64 := ⟨_, rfl⟩
  rw [← hf0] at HEnd HFin HD0 cnt1 cnt2
  rw [← hl0] at cnt1
  have e1 : (u : Int).tdiv 64 = (f0 : Int) := by rw [Int.tdiv_eq_ediv_of_nonneg (by omega)]; omega
  have e2 : ((n : Int) - 1).tdiv 64 = (l0 : Int) := by rw [Int.tdiv_eq_ediv_of_nonneg (by omega)]; omega
  have w1 := wraps_i64 ((n : Int) - 1) (by omega) (by omega)
  have w2 := wraps_i64 (f0 : Int) (by omega) (by omega)
  have w3 := wraps_i64 (l0 : Int) (by omega) (by omega)
  clear h hd hcj hu hf0 hl0 hrn c5 c7
  go_enter Tryz.func43, Tryz.ntmps43
  go_wp2_with fail
  refine wp_region_noPanic ?_
  refine wp_region_held_drew (S := fun V => Below w.heap.size w V) (by kernel_rfl) (below_drew _) (fun hHeld => ?_)
  refine take_at 0 (.pointer (some ⟨q, 0, none⟩)) rfl (by kernel_rfl) (by kernel_rfl) (by kernel_rfl) (fun _ _ _ h => h) (Or.inl ⟨by rfl, ?_⟩) (by assumption) ?_
  · intro V hSV; go_simp
  simp only [Act.put, List.setIfInBounds_toArray, List.set_cons_zero, List.set_cons_succ]
  refine take_at 1 (.pointer (some ⟨q, 0, none⟩)) rfl (by kernel_rfl) (by kernel_rfl) (by kernel_rfl) (fun _ _ _ h => h) (Or.inl ⟨by rfl, ?_⟩) (by assumption) ?_
  · intro V hSV; go_simp
  simp only [Act.put, List.setIfInBounds_toArray, List.set_cons_zero, List.set_cons_succ]
  refine take_at 2 (.pointer (some ⟨q, 0, none⟩)) rfl (by kernel_rfl) (by kernel_rfl) (by kernel_rfl) (fun _ _ _ h => h) (Or.inl ⟨by rfl, ?_⟩) (by assumption) ?_
  · intro V hSV; go_simp
  simp only [Act.put, List.setIfInBounds_toArray, List.set_cons_zero, List.set_cons_succ]
  refine take_at 3 (.pointer (some ⟨q, 7, none⟩)) rfl (by kernel_rfl) (by kernel_rfl) (by kernel_rfl) (fun _ _ _ h => h) (Or.inl ⟨by rfl, ?_⟩) (by assumption) ?_
  · intro V hSV; go_simp
  simp only [Act.put, List.setIfInBounds_toArray, List.set_cons_zero, List.set_cons_succ]
  refine take_at 4 (.int .i64 J.sf) rfl (by kernel_rfl) (by kernel_rfl) (by kernel_rfl) (fun _ _ _ h => h) (Or.inl ⟨by rfl, ?_⟩) (by assumption) ?_
  · intro V hSV; have e0 := F7.out V hSV; go_simp
  simp only [Act.put, List.setIfInBounds_toArray, List.set_cons_zero, List.set_cons_succ]
  refine take_at 7 (.pointer (some ⟨q, 0, none⟩)) rfl (by kernel_rfl) (by kernel_rfl) (by kernel_rfl) (fun _ _ _ h => h) (Or.inl ⟨by rfl, ?_⟩) (by assumption) ?_
  · intro V hSV; go_simp
  simp only [Act.put, List.setIfInBounds_toArray, List.set_cons_zero, List.set_cons_succ]
  refine take_at 8 (.pointer (some ⟨q, 0, none⟩)) rfl (by kernel_rfl) (by kernel_rfl) (by kernel_rfl) (fun _ _ _ h => h) (Or.inl ⟨by rfl, ?_⟩) (by assumption) ?_
  · intro V hSV; go_simp
  simp only [Act.put, List.setIfInBounds_toArray, List.set_cons_zero, List.set_cons_succ]
  refine take_at 9 (.pointer (some ⟨q, 5, none⟩)) rfl (by kernel_rfl) (by kernel_rfl) (by kernel_rfl) (fun _ _ _ h => h) (Or.inl ⟨by rfl, ?_⟩) (by assumption) ?_
  · intro V hSV; go_simp
  simp only [Act.put, List.setIfInBounds_toArray, List.set_cons_zero, List.set_cons_succ]
  refine take_at 10 (.slice ra n rc) rfl (by kernel_rfl) (by kernel_rfl) (by kernel_rfl) (fun _ _ _ h => h) (Or.inl ⟨by rfl, ?_⟩) (by assumption) ?_
  · intro V hSV; have e0 := F5.out V hSV; go_simp
  simp only [Act.put, List.setIfInBounds_toArray, List.set_cons_zero, List.set_cons_succ]
  refine take_at 11 (.int .i64 n) rfl (by kernel_rfl) (by kernel_rfl) (by kernel_rfl) (fun _ _ _ h => h) (Or.inl ⟨by rfl, ?_⟩) (by assumption) ?_
  · intro V hSV; go_simp
  simp only [Act.put, List.setIfInBounds_toArray, List.set_cons_zero, List.set_cons_succ]
  refine take_at 12 (.int .i64 ((n : Int) - 1)) rfl (by kernel_rfl) (by kernel_rfl) (by kernel_rfl) (fun _ _ _ h => h) (Or.inl ⟨by rfl, ?_⟩) (by assumption) ?_
  · intro V hSV; go_simp
  simp only [Act.put, List.setIfInBounds_toArray, List.set_cons_zero, List.set_cons_succ]
  refine take_at 13 (.int .i64 l0) rfl (by kernel_rfl) (by kernel_rfl) (by kernel_rfl) (fun _ _ _ h => h) (Or.inl ⟨by rfl, ?_⟩) (by assumption) ?_
  · intro V hSV; go_simp
  simp only [Act.put, List.setIfInBounds_toArray, List.set_cons_zero, List.set_cons_succ]
  refine wpAnyH_ready (rs := [5]) (by kernel_rfl) (by simp) ?_
  refine AllReadyH.cons rfl (fun KK hK => ?_) AllReadyH.nil
  go_simp
  go_wp2_with (first | (go_at_call 45; refine (HEd.out _ (below_drew _)).mono ?_; rintro e V1 ⟨rfl, rfl⟩))
  refine hK.out _ _ ?_ (fun hHeld5 => ?_)
  · exact (by assumption)
  clear hK KK
  refine take_at 6 (.int .i64 f0) rfl (by kernel_rfl) (by kernel_rfl) (by kernel_rfl) (fun _ _ _ h => h) (Or.inl ⟨by rfl, ?_⟩) (by assumption) ?_
  · intro V hSV; go_simp
  simp only [Act.put, List.setIfInBounds_toArray, List.set_cons_zero, List.set_cons_succ]
  refine take_at 14 (.int .i64 f0) rfl (by kernel_rfl) (by kernel_rfl) (by kernel_rfl) (fun _ _ _ h => h) (Or.inl ⟨by rfl, ?_⟩) (by assumption) ?_
  · intro V hSV; go_simp
  simp only [Act.put, List.setIfInBounds_toArray, List.set_cons_zero, List.set_cons_succ]
  refine take_at 15 (.int .i64 l0) rfl (by kernel_rfl) (by kernel_rfl) (by kernel_rfl) (fun _ _ _ h => h) (Or.inl ⟨by rfl, ?_⟩) (by assumption) ?_
  · intro V hSV; go_simp
  simp only [Act.put, List.setIfInBounds_toArray, List.set_cons_zero, List.set_cons_succ]
  refine wpAnyH_done (by kernel_rfl) ?_ _
  refine NoPanic.normal ?_
  have HD1 := Lib.hid (HD0.out.on (below_drew w))
  have HF1 := Lib.hid (below_fd (below_drew w) p aa bb)
  clear hHeld hHeld5 HD0 HEd F5 F7
  generalize w.drew = W at *
  go_wp2_with fail
  go_loopw [5] (fun iv wr => ∃ k : Nat, iv = .int .i64 ((f0 : Int) + k) ∧ k ≤ cnt ∧ Hid ((wrtS J.a J.row f0 d k).2 = 0) ∧ Hid (DevIn wr p aa bb (wrtS J.a J.row f0 d k).1 (K + k)) ∧ Hid (Fd p aa bb w wr)) (fun iv _ => ((l0 : Int) + 1 - intOf iv).toNat)
  case atStart => exact ⟨0, by go_num, Nat.zero_le _, rfl, HD1, HF1⟩
  case round =>
    obtain ⟨k, rfl, hk, H0, HD, HF⟩ := hrel
    clear HD1 HF1
    by_cases hlt : k < cnt
    · have hle : (f0 : Int) + k ≤ (l0 : Int) := by omega
      have hE1 := HEnd.out (k + 1) (by omega)
      have hSt : wrtS J.a J.row f0 d (k + 1) = (writeD (wrtS J.a J.row f0 d k).1 (atJ J.a (f0 + k)) (partJ J.row (f0 + k)), wErr (wrtS J.a J.row f0 d k).1 (atJ J.a (f0 + k)) (partJ J.row (f0 + k)).length) := by
        show (if (wrtS J.a J.row f0 d k).2 ≠ 0 then _ else _) = _
        rw [if_neg (fun e => e H0.out)]
      rw [hSt] at hE1
      have HSt := Lib.hid hSt
      have HE1 := Lib.hid hE1
      have HPu : Hid (Calls Tryz.prog 53 #[.pointer (some ⟨q, 0, none⟩), .int .i64 ((f0 : Int) + k)] wr fun e w' => e = .returned (errV (wErr (wrtS J.a J.row f0 d k).1 (atJ J.a (f0 + k)) (partJ J.row (f0 + k)).length)) ∧ DevIn w' p aa bb (writeD (wrtS J.a J.row f0 d k).1 (atJ J.a (f0 + k)) (partJ J.row (f0 + k))) (K + k + 1) ∧ Fd p aa bb w w') := by
        have q := (jput_ (HJ.out _ HF.out) HD.out (by omega) (f0 + k) (by omega)).mono fun e w' ⟨q1, q2, q3⟩ => (⟨q1, q2, HF.out.trans q3⟩ : e = Ending.returned (errV (wErr (wrtS J.a J.row f0 d k).1 (atJ J.a (f0 + k)) (partJ J.row (f0 + k)).length)) ∧ DevIn w' p aa bb (writeD (wrtS J.a J.row f0 d k).1 (atJ J.a (f0 + k)) (partJ J.row (f0 + k))) (K + k + 1) ∧ Fd p aa bb w w')
        rw [show ((f0 + k : Nat) : Int) = (f0 : Int) + k by omega] at q
        exact q
      have hw := wraps_i64 ((f0 : Int) + k + 1) (by omega) (by omega)
      clear hE1 hSt HEnd HFin HJ
      generalize wErr (wrtS J.a J.row f0 d k).1 (atJ J.a (f0 + k)) (partJ J.row (f0 + k)).length = we at *
      generalize writeD (wrtS J.a J.row f0 d k).1 (atJ J.a (f0 + k)) (partJ J.row (f0 + k)) = wd at *
      by_cases hwe : we = 0
      · subst hwe
        have e0 : errV 0 = .nilIface := rfl
        rw [e0] at HPu
        go_wp2_with (first
          | (go_at_call 53; refine HPu.out.mono ?_; rintro e V3 ⟨rfl, hd3, hf3⟩
             have HD3 := Lib.hid hd3
             have HF3 := Lib.hid hf3
             clear hd3 hf3)
          | fail)
        go_roundw
        case rel => exact ⟨k + 1, by go_num, by omega, by rw [HSt.out]; rfl, by rw [HSt.out]; exact HD3.out.mono (by omega) (by omega), HF3⟩
        case measure => simp [intOf]; omega
      · rw [errV_not hwe] at HPu
        have HX : Hid (cD = wd ∧ cE = we) := HE1.out hwe
        go_wp2_with (first
          | (go_at_call 53; refine HPu.out.mono ?_; rintro e V3 ⟨rfl, hd3, hf3⟩
             have HD3 := Lib.hid hd3
             have HF3 := Lib.hid hf3
             clear hd3 hf3)
          | fail)
        go_ret
        exact ⟨by rw [HX.out.2, errV_not hwe]; rfl, by rw [HX.out.1]; exact HD3.out.mono (by omega) (by omega), HF3.out⟩
    · have hlt2 : ¬ (f0 : Int) + k ≤ (l0 : Int) := by omega
      obtain rfl : k = cnt := by omega
      have HX := Lib.hid (HFin.out H0.out)
      have hJ0 := HJ.out _ HF.out
      have HSy : Hid (∀ V, Below wr.heap.size wr V → Calls Tryz.prog 54 #[.pointer (some ⟨p, 0, none⟩), .int .i64 J.a.g] V fun e w' => ∃ ev, e = .returned ev ∧ Hid (ev = errV (sErr (wrtS J.a J.row f0 d k).1 J.a.g) ∧ DevIn w' p aa bb (syncD (wrtS J.a J.row f0 d k).1 J.a.g) (K + k) ∧ Fd p aa bb wr w') ∧ Fd p aa bb wr w') := fun V hV => (sync_ (HD.out.on hV) J.a.g).mono fun e w' ⟨q1, q2, q3⟩ => ⟨_, q1, ⟨rfl, q2, (below_fd hV _ _ _).trans q3⟩, (below_fd hV _ _ _).trans q3⟩
      have G0 : Hid (∀ V, Fd p aa bb wr V → V.cell? ⟨q, 0, none⟩ = some (.pointer (some ⟨p, 0, none⟩))) := fun V hV => (hJ0.fd HD.out hV).cells.1
      have G1 : Hid (∀ V, Fd p aa bb wr V → V.cell? ⟨q, 1, none⟩ = some (.int .i64 J.a.g)) := fun V hV => (hJ0.fd HD.out hV).cells.2.1
      clear HEnd HFin HJ hJ0
      generalize sErr (wrtS J.a J.row f0 d k).1 J.a.g = se1 at *
      generalize syncD (wrtS J.a J.row f0 d k).1 J.a.g = sd1 at *
      generalize hag : J.a.g = g at *
      clear hag
      go_wp2_with fail
      refine wp_region_noPanic ?_
      refine wp_region_held_drew (S := fun V => Fd p aa bb wr V) (by kernel_rfl) (below_fd (below_drew _) _ _ _) (fun hHeld => ?_)
      refine take_at 0 (.pointer (some ⟨q, 0, none⟩)) rfl (by kernel_rfl) (by kernel_rfl) (by kernel_rfl) (fun _ _ _ h => h) (Or.inl ⟨by rfl, ?_⟩) (by assumption) ?_
      · intro V hSV; go_simp
      simp only [Act.put, List.setIfInBounds_toArray, List.set_cons_zero, List.set_cons_succ]
      refine take_at 1 (.pointer (some ⟨q, 0, none⟩)) rfl (by kernel_rfl) (by kernel_rfl) (by kernel_rfl) (fun _ _ _ h => h) (Or.inl ⟨by rfl, ?_⟩) (by assumption) ?_
      · intro V hSV; go_simp
      simp only [Act.put, List.setIfInBounds_toArray, List.set_cons_zero, List.set_cons_succ]
      refine take_at 2 (.pointer (some ⟨q, 0, none⟩)) rfl (by kernel_rfl) (by kernel_rfl) (by kernel_rfl) (fun _ _ _ h => h) (Or.inl ⟨by rfl, ?_⟩) (by assumption) ?_
      · intro V hSV; go_simp
      simp only [Act.put, List.setIfInBounds_toArray, List.set_cons_zero, List.set_cons_succ]
      refine take_at 3 (.pointer (some ⟨p, 0, none⟩)) rfl (by kernel_rfl) (by kernel_rfl) (by kernel_rfl) (fun _ _ _ h => h) (Or.inl ⟨by rfl, ?_⟩) (by assumption) ?_
      · intro V hSV; have e0 := G0.out V hSV; go_simp
      simp only [Act.put, List.setIfInBounds_toArray, List.set_cons_zero, List.set_cons_succ]
      refine take_at 4 (.pointer (some ⟨q, 0, none⟩)) rfl (by kernel_rfl) (by kernel_rfl) (by kernel_rfl) (fun _ _ _ h => h) (Or.inl ⟨by rfl, ?_⟩) (by assumption) ?_
      · intro V hSV; go_simp
      simp only [Act.put, List.setIfInBounds_toArray, List.set_cons_zero, List.set_cons_succ]
      refine take_at 5 (.pointer (some ⟨q, 0, none⟩)) rfl (by kernel_rfl) (by kernel_rfl) (by kernel_rfl) (fun _ _ _ h => h) (Or.inl ⟨by rfl, ?_⟩) (by assumption) ?_
      · intro V hSV; go_simp
      simp only [Act.put, List.setIfInBounds_toArray, List.set_cons_zero, List.set_cons_succ]
      refine take_at 6 (.pointer (some ⟨q, 1, none⟩)) rfl (by kernel_rfl) (by kernel_rfl) (by kernel_rfl) (fun _ _ _ h => h) (Or.inl ⟨by rfl, ?_⟩) (by assumption) ?_
      · intro V hSV; go_simp
      simp only [Act.put, List.setIfInBounds_toArray, List.set_cons_zero, List.set_cons_succ]
      refine take_at 7 (.pointer (some ⟨q, 1, none⟩)) rfl (by kernel_rfl) (by kernel_rfl) (by kernel_rfl) (fun _ _ _ h => h) (Or.inl ⟨by rfl, ?_⟩) (by assumption) ?_
      · intro V hSV; go_simp
      simp only [Act.put, List.setIfInBounds_toArray, List.set_cons_zero, List.set_cons_succ]
      refine take_at 8 (.int .i64 g) rfl (by kernel_rfl) (by kernel_rfl) (by kernel_rfl) (fun _ _ _ h => h) (Or.inl ⟨by rfl, ?_⟩) (by assumption) ?_
      · intro V hSV; have e0 := G1.out V hSV; go_simp
      simp only [Act.put, List.setIfInBounds_toArray, List.set_cons_zero, List.set_cons_succ]
      refine wpAnyH_ready (rs := [9]) (by kernel_rfl) (by simp) ?_
      refine AllReadyH.cons rfl (fun KK hK => ?_) AllReadyH.nil
      go_simp
      go_wp2_with (first | (go_at_call 54; refine (HSy.out _ (below_drew _)).mono ?_; rintro e V1 ⟨ev, rfl, HZ, hf1⟩))
      refine hK.out _ _ ?_ (fun hHeld9 => ?_)
      · exact hf1
      clear hK KK
      refine take_at 10 (ev) rfl (by kernel_rfl) (by kernel_rfl) (by kernel_rfl) (fun _ _ _ h => h) (Or.inl ⟨by rfl, ?_⟩) (by assumption) ?_
      · intro V hSV; go_simp
      simp only [Act.put, List.setIfInBounds_toArray, List.set_cons_zero, List.set_cons_succ]
      refine wpAnyH_done (by kernel_rfl) ?_ _
      refine NoPanic.normal ?_
      clear hHeld hHeld9 hf1 G0 G1 HSy
      go_wp2_with fail
      go_ret
      exact ⟨by rw [HX.out.2, ← HZ.out.1]; rfl, by rw [HX.out.1]; exact HZ.out.2.1.mono (by omega) (by omega), HF.out.trans HZ.out.2.2⟩
end Go.Proofs.YtjnhcanohefjiaaGreatDoor
