/- The walk of the document's Scan. -/
import Derived.Test.YtjnhcanohefjiaaGreatDoorJRB
import Derived.Test.YtjnhcanohefjiaaGreatDoorRcROne
namespace Go.Proofs.YtjnhcanohefjiaaGreatDoor
open Go.RowKit Go.Sort Go.Maps

set_option maxRecDepth 100000 in
set_option maxHeartbeats 2000000 in
theorem rscan_ (ep : Nat) (a : Option Addr) (xs : List Nat) (n c : Nat) (w : World) (h : BytesIn w a xs) (hx : ∀ x ∈ xs, x < 256) (hc : a = none → c = 0) (hn : xs.length = n) (hlim : n ≤ 33554432) (hcap : n ≤ c) :
    Calls Tryz.prog 30 #[.int .u64 ep, .slice a n c] w fun e w' => ∃ la lc, e = .returned (.tuple #[.slice la (scan ep xs).1.length lc, .int .i64 (scan ep xs).2]) ∧ ListIn w' la (scan ep xs).1 ∧ (scan ep xs).1.length ≤ lc ∧ (scan ep xs).1.length ≤ 10000000 ∧ Below w.heap.size w w' := by
  have HO : Hid (∀ W A cc i, Below w.heap.size w W → i ≤ n → (i < n → ∃ b o, a = some ⟨b, o, none⟩ ∧ A = some ⟨b, o + i, none⟩) → (A = none → cc = 0) → n - i ≤ cc → Calls Tryz.prog 58 #[.int .u64 ep, .slice A (n - i) cc] W fun e w' =>
      ∃ a' c', e = .returned (.tuple #[.slice a' (one ep (xs.drop i)).1.length c', .int .i64 (one ep (xs.drop i)).2.1, (fun k : Nat => Value.int .i64 k) (one ep (xs.drop i)).2.2]) ∧ PayV w' w.heap.size (.slice a' (one ep (xs.drop i)).1.length c') (one ep (xs.drop i)).1 ∧ Below W.heap.size W w') := Lib.hid fun W A cc i hW hi hA hnil hcc => by
    have hin : BytesIn W A (xs.drop i) := by
      by_cases hin : i < n
      · obtain ⟨b, o, e1, e2⟩ := hA hin
        rw [e2]
        have h' := h.on hW
        rw [e1] at h'
        exact h'.drop i
      · rw [List.drop_eq_nil_of_le (by omega)]; exact bytesIn_nil _ _
    have hdl : (xs.drop i).length = n - i := by rw [List.length_drop, hn]
    refine (rone_ ep A (xs.drop i) (n - i) cc W hin (fun x hm => hx x (List.mem_of_mem_drop hm)) hnil hdl (by omega) hcc).mono fun e w' ⟨a', c', q1, q2, q3, q4⟩ => ⟨a', c', q1, ⟨a', c', rfl, q2, fun h0 => ?_⟩, q4⟩
    obtain ⟨g, o, o', e1, e2⟩ := q3 h0
    have hlt : i < n := by
      apply Classical.byContradiction
      intro q
      have hd : xs.drop i = [] := List.drop_eq_nil_of_le (by omega)
      apply h0
      rw [hd]
      rfl
    obtain ⟨b, o2, e3, e4⟩ := hA hlt
    rw [e4] at e1
    cases e1
    refine ⟨g, o', e2, .inl ?_⟩
    obtain ⟨b1, o1, e5, h5⟩ := h 0 (by omega)
    rw [e3] at e5
    cases e5
    exact block_lt_of_cell h5
  have HG : Hid (∀ i, i ≤ n → (one ep (xs.drop i)).2.2 = 0 → scan ep (xs.drop i) = ((one ep (xs.drop i)).1 :: (scan ep (xs.drop (i + (one ep (xs.drop i)).2.1))).1, (one ep (xs.drop i)).2.1 + (scan ep (xs.drop (i + (one ep (xs.drop i)).2.1))).2) ∧ 7 ≤ (one ep (xs.drop i)).2.1 ∧ i + (one ep (xs.drop i)).2.1 ≤ n) := Lib.hid fun i hi h0 => by
    have hb : ∀ x ∈ xs.drop i, x < 256 := fun x hm => hx x (List.mem_of_mem_drop hm)
    have h1 := scan_go ep (xs.drop i) hb h0
    rw [List.drop_drop] at h1
    have h2 := (one_ok ep (xs.drop i) hb h0).2.1
    rw [List.length_drop, hn] at h2
    exact ⟨h1, one_pos ep (xs.drop i) hb h0, by omega⟩
  have HSt : Hid (∀ i, (one ep (xs.drop i)).2.2 ≠ 0 → scan ep (xs.drop i) = ([], 0)) := Lib.hid fun i h0 => scan_stop ep _ h0
  have HBn : Hid (∀ i, i < n → ∃ b o, a = some ⟨b, o, none⟩) := Lib.hid fun i hi => by
    obtain ⟨b, o, e, _⟩ := h 0 (by omega)
    exact ⟨b, o, e⟩
  obtain ⟨T, hT⟩ : ∃ T, T = scan ep xs := ⟨_, rfl⟩
  have HT : Hid (T = ([] ++ (scan ep (xs.drop 0)).1, 0 + (scan ep (xs.drop 0)).2)) := Lib.hid (by rw [hT, List.drop_zero, List.nil_append, Nat.zero_add])
  rw [← hT]
  have HC := Lib.hid hc
  clear hT h hx hc hn
  go_enter Tryz.func30, Tryz.ntmps30
  go_wp2_with fail
  go_loopw [6, 7] (fun pv iv wr => ∃ (i : Nat) (yss : List (List Nat)), iv = .int .i64 i ∧ i ≤ n ∧ Hid (7 * yss.length ≤ i) ∧ Hid (LsP wr w.heap.size pv yss) ∧ Hid (T = (yss ++ (scan ep (xs.drop i)).1, i + (scan ep (xs.drop i)).2)) ∧ Hid (Below w.heap.size w wr)) (fun _ iv _ => ((n : Int) - intOf iv).toNat)
  case atStart => exact ⟨0, [], rfl, Nat.zero_le _, Lib.hid (Nat.le_refl _), Lib.hid (lsP_nil _ _), HT, Lib.hid (Below.refl _ _)⟩
  case round =>
    obtain ⟨i, yss, rfl, hi, hlen, hls, ht, hb⟩ := hrel
    have HOi : Hid (∀ A cc, (i < n → ∃ b o, a = some ⟨b, o, none⟩ ∧ A = some ⟨b, o + i, none⟩) → (A = none → cc = 0) → n - i ≤ cc → Calls Tryz.prog 58 #[.int .u64 ep, .slice A (n - i) cc] wr fun e w' =>
      ∃ a' c', e = .returned (.tuple #[.slice a' (one ep (xs.drop i)).1.length c', .int .i64 (one ep (xs.drop i)).2.1, (fun k : Nat => Value.int .i64 k) (one ep (xs.drop i)).2.2]) ∧ PayV w' w.heap.size (.slice a' (one ep (xs.drop i)).1.length c') (one ep (xs.drop i)).1 ∧ Below wr.heap.size wr w') := Lib.hid fun A cc => HO.out wr A cc i hb.out hi
    have HGi := Lib.hid (HG.out i hi)
    have HSi := Lib.hid (HSt.out i)
    obtain ⟨vs, hr, hl, hpay⟩ := hls.out
    obtain ⟨la, lc, rfl, hli, hlc⟩ := hls.out.slice
    have HR := Lib.hid hr
    have HL := Lib.hid hl
    have HP := Lib.hid hpay
    have HLI := Lib.hid hli
    have HLC := Lib.hid hlc
    clear hr hl hpay hli hlc
    generalize one ep (xs.drop i) = R at *
    obtain ⟨ps, s, er⟩ := R
    simp only at HOi HGi HSi
    have hin0 : (0 : Int) ≤ (i : Int) := by omega
    have hic : (i : Int) ≤ (c : Int) := by omega
    have hin : (i : Int) ≤ (n : Int) := by omega
    obtain ⟨pl, hpl⟩ : ∃ pl, ps.length = pl := ⟨_, rfl⟩
    have HPL := Lib.hid hpl
    rw [hpl] at HOi
    clear hpl
    obtain ⟨yl, hyl⟩ : ∃ yl, yss.length = yl := ⟨_, rfl⟩
    have HYL := Lib.hid hyl
    rw [hyl] at hlen HLC ⊢
    rw [hyl] at HR
    clear hyl
    have fin : ∀ W2, Below w.heap.size w W2 → Below wr.heap.size wr W2 → er ≠ 0 → (∃ la' lc', Ending.returned (.tuple #[.slice la yl lc, .int .i64 (i : Int)]) = .returned (.tuple #[.slice la' T.1.length lc', .int .i64 T.2]) ∧ ListIn W2 la' T.1 ∧ T.1.length ≤ lc' ∧ T.1.length ≤ 10000000 ∧ Below w.heap.size w W2) := fun W2 h1 h2 h3 => by
      have hT := ht.out
      rw [HSi.out h3, List.append_nil, Nat.add_zero] at hT
      rw [hT]
      have := hlen.out
      have := HLC.out
      refine ⟨la, lc, by rw [HYL.out], HLI.out.on h2, by show yss.length ≤ lc; rw [HYL.out]; omega, by show yss.length ≤ _; rw [HYL.out]; omega, h1⟩
    have FIN := Lib.hid fin
    clear fin
    by_cases hcE : er ≠ 0
    · have hne : ((er : Int) == 0) = false := beq_false_of_ne (by omega)
      by_cases hlt : i < n
      · obtain ⟨b, o, rfl⟩ := HBn.out i hlt
        have hci : ¬ c = i := by omega
        go_wp2_with fail
        refine (HOi.out _ _ (fun _ => ⟨b, o, rfl, rfl⟩) (fun q => by cases q) (by omega)).mono ?_
        rintro e w1 ⟨a1, c1, rfl, _, hb1⟩
        have HB1 := Lib.hid hb1
        have HB2 := Lib.hid (below_step hb.out hb1)
        clear hb1
        go_wp2_with fail
        go_ret2
        exact FIN.out w1 HB2.out HB1.out hcE
      · have HOz : Hid (∀ A cc, (A = none → cc = 0) → Calls Tryz.prog 58 #[.int .u64 ep, .slice A 0 cc] wr fun e w' => ∃ a' c', e = .returned (.tuple #[.slice a' pl c', .int .i64 s, .int .i64 er]) ∧ Below wr.heap.size wr w') := Lib.hid fun A cc hz => by
          have := HOi.out A cc (fun q => absurd q hlt) hz (by omega)
          rw [show n - i = 0 by omega] at this
          exact this.mono fun e w' ⟨a', c', q1, _, q3⟩ => ⟨a', c', q1, q3⟩
        clear HOi HO
        obtain rfl : i = n := by omega
        cases a with
        | none =>
          have hc0 := HC.out rfl
          subst hc0
          obtain rfl : i = 0 := by omega
          go_wp2_with fail
          refine (HOz.out _ _ (fun _ => rfl)).mono ?_
          rintro e w1 ⟨a1, c1, rfl, hb1⟩
          have HB1 := Lib.hid hb1
          have HB2 := Lib.hid (below_step hb.out hb1)
          clear hb1
          go_wp2_with fail
          go_ret2
          exact FIN.out w1 HB2.out HB1.out hcE
        | some ad =>
          go_wp2_with fail
          all_goals
            refine (HOz.out _ _ (fun q => by cases q)).mono ?_
            rintro e w1 ⟨a1, c1, rfl, hb1⟩
            have HB1 := Lib.hid hb1
            have HB2 := Lib.hid (below_step hb.out hb1)
            clear hb1
            go_wp2_with fail
            go_ret2
            exact FIN.out w1 HB2.out HB1.out hcE
    · obtain rfl : er = 0 := by omega
      obtain ⟨hg1, hg2, hg3⟩ := HGi.out rfl
      have HT2 : Hid (T = ((yss ++ [ps]) ++ (scan ep (xs.drop (i + s))).1, (i + s) + (scan ep (xs.drop (i + s))).2)) := Lib.hid (by rw [ht.out, hg1]; simp [Nat.add_assoc])
      skip
      clear hcE hg1 FIN HSi HGi HT
      have hlt : i < n := by omega
      obtain ⟨b, o, rfl⟩ := HBn.out i hlt
      have hci : ¬ c = i := by omega
      go_wp2_with fail
      refine (HOi.out _ _ (fun _ => ⟨b, o, rfl, rfl⟩) (fun q => by cases q) (by omega)).mono ?_
      rintro e w1 ⟨a1, c1, rfl, hp1, hb1⟩
      have HP1 : Hid (PayV w1 w.heap.size (.slice a1 pl c1) ps) := Lib.hid hp1
      have HB1 := Lib.hid hb1
      have HB2 := Lib.hid (below_step hb.out hb1)
      have HR1 : Hid (OwnR w1 w.heap.size (.slice la yl lc) vs) := Lib.hid (HR.out.on hb1)
      have hs1 := HB2.out.size
      have hvl : vs.length ≤ 10000000 := by have := hlen.out; rw [HL.out, HYL.out]; omega
      have HW : Hid (Below w.heap.size w (w1.alloc (.cells #[.slice a1 pl c1] 53))) := Lib.hid (HB2.out.alloc hs1 _)
      have HRW : Hid (OwnR (w1.alloc (.cells #[.slice a1 pl c1] 53)) w.heap.size (.slice la yl lc) vs) := Lib.hid (HR1.out.on (below_alloc _ _))
      have HPW : Hid (∀ j, j < yss.length → PayV (w1.alloc (.cells #[.slice a1 pl c1] 53)) w.heap.size (vs.getD j undef) (yss.getD j [])) := Lib.hid fun j hj => (HP.out j hj).on (below_step HB1.out (below_alloc _ _))
      have HPs : Hid (PayV (w1.alloc (.cells #[.slice a1 pl c1] 53)) w.heap.size (.slice a1 pl c1) ps) := Lib.hid (HP1.out.on (below_alloc _ _))
      clear hp1 hb1
      go_wp2_with (first
        | (at_builtin; refine wpList_append_row _ rfl _ _ rfl w.heap.size _ vs (.slice a1 pl c1) rfl HRW.out w1.heap.size rfl (cell_of (World.alloc_heap_new' _ _) rfl) rfl hvl HW.out.size ?_
           intro v2 w2 hown hgrow
           have HLs := Lib.hid (LsP.snoc HRW.out HL.out HPW.out HPs.out hown hgrow)
           have HB3 := Lib.hid (below_growR HW.out HRW.out hgrow)
           clear hown hgrow)
        | fail)
      go_roundw
      case rel => exact ⟨i + s, yss ++ [ps], by go_num, by omega, Lib.hid (by rw [List.length_append, HYL.out, List.length_singleton]; have := hlen.out; omega), HLs, HT2, HB3⟩
      case measure => simp [intOf]; omega
end Go.Proofs.YtjnhcanohefjiaaGreatDoor
