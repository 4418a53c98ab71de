/- journal.part and put; journal.clean and write; journal.write: what waits is laid into its sectors. -/
import Derived.Test.YtjnhcanohefjiaaGreatDoorJJA
import Derived.Test.YtjnhcanohefjiaaGreatDoorDWrite
import Derived.Test.YtjnhcanohefjiaaGreatDoorDSync
namespace Go.Proofs.YtjnhcanohefjiaaGreatDoor
open Go.RowKit Go.Sort Go.Maps

/-- What part hands back. -/
def PartTo (w : World) (xs : List Nat) (e : Ending) (w' : World) : Prop := (∃ a c, e = .returned (.slice a xs.length c) ∧ BytesIn w a xs) ∧ w' = w
set_option maxRecDepth 100000 in
set_option maxHeartbeats 1000000 in
theorem jpart_ {w : World} {base p q : Nat} {J : Jr} {rv ev : Value} (h : JrIn w base p q J rv ev) (i : Nat) (hi : i ≤ 16384) :
    Calls Tryz.prog 52 #[.pointer (some ⟨q, 0, none⟩), .int .i64 i] w (PartTo w (partJ J.row i)) := by
  obtain ⟨_, _, _, _, _, c5, _⟩ := h.cells
  have hle := h.ok.row_le
  obtain ⟨n, hn⟩ : ∃ n, n = J.row.length := ⟨_, rfl⟩
  obtain ⟨f, hf⟩ : ∃ f, f = min (64 * i) n := ⟨_, rfl⟩
  obtain ⟨t, ht⟩ : ∃ t, t = min (f + 64) n := ⟨_, rfl⟩
  have hpl : (partJ J.row i).length = t - f := by rw [partJ_len]; omega
  have hw1 := wraps_i64 ((i : Int) * 64) (by omega) (by omega)
  have hw2 := wraps_i64 ((f : Int) + 64) (by omega) (by omega)
  have m1 : min ((i : Int) * 64) (n : Int) = (f : Int) := by omega
  have m2 : min ((f : Int) + 64) (n : Int) = (t : Int) := by omega
  have hft : f ≤ t ∧ t ≤ n := by omega
  rcases h.row.shape with ⟨rfl, hr⟩ | ⟨g, c, rfl, hc, hby⟩
  · have hn0 : n = 0 := by rw [hn, hr]; rfl
    obtain rfl : f = 0 := by omega
    obtain rfl : t = 0 := by omega
    subst hn0
    have m3 : min ((i : Int) * 64) (0 : Int) = 0 := by omega
    have m4 : min ((0 : Int) + 64) (0 : Int) = 0 := by omega
    have HE : Hid (∀ w', w' = w → PartTo w (partJ J.row i) (.returned (.slice none 0 0)) w') := fun w' hw => ⟨⟨none, 0, by rw [hpl], by rw [List.eq_nil_of_length_eq_zero hpl]; exact bytesIn_nil _ _⟩, hw⟩
    clear h hf ht hpl hr hn hle
    go_enter Tryz.func52, Tryz.ntmps52
    go_wp2_with fail
    go_ret
    exact HE.out _ rfl
  · rw [← hn] at c5 hc
    have HE : Hid (∀ w' A cc, w' = w → (f < c → A = some ⟨g, f, none⟩) → PartTo w (partJ J.row i) (.returned (.slice A (t - f) cc)) w') := fun w' A cc hw hA => by
      refine ⟨⟨A, cc, by rw [hpl], ?_⟩, hw⟩
      by_cases hfc : f < c ∧ 64 * i < n
      · rw [hA hfc.1]
        have q := (hby.drop f).take 64
        rw [Nat.zero_add, show f = 64 * i by omega] at q
        rw [show f = 64 * i by omega]
        exact q
      · rw [List.eq_nil_of_length_eq_zero (show (partJ J.row i).length = 0 by omega)]
        exact bytesIn_nil _ _
    have h1 : (0 : Int) ≤ (f : Int) := by omega
    have h2 : (f : Int) ≤ (t : Int) := by omega
    have h3 : (t : Int) ≤ (c : Int) := by omega
    have h4 : (t : Int) - (f : Int) = ((t - f : Nat) : Int) := by omega
    obtain ⟨hft1, hft2⟩ := hft
    clear h hby hle hf ht hpl hn
    by_cases hcf : c = f
    · subst hcf
      go_enter Tryz.func52, Tryz.ntmps52
      go_wp2_with fail
      go_ret
      exact HE.out _ _ _ rfl (fun q => by omega)
    · go_enter Tryz.func52, Tryz.ntmps52
      go_wp2_with fail
      go_ret
      exact HE.out _ _ _ rfl (fun _ => rfl)
/-- A write of a sector, on the device alone. -/
def Wrote (w : World) (p aa bb : Nat) (d : Dev) (K : Nat) (k : Nat) (e : Ending) (w' : World) : Prop := e = .returned (errV k) ∧ DevIn w' p aa bb d K ∧ Fd p aa bb w w'
set_option maxRecDepth 100000 in
set_option maxHeartbeats 2000000 in
theorem jput_ {w : World} {base p q aa bb : Nat} {d : Dev} {K : Nat} {J : Jr} {rv ev : Value} (h : JrIn w base p q J rv ev) (hd : DevIn w p aa bb d K) (hK : K < 1000000) (i : Nat) (hi : i ≤ 16384) :
    Calls Tryz.prog 53 #[.pointer (some ⟨q, 0, none⟩), .int .i64 i] w (Wrote w p aa bb (writeD d (atJ J.a i) (partJ J.row i)) (K + 1) (wErr d (atJ J.a i) (partJ J.row i).length)) := by
  have hf := h.ok.f
  have HC : Hid (∀ V, Fd p aa bb w V → V.cell? ⟨q, 0, none⟩ = some (.pointer (some ⟨p, 0, none⟩)) ∧ V.cell? ⟨q, 1, none⟩ = some (.int .i64 J.a.g) ∧ V.cell? ⟨q, 2, none⟩ = some (.int .i64 J.a.f)) := fun V hV => by
    obtain ⟨c0, c1, c2, _⟩ := (h.fd hd hV).cells
    exact ⟨c0, c1, c2⟩
  have F0 : Hid (∀ V, Fd p aa bb w V → V.cell? ⟨q, 0, none⟩ = some (.pointer (some ⟨p, 0, none⟩))) := fun V hV => (HC.out V hV).1
  have F1 : Hid (∀ V, Fd p aa bb w V → V.cell? ⟨q, 1, none⟩ = some (.int .i64 J.a.g)) := fun V hV => (HC.out V hV).2.1
  have F2 : Hid (∀ V, Fd p aa bb w V → V.cell? ⟨q, 2, none⟩ = some (.int .i64 J.a.f)) := fun V hV => (HC.out V hV).2.2
  have HP : Hid (Calls Tryz.prog 52 #[.pointer (some ⟨q, 0, none⟩), .int .i64 i] w.drew (PartTo w.drew (partJ J.row i))) := jpart_ (h.on (below_drew w)) i hi
  have HW : Hid (∀ a c, BytesIn w.drew a (partJ J.row i) → Calls Tryz.prog 76 #[.pointer (some ⟨p, 0, none⟩), .int .i64 J.a.g, .int .i64 (J.a.f + i), .slice a (partJ J.row i).length c] w.drew (Wrote w p aa bb (writeD d (atJ J.a i) (partJ J.row i)) (K + 1) (wErr d (atJ J.a i) (partJ J.row i).length))) := fun a c hb =>
    (write_ (hd.on (below_drew w)) (atJ J.a i) a (partJ J.row i) _ c hb rfl (partJ_byte h.ok.byte _) hK).mono fun e w' ⟨h1, h2, h3⟩ => ⟨h1, h2, (below_fd (below_drew w) _ _ _).trans h3⟩
  have hw := wraps_i64 (J.a.f + (i : Int)) (by omega) (by omega)
  clear h hd HC
  unfold PartTo at HP
  generalize J.a.g = g at *
  generalize J.a.f = f at *
  generalize partJ J.row i = xs at *
  generalize xs.length = l at *
  generalize wErr d (atJ J.a i) l = k at *
  generalize writeD d (atJ J.a i) xs = d1 at *
  go_enter Tryz.func53, Tryz.ntmps53
  go_wp2_with fail
  refine wp_region_noPanic ?_
  refine wp_region_held_drew (S := fun V => Fd p aa bb w V) (by kernel_rfl) (below_fd (below_drew _) _ _ _) (fun hHeld => ?_)
  refine take_at 0 (.pointer (some ⟨q, 0, none⟩)) rfl (by kernel_rfl) (by kernel_rfl) (by kernel_rfl) (fun _ _ _ h => h) (Or.inl ⟨by rfl, ?_⟩) (by assumption) ?_
  · intro V hSV; go_simp
  simp only [Act.put, List.setIfInBounds_toArray, List.set_cons_zero, List.set_cons_succ]
  refine take_at 1 (.pointer (some ⟨q, 0, none⟩)) rfl (by kernel_rfl) (by kernel_rfl) (by kernel_rfl) (fun _ _ _ h => h) (Or.inl ⟨by rfl, ?_⟩) (by assumption) ?_
  · intro V hSV; go_simp
  simp only [Act.put, List.setIfInBounds_toArray, List.set_cons_zero, List.set_cons_succ]
  refine take_at 2 (.pointer (some ⟨q, 0, none⟩)) rfl (by kernel_rfl) (by kernel_rfl) (by kernel_rfl) (fun _ _ _ h => h) (Or.inl ⟨by rfl, ?_⟩) (by assumption) ?_
  · intro V hSV; go_simp
  simp only [Act.put, List.setIfInBounds_toArray, List.set_cons_zero, List.set_cons_succ]
  refine take_at 3 (.pointer (some ⟨p, 0, none⟩)) rfl (by kernel_rfl) (by kernel_rfl) (by kernel_rfl) (fun _ _ _ h => h) (Or.inl ⟨by rfl, ?_⟩) (by assumption) ?_
  · intro V hSV; have e0 := F0.out V hSV; go_simp
  simp only [Act.put, List.setIfInBounds_toArray, List.set_cons_zero, List.set_cons_succ]
  refine take_at 4 (.pointer (some ⟨q, 0, none⟩)) rfl (by kernel_rfl) (by kernel_rfl) (by kernel_rfl) (fun _ _ _ h => h) (Or.inl ⟨by rfl, ?_⟩) (by assumption) ?_
  · intro V hSV; go_simp
  simp only [Act.put, List.setIfInBounds_toArray, List.set_cons_zero, List.set_cons_succ]
  refine take_at 5 (.pointer (some ⟨q, 0, none⟩)) rfl (by kernel_rfl) (by kernel_rfl) (by kernel_rfl) (fun _ _ _ h => h) (Or.inl ⟨by rfl, ?_⟩) (by assumption) ?_
  · intro V hSV; go_simp
  simp only [Act.put, List.setIfInBounds_toArray, List.set_cons_zero, List.set_cons_succ]
  refine take_at 6 (.pointer (some ⟨q, 1, none⟩)) rfl (by kernel_rfl) (by kernel_rfl) (by kernel_rfl) (fun _ _ _ h => h) (Or.inl ⟨by rfl, ?_⟩) (by assumption) ?_
  · intro V hSV; go_simp
  simp only [Act.put, List.setIfInBounds_toArray, List.set_cons_zero, List.set_cons_succ]
  refine take_at 7 (.pointer (some ⟨q, 1, none⟩)) rfl (by kernel_rfl) (by kernel_rfl) (by kernel_rfl) (fun _ _ _ h => h) (Or.inl ⟨by rfl, ?_⟩) (by assumption) ?_
  · intro V hSV; go_simp
  simp only [Act.put, List.setIfInBounds_toArray, List.set_cons_zero, List.set_cons_succ]
  refine take_at 8 (.int .i64 g) rfl (by kernel_rfl) (by kernel_rfl) (by kernel_rfl) (fun _ _ _ h => h) (Or.inl ⟨by rfl, ?_⟩) (by assumption) ?_
  · intro V hSV; have e0 := F1.out V hSV; go_simp
  simp only [Act.put, List.setIfInBounds_toArray, List.set_cons_zero, List.set_cons_succ]
  refine take_at 9 (.pointer (some ⟨q, 0, none⟩)) rfl (by kernel_rfl) (by kernel_rfl) (by kernel_rfl) (fun _ _ _ h => h) (Or.inl ⟨by rfl, ?_⟩) (by assumption) ?_
  · intro V hSV; go_simp
  simp only [Act.put, List.setIfInBounds_toArray, List.set_cons_zero, List.set_cons_succ]
  refine take_at 10 (.pointer (some ⟨q, 0, none⟩)) rfl (by kernel_rfl) (by kernel_rfl) (by kernel_rfl) (fun _ _ _ h => h) (Or.inl ⟨by rfl, ?_⟩) (by assumption) ?_
  · intro V hSV; go_simp
  simp only [Act.put, List.setIfInBounds_toArray, List.set_cons_zero, List.set_cons_succ]
  refine take_at 11 (.pointer (some ⟨q, 1, none⟩)) rfl (by kernel_rfl) (by kernel_rfl) (by kernel_rfl) (fun _ _ _ h => h) (Or.inl ⟨by rfl, ?_⟩) (by assumption) ?_
  · intro V hSV; go_simp
  simp only [Act.put, List.setIfInBounds_toArray, List.set_cons_zero, List.set_cons_succ]
  refine take_at 12 (.pointer (some ⟨q, 2, none⟩)) rfl (by kernel_rfl) (by kernel_rfl) (by kernel_rfl) (fun _ _ _ h => h) (Or.inl ⟨by rfl, ?_⟩) (by assumption) ?_
  · intro V hSV; go_simp
  simp only [Act.put, List.setIfInBounds_toArray, List.set_cons_zero, List.set_cons_succ]
  refine take_at 13 (.int .i64 f) rfl (by kernel_rfl) (by kernel_rfl) (by kernel_rfl) (fun _ _ _ h => h) (Or.inl ⟨by rfl, ?_⟩) (by assumption) ?_
  · intro V hSV; have e0 := F2.out V hSV; go_simp
  simp only [Act.put, List.setIfInBounds_toArray, List.set_cons_zero, List.set_cons_succ]
  refine take_at 14 (.int .i64 i) rfl (by kernel_rfl) (by kernel_rfl) (by kernel_rfl) (fun _ _ _ h => h) (Or.inl ⟨by rfl, ?_⟩) (by assumption) ?_
  · intro V hSV; go_simp
  simp only [Act.put, List.setIfInBounds_toArray, List.set_cons_zero, List.set_cons_succ]
  refine take_at 15 (.int .i64 (f + i)) rfl (by kernel_rfl) (by kernel_rfl) (by kernel_rfl) (fun _ _ _ h => h) (Or.inl ⟨by rfl, ?_⟩) (by assumption) ?_
  · intro V hSV; go_simp
  simp only [Act.put, List.setIfInBounds_toArray, List.set_cons_zero, List.set_cons_succ]
  refine take_at 16 (.pointer (some ⟨q, 0, none⟩)) rfl (by kernel_rfl) (by kernel_rfl) (by kernel_rfl) (fun _ _ _ h => h) (Or.inl ⟨by rfl, ?_⟩) (by assumption) ?_
  · intro V hSV; go_simp
  simp only [Act.put, List.setIfInBounds_toArray, List.set_cons_zero, List.set_cons_succ]
  refine take_at 17 (.int .i64 i) rfl (by kernel_rfl) (by kernel_rfl) (by kernel_rfl) (fun _ _ _ h => h) (Or.inl ⟨by rfl, ?_⟩) (by assumption) ?_
  · intro V hSV; go_simp
  simp only [Act.put, List.setIfInBounds_toArray, List.set_cons_zero, List.set_cons_succ]
  refine wpAnyH_ready (rs := [18]) (by kernel_rfl) (by simp) ?_
  refine AllReadyH.cons rfl (fun KK hK => ?_) AllReadyH.nil
  go_simp
  go_wp2_with (first | (go_at_call 52; refine (HP.out).mono ?_; rintro e V1 ⟨⟨a1, c1, rfl, hb1⟩, rfl⟩))
  refine hK.out _ _ ?_ (fun hHeld18 => ?_)
  · exact (by assumption)
  clear hK KK
  have HC : Hid (Calls Tryz.prog 76 #[.pointer (some ⟨p, 0, none⟩), .int .i64 g, .int .i64 (f + i), .slice a1 l c1] w.drew fun e w' => ∃ ev, e = .returned ev ∧ Wrote w p aa bb d1 (K + 1) k (.returned ev) w' ∧ Fd p aa bb w w') := (HW.out a1 c1 hb1).mono fun e w' q => ⟨errV k, q.1, ⟨rfl, q.2⟩, q.2.2⟩
  refine wpAnyH_ready (rs := [19]) (by kernel_rfl) (by simp) ?_
  refine AllReadyH.cons rfl (fun KK hK => ?_) AllReadyH.nil
  go_simp
  go_wp2_with (first | (go_at_call 76; refine (HC.out).mono ?_; rintro e V2 ⟨ev, rfl, hs, hf2⟩))
  refine hK.out _ _ ?_ (fun hHeld19 => ?_)
  · exact hf2
  clear hK KK
  have HS := Lib.hid hs
  clear hs
  refine take_at 20 (ev) rfl (by kernel_rfl) (by kernel_rfl) (by kernel_rfl) (fun _ _ _ h => h) (Or.inl ⟨by rfl, ?_⟩) (by assumption) ?_
  · intro V hSV; go_simp
  simp only [Act.put, List.setIfInBounds_toArray, List.set_cons_zero, List.set_cons_succ]
  refine wpAnyH_done (by kernel_rfl) ?_ _
  refine NoPanic.normal ?_
  clear hb1 hHeld hHeld18 hHeld19 HC HW HP F0 F1 F2
  go_wp2_with fail
  go_ret
  exact HS.out
end Go.Proofs.YtjnhcanohefjiaaGreatDoor

namespace Go.Proofs.YtjnhcanohefjiaaGreatDoor
open Go.RowKit Go.Sort Go.Maps

/-- As long as no error came the device is there. -/
theorem cln_alive (a : Ar) (row : List Nat) (d : Dev) (hc : d.crashed = false) : ∀ i, (clnS a row d i).1.r = d.r ∧ (clnS a row d i).1.s = d.s ∧ ((clnS a row d i).2.2 = 0 → (clnS a row d i).1.crashed = false)
  | 0 => ⟨rfl, rfl, fun _ => hc⟩
  | i + 1 => by
    have ih := cln_alive a row d hc i
    show (clnStep a row i (clnS a row d i)).1.r = d.r ∧ (clnStep a row i (clnS a row d i)).1.s = d.s ∧ ((clnStep a row i (clnS a row d i)).2.2 = 0 → (clnStep a row i (clnS a row d i)).1.crashed = false)
    generalize clnS a row d i = s at ih ⊢
    obtain ⟨i1, i2, i3⟩ := ih
    obtain ⟨_, w2, w3, _, _⟩ := write_stays s.1 (atJ a i) (partJ row i)
    unfold clnStep
    split
    · exact ⟨i1, i2, i3⟩
    · rename_i h1
      split
      · rename_i h2; exact ⟨i1, i2, fun h => absurd h h2⟩
      · split
        · exact ⟨i1, i2, i3⟩
        · split
          · rename_i h4; exact ⟨w2.trans i1, w3.trans i2, fun h => absurd h h4⟩
          · rename_i h4; exact ⟨w2.trans i1, w3.trans i2, fun _ => (write_good (by simpa using h4)).1⟩
theorem cln_end {a : Ar} {row : List Nat} {d : Dev} {i n : Nat} (hn : n = a.s.toNat) (hi : i ≤ n) (h : (clnS a row d i).2.2 ≠ 0) : cleanD a row d = (clnS a row d i).1 ∧ cleanE a row d = (clnS a row d i).2.2 := by
  have e := cln_stop a row d i (n - i) h
  rw [show i + (n - i) = a.s.toNat by omega] at e
  unfold cleanD cleanE
  rw [e, if_pos h, if_pos h]
  exact ⟨rfl, rfl⟩
set_option maxRecDepth 100000 in
set_option maxHeartbeats 2000000 in
theorem jclean_ {w : World} {base p q aa bb : Nat} {d : Dev} {K : Nat} {J : Jr} {rv ev : Value} (h : JrIn w base p q J rv ev) (hd : DevIn w p aa bb d K) (hc : d.crashed = false) (hin : inJ d J.a) (hK : K + J.a.s.toNat < 1000000) :
    Calls Tryz.prog 28 #[.pointer (some ⟨q, 0, none⟩)] w (Wrote w p aa bb (cleanD J.a J.row d) (K + J.a.s.toNat) (cleanE J.a J.row d)) := by
  have hf := h.ok.f
  have hs := h.ok.s
  obtain ⟨_, _, _, c3, _⟩ := h.cells
  obtain ⟨n, hn⟩ : ∃ n, n = J.a.s.toNat := ⟨_, rfl⟩
  have hsn : J.a.s = (n : Int) := by omega
  have hn1 : 1 ≤ n ∧ n ≤ 16384 := by omega
  rw [← hn] at hK ⊢
  rw [hsn] at c3
  have HJ : Hid (∀ V, Fd p aa bb w V → JrIn V base p q J rv ev) := fun V hV => h.fd hd hV
  have HEnd : Hid (∀ i, i ≤ n → (clnS J.a J.row d i).2.2 ≠ 0 → cleanD J.a J.row d = (clnS J.a J.row d i).1 ∧ cleanE J.a J.row d = (clnS J.a J.row d i).2.2) := fun i hi hh => cln_end hn hi hh
  have HFin : Hid ((clnS J.a J.row d n).2.2 = 0 → cleanD J.a J.row d = (if (clnS J.a J.row d n).2.1 = true then syncD (clnS J.a J.row d n).1 J.a.g else (clnS J.a J.row d n).1) ∧ cleanE J.a J.row d = (if (clnS J.a J.row d n).2.1 = true then sErr (clnS J.a J.row d n).1 J.a.g else 0)) := fun h0 => by
    unfold cleanD cleanE
    have h0' : ¬ (clnS J.a J.row d n).2.2 ≠ 0 := fun e => e h0
    rw [← hn]
    simp only [if_neg h0']
    exact ⟨trivial, trivial⟩
  have HAl : Hid (∀ i, i < n → (clnS J.a J.row d i).2.2 = 0 → (clnS J.a J.row d i).1.crashed = false ∧ hasD (clnS J.a J.row d i).1 (atJ J.a i)) := fun i hi h0 => by
    obtain ⟨a1, a2, a3⟩ := cln_alive J.a J.row d hc i
    refine ⟨a3 h0, inJ_has (a := J.a) ?_ (by omega)⟩
    unfold inJ
    rw [a1, a2]
    exact hin
  have HD0 : Hid (DevIn w p aa bb (clnS J.a J.row d 0).1 (K + 0)) := hd
  generalize cleanD J.a J.row d = cD at *
  generalize cleanE J.a J.row d = cE at *
  clear h hd hc hin hn
  go_enter Tryz.func28, Tryz.ntmps28
  go_wp2_with fail
  go_loopw [3, 13] (fun bv iv wr => ∃ i : Nat, iv = .int .i64 i ∧ bv = .bool (clnS J.a J.row d i).2.1 ∧ i ≤ n ∧ Hid ((clnS J.a J.row d i).2.2 = 0) ∧ Hid (DevIn wr p aa bb (clnS J.a J.row d i).1 (K + i)) ∧ Hid (Fd p aa bb w wr)) (fun _ iv _ => n - (intOf iv).toNat)
  case atStart => exact ⟨0, rfl, rfl, Nat.zero_le _, rfl, HD0, Fd.refl _ _ _ _⟩
  case round =>
    obtain ⟨i, rfl, rfl, hin, H0, HD, HF⟩ := hrel
    clear HD0 c3
    by_cases hlt : i < n
    · have hlt2 : (i : Int) < (n : Int) := by omega
      obtain ⟨al1, al2⟩ := HAl.out i hlt H0.out
      have hE1 := HEnd.out (i + 1) (by omega)
      have HS1 : Hid (clnS J.a J.row d (i + 1) = clnStep J.a J.row i (clnS J.a J.row d i)) := rfl
      rw [HS1.out] at hE1
      have hr0 : rErr (clnS J.a J.row d i).1 (atJ J.a i) = 0 := by unfold rErr; rw [if_neg (fun e => e al2), if_neg (by simp [al1])]
      have HL64 : Hid ((readD (clnS J.a J.row d i).1 (atJ J.a i)).length = 64) := (okC_read HD.out.ok _).1
      have HRd : Hid (Calls Tryz.prog 49 #[.pointer (some ⟨p, 0, none⟩), .int .i64 J.a.g, .int .i64 (J.a.f + i)] wr.drew (GotC wr.drew (readD (clnS J.a J.row d i).1 (atJ J.a i)))) := read_ok (HD.out.on (below_drew wr)) (atJ J.a i) al2 al1
      generalize hS : clnS J.a J.row d i = S at *
      have hSt : clnStep J.a J.row i S = if nought ((readD S.1 (atJ J.a i)).drop (partJ J.row i).length) = true then S else if wErr S.1 (atJ J.a i) (partJ J.row i).length ≠ 0 then (writeD S.1 (atJ J.a i) (partJ J.row i), S.2.1, wErr S.1 (atJ J.a i) (partJ J.row i).length) else (writeD S.1 (atJ J.a i) (partJ J.row i), true, 0) := by
        unfold clnStep
        rw [if_neg (fun e => e H0.out), if_neg (fun e => e hr0)]
      have HSt := Lib.hid hSt
      have HS2 := Lib.hid (HS1.out.trans hSt)
      have HE1 := Lib.hid hE1
      have hJ0 := HJ.out _ HF.out
      have G0 : Hid (∀ V, Below wr.heap.size wr V → V.cell? ⟨q, 0, none⟩ = some (.pointer (some ⟨p, 0, none⟩))) := fun V hV => (hJ0.on hV).cells.1
      have G1 : Hid (∀ V, Below wr.heap.size wr V → V.cell? ⟨q, 1, none⟩ = some (.int .i64 J.a.g)) := fun V hV => (hJ0.on hV).cells.2.1
      have G2 : Hid (∀ V, Below wr.heap.size wr V → V.cell? ⟨q, 2, none⟩ = some (.int .i64 J.a.f)) := fun V hV => (hJ0.on hV).cells.2.2.1
      have HPt : Hid (∀ V, Below wr.heap.size wr V → Calls Tryz.prog 52 #[.pointer (some ⟨q, 0, none⟩), .int .i64 i] V fun e w' => (∃ a c, e = .returned (.slice a (partJ J.row i).length c) ∧ BytesIn V a (partJ J.row i)) ∧ w' = V) := fun V hV => jpart_ (hJ0.on hV) i (by omega)
      have HPu : Hid (∀ V, Below wr.heap.size wr V → Calls Tryz.prog 53 #[.pointer (some ⟨q, 0, none⟩), .int .i64 i] V fun e w' => e = .returned (errV (wErr S.1 (atJ J.a i) (partJ J.row i).length)) ∧ DevIn w' p aa bb (writeD S.1 (atJ J.a i) (partJ J.row i)) (K + i + 1) ∧ Fd p aa bb w w') := fun V hV => (jput_ (hJ0.on hV) (HD.out.on hV) (by omega) i (by omega)).mono fun e w' ⟨q1, q2, q3⟩ => ⟨q1, q2, HF.out.trans ((below_fd hV _ _ _).trans q3)⟩
      have hpl := partJ_le J.row i
      have HNo : Hid (∀ V gg A cc, V.heap[gg]? = some (.cells (vals (readD S.1 (atJ J.a i))).toArray 5 (0, 0)) → ((partJ J.row i).length < 64 → A = some ⟨gg, (partJ J.row i).length, none⟩) → Calls Tryz.prog 51 #[.slice A (64 - (partJ J.row i).length) cc] V fun e w' => e = .returned (.bool (nought ((readD S.1 (atJ J.a i)).drop (partJ J.row i).length))) ∧ w' = V) := fun V gg A cc hb hA => by
        refine noughts_ A _ _ cc V ?_ (by rw [List.length_drop, HL64.out]) (by omega)
        by_cases hl : (partJ J.row i).length < 64
        · rw [hA hl]
          have q := (ct_bytes 5 hb).drop (partJ J.row i).length
          rw [Nat.zero_add] at q
          exact q
        · rw [List.drop_eq_nil_of_le (by rw [HL64.out]; omega)]
          exact bytesIn_nil _ _
      have hw := wraps_i64 (J.a.f + (i : Int)) (by omega) (by omega)
      have hS0 := H0.out
      clear hJ0 hSt hE1 hr0 al1 al2 HEnd HFin HAl hS HJ HS1
      generalize hl : (partJ J.row i).length = l at *
      generalize readD S.1 (atJ J.a i) = rd at *
      generalize nought (rd.drop l) = nb at *
      generalize wErr S.1 (atJ J.a i) l = we at *
      generalize writeD S.1 (atJ J.a i) (partJ J.row i) = wd at *
      generalize J.a.g = g at *
      generalize J.a.f = f at *
      generalize partJ J.row i = xs at *
      clear hl
      go_wp2_with fail
      refine wp_region_noPanic ?_
      refine wp_region_held_drew (S := fun V => Below wr.heap.size wr V) (by kernel_rfl) (below_drew _) (fun hHeld => ?_)
      refine take_at 0 (.pointer (some ⟨q, 0, none⟩)) rfl (by kernel_rfl) (by kernel_rfl) (by kernel_rfl) (fun _ _ _ h => h) (Or.inl ⟨by rfl, ?_⟩) (by assumption) ?_
      · intro V hSV; go_simp
      simp only [Act.put, List.setIfInBounds_toArray, List.set_cons_zero, List.set_cons_succ]
      refine take_at 1 (.pointer (some ⟨q, 0, none⟩)) rfl (by kernel_rfl) (by kernel_rfl) (by kernel_rfl) (fun _ _ _ h => h) (Or.inl ⟨by rfl, ?_⟩) (by assumption) ?_
      · intro V hSV; go_simp
      simp only [Act.put, List.setIfInBounds_toArray, List.set_cons_zero, List.set_cons_succ]
      refine take_at 2 (.pointer (some ⟨q, 0, none⟩)) rfl (by kernel_rfl) (by kernel_rfl) (by kernel_rfl) (fun _ _ _ h => h) (Or.inl ⟨by rfl, ?_⟩) (by assumption) ?_
      · intro V hSV; go_simp
      simp only [Act.put, List.setIfInBounds_toArray, List.set_cons_zero, List.set_cons_succ]
      refine take_at 3 (.pointer (some ⟨p, 0, none⟩)) rfl (by kernel_rfl) (by kernel_rfl) (by kernel_rfl) (fun _ _ _ h => h) (Or.inl ⟨by rfl, ?_⟩) (by assumption) ?_
      · intro V hSV; have e0 := G0.out V hSV; go_simp
      simp only [Act.put, List.setIfInBounds_toArray, List.set_cons_zero, List.set_cons_succ]
      refine take_at 4 (.pointer (some ⟨q, 0, none⟩)) rfl (by kernel_rfl) (by kernel_rfl) (by kernel_rfl) (fun _ _ _ h => h) (Or.inl ⟨by rfl, ?_⟩) (by assumption) ?_
      · intro V hSV; go_simp
      simp only [Act.put, List.setIfInBounds_toArray, List.set_cons_zero, List.set_cons_succ]
      refine take_at 5 (.pointer (some ⟨q, 0, none⟩)) rfl (by kernel_rfl) (by kernel_rfl) (by kernel_rfl) (fun _ _ _ h => h) (Or.inl ⟨by rfl, ?_⟩) (by assumption) ?_
      · intro V hSV; go_simp
      simp only [Act.put, List.setIfInBounds_toArray, List.set_cons_zero, List.set_cons_succ]
      refine take_at 6 (.pointer (some ⟨q, 1, none⟩)) rfl (by kernel_rfl) (by kernel_rfl) (by kernel_rfl) (fun _ _ _ h => h) (Or.inl ⟨by rfl, ?_⟩) (by assumption) ?_
      · intro V hSV; go_simp
      simp only [Act.put, List.setIfInBounds_toArray, List.set_cons_zero, List.set_cons_succ]
      refine take_at 7 (.pointer (some ⟨q, 1, none⟩)) rfl (by kernel_rfl) (by kernel_rfl) (by kernel_rfl) (fun _ _ _ h => h) (Or.inl ⟨by rfl, ?_⟩) (by assumption) ?_
      · intro V hSV; go_simp
      simp only [Act.put, List.setIfInBounds_toArray, List.set_cons_zero, List.set_cons_succ]
      refine take_at 8 (.int .i64 g) rfl (by kernel_rfl) (by kernel_rfl) (by kernel_rfl) (fun _ _ _ h => h) (Or.inl ⟨by rfl, ?_⟩) (by assumption) ?_
      · intro V hSV; have e0 := G1.out V hSV; go_simp
      simp only [Act.put, List.setIfInBounds_toArray, List.set_cons_zero, List.set_cons_succ]
      refine take_at 9 (.pointer (some ⟨q, 0, none⟩)) rfl (by kernel_rfl) (by kernel_rfl) (by kernel_rfl) (fun _ _ _ h => h) (Or.inl ⟨by rfl, ?_⟩) (by assumption) ?_
      · intro V hSV; go_simp
      simp only [Act.put, List.setIfInBounds_toArray, List.set_cons_zero, List.set_cons_succ]
      refine take_at 10 (.pointer (some ⟨q, 0, none⟩)) rfl (by kernel_rfl) (by kernel_rfl) (by kernel_rfl) (fun _ _ _ h => h) (Or.inl ⟨by rfl, ?_⟩) (by assumption) ?_
      · intro V hSV; go_simp
      simp only [Act.put, List.setIfInBounds_toArray, List.set_cons_zero, List.set_cons_succ]
      refine take_at 11 (.pointer (some ⟨q, 1, none⟩)) rfl (by kernel_rfl) (by kernel_rfl) (by kernel_rfl) (fun _ _ _ h => h) (Or.inl ⟨by rfl, ?_⟩) (by assumption) ?_
      · intro V hSV; go_simp
      simp only [Act.put, List.setIfInBounds_toArray, List.set_cons_zero, List.set_cons_succ]
      refine take_at 12 (.pointer (some ⟨q, 2, none⟩)) rfl (by kernel_rfl) (by kernel_rfl) (by kernel_rfl) (fun _ _ _ h => h) (Or.inl ⟨by rfl, ?_⟩) (by assumption) ?_
      · intro V hSV; go_simp
      simp only [Act.put, List.setIfInBounds_toArray, List.set_cons_zero, List.set_cons_succ]
      refine take_at 13 (.int .i64 f) rfl (by kernel_rfl) (by kernel_rfl) (by kernel_rfl) (fun _ _ _ h => h) (Or.inl ⟨by rfl, ?_⟩) (by assumption) ?_
      · intro V hSV; have e0 := G2.out V hSV; go_simp
      simp only [Act.put, List.setIfInBounds_toArray, List.set_cons_zero, List.set_cons_succ]
      refine take_at 14 (.int .i64 i) rfl (by kernel_rfl) (by kernel_rfl) (by kernel_rfl) (fun _ _ _ h => h) (Or.inl ⟨by rfl, ?_⟩) (by assumption) ?_
      · intro V hSV; go_simp
      simp only [Act.put, List.setIfInBounds_toArray, List.set_cons_zero, List.set_cons_succ]
      refine take_at 15 (.int .i64 (f + i)) rfl (by kernel_rfl) (by kernel_rfl) (by kernel_rfl) (fun _ _ _ h => h) (Or.inl ⟨by rfl, ?_⟩) (by assumption) ?_
      · intro V hSV; go_simp
      simp only [Act.put, List.setIfInBounds_toArray, List.set_cons_zero, List.set_cons_succ]
      refine wpAnyH_ready (rs := [16]) (by kernel_rfl) (by simp) ?_
      refine AllReadyH.cons rfl (fun KK hK => ?_) AllReadyH.nil
      go_simp
      go_wp2_with (first | (go_at_call 49; refine (HRd.out).mono ?_; rintro e V1 ⟨gg, rfl, hgg, hgb, hb1⟩))
      refine hK.out _ _ ?_ (fun hHeld16 => ?_)
      · exact below_step (below_drew _) hb1
      clear hK KK
      refine take_at 17 (.tuple #[.slice (some ⟨gg, 0, none⟩) 64 64, .nilIface]) rfl (by kernel_rfl) (by kernel_rfl) (by kernel_rfl) (fun _ _ _ h => h) (Or.inl ⟨by rfl, ?_⟩) (by assumption) ?_
      · intro V hSV; go_simp
      simp only [Act.put, List.setIfInBounds_toArray, List.set_cons_zero, List.set_cons_succ]
      refine take_at 18 (.slice (some ⟨gg, 0, none⟩) 64 64) rfl (by kernel_rfl) (by kernel_rfl) (by kernel_rfl) (fun _ _ _ h => h) (Or.inl ⟨by rfl, ?_⟩) (by assumption) ?_
      · intro V hSV; go_simp
      simp only [Act.put, List.setIfInBounds_toArray, List.set_cons_zero, List.set_cons_succ]
      refine take_at 19 (.nilIface) rfl (by kernel_rfl) (by kernel_rfl) (by kernel_rfl) (fun _ _ _ h => h) (Or.inl ⟨by rfl, ?_⟩) (by assumption) ?_
      · intro V hSV; go_simp
      simp only [Act.put, List.setIfInBounds_toArray, List.set_cons_zero, List.set_cons_succ]
      refine take_at 20 (.slice (some ⟨gg, 0, none⟩) 64 64) rfl (by kernel_rfl) (by kernel_rfl) (by kernel_rfl) (fun _ _ _ h => h) (Or.inl ⟨by rfl, ?_⟩) (by assumption) ?_
      · intro V hSV; go_simp
      simp only [Act.put, List.setIfInBounds_toArray, List.set_cons_zero, List.set_cons_succ]
      refine take_at 21 (.nilIface) rfl (by kernel_rfl) (by kernel_rfl) (by kernel_rfl) (fun _ _ _ h => h) (Or.inl ⟨by rfl, ?_⟩) (by assumption) ?_
      · intro V hSV; go_simp
      simp only [Act.put, List.setIfInBounds_toArray, List.set_cons_zero, List.set_cons_succ]
      refine wpAnyH_done (by kernel_rfl) ?_ _
      refine NoPanic.normal ?_
      have HB1 := Lib.hid (below_step (below_drew wr) hb1)
      have HNa : Hid (l < 64 → Calls Tryz.prog 51 #[.slice (some ⟨gg, l, none⟩) (64 - l) (64 - l)] V1 fun e w' => e = .returned (.bool nb) ∧ w' = V1) := fun _ => HNo.out V1 gg _ _ hgb (fun _ => rfl)
      have HNb : Hid (l = 64 → Calls Tryz.prog 51 #[.slice (some ⟨gg, 0, none⟩) 0 0] V1 fun e w' => e = .returned (.bool nb) ∧ w' = V1) := fun hl => by
        have q := HNo.out V1 gg (some ⟨gg, 0, none⟩) 0 hgb (fun h => by omega)
        rw [hl] at q
        exact q
      clear hgg hgb hb1 hHeld hHeld16 HRd G0 G1 G2 HNo
      by_cases hl64 : l = 64
      · subst hl64
        have HN := Lib.hid (HNb.out rfl)
        clear HNa HNb hpl
        go_wp2_with (first
          | (go_at_call 52; refine (HPt.out _ HB1.out).mono ?_; rintro e V2 ⟨⟨a2, c2, rfl, _⟩, rfl⟩)
          | fail)
        refine HN.out.mono ?_
        rintro e V4 ⟨rfl, rfl⟩
        cases nb with
        | true =>
          go_wp2_with fail
          go_roundw
          case rel => exact ⟨i + 1, by go_num, by rw [HS2.out]; rfl, by omega, by rw [HS2.out]; exact hS0, by rw [HS2.out]; exact (HD.out.on HB1.out).mono (by omega) (by omega), HF.out.trans (below_fd HB1.out _ _ _)⟩
          case measure => simp [intOf]; omega
        | false =>
          by_cases hwe : we = 0
          · subst hwe
            have e0 : errV 0 = .nilIface := rfl
            rw [e0] at HPu
            go_wp2_with (first
              | (go_at_call 53; refine (HPu.out _ HB1.out).mono ?_; rintro e V3 ⟨rfl, hd3, hf3⟩
                 have HD3 := Lib.hid hd3
                 have HF3 := Lib.hid hf3
                 clear hd3 hf3)
              | fail)
            go_roundw
            case rel => exact ⟨i + 1, by go_num, by rw [HS2.out]; rfl, by omega, by rw [HS2.out]; rfl, by rw [HS2.out]; exact HD3.out.mono (by omega) (by omega), HF3⟩
            case measure => simp [intOf]; omega
          · rw [errV_not hwe] at HPu
            have HX : Hid (cD = wd ∧ cE = we) := by
              have q := HE1.out
              rw [HSt.out, if_neg (by simp), if_pos hwe] at q
              exact q hwe
            go_wp2_with (first
              | (go_at_call 53; refine (HPu.out _ HB1.out).mono ?_; rintro e V3 ⟨rfl, hd3, hf3⟩
                 have HD3 := Lib.hid hd3
                 have HF3 := Lib.hid hf3
                 clear hd3 hf3)
              | fail)
            go_ret
            exact ⟨by rw [HX.out.2, errV_not hwe]; rfl, by rw [HX.out.1]; exact HD3.out.mono (by omega) (by omega), HF3.out⟩
      · have HN := Lib.hid (HNa.out (by omega))
        have h0l : (0 : Int) ≤ (l : Int) := by omega
        have hl65 : (l : Int) ≤ 64 := by omega
        have hl66 : ¬ 64 = l := by omega
        clear HNa HNb
        go_wp2_with (first
          | (go_at_call 52; refine (HPt.out _ HB1.out).mono ?_; rintro e V2 ⟨⟨a2, c2, rfl, _⟩, rfl⟩)
          | fail)
        refine HN.out.mono ?_
        rintro e V4 ⟨rfl, rfl⟩
        cases nb with
        | true =>
          go_wp2_with fail
          go_roundw
          case rel => exact ⟨i + 1, by go_num, by rw [HS2.out]; rfl, by omega, by rw [HS2.out]; exact hS0, by rw [HS2.out]; exact (HD.out.on HB1.out).mono (by omega) (by omega), HF.out.trans (below_fd HB1.out _ _ _)⟩
          case measure => simp [intOf]; omega
        | false =>
          by_cases hwe : we = 0
          · subst hwe
            have e0 : errV 0 = .nilIface := rfl
            rw [e0] at HPu
            go_wp2_with (first
              | (go_at_call 53; refine (HPu.out _ HB1.out).mono ?_; rintro e V3 ⟨rfl, hd3, hf3⟩
                 have HD3 := Lib.hid hd3
                 have HF3 := Lib.hid hf3
                 clear hd3 hf3)
              | fail)
            go_roundw
            case rel => exact ⟨i + 1, by go_num, by rw [HS2.out]; rfl, by omega, by rw [HS2.out]; rfl, by rw [HS2.out]; exact HD3.out.mono (by omega) (by omega), HF3⟩
            case measure => simp [intOf]; omega
          · rw [errV_not hwe] at HPu
            have HX : Hid (cD = wd ∧ cE = we) := by
              have q := HE1.out
              rw [HSt.out, if_neg (by simp), if_pos hwe] at q
              exact q hwe
            go_wp2_with (first
              | (go_at_call 53; refine (HPu.out _ HB1.out).mono ?_; rintro e V3 ⟨rfl, hd3, hf3⟩
                 have HD3 := Lib.hid hd3
                 have HF3 := Lib.hid hf3
                 clear hd3 hf3)
              | fail)
            go_ret
            exact ⟨by rw [HX.out.2, errV_not hwe]; rfl, by rw [HX.out.1]; exact HD3.out.mono (by omega) (by omega), HF3.out⟩
    · have hlt2 : ¬ (i : Int) < (n : Int) := by omega
      obtain rfl : i = n := by omega
      have HX := Lib.hid (HFin.out H0.out)
      have hJ0 := HJ.out _ HF.out
      have HSy : Hid (∀ V, Below wr.heap.size wr V → Calls Tryz.prog 54 #[.pointer (some ⟨p, 0, none⟩), .int .i64 J.a.g] V fun e w' => ∃ ev, e = .returned ev ∧ Hid (ev = errV (sErr (clnS J.a J.row d i).1 J.a.g) ∧ DevIn w' p aa bb (syncD (clnS J.a J.row d i).1 J.a.g) (K + i) ∧ Fd p aa bb wr w') ∧ Fd p aa bb wr w') := fun V hV => (sync_ (HD.out.on hV) J.a.g).mono fun e w' ⟨q1, q2, q3⟩ => ⟨_, q1, ⟨rfl, q2, (below_fd hV _ _ _).trans q3⟩, (below_fd hV _ _ _).trans q3⟩
      have G0 : Hid (∀ V, Fd p aa bb wr V → V.cell? ⟨q, 0, none⟩ = some (.pointer (some ⟨p, 0, none⟩))) := fun V hV => (hJ0.fd HD.out hV).cells.1
      have G1 : Hid (∀ V, Fd p aa bb wr V → V.cell? ⟨q, 1, none⟩ = some (.int .i64 J.a.g)) := fun V hV => (hJ0.fd HD.out hV).cells.2.1
      clear HEnd HFin HAl HJ hJ0
      generalize clnS J.a J.row d i = S at *
      generalize J.a.g = g at *
      obtain ⟨sd, sb, se⟩ := S
      cases sb with
      | false =>
        simp only [Bool.false_eq_true, if_false] at HX
        go_wp2_with fail
        go_ret
        exact ⟨by rw [HX.out.2]; rfl, by rw [HX.out.1]; exact HD.out, HF.out⟩
      | true =>
        simp only [if_true] at HX
        simp only at HSy
        generalize sErr sd g = se1 at *
        generalize syncD sd g = sd1 at *
        go_wp2_with fail
        refine wp_region_noPanic ?_
        refine wp_region_held_drew (S := fun V => Fd p aa bb wr V) (by kernel_rfl) (below_fd (below_drew _) _ _ _) (fun hHeld => ?_)
        refine take_at 0 (.pointer (some ⟨q, 0, none⟩)) rfl (by kernel_rfl) (by kernel_rfl) (by kernel_rfl) (fun _ _ _ h => h) (Or.inl ⟨by rfl, ?_⟩) (by assumption) ?_
        · intro V hSV; go_simp
        simp only [Act.put, List.setIfInBounds_toArray, List.set_cons_zero, List.set_cons_succ]
        refine take_at 1 (.pointer (some ⟨q, 0, none⟩)) rfl (by kernel_rfl) (by kernel_rfl) (by kernel_rfl) (fun _ _ _ h => h) (Or.inl ⟨by rfl, ?_⟩) (by assumption) ?_
        · intro V hSV; go_simp
        simp only [Act.put, List.setIfInBounds_toArray, List.set_cons_zero, List.set_cons_succ]
        refine take_at 2 (.pointer (some ⟨q, 0, none⟩)) rfl (by kernel_rfl) (by kernel_rfl) (by kernel_rfl) (fun _ _ _ h => h) (Or.inl ⟨by rfl, ?_⟩) (by assumption) ?_
        · intro V hSV; go_simp
        simp only [Act.put, List.setIfInBounds_toArray, List.set_cons_zero, List.set_cons_succ]
        refine take_at 3 (.pointer (some ⟨p, 0, none⟩)) rfl (by kernel_rfl) (by kernel_rfl) (by kernel_rfl) (fun _ _ _ h => h) (Or.inl ⟨by rfl, ?_⟩) (by assumption) ?_
        · intro V hSV; have e0 := G0.out V hSV; go_simp
        simp only [Act.put, List.setIfInBounds_toArray, List.set_cons_zero, List.set_cons_succ]
        refine take_at 4 (.pointer (some ⟨q, 0, none⟩)) rfl (by kernel_rfl) (by kernel_rfl) (by kernel_rfl) (fun _ _ _ h => h) (Or.inl ⟨by rfl, ?_⟩) (by assumption) ?_
        · intro V hSV; go_simp
        simp only [Act.put, List.setIfInBounds_toArray, List.set_cons_zero, List.set_cons_succ]
        refine take_at 5 (.pointer (some ⟨q, 0, none⟩)) rfl (by kernel_rfl) (by kernel_rfl) (by kernel_rfl) (fun _ _ _ h => h) (Or.inl ⟨by rfl, ?_⟩) (by assumption) ?_
        · intro V hSV; go_simp
        simp only [Act.put, List.setIfInBounds_toArray, List.set_cons_zero, List.set_cons_succ]
        refine take_at 6 (.pointer (some ⟨q, 1, none⟩)) rfl (by kernel_rfl) (by kernel_rfl) (by kernel_rfl) (fun _ _ _ h => h) (Or.inl ⟨by rfl, ?_⟩) (by assumption) ?_
        · intro V hSV; go_simp
        simp only [Act.put, List.setIfInBounds_toArray, List.set_cons_zero, List.set_cons_succ]
        refine take_at 7 (.pointer (some ⟨q, 1, none⟩)) rfl (by kernel_rfl) (by kernel_rfl) (by kernel_rfl) (fun _ _ _ h => h) (Or.inl ⟨by rfl, ?_⟩) (by assumption) ?_
        · intro V hSV; go_simp
        simp only [Act.put, List.setIfInBounds_toArray, List.set_cons_zero, List.set_cons_succ]
        refine take_at 8 (.int .i64 g) rfl (by kernel_rfl) (by kernel_rfl) (by kernel_rfl) (fun _ _ _ h => h) (Or.inl ⟨by rfl, ?_⟩) (by assumption) ?_
        · intro V hSV; have e0 := G1.out V hSV; go_simp
        simp only [Act.put, List.setIfInBounds_toArray, List.set_cons_zero, List.set_cons_succ]
        refine wpAnyH_ready (rs := [9]) (by kernel_rfl) (by simp) ?_
        refine AllReadyH.cons rfl (fun KK hK => ?_) AllReadyH.nil
        go_simp
        go_wp2_with (first | (go_at_call 54; refine (HSy.out _ (below_drew _)).mono ?_; rintro e V1 ⟨ev, rfl, HZ, hf1⟩))
        refine hK.out _ _ ?_ (fun hHeld9 => ?_)
        · exact hf1
        clear hK KK
        refine take_at 10 (ev) rfl (by kernel_rfl) (by kernel_rfl) (by kernel_rfl) (fun _ _ _ h => h) (Or.inl ⟨by rfl, ?_⟩) (by assumption) ?_
        · intro V hSV; go_simp
        simp only [Act.put, List.setIfInBounds_toArray, List.set_cons_zero, List.set_cons_succ]
        refine wpAnyH_done (by kernel_rfl) ?_ _
        refine NoPanic.normal ?_
        clear hHeld hHeld9 hf1 G0 G1 HSy
        go_wp2_with fail
        go_ret
        exact ⟨by rw [HX.out.2, ← HZ.out.1]; rfl, by rw [HX.out.1]; exact HZ.out.2.1, HF.out.trans HZ.out.2.2⟩
end Go.Proofs.YtjnhcanohefjiaaGreatDoor

namespace Go.Proofs.YtjnhcanohefjiaaGreatDoor
open Go.RowKit Go.Sort Go.Maps

theorem wrt_end {a : Ar} {row : List Nat} {d : Dev} {sf i : Nat} (hi : i ≤ cntJ row sf) (h : (wrtS a row (sf / 64) d i).2 ≠ 0) : wrtD a row sf d = (wrtS a row (sf / 64) d i).1 ∧ wrtE a row sf d = (wrtS a row (sf / 64) d i).2 := by
  have e := wrt_stop a row (sf / 64) d i (cntJ row sf - i) h
  rw [show i + (cntJ row sf - i) = cntJ row sf by omega] at e
  unfold wrtD wrtE
  rw [e, if_pos h, if_pos h]
  exact ⟨rfl, rfl⟩
set_option maxRecDepth 100000 in
set_option maxHeartbeats 2000000 in
theorem jwrite_ {w : World} {base p q aa bb : Nat} {d : Dev} {K : Nat} {J : Jr} {rv ev : Value} (h : JrIn w base p q J rv ev) (hd : DevIn w p aa bb d K) (hsf : J.sf < J.pss.length) (hK : K + J.a.s.toNat < 1000000) :
    Calls Tryz.prog 43 #[.pointer (some ⟨q, 0, none⟩)] w (Wrote w p aa bb (wrtD J.a J.row (J.upto J.sf) d) (K + J.a.s.toNat) (wrtE J.a J.row (J.upto J.sf) d)) := by
  have hs := h.ok.s
  have hlen := h.ok.len
  have hrl := h.ok.row_le
  have hcn := h.ok.count
  have hult := upto_lt hsf
  obtain ⟨cnt1, cnt2⟩ := cnt_le hult hlen
  obtain ⟨_, _, _, _, _, c5, _, c7, _⟩ := h.cells
  obtain ⟨ra, rc, hrv, _⟩ := h.row.bytes
  have HJ : Hid (∀ V, Fd p aa bb w V → JrIn V base p q J rv ev) := fun V hV => h.fd hd hV
  have HEd : Hid (∀ V, Below w.heap.size w V → Calls Tryz.prog 45 #[.pointer (some ⟨q, 0, none⟩), .int .i64 J.sf] V fun e w' => e = .returned (.int .i64 (J.upto J.sf : Nat)) ∧ w' = V) := fun V hV => jend_ (h.on hV) J.sf h.ok.sf
  have HEnd : Hid (∀ i, i ≤ cntJ J.row (J.upto J.sf) → (wrtS J.a J.row (J.upto J.sf / 64) d i).2 ≠ 0 → wrtD J.a J.row (J.upto J.sf) d = (wrtS J.a J.row (J.upto J.sf / 64) d i).1 ∧ wrtE J.a J.row (J.upto J.sf) d = (wrtS J.a J.row (J.upto J.sf / 64) d i).2) := fun i hi hh => wrt_end hi hh
  have HFin : Hid ((wrtS J.a J.row (J.upto J.sf / 64) d (cntJ J.row (J.upto J.sf))).2 = 0 → wrtD J.a J.row (J.upto J.sf) d = syncD (wrtS J.a J.row (J.upto J.sf / 64) d (cntJ J.row (J.upto J.sf))).1 J.a.g ∧ wrtE J.a J.row (J.upto J.sf) d = sErr (wrtS J.a J.row (J.upto J.sf / 64) d (cntJ J.row (J.upto J.sf))).1 J.a.g) := fun h0 => by
    have h0' : ¬ (wrtS J.a J.row (J.upto J.sf / 64) d (cntJ J.row (J.upto J.sf))).2 ≠ 0 := fun e => e h0
    unfold wrtD wrtE
    simp only [if_neg h0']
    exact ⟨trivial, trivial⟩
  have HD0 : Hid (DevIn w p aa bb (wrtS J.a J.row (J.upto J.sf / 64) d 0).1 (K + 0)) := hd
  have F7 : Hid (∀ V, Below w.heap.size w V → V.cell? ⟨q, 7, none⟩ = some (.int .i64 J.sf)) := fun V hV => (h.on hV).cells.2.2.2.2.2.2.2.1
  have F5 : Hid (∀ V, Below w.heap.size w V → V.cell? ⟨q, 5, none⟩ = some rv) := fun V hV => (h.on hV).cells.2.2.2.2.2.1
  subst hrv
  generalize wrtD J.a J.row (J.upto J.sf) d = cD at *
  generalize wrtE J.a J.row (J.upto J.sf) d = cE at *
  generalize hcj : cntJ J.row (J.upto J.sf) = cnt at *
  generalize hu : J.upto J.sf = u at *
  generalize hrn : J.row.length = n at *
  obtain ⟨f0, hf0⟩ : ∃ f0, f0 = u / 64 := ⟨_, rfl⟩
  obtain ⟨l0, hl0⟩ : ∃ l0, l0 = (n - 1) / 64 := ⟨_, rfl⟩
  rw [← hf0] at HEnd HFin HD0 cnt1 cnt2
  rw [← hl0] at cnt1
  have e1 : (u : Int).tdiv 64 = (f0 : Int) := by rw [Int.tdiv_eq_ediv_of_nonneg (by omega)]; omega
  have e2 : ((n : Int) - 1).tdiv 64 = (l0 : Int) := by rw [Int.tdiv_eq_ediv_of_nonneg (by omega)]; omega
  have w1 := wraps_i64 ((n : Int) - 1) (by omega) (by omega)
  have w2 := wraps_i64 (f0 : Int) (by omega) (by omega)
  have w3 := wraps_i64 (l0 : Int) (by omega) (by omega)
  clear h hd hcj hu hf0 hl0 hrn c5 c7
  go_enter Tryz.func43, Tryz.ntmps43
  go_wp2_with fail
  refine wp_region_noPanic ?_
  refine wp_region_held_drew (S := fun V => Below w.heap.size w V) (by kernel_rfl) (below_drew _) (fun hHeld => ?_)
  refine take_at 0 (.pointer (some ⟨q, 0, none⟩)) rfl (by kernel_rfl) (by kernel_rfl) (by kernel_rfl) (fun _ _ _ h => h) (Or.inl ⟨by rfl, ?_⟩) (by assumption) ?_
  · intro V hSV; go_simp
  simp only [Act.put, List.setIfInBounds_toArray, List.set_cons_zero, List.set_cons_succ]
  refine take_at 1 (.pointer (some ⟨q, 0, none⟩)) rfl (by kernel_rfl) (by kernel_rfl) (by kernel_rfl) (fun _ _ _ h => h) (Or.inl ⟨by rfl, ?_⟩) (by assumption) ?_
  · intro V hSV; go_simp
  simp only [Act.put, List.setIfInBounds_toArray, List.set_cons_zero, List.set_cons_succ]
  refine take_at 2 (.pointer (some ⟨q, 0, none⟩)) rfl (by kernel_rfl) (by kernel_rfl) (by kernel_rfl) (fun _ _ _ h => h) (Or.inl ⟨by rfl, ?_⟩) (by assumption) ?_
  · intro V hSV; go_simp
  simp only [Act.put, List.setIfInBounds_toArray, List.set_cons_zero, List.set_cons_succ]
  refine take_at 3 (.pointer (some ⟨q, 7, none⟩)) rfl (by kernel_rfl) (by kernel_rfl) (by kernel_rfl) (fun _ _ _ h => h) (Or.inl ⟨by rfl, ?_⟩) (by assumption) ?_
  · intro V hSV; go_simp
  simp only [Act.put, List.setIfInBounds_toArray, List.set_cons_zero, List.set_cons_succ]
  refine take_at 4 (.int .i64 J.sf) rfl (by kernel_rfl) (by kernel_rfl) (by kernel_rfl) (fun _ _ _ h => h) (Or.inl ⟨by rfl, ?_⟩) (by assumption) ?_
  · intro V hSV; have e0 := F7.out V hSV; go_simp
  simp only [Act.put, List.setIfInBounds_toArray, List.set_cons_zero, List.set_cons_succ]
  refine take_at 7 (.pointer (some ⟨q, 0, none⟩)) rfl (by kernel_rfl) (by kernel_rfl) (by kernel_rfl) (fun _ _ _ h => h) (Or.inl ⟨by rfl, ?_⟩) (by assumption) ?_
  · intro V hSV; go_simp
  simp only [Act.put, List.setIfInBounds_toArray, List.set_cons_zero, List.set_cons_succ]
  refine take_at 8 (.pointer (some ⟨q, 0, none⟩)) rfl (by kernel_rfl) (by kernel_rfl) (by kernel_rfl) (fun _ _ _ h => h) (Or.inl ⟨by rfl, ?_⟩) (by assumption) ?_
  · intro V hSV; go_simp
  simp only [Act.put, List.setIfInBounds_toArray, List.set_cons_zero, List.set_cons_succ]
  refine take_at 9 (.pointer (some ⟨q, 5, none⟩)) rfl (by kernel_rfl) (by kernel_rfl) (by kernel_rfl) (fun _ _ _ h => h) (Or.inl ⟨by rfl, ?_⟩) (by assumption) ?_
  · intro V hSV; go_simp
  simp only [Act.put, List.setIfInBounds_toArray, List.set_cons_zero, List.set_cons_succ]
  refine take_at 10 (.slice ra n rc) rfl (by kernel_rfl) (by kernel_rfl) (by kernel_rfl) (fun _ _ _ h => h) (Or.inl ⟨by rfl, ?_⟩) (by assumption) ?_
  · intro V hSV; have e0 := F5.out V hSV; go_simp
  simp only [Act.put, List.setIfInBounds_toArray, List.set_cons_zero, List.set_cons_succ]
  refine take_at 11 (.int .i64 n) rfl (by kernel_rfl) (by kernel_rfl) (by kernel_rfl) (fun _ _ _ h => h) (Or.inl ⟨by rfl, ?_⟩) (by assumption) ?_
  · intro V hSV; go_simp
  simp only [Act.put, List.setIfInBounds_toArray, List.set_cons_zero, List.set_cons_succ]
  refine take_at 12 (.int .i64 ((n : Int) - 1)) rfl (by kernel_rfl) (by kernel_rfl) (by kernel_rfl) (fun _ _ _ h => h) (Or.inl ⟨by rfl, ?_⟩) (by assumption) ?_
  · intro V hSV; go_simp
  simp only [Act.put, List.setIfInBounds_toArray, List.set_cons_zero, List.set_cons_succ]
  refine take_at 13 (.int .i64 l0) rfl (by kernel_rfl) (by kernel_rfl) (by kernel_rfl) (fun _ _ _ h => h) (Or.inl ⟨by rfl, ?_⟩) (by assumption) ?_
  · intro V hSV; go_simp
  simp only [Act.put, List.setIfInBounds_toArray, List.set_cons_zero, List.set_cons_succ]
  refine wpAnyH_ready (rs := [5]) (by kernel_rfl) (by simp) ?_
  refine AllReadyH.cons rfl (fun KK hK => ?_) AllReadyH.nil
  go_simp
  go_wp2_with (first | (go_at_call 45; refine (HEd.out _ (below_drew _)).mono ?_; rintro e V1 ⟨rfl, rfl⟩))
  refine hK.out _ _ ?_ (fun hHeld5 => ?_)
  · exact (by assumption)
  clear hK KK
  refine take_at 6 (.int .i64 f0) rfl (by kernel_rfl) (by kernel_rfl) (by kernel_rfl) (fun _ _ _ h => h) (Or.inl ⟨by rfl, ?_⟩) (by assumption) ?_
  · intro V hSV; go_simp
  simp only [Act.put, List.setIfInBounds_toArray, List.set_cons_zero, List.set_cons_succ]
  refine take_at 14 (.int .i64 f0) rfl (by kernel_rfl) (by kernel_rfl) (by kernel_rfl) (fun _ _ _ h => h) (Or.inl ⟨by rfl, ?_⟩) (by assumption) ?_
  · intro V hSV; go_simp
  simp only [Act.put, List.setIfInBounds_toArray, List.set_cons_zero, List.set_cons_succ]
  refine take_at 15 (.int .i64 l0) rfl (by kernel_rfl) (by kernel_rfl) (by kernel_rfl) (fun _ _ _ h => h) (Or.inl ⟨by rfl, ?_⟩) (by assumption) ?_
  · intro V hSV; go_simp
  simp only [Act.put, List.setIfInBounds_toArray, List.set_cons_zero, List.set_cons_succ]
  refine wpAnyH_done (by kernel_rfl) ?_ _
  refine NoPanic.normal ?_
  have HD1 := Lib.hid (HD0.out.on (below_drew w))
  have HF1 := Lib.hid (below_fd (below_drew w) p aa bb)
  clear hHeld hHeld5 HD0 HEd F5 F7
  generalize w.drew = W at *
  go_wp2_with fail
  go_loopw [5] (fun iv wr => ∃ k : Nat, iv = .int .i64 ((f0 : Int) + k) ∧ k ≤ cnt ∧ Hid ((wrtS J.a J.row f0 d k).2 = 0) ∧ Hid (DevIn wr p aa bb (wrtS J.a J.row f0 d k).1 (K + k)) ∧ Hid (Fd p aa bb w wr)) (fun iv _ => ((l0 : Int) + 1 - intOf iv).toNat)
  case atStart => exact ⟨0, by go_num, Nat.zero_le _, rfl, HD1, HF1⟩
  case round =>
    obtain ⟨k, rfl, hk, H0, HD, HF⟩ := hrel
    clear HD1 HF1
    by_cases hlt : k < cnt
    · have hle : (f0 : Int) + k ≤ (l0 : Int) := by omega
      have hE1 := HEnd.out (k + 1) (by omega)
      have hSt : wrtS J.a J.row f0 d (k + 1) = (writeD (wrtS J.a J.row f0 d k).1 (atJ J.a (f0 + k)) (partJ J.row (f0 + k)), wErr (wrtS J.a J.row f0 d k).1 (atJ J.a (f0 + k)) (partJ J.row (f0 + k)).length) := by
        show (if (wrtS J.a J.row f0 d k).2 ≠ 0 then _ else _) = _
        rw [if_neg (fun e => e H0.out)]
      rw [hSt] at hE1
      have HSt := Lib.hid hSt
      have HE1 := Lib.hid hE1
      have HPu : Hid (Calls Tryz.prog 53 #[.pointer (some ⟨q, 0, none⟩), .int .i64 ((f0 : Int) + k)] wr fun e w' => e = .returned (errV (wErr (wrtS J.a J.row f0 d k).1 (atJ J.a (f0 + k)) (partJ J.row (f0 + k)).length)) ∧ DevIn w' p aa bb (writeD (wrtS J.a J.row f0 d k).1 (atJ J.a (f0 + k)) (partJ J.row (f0 + k))) (K + k + 1) ∧ Fd p aa bb w w') := by
        have q := (jput_ (HJ.out _ HF.out) HD.out (by omega) (f0 + k) (by omega)).mono fun e w' ⟨q1, q2, q3⟩ => (⟨q1, q2, HF.out.trans q3⟩ : e = Ending.returned (errV (wErr (wrtS J.a J.row f0 d k).1 (atJ J.a (f0 + k)) (partJ J.row (f0 + k)).length)) ∧ DevIn w' p aa bb (writeD (wrtS J.a J.row f0 d k).1 (atJ J.a (f0 + k)) (partJ J.row (f0 + k))) (K + k + 1) ∧ Fd p aa bb w w')
        rw [show ((f0 + k : Nat) : Int) = (f0 : Int) + k by omega] at q
        exact q
      have hw := wraps_i64 ((f0 : Int) + k + 1) (by omega) (by omega)
      clear hE1 hSt HEnd HFin HJ
      generalize wErr (wrtS J.a J.row f0 d k).1 (atJ J.a (f0 + k)) (partJ J.row (f0 + k)).length = we at *
      generalize writeD (wrtS J.a J.row f0 d k).1 (atJ J.a (f0 + k)) (partJ J.row (f0 + k)) = wd at *
      by_cases hwe : we = 0
      · subst hwe
        have e0 : errV 0 = .nilIface := rfl
        rw [e0] at HPu
        go_wp2_with (first
          | (go_at_call 53; refine HPu.out.mono ?_; rintro e V3 ⟨rfl, hd3, hf3⟩
             have HD3 := Lib.hid hd3
             have HF3 := Lib.hid hf3
             clear hd3 hf3)
          | fail)
        go_roundw
        case rel => exact ⟨k + 1, by go_num, by omega, by rw [HSt.out]; rfl, by rw [HSt.out]; exact HD3.out.mono (by omega) (by omega), HF3⟩
        case measure => simp [intOf]; omega
      · rw [errV_not hwe] at HPu
        have HX : Hid (cD = wd ∧ cE = we) := HE1.out hwe
        go_wp2_with (first
          | (go_at_call 53; refine HPu.out.mono ?_; rintro e V3 ⟨rfl, hd3, hf3⟩
             have HD3 := Lib.hid hd3
             have HF3 := Lib.hid hf3
             clear hd3 hf3)
          | fail)
        go_ret
        exact ⟨by rw [HX.out.2, errV_not hwe]; rfl, by rw [HX.out.1]; exact HD3.out.mono (by omega) (by omega), HF3.out⟩
    · have hlt2 : ¬ (f0 : Int) + k ≤ (l0 : Int) := by omega
      obtain rfl : k = cnt := by omega
      have HX := Lib.hid (HFin.out H0.out)
      have hJ0 := HJ.out _ HF.out
      have HSy : Hid (∀ V, Below wr.heap.size wr V → Calls Tryz.prog 54 #[.pointer (some ⟨p, 0, none⟩), .int .i64 J.a.g] V fun e w' => ∃ ev, e = .returned ev ∧ Hid (ev = errV (sErr (wrtS J.a J.row f0 d k).1 J.a.g) ∧ DevIn w' p aa bb (syncD (wrtS J.a J.row f0 d k).1 J.a.g) (K + k) ∧ Fd p aa bb wr w') ∧ Fd p aa bb wr w') := fun V hV => (sync_ (HD.out.on hV) J.a.g).mono fun e w' ⟨q1, q2, q3⟩ => ⟨_, q1, ⟨rfl, q2, (below_fd hV _ _ _).trans q3⟩, (below_fd hV _ _ _).trans q3⟩
      have G0 : Hid (∀ V, Fd p aa bb wr V → V.cell? ⟨q, 0, none⟩ = some (.pointer (some ⟨p, 0, none⟩))) := fun V hV => (hJ0.fd HD.out hV).cells.1
      have G1 : Hid (∀ V, Fd p aa bb wr V → V.cell? ⟨q, 1, none⟩ = some (.int .i64 J.a.g)) := fun V hV => (hJ0.fd HD.out hV).cells.2.1
      clear HEnd HFin HJ hJ0
      generalize sErr (wrtS J.a J.row f0 d k).1 J.a.g = se1 at *
      generalize syncD (wrtS J.a J.row f0 d k).1 J.a.g = sd1 at *
      generalize hag : J.a.g = g at *
      clear hag
      go_wp2_with fail
      refine wp_region_noPanic ?_
      refine wp_region_held_drew (S := fun V => Fd p aa bb wr V) (by kernel_rfl) (below_fd (below_drew _) _ _ _) (fun hHeld => ?_)
      refine take_at 0 (.pointer (some ⟨q, 0, none⟩)) rfl (by kernel_rfl) (by kernel_rfl) (by kernel_rfl) (fun _ _ _ h => h) (Or.inl ⟨by rfl, ?_⟩) (by assumption) ?_
      · intro V hSV; go_simp
      simp only [Act.put, List.setIfInBounds_toArray, List.set_cons_zero, List.set_cons_succ]
      refine take_at 1 (.pointer (some ⟨q, 0, none⟩)) rfl (by kernel_rfl) (by kernel_rfl) (by kernel_rfl) (fun _ _ _ h => h) (Or.inl ⟨by rfl, ?_⟩) (by assumption) ?_
      · intro V hSV; go_simp
      simp only [Act.put, List.setIfInBounds_toArray, List.set_cons_zero, List.set_cons_succ]
      refine take_at 2 (.pointer (some ⟨q, 0, none⟩)) rfl (by kernel_rfl) (by kernel_rfl) (by kernel_rfl) (fun _ _ _ h => h) (Or.inl ⟨by rfl, ?_⟩) (by assumption) ?_
      · intro V hSV; go_simp
      simp only [Act.put, List.setIfInBounds_toArray, List.set_cons_zero, List.set_cons_succ]
      refine take_at 3 (.pointer (some ⟨p, 0, none⟩)) rfl (by kernel_rfl) (by kernel_rfl) (by kernel_rfl) (fun _ _ _ h => h) (Or.inl ⟨by rfl, ?_⟩) (by assumption) ?_
      · intro V hSV; have e0 := G0.out V hSV; go_simp
      simp only [Act.put, List.setIfInBounds_toArray, List.set_cons_zero, List.set_cons_succ]
      refine take_at 4 (.pointer (some ⟨q, 0, none⟩)) rfl (by kernel_rfl) (by kernel_rfl) (by kernel_rfl) (fun _ _ _ h => h) (Or.inl ⟨by rfl, ?_⟩) (by assumption) ?_
      · intro V hSV; go_simp
      simp only [Act.put, List.setIfInBounds_toArray, List.set_cons_zero, List.set_cons_succ]
      refine take_at 5 (.pointer (some ⟨q, 0, none⟩)) rfl (by kernel_rfl) (by kernel_rfl) (by kernel_rfl) (fun _ _ _ h => h) (Or.inl ⟨by rfl, ?_⟩) (by assumption) ?_
      · intro V hSV; go_simp
      simp only [Act.put, List.setIfInBounds_toArray, List.set_cons_zero, List.set_cons_succ]
      refine take_at 6 (.pointer (some ⟨q, 1, none⟩)) rfl (by kernel_rfl) (by kernel_rfl) (by kernel_rfl) (fun _ _ _ h => h) (Or.inl ⟨by rfl, ?_⟩) (by assumption) ?_
      · intro V hSV; go_simp
      simp only [Act.put, List.setIfInBounds_toArray, List.set_cons_zero, List.set_cons_succ]
      refine take_at 7 (.pointer (some ⟨q, 1, none⟩)) rfl (by kernel_rfl) (by kernel_rfl) (by kernel_rfl) (fun _ _ _ h => h) (Or.inl ⟨by rfl, ?_⟩) (by assumption) ?_
      · intro V hSV; go_simp
      simp only [Act.put, List.setIfInBounds_toArray, List.set_cons_zero, List.set_cons_succ]
      refine take_at 8 (.int .i64 g) rfl (by kernel_rfl) (by kernel_rfl) (by kernel_rfl) (fun _ _ _ h => h) (Or.inl ⟨by rfl, ?_⟩) (by assumption) ?_
      · intro V hSV; have e0 := G1.out V hSV; go_simp
      simp only [Act.put, List.setIfInBounds_toArray, List.set_cons_zero, List.set_cons_succ]
      refine wpAnyH_ready (rs := [9]) (by kernel_rfl) (by simp) ?_
      refine AllReadyH.cons rfl (fun KK hK => ?_) AllReadyH.nil
      go_simp
      go_wp2_with (first | (go_at_call 54; refine (HSy.out _ (below_drew _)).mono ?_; rintro e V1 ⟨ev, rfl, HZ, hf1⟩))
      refine hK.out _ _ ?_ (fun hHeld9 => ?_)
      · exact hf1
      clear hK KK
      refine take_at 10 (ev) rfl (by kernel_rfl) (by kernel_rfl) (by kernel_rfl) (fun _ _ _ h => h) (Or.inl ⟨by rfl, ?_⟩) (by assumption) ?_
      · intro V hSV; go_simp
      simp only [Act.put, List.setIfInBounds_toArray, List.set_cons_zero, List.set_cons_succ]
      refine wpAnyH_done (by kernel_rfl) ?_ _
      refine NoPanic.normal ?_
      clear hHeld hHeld9 hf1 G0 G1 HSy
      go_wp2_with fail
      go_ret
      exact ⟨by rw [HX.out.2, ← HZ.out.1]; rfl, by rw [HX.out.1]; exact HZ.out.2.1.mono (by omega) (by omega), HF.out.trans HZ.out.2.2⟩
end Go.Proofs.YtjnhcanohefjiaaGreatDoor
