/- journal.part and put. -/
import Derived.Test.YtjnhcanohefjiaaGreatDoorJPart
import Derived.Test.YtjnhcanohefjiaaGreatDoorDWrite
namespace Go.Proofs.YtjnhcanohefjiaaGreatDoor
open Go.RowKit Go.Sort Go.Maps

/-- What part hands back. -/
def PartTo (w : World) (xs : List Nat) (e : Ending) (w' : World) : Prop := (∃ a c, e = .returned (.slice a xs.length c) ∧ BytesIn w a xs) ∧ w' = w
set_option maxRecDepth 100000 in
set_option maxHeartbeats 1000000 in
theorem jpart_ {w : World} {base p q : Nat} {J : Jr} {rv ev : Value} (h : JrIn w base p q J rv ev) (i : Nat) (hi : i ≤ 16384) :
    Calls Tryz.prog 52 #[.pointer (some ⟨q, 0, none⟩), .int .i64 i] w (PartTo w (partJ J.row i)) := by
  obtain ⟨_, _, _, _, _, c5, _⟩ := h.cells
  have hle := h.ok.row_le
  obtain ⟨n, hn⟩ : ∃ n, n = J.row.length := ⟨_, rfl⟩
  obtain ⟨f, hf⟩ : ∃ f, f = min (64 * i) n := ⟨_, rfl⟩
  obtain ⟨t, ht⟩ : ∃ t, t = min (f + 64) n := ⟨_, rfl⟩
  have hpl : (partJ J.row i).length = t - f := by rw [partJ_len]; omega
  have hw1 := wraps_i64 ((i : Int) * 64) (by omega) (by omega)
  have hw2 := wraps_i64 ((f : Int) + 64) (by omega) (by omega)
  have m1 : min ((i : Int) * 64) (n : Int) = (f : Int) := by omega
  have m2 : min ((f : Int) + 64) (n : Int) = (t : Int) := by omega
  have hft : f ≤ t ∧ t ≤ n := by omega
  rcases h.row.shape with ⟨rfl, hr⟩ | ⟨g, c, rfl, hc, hby⟩
  · have hn0 : n = 0 := by rw [hn, hr]; rfl
    obtain rfl : f = 0 := by omega
    obtain rfl : t = 0 := by omega
    subst hn0
    have m3 : min ((i : Int) * 64) (0 : Int) = 0 := by omega
    have m4 : min ((0 : Int) + 64) (0 : Int) = 0 := by omega
    have HE : Hid (∀ w', w' = w → PartTo w (partJ J.row i) (.returned (.slice none 0 0)) w') := fun w' hw => ⟨⟨none, 0, by rw [hpl], by rw [List.eq_nil_of_length_eq_zero hpl]; exact bytesIn_nil _ _⟩, hw⟩
    clear h hf ht hpl hr hn hle
    go_enter Tryz.func52, Tryz.ntmps52
    go_wp2_with fail
    go_ret
    exact HE.out _ rfl
  · rw [← hn] at c5 hc
    have HE : Hid (∀ w' A cc, w' = w → (f < c → A = some ⟨g, f, none⟩) → PartTo w (partJ J.row i) (.returned (.slice A (t - f) cc)) w') := fun w' A cc hw hA => by
      refine ⟨⟨A, cc, by rw [hpl], ?_⟩, hw⟩
      by_cases hfc : f < c ∧ 64 * i < n
      · rw [hA hfc.1]
        have q := (hby.drop f).take 64
        rw [Nat.zero_add, show f = 64 * i by omega] at q
        rw [show f = 64 * i by omega]
        exact q
      · rw [List.eq_nil_of_length_eq_zero (show (partJ J.row i).length = 0 by omega)]
        exact bytesIn_nil _ _
    have h1 : (0 : Int) ≤ (f : Int) := by omega
    have h2 : (f : Int) ≤ (t : Int) := by omega
    have h3 : (t : Int) ≤ (c : Int) := by omega
    have h4 : (t : Int) - (f : Int) = ((t - f : Nat) : Int) := by omega
    obtain ⟨hft1, hft2⟩ := hft
    clear h hby hle hf ht hpl hn
    by_cases hcf : c = f
    · subst hcf
      go_enter Tryz.func52, Tryz.ntmps52
      go_wp2_with fail
      go_ret
      exact HE.out _ _ _ rfl (fun q => by omega)
    · go_enter Tryz.func52, Tryz.ntmps52
      go_wp2_with fail
      go_ret
      exact HE.out _ _ _ rfl (fun _ => rfl)
/-- A write of a sector, on the device alone. -/
def Wrote (w : World) (p aa bb : Nat) (d : Dev) (K : Nat) (k : Nat) (e : Ending) (w' : World) : Prop := e = .returned (errV k) ∧ DevIn w' p aa bb d K ∧ Fd p aa bb w w'
set_option maxRecDepth 100000 in
set_option maxHeartbeats 2000000 in
theorem jput_ {w : World} {base p q aa bb : Nat} {d : Dev} {K : Nat} {J : Jr} {rv ev : Value} (h : JrIn w base p q J rv ev) (hd : DevIn w p aa bb d K) (hK : K < 1000000) (i : Nat) (hi : i ≤ 16384) :
    Calls Tryz.prog 53 #[.pointer (some ⟨q, 0, none⟩), .int .i64 i] w (Wrote w p aa bb (writeD d (atJ J.a i) (partJ J.row i)) (K + 1) (wErr d (atJ J.a i) (partJ J.row i).length)) := by
  have hf := h.ok.f
  have HC : Hid (∀ V, Fd p aa bb w V → V.cell? ⟨q, 0, none⟩ = some (.pointer (some ⟨p, 0, none⟩)) ∧ V.cell? ⟨q, 1, none⟩ = some (.int .i64 J.a.g) ∧ V.cell? ⟨q, 2, none⟩ = some (.int .i64 J.a.f)) := fun V hV => by
    obtain ⟨c0, c1, c2, _⟩ := (h.fd hd hV).cells
    exact ⟨c0, c1, c2⟩
  have F0 : Hid (∀ V, Fd p aa bb w V → V.cell? ⟨q, 0, none⟩ = some (.pointer (some ⟨p, 0, none⟩))) := fun V hV => (HC.out V hV).1
  have F1 : Hid (∀ V, Fd p aa bb w V → V.cell? ⟨q, 1, none⟩ = some (.int .i64 J.a.g)) := fun V hV => (HC.out V hV).2.1
  have F2 : Hid (∀ V, Fd p aa bb w V → V.cell? ⟨q, 2, none⟩ = some (.int .i64 J.a.f)) := fun V hV => (HC.out V hV).2.2
  have HP : Hid (Calls Tryz.prog 52 #[.pointer (some ⟨q, 0, none⟩), .int .i64 i] w.drew (PartTo w.drew (partJ J.row i))) := jpart_ (h.on (below_drew w)) i hi
  have HW : Hid (∀ a c, BytesIn w.drew a (partJ J.row i) → Calls Tryz.prog 76 #[.pointer (some ⟨p, 0, none⟩), .int .i64 J.a.g, .int .i64 (J.a.f + i), .slice a (partJ J.row i).length c] w.drew (Wrote w p aa bb (writeD d (atJ J.a i) (partJ J.row i)) (K + 1) (wErr d (atJ J.a i) (partJ J.row i).length))) := fun a c hb =>
    (write_ (hd.on (below_drew w)) (atJ J.a i) a (partJ J.row i) _ c hb rfl (partJ_byte h.ok.byte _) hK).mono fun e w' ⟨h1, h2, h3⟩ => ⟨h1, h2, (below_fd (below_drew w) _ _ _).trans h3⟩
  have hw := wraps_i64 (J.a.f + (i : Int)) (by omega) (by omega)
  clear h hd HC
  unfold PartTo at HP
  generalize J.a.g = g at *
  generalize J.a.f = f at *
  generalize partJ J.row i = xs at *
  generalize xs.length = l at *
  generalize wErr d (atJ J.a i) l = k at *
  generalize writeD d (atJ J.a i) xs = d1 at *
  go_enter Tryz.func53, Tryz.ntmps53
  go_wp2_with fail
  refine wp_region_noPanic ?_
  refine wp_region_held_drew (S := fun V => Fd p aa bb w V) (by kernel_rfl) (below_fd (below_drew _) _ _ _) (fun hHeld => ?_)
  refine take_at 0 (.pointer (some ⟨q, 0, none⟩)) rfl (by kernel_rfl) (by kernel_rfl) (by kernel_rfl) (fun _ _ _ h => h) (Or.inl ⟨by rfl, ?_⟩) (by assumption) ?_
  · intro V hSV; go_simp
  simp only [Act.put, List.setIfInBounds_toArray, List.set_cons_zero, List.set_cons_succ]
  refine take_at 1 (.pointer (some ⟨q, 0, none⟩)) rfl (by kernel_rfl) (by kernel_rfl) (by kernel_rfl) (fun _ _ _ h => h) (Or.inl ⟨by rfl, ?_⟩) (by assumption) ?_
  · intro V hSV; go_simp
  simp only [Act.put, List.setIfInBounds_toArray, List.set_cons_zero, List.set_cons_succ]
  refine take_at 2 (.pointer (some ⟨q, 0, none⟩)) rfl (by kernel_rfl) (by kernel_rfl) (by kernel_rfl) (fun _ _ _ h => h) (Or.inl ⟨by rfl, ?_⟩) (by assumption) ?_
  · intro V hSV; go_simp
  simp only [Act.put, List.setIfInBounds_toArray, List.set_cons_zero, List.set_cons_succ]
  refine take_at 3 (.pointer (some ⟨p, 0, none⟩)) rfl (by kernel_rfl) (by kernel_rfl) (by kernel_rfl) (fun _ _ _ h => h) (Or.inl ⟨by rfl, ?_⟩) (by assumption) ?_
  · intro V hSV; have e0 := F0.out V hSV; go_simp
  simp only [Act.put, List.setIfInBounds_toArray, List.set_cons_zero, List.set_cons_succ]
  refine take_at 4 (.pointer (some ⟨q, 0, none⟩)) rfl (by kernel_rfl) (by kernel_rfl) (by kernel_rfl) (fun _ _ _ h => h) (Or.inl ⟨by rfl, ?_⟩) (by assumption) ?_
  · intro V hSV; go_simp
  simp only [Act.put, List.setIfInBounds_toArray, List.set_cons_zero, List.set_cons_succ]
  refine take_at 5 (.pointer (some ⟨q, 0, none⟩)) rfl (by kernel_rfl) (by kernel_rfl) (by kernel_rfl) (fun _ _ _ h => h) (Or.inl ⟨by rfl, ?_⟩) (by assumption) ?_
  · intro V hSV; go_simp
  simp only [Act.put, List.setIfInBounds_toArray, List.set_cons_zero, List.set_cons_succ]
  refine take_at 6 (.pointer (some ⟨q, 1, none⟩)) rfl (by kernel_rfl) (by kernel_rfl) (by kernel_rfl) (fun _ _ _ h => h) (Or.inl ⟨by rfl, ?_⟩) (by assumption) ?_
  · intro V hSV; go_simp
  simp only [Act.put, List.setIfInBounds_toArray, List.set_cons_zero, List.set_cons_succ]
  refine take_at 7 (.pointer (some ⟨q, 1, none⟩)) rfl (by kernel_rfl) (by kernel_rfl) (by kernel_rfl) (fun _ _ _ h => h) (Or.inl ⟨by rfl, ?_⟩) (by assumption) ?_
  · intro V hSV; go_simp
  simp only [Act.put, List.setIfInBounds_toArray, List.set_cons_zero, List.set_cons_succ]
  refine take_at 8 (.int .i64 g) rfl (by kernel_rfl) (by kernel_rfl) (by kernel_rfl) (fun _ _ _ h => h) (Or.inl ⟨by rfl, ?_⟩) (by assumption) ?_
  · intro V hSV; have e0 := F1.out V hSV; go_simp
  simp only [Act.put, List.setIfInBounds_toArray, List.set_cons_zero, List.set_cons_succ]
  refine take_at 9 (.pointer (some ⟨q, 0, none⟩)) rfl (by kernel_rfl) (by kernel_rfl) (by kernel_rfl) (fun _ _ _ h => h) (Or.inl ⟨by rfl, ?_⟩) (by assumption) ?_
  · intro V hSV; go_simp
  simp only [Act.put, List.setIfInBounds_toArray, List.set_cons_zero, List.set_cons_succ]
  refine take_at 10 (.pointer (some ⟨q, 0, none⟩)) rfl (by kernel_rfl) (by kernel_rfl) (by kernel_rfl) (fun _ _ _ h => h) (Or.inl ⟨by rfl, ?_⟩) (by assumption) ?_
  · intro V hSV; go_simp
  simp only [Act.put, List.setIfInBounds_toArray, List.set_cons_zero, List.set_cons_succ]
  refine take_at 11 (.pointer (some ⟨q, 1, none⟩)) rfl (by kernel_rfl) (by kernel_rfl) (by kernel_rfl) (fun _ _ _ h => h) (Or.inl ⟨by rfl, ?_⟩) (by assumption) ?_
  · intro V hSV; go_simp
  simp only [Act.put, List.setIfInBounds_toArray, List.set_cons_zero, List.set_cons_succ]
  refine take_at 12 (.pointer (some ⟨q, 2, none⟩)) rfl (by kernel_rfl) (by kernel_rfl) (by kernel_rfl) (fun _ _ _ h => h) (Or.inl ⟨by rfl, ?_⟩) (by assumption) ?_
  · intro V hSV; go_simp
  simp only [Act.put, List.setIfInBounds_toArray, List.set_cons_zero, List.set_cons_succ]
  refine take_at 13 (.int .i64 f) rfl (by kernel_rfl) (by kernel_rfl) (by kernel_rfl) (fun _ _ _ h => h) (Or.inl ⟨by rfl, ?_⟩) (by assumption) ?_
  · intro V hSV; have e0 := F2.out V hSV; go_simp
  simp only [Act.put, List.setIfInBounds_toArray, List.set_cons_zero, List.set_cons_succ]
  refine take_at 14 (.int .i64 i) rfl (by kernel_rfl) (by kernel_rfl) (by kernel_rfl) (fun _ _ _ h => h) (Or.inl ⟨by rfl, ?_⟩) (by assumption) ?_
  · intro V hSV; go_simp
  simp only [Act.put, List.setIfInBounds_toArray, List.set_cons_zero, List.set_cons_succ]
  refine take_at 15 (.int .i64 (f + i)) rfl (by kernel_rfl) (by kernel_rfl) (by kernel_rfl) (fun _ _ _ h => h) (Or.inl ⟨by rfl, ?_⟩) (by assumption) ?_
  · intro V hSV; go_simp
  simp only [Act.put, List.setIfInBounds_toArray, List.set_cons_zero, List.set_cons_succ]
  refine take_at 16 (.pointer (some ⟨q, 0, none⟩)) rfl (by kernel_rfl) (by kernel_rfl) (by kernel_rfl) (fun _ _ _ h => h) (Or.inl ⟨by rfl, ?_⟩) (by assumption) ?_
  · intro V hSV; go_simp
  simp only [Act.put, List.setIfInBounds_toArray, List.set_cons_zero, List.set_cons_succ]
  refine take_at 17 (.int .i64 i) rfl (by kernel_rfl) (by kernel_rfl) (by kernel_rfl) (fun _ _ _ h => h) (Or.inl ⟨by rfl, ?_⟩) (by assumption) ?_
  · intro V hSV; go_simp
  simp only [Act.put, List.setIfInBounds_toArray, List.set_cons_zero, List.set_cons_succ]
  refine wpAnyH_ready (rs := [18]) (by kernel_rfl) (by simp) ?_
  refine AllReadyH.cons rfl (fun KK hK => ?_) AllReadyH.nil
  go_simp
  go_wp2_with (first | (go_at_call 52; refine (HP.out).mono ?_; rintro e V1 ⟨⟨a1, c1, rfl, hb1⟩, rfl⟩))
  refine hK.out _ _ ?_ (fun hHeld18 => ?_)
  · exact (by assumption)
  clear hK KK
  have HC : Hid (Calls Tryz.prog 76 #[.pointer (some ⟨p, 0, none⟩), .int .i64 g, .int .i64 (f + i), .slice a1 l c1] w.drew fun e w' => ∃ ev, e = .returned ev ∧ Wrote w p aa bb d1 (K + 1) k (.returned ev) w' ∧ Fd p aa bb w w') := (HW.out a1 c1 hb1).mono fun e w' q => ⟨errV k, q.1, ⟨rfl, q.2⟩, q.2.2⟩
  refine wpAnyH_ready (rs := [19]) (by kernel_rfl) (by simp) ?_
  refine AllReadyH.cons rfl (fun KK hK => ?_) AllReadyH.nil
  go_simp
  go_wp2_with (first | (go_at_call 76; refine (HC.out).mono ?_; rintro e V2 ⟨ev, rfl, hs, hf2⟩))
  refine hK.out _ _ ?_ (fun hHeld19 => ?_)
  · exact hf2
  clear hK KK
  have HS := Lib.hid hs
  clear hs
  refine take_at 20 (ev) rfl (by kernel_rfl) (by kernel_rfl) (by kernel_rfl) (fun _ _ _ h => h) (Or.inl ⟨by rfl, ?_⟩) (by assumption) ?_
  · intro V hSV; go_simp
  simp only [Act.put, List.setIfInBounds_toArray, List.set_cons_zero, List.set_cons_succ]
  refine wpAnyH_done (by kernel_rfl) ?_ _
  refine NoPanic.normal ?_
  clear hb1 hHeld hHeld18 hHeld19 HC HW HP F0 F1 F2
  go_wp2_with fail
  go_ret
  exact HS.out
end Go.Proofs.YtjnhcanohefjiaaGreatDoor
