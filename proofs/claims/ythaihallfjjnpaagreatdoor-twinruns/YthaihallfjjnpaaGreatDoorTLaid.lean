/- twin.laid: a text with its number as bytes, and their sum. -/
import Derived.Test.YthaihallfjjnpaaGreatDoorJ1
import Derived.Test.YthaihallfjjnpaaGreatDoorJ4
import Derived.Test.YthaihallfjjnpaaGreatDoorJ2
import Derived.Test.YthaihallfjjnpaaGreatDoorJ3
namespace Go.Proofs.YthaihallfjjnpaaGreatDoor
open Go.RowKit Go.Sort Go.Maps

theorem sb_bs' (xs : List Nat) (hx : ∀ x ∈ xs, x < 256) : sb (bs xs) = xs := by
  unfold sb bs
  simp only [List.map_map]
  conv => rhs; rw [← List.map_id xs]
  apply List.map_congr_left
  intro x h
  have := hx x h
  simp [UInt8.toNat_ofNat', Nat.mod_eq_of_lt this]
set_option maxRecDepth 100000 in
set_option maxHeartbeats 1000000 in
theorem laid_ (n : Nat) (a : Option Addr) (xs : List Nat) (l c : Nat) (w : World) (hl : xs.length = l) (h : BytesIn w a xs) (hx : ∀ x ∈ xs, x < 256) (hn : n < 18446744073709551616) (hlim : l ≤ 1000000000) :
    Calls Tryz.prog 34 #[.int .u64 n, .slice a l c] w (Made w (laidB n xs)) := by
  have he := enc_le10 n hn
  have HU : Hid (∀ V, Calls Tryz.prog 63 #[.slice none 0 0, .int .u64 n] V fun e w' => ∃ g cg, e = .returned (.slice (some ⟨g, 0, none⟩) (enc n).length cg) ∧ BytesIn w' (some ⟨g, 0, none⟩) (enc n) ∧ Below V.heap.size V w') := fun V =>
    (appU_ none [] 0 n 0 V rfl (bytesIn_nil _ _) (fun _ => rfl) hn (by simp)).mono fun e w' ⟨g, cg, h1, h2, h3⟩ => ⟨g, cg, h1, h2.cells.2.1, h3⟩
  have HT : Hid (∀ V g cg, BytesIn V (some ⟨g, 0, none⟩) (enc n) → Calls Tryz.prog 62 #[.slice (some ⟨g, 0, none⟩) (enc n).length cg, .string (bs xs)] V fun e w' => ∃ g cg, e = .returned (.slice (some ⟨g, 0, none⟩) (bodyB n xs).length cg) ∧ BytesIn w' (some ⟨g, 0, none⟩) (bodyB n xs) ∧ Below V.heap.size V w') := fun V g cg hV => by
    have := appT_ (some ⟨g, 0, none⟩) (enc n) cg (enc n).length (bs xs) V rfl hV (fun e => by cases e) (by rw [bs_size]; omega)
    rw [bs_size, sb_bs' xs hx] at this
    exact this.mono fun e w' ⟨g, cg, h1, h2, h3⟩ => ⟨g, cg, h1, h2.cells.2.1, h3⟩
  have hbl : (bodyB n xs).length ≤ 1000000020 := by
    have h2 := enc_le10 xs.length (by omega)
    simp only [bodyB, List.length_append]
    omega
  have HS : Hid (∀ V g cg, BytesIn V (some ⟨g, 0, none⟩) (bodyB n xs) → Calls Tryz.prog 61 #[.slice (some ⟨g, 0, none⟩) (bodyB n xs).length cg] V (Made V (laidB n xs))) := fun V g cg hV => seal_ (some ⟨g, 0, none⟩) (bodyB n xs) cg V hV (bodyB_byte hx) (fun e => by cases e) (by omega)
  have F3 : Hid (∀ V, Below w.heap.size w V → (convert 37 9 (.slice a l c)).run Tryz.prog V = .ok (.string (bs xs)) V) := fun V hV => conv_ V a l c xs hl.symm (h.on hV)
  clear h hx hbl he hl
  generalize (enc n).length = le at *
  generalize (bodyB n xs).length = lb at *
  go_enter Tryz.func34, Tryz.ntmps34
  go_wp2_with fail
  refine wp_region_noPanic ?_
  refine wp_region_held_drew (S := fun V => Below w.heap.size w V) (by kernel_rfl) (below_drew _) (fun hHeld => ?_)
  refine take_at 0 (.int .u64 n) rfl (by kernel_rfl) (by kernel_rfl) (by kernel_rfl) (fun _ _ _ h => h) (Or.inl ⟨by rfl, ?_⟩) (by assumption) ?_
  · intro V hSV; go_simp
  simp only [Act.put, List.setIfInBounds_toArray, List.set_cons_zero, List.set_cons_succ]
  refine take_at 2 (.slice a l c) rfl (by kernel_rfl) (by kernel_rfl) (by kernel_rfl) (fun _ _ _ h => h) (Or.inl ⟨by rfl, ?_⟩) (by assumption) ?_
  · intro V hSV; go_simp
  simp only [Act.put, List.setIfInBounds_toArray, List.set_cons_zero, List.set_cons_succ]
  refine take_at 3 (.string (bs xs)) rfl (by kernel_rfl) (by kernel_rfl) (by kernel_rfl) (fun _ _ _ h => h) (Or.inl ⟨by rfl, ?_⟩) (by assumption) ?_
  · intro V hSV; have e0 := F3.out V hSV; go_simp
  simp only [Act.put, List.setIfInBounds_toArray, List.set_cons_zero, List.set_cons_succ]
  refine wpAnyH_ready (rs := [1]) (by kernel_rfl) (by simp) ?_
  refine AllReadyH.cons rfl (fun KK hK => ?_) AllReadyH.nil
  go_simp
  go_wp2_with (first | (go_at_call 63; refine (HU.out _).mono ?_; rintro e V1 ⟨g1, c1, rfl, hg1, hb1⟩))
  refine hK.out _ _ ?_ (fun hHeld1 => ?_)
  · exact below_step (by assumption) hb1
  clear hK KK
  have HG1 := Lib.hid hg1
  clear hg1
  refine wpAnyH_ready (rs := [4]) (by kernel_rfl) (by simp) ?_
  refine AllReadyH.cons rfl (fun KK hK => ?_) AllReadyH.nil
  go_simp
  go_wp2_with (first | (go_at_call 62; refine (HT.out V1 g1 c1 HG1.out).mono ?_; rintro e V2 ⟨g2, c2, rfl, hg2, hb2⟩))
  refine hK.out _ _ ?_ (fun hHeld4 => ?_)
  · exact below_step (by assumption) hb2
  clear hK KK
  have HG2 := Lib.hid hg2
  clear hg2
  refine wpAnyH_ready (rs := [5]) (by kernel_rfl) (by simp) ?_
  refine AllReadyH.cons rfl (fun KK hK => ?_) AllReadyH.nil
  go_simp
  go_wp2_with (first | (go_at_call 61; refine (HS.out V2 g2 c2 HG2.out).mono ?_; rintro e V3 ⟨a3, c3, rfl, ho3, hy3, hn3, hb3⟩))
  refine hK.out _ _ ?_ (fun hHeld5 => ?_)
  · exact below_step (by assumption) hb3
  clear hK KK
  have HO := Lib.hid ho3
  clear ho3 hy3
  refine take_at 6 (.slice a3 (laidB n xs).length c3) rfl (by kernel_rfl) (by kernel_rfl) (by kernel_rfl) (fun _ _ _ h => h) (Or.inl ⟨by rfl, ?_⟩) (by assumption) ?_
  · intro V hSV; go_simp
  simp only [Act.put, List.setIfInBounds_toArray, List.set_cons_zero, List.set_cons_succ]
  refine wpAnyH_done (by kernel_rfl) ?_ _
  refine NoPanic.normal ?_
  have HM : Hid (Made w (laidB n xs) (.returned (.slice a3 (laidB n xs).length c3)) V3) := made_of (HO.out.lower (Nat.le_trans (Nat.le_trans hHeld1.size hb2.size) (Nat.le_refl _))) (by assumption)
  clear hb1 hb2 hb3 hHeld hHeld1 hHeld4 hHeld5 HO HG1 HG2 hn3
  go_wp2_with fail
  go_ret
  exact HM.out
end Go.Proofs.YthaihallfjjnpaaGreatDoor
