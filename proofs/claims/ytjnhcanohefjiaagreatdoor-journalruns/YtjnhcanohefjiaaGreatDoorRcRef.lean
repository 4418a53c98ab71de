/- The walk of the document's Frame. -/
import Derived.Test.YtjnhcanohefjiaaGreatDoorJPA
import Derived.Test.YtjnhcanohefjiaaGreatDoorJKB
import Derived.Test.YtjnhcanohefjiaaGreatDoorJCB
namespace Go.Proofs.YtjnhcanohefjiaaGreatDoor
open Go.RowKit Go.Sort

theorem refu_nat (n : Nat) : refu n = if n = 0 then 1 else if 1048576 < n then 2 else 0 := by
  unfold refu
  by_cases h : n = 0
  · rw [if_pos h, if_pos (by omega)]
  · rw [if_neg h, if_neg (by omega)]
    by_cases h2 : 1048576 < n
    · rw [if_pos h2, if_pos (by omega)]
    · rw [if_neg h2, if_neg (by omega)]
set_option maxRecDepth 100000 in
set_option maxHeartbeats 1000000 in
theorem rframe_ (ep : Nat) (a : Option Addr) (xs : List Nat) (c : Nat) (w : World) (h : BytesIn w a xs) (hx : ∀ x ∈ xs, x < 256) (hc : a = none → c = 0) (he : ep < 18446744073709551616) (hlim : xs.length ≤ 9223372036854775807) :
    Calls Tryz.prog 61 #[.int .u64 ep, .slice a xs.length c] w (ROpened w (frm ep xs).1 (frm ep xs).2) := by
  have hre := refu_nat xs.length
  by_cases hz : xs.length = 0
  · rw [if_pos hz] at hre
    have e : frm ep xs = ([], 1) := by unfold frm; rw [hre]; rfl
    rw [e]
    have hz1 : ((xs.length : Int) == 0) = true := by simp [hz]
    clear h hx hc e hre hz
    generalize xs.length = len at *
    go_enter Tryz.func61, Tryz.ntmps61
    go_wp2_with fail
    go_ret2
    exact ⟨none, 0, rfl, bytesIn_nil _ _, Below.refl _ _⟩
  · rw [if_neg hz] at hre
    have hz1 : ((xs.length : Int) == 0) = false := by simpa using hz
    by_cases h20 : 1048576 < xs.length
    · rw [if_pos h20] at hre
      have e : frm ep xs = ([], 2) := by unfold frm; rw [hre]; rfl
      rw [e]
      have hg : (xs.length : Int) > 1048576 := by omega
      clear h hx hc e hre hz
      generalize xs.length = len at *
      go_enter Tryz.func61, Tryz.ntmps61
      go_wp2_with fail
      go_ret2
      exact ⟨none, 0, rfl, bytesIn_nil _ _, Below.refl _ _⟩
    · rw [if_neg h20] at hre
      have e : frm ep xs = (recB ep xs, 0) := by unfold frm; rw [hre]; rfl
      rw [e]
      have hg : ¬ (xs.length : Int) > 1048576 := by omega
      have hle := enc_le10 xs.length (by omega)
      have hle2 := enc_le10 ep he
      have hpos := enc_pos xs.length
      have H1 : Hid (Calls Tryz.prog 79 #[.int .u64 (xs.length : Nat)] w (Laid w (enc xs.length))) := Lib.hid (uints_ xs.length w (by omega))
      have H2 : Hid (∀ W, Calls Tryz.prog 79 #[.int .u64 ep] W (Laid W (enc ep))) := Lib.hid fun W => uints_ ep W he
      have H3 : Hid (∀ W v, Own W w.heap.size v (recH ep xs) → ∃ g cc, v = .slice (some ⟨g, 0, none⟩) (recH ep xs).length cc ∧ Calls Tryz.prog 80 #[.slice (some ⟨g, 0, none⟩) (recH ep xs).length cc] W (Made W (recB ep xs))) := Lib.hid fun W v hv => by
        obtain ⟨g, cc, e1, e2⟩ := own_some hv (by rw [recH_length]; omega)
        exact ⟨g, cc, e1, rseal_ (some ⟨g, 0, none⟩) (recH ep xs) cc W e2.cells.2.1 (recH_byte ep xs hx) (fun q => by cases q) (by rw [recH_length]; omega)⟩
      have HB := Lib.hid h
      have HC := Lib.hid hc
      have HE : Hid (recH ep xs = (([] ++ enc xs.length) ++ enc ep) ++ xs) := Lib.hid rfl
      have HN : Hid ((enc xs.length).length ≤ 10 ∧ (enc ep).length ≤ 10) := Lib.hid ⟨hle, hle2⟩
      unfold ROpened
      simp only
      clear h hx hc e hle hle2 hpos hre hz
      obtain ⟨len, hlen⟩ : ∃ len, xs.length = len := ⟨_, rfl⟩
      have HL := Lib.hid hlen
      rw [hlen] at H1 HE HN hlim hz1 hg h20 ⊢
      clear hlen
      generalize recB ep xs = zs at *
      generalize recH ep xs = hs at *
      generalize enc len = e1 at *
      generalize enc ep = e2 at *
      have hw1 := wraps_u64 (len : Int) (by omega) (by omega)
      go_enter Tryz.func61, Tryz.ntmps61
      go_wp2_with fail
      refine H1.out.mono ?_
      rintro e w1 ⟨g1, c1, rfl, hO1, hB1⟩
      have HB1 := Lib.hid hB1
      have HI1 := Lib.hid hO1.cells.2.1
      have hs1 := hB1.size
      clear hB1 hO1 H1
      generalize hel1 : e1.length = el1 at *
      have HEL1 := Lib.hid hel1
      clear hel1
      go_wp2_with (first
        | (at_builtin; refine wpList_append_bytes _ rfl _ _ rfl w.heap.size _ [] e1 rfl (own_nil _ _) (some ⟨g1, 0, none⟩) el1 c1 rfl HEL1.out (fun q => by cases q) HI1.out (by rw [HEL1.out]; have := HN.out; simp; omega) hs1 ?_
           intro v2 w2 hown hgrow
           have HO2 := Lib.hid hown
           have HB2 := Lib.hid (below_grow HB1.out (own_nil w1 w.heap.size) hgrow)
           clear hown hgrow)
        | fail)
      refine (H2.out w2).mono ?_
      rintro e w3 ⟨g3, c3, rfl, hO3, hB3⟩
      have HI3 := Lib.hid hO3.cells.2.1
      have HO23 := Lib.hid (HO2.out.on hB3)
      have HB3 := Lib.hid (below_step HB2.out hB3)
      have hs3 := HB3.out.size
      clear hB3 hO3 H2 HO2
      generalize hel2 : e2.length = el2 at *
      have HEL2 := Lib.hid hel2
      clear hel2
      go_wp2_with (first
        | (at_builtin; refine wpList_append_bytes _ rfl _ _ rfl w.heap.size _ ([] ++ e1) e2 rfl HO23.out (some ⟨g3, 0, none⟩) el2 c3 rfl HEL2.out (fun q => by cases q) HI3.out (by rw [List.nil_append, HEL2.out, HEL1.out]; have := HN.out; omega) hs3 ?_
           intro v4 w4 hown hgrow
           have HO4 := Lib.hid hown
           have HB4 := Lib.hid (below_grow HB3.out HO23.out hgrow)
           have hs4 := HB4.out.size
           clear hown hgrow)
        | (at_builtin; refine wpList_append_bytes _ rfl _ _ rfl w.heap.size _ (([] ++ e1) ++ e2) xs rfl HO4.out a len c rfl HL.out HC.out (HB.out.on HB4.out) (by rw [List.length_append, List.nil_append, HL.out, HEL1.out, HEL2.out]; have := HN.out; omega) hs4 ?_
           intro v5 w5 hown hgrow
           have HO5 := Lib.hid hown
           have HB5 := Lib.hid (below_grow HB4.out HO4.out hgrow)
           rw [← HE.out] at HO5
           obtain ⟨g5, c5, rfl, hcall5⟩ := H3.out _ _ HO5.out
           clear hown hgrow)
        | fail)
      refine hcall5.mono ?_
      rintro e w6 ⟨a6, c6, rfl, _, hi6, _, hB6⟩
      have HI6 := Lib.hid hi6
      have HB6 := Lib.hid (below_step HB5.out hB6)
      clear hi6 hB6
      go_wp2_with fail
      go_ret2
      exact ⟨a6, c6, rfl, HI6.out, HB6.out⟩
end Go.Proofs.YtjnhcanohefjiaaGreatDoor
