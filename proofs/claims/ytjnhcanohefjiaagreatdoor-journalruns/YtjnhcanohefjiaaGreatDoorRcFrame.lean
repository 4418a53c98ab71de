/- The walks of record.refuse, Frame, Len. -/
import Derived.Test.YtjnhcanohefjiaaGreatDoorRcMath
import Derived.Test.YtjnhcanohefjiaaGreatDoorKAppU
import Derived.Test.YtjnhcanohefjiaaGreatDoorCOpen
namespace Go.Proofs.YtjnhcanohefjiaaGreatDoor
open Go.RowKit Go.Sort

set_option maxHeartbeats 400000 in
theorem refuse_ (n : Int) (w : World) : Calls Tryz.prog 46 #[.int .i64 n] w fun e w' => e = .returned (errV (refu n)) ∧ w' = w := by
  unfold refu
  by_cases h1 : n < 1
  · rw [if_pos h1]
    go_enter Tryz.func46, Tryz.ntmps46
    go_wp2
    go_ret
    exact ⟨rfl, rfl⟩
  · rw [if_neg h1]
    by_cases h2 : 1048576 < n
    · rw [if_pos h2]
      go_enter Tryz.func46, Tryz.ntmps46
      go_wp2
      go_ret
      exact ⟨rfl, rfl⟩
    · rw [if_neg h2]
      go_enter Tryz.func46, Tryz.ntmps46
      go_wp2
      go_ret
      exact ⟨rfl, rfl⟩
theorem enc_lens (n : Nat) (h : n ≤ 1048576) : (enc n).length ≤ 3 := by
  have h1 := enc_mono 1048576 n h
  have h2 : (enc 1048576).length = 3 := by rw [enc_ge (by decide), enc_ge (by decide), enc_lt (by decide)]; rfl
  omega
set_option maxRecDepth 100000 in
set_option maxHeartbeats 1000000 in
theorem frame_ (ep : Nat) (a : Option Addr) (xs : List Nat) (c : Nat) (w : World) (h : BytesIn w a xs) (hx : ∀ x ∈ xs, x < 256) (hc : a = none → c = 0) (he : ep < 18446744073709551616) (hlim : xs.length ≤ 9223372036854775807) :
    Calls Tryz.prog 42 #[.int .u64 ep, .slice a xs.length c] w (Opened w (frm ep xs).1 (frm ep xs).2) := by
  have HR := Lib.hid (refuse_ xs.length w)
  by_cases hr : refu xs.length = 0
  · have hb := refu_zero hr
    have e : frm ep xs = (recB ep xs, 0) := if_pos hr
    rw [e]
    rw [hr] at HR
    have hle := enc_le10 xs.length (by omega)
    have hle2 := enc_le10 ep he
    have hpos := enc_pos xs.length
    have H1 := Lib.hid (appU_ none [] 0 xs.length 0 w rfl (bytesIn_nil _ _) (fun _ => rfl) (by omega) (by simp))
    rw [List.nil_append] at H1
    have H2 : Hid (∀ W g cc, BytesIn W (some ⟨g, 0, none⟩) (enc xs.length) → Calls Tryz.prog 70 #[.slice (some ⟨g, 0, none⟩) (enc xs.length).length cc, .int .u64 ep] W (Laid W (enc xs.length ++ enc ep))) := Lib.hid fun W g cc hh => appU_ (some ⟨g, 0, none⟩) (enc xs.length) cc ep _ W rfl hh (fun q => by cases q) he (by omega)
    have H3 : Hid (∀ W g cc, BytesIn W (some ⟨g, 0, none⟩) (recH ep xs) → Calls Tryz.prog 71 #[.slice (some ⟨g, 0, none⟩) (recH ep xs).length cc] W (Made W (recB ep xs))) := Lib.hid fun W g cc hh => seal_ (some ⟨g, 0, none⟩) (recH ep xs) cc W hh (recH_byte ep xs hx) (fun q => by cases q) (by rw [recH_length]; omega)
    have HB := Lib.hid h
    have HC := Lib.hid hc
    have HE : Hid (recH ep xs = (enc xs.length ++ enc ep) ++ xs) := Lib.hid rfl
    have HN : Hid ((enc xs.length ++ enc ep).length ≤ 20 ∧ 0 < (enc xs.length ++ enc ep).length) := Lib.hid (by rw [List.length_append]; omega)
    have e0 : errV 0 = .nilIface := rfl
    rw [e0] at HR
    unfold Opened
    rw [e0]
    clear h hx hc e hr hle hle2 hpos
    obtain ⟨len, hlen⟩ : ∃ len, xs.length = len := ⟨_, rfl⟩
    have HL := Lib.hid hlen
    rw [hlen] at H1 H2 HR HE HN hb hlim ⊢
    clear hlen
    generalize recB ep xs = zs at *
    generalize recH ep xs = hs at *
    generalize enc len = e1 at *
    generalize hq : e1 ++ enc ep = e2 at *
    clear hq
    have hw1 := wraps_u64 (len : Int) (by omega) (by omega)
    go_enter Tryz.func42, Tryz.ntmps42
    go_wp2_with fail
    refine HR.out.mono ?_
    rintro e w0 ⟨rfl, rfl⟩
    go_wp2_with fail
    refine H1.out.mono ?_
    rintro e w1 ⟨g1, c1, rfl, hO1, hB1⟩
    have HB1 := Lib.hid hB1
    have HI1 := Lib.hid hO1.cells.2.1
    clear hB1 hO1
    go_wp2_with fail
    refine (H2.out w1 _ _ HI1.out).mono ?_
    rintro e w2 ⟨g2, c2, rfl, hO2, hB2⟩
    have HO2 := Lib.hid (hO2.lower HB1.out.size)
    have HB2 := Lib.hid (below_step HB1.out hB2)
    have hs2 := HB2.out.size
    clear hB2 hO2 HI1 H1 H2
    generalize hel : e2.length = el at *
    have HEL := Lib.hid hel
    clear hel
    go_wp2_with (first
      | (at_builtin; refine wpList_append_bytes _ rfl _ _ rfl w0.heap.size _ e2 xs rfl HO2.out a len c rfl HL.out HC.out (HB.out.on HB2.out) (by rw [HL.out, HEL.out]; have := HN.out; omega) hs2 ?_
         intro v3 w3 hown hgrow
         have HO3 := Lib.hid hown
         have HB3 := Lib.hid (below_grow HB2.out HO2.out hgrow)
         rw [← HE.out] at HO3
         obtain ⟨a3, c3, rfl, hi3, hn3⟩ := HO3.out.bytes
         clear hown hgrow)
      | fail)
    obtain ⟨g3, rfl⟩ : ∃ g3, a3 = some ⟨g3, 0, none⟩ := by
      rcases HO3.out.2 with ⟨_, e⟩ | ⟨g, _, _, e, _⟩
      · exfalso
        have h1 := HE.out
        have h2 := HN.out
        rw [List.length_eq_zero_iff.1 e] at h1
        have h3 := congrArg List.length h1
        rw [List.length_append, HEL.out] at h3
        simp at h3
        omega
      · simp only [Value.slice.injEq] at e
        exact ⟨g, e.1⟩
    refine (H3.out w3 _ _ hi3).mono ?_
    rintro e w4 ⟨a4, c4, rfl, hO4, hi4, hn4, hB4⟩
    have HO4 := Lib.hid (hO4.lower HB3.out.size)
    have HI4 := Lib.hid hi4
    have HN4 := Lib.hid hn4
    have HB4 := Lib.hid (below_step HB3.out hB4)
    clear hO4 hi4 hn4 hB4
    go_wp2_with fail
    go_ret2
    exact ⟨a4, c4, rfl, HO4.out, HI4.out, HN4.out, HB4.out⟩
  · have e : frm ep xs = ([], refu xs.length) := if_neg hr
    rw [e]
    unfold Opened
    simp only [errV_not hr] at HR ⊢
    generalize refu xs.length = k at *
    generalize xs.length = len at *
    clear h hx hc e
    go_enter Tryz.func42, Tryz.ntmps42
    go_wp2_with fail
    refine HR.out.mono ?_
    rintro e w0 ⟨rfl, rfl⟩
    go_wp2_with fail
    go_ret2
    exact ⟨none, 0, rfl, own_nil _ _, bytesIn_nil _ _, fun _ => rfl, Below.refl _ _⟩
set_option maxHeartbeats 1000000 in
theorem rlen_ (ep : Nat) (n : Int) (w : World) (he : ep < 18446744073709551616) (h0 : -9223372036854775808 ≤ n) (h1 : n ≤ 9223372036854775807) :
    Calls Tryz.prog 22 #[.int .u64 ep, .int .i64 n] w fun e w' => e = .returned (.tuple #[.int .i64 (lenR ep n).1, errV (lenR ep n).2]) ∧ w' = w := by
  have HR := Lib.hid (refuse_ n w)
  by_cases hr : refu n = 0
  · have hb := refu_zero hr
    obtain ⟨m, rfl⟩ : ∃ m : Nat, n = m := ⟨n.toNat, by omega⟩
    have e : lenR ep m = ((enc m).length + (enc ep).length + m + 4, 0) := by unfold lenR; rw [if_pos hr]; rfl
    rw [e]
    rw [hr] at HR
    have hle := enc_le10 m (by omega)
    have hle2 := enc_le10 ep he
    have H1 := Lib.hid (len_ m w (by omega))
    have H2 := Lib.hid (len_ ep w he)
    have e0 : errV 0 = .nilIface := rfl
    simp only
    rw [e0] at HR ⊢
    generalize (enc m).length = k1 at *
    generalize (enc ep).length = k2 at *
    have hw1 := wraps_u64 (m : Int) (by omega) (by omega)
    clear e hr
    go_enter Tryz.func22, Tryz.ntmps22
    go_wp2_with fail
    refine HR.out.mono ?_
    rintro e w0 ⟨rfl, rfl⟩
    go_wp2_with fail
    refine H1.out.mono ?_
    rintro e w0 ⟨rfl, rfl⟩
    go_wp2_with fail
    refine H2.out.mono ?_
    rintro e w0 ⟨rfl, rfl⟩
    go_wp2_with fail
    go_ret2
    exact ⟨by simp, rfl⟩
  · have e : lenR ep n = (0, refu n) := if_neg hr
    rw [e]
    simp only [errV_not hr] at HR ⊢
    generalize refu n = k at *
    clear e
    go_enter Tryz.func22, Tryz.ntmps22
    go_wp2_with fail
    refine HR.out.mono ?_
    rintro e w0 ⟨rfl, rfl⟩
    go_wp2_with fail
    go_ret2
    exact ⟨rfl, rfl⟩
end Go.Proofs.YtjnhcanohefjiaaGreatDoor
