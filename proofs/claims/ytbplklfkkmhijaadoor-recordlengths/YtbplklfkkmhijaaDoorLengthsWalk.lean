/- The walk of the law RecordLengths. -/
import Derived.Test.YtbplklfkkmhijaaDoorRcAs
import Derived.BigQuiet
namespace Go.Proofs.YtbplklfkkmhijaaDoor
open Go.RowKit Go.Sort

theorem wraps_i64 (n : Int) (h0 : -9223372036854775808 ≤ n) (h1 : n < 9223372036854775808) : IntKind.i64.wrap n = n := by rw [IntKind.wrap_i64]; omega
/-- A row of a longer payload is no shorter. -/
theorem lenR_mono (ep n m : Nat) (h : n ≤ m) : (enc n).length + (enc ep).length + n + 4 ≤ (enc m).length + (enc ep).length + m + 4 := by
  have := enc_mono m n h
  omega
set_option maxRecDepth 100000 in
set_option maxHeartbeats 4000000 in
theorem lengths_law (ep : Nat) (a : Option Addr) (xs : List Nat) (c : Nat) (n : Int) (w : World) (h : BytesIn w a xs) (hx : ∀ x ∈ xs, x < 256) (hc : a = none → c = 0) (hlim : xs.length ≤ 140737488351232) (he : ep < 18446744073709551616) (hE : ErrType w) :
    Calls Tryd.prog 6 #[.int .u64 ep, .slice a xs.length c, .int .i64 n] w fun e w' => e = .returned (.bool true) ∧ Below w.heap.size w w' := by
  have HT := Lib.hid (twin_ a xs c w h hc (by omega))
  have HF : Hid (∀ W a' c', BytesIn W a' xs → (a' = none → c' = 0) → Calls Tryd.prog 7 #[.int .u64 ep, .slice a' xs.length c'] W (Opened W (frm ep xs).1 (frm ep xs).2)) := Lib.hid fun W a' c' h1 h2 => frame_ ep a' xs c' W h1 hx h2 he (by omega)
  have HLn : Hid (∀ W, Calls Tryd.prog 10 #[.int .u64 ep, .int .i64 (xs.length : Nat)] W fun e w' => e = .returned (.tuple #[.int .i64 (lenR ep (xs.length : Nat)).1, errV (lenR ep (xs.length : Nat)).2]) ∧ w' = W) := Lib.hid fun W => rlen_ ep xs.length W he (by omega) (by omega)
  have HN : Hid (∀ k W, ErrType W → Calls Tryd.prog 11 #[errV k] W fun r w' => r = .returned (.int .i64 (k : Nat)) ∧ Below W.heap.size W w') := Lib.hid num_
  have HSU : Hid (∀ W, Calls Tryd.prog 12 #[] W fun e w' => e = .returned (.bool true) ∧ Below W.heap.size W w') := sure_
  have HE := Lib.hid hE
  by_cases hr : refu xs.length = 0
  · have hb := refu_zero hr
    have e1 : frm ep xs = (recB ep xs, 0) := if_pos hr
    have e2 : lenR ep xs.length = ((recB ep xs).length, 0) := by unfold lenR; rw [if_pos hr, recB_length, Int.toNat_natCast]
    have hgt : xs.length + 4 < (recB ep xs).length := by have := enc_pos xs.length; rw [recB_length]; omega
    obtain ⟨u, hu⟩ : ∃ u : Nat, (u : Int) = n % 18446744073709551616 := ⟨(n % 18446744073709551616).toNat, by omega⟩
    obtain ⟨r, hrr⟩ : ∃ r : Nat, (r : Int) = n % 18446744073709551616 % 1000 := ⟨(n % 18446744073709551616 % 1000).toNat, by omega⟩
    have hr1 : r < 1000 := by omega
    have hwa : IntKind.u64.wrap n = n % 18446744073709551616 := by rw [IntKind.wrap_u64]
    have hwa2 := wraps_i64 (n % 18446744073709551616 % 1000) (by omega) (by omega)
    have hwb : (xs.length : Int) + n % 18446744073709551616 % 1000 = ((xs.length + r : Nat) : Int) := by omega
    have HLm : Hid (∀ W, Calls Tryd.prog 10 #[.int .u64 ep, .int .i64 ((xs.length + r : Nat) : Int)] W fun e w' => e = .returned (.tuple #[.int .i64 (lenR ep ((xs.length + r : Nat) : Int)).1, errV (lenR ep ((xs.length + r : Nat) : Int)).2]) ∧ w' = W) := Lib.hid fun W => rlen_ ep ((xs.length + r : Nat) : Int) W he (by omega) (by omega)
    have hcase : (lenR ep ((xs.length + r : Nat) : Int)).2 = 0 ∧ (recB ep xs).length ≤ (lenR ep ((xs.length + r : Nat) : Int)).1 ∨ (lenR ep ((xs.length + r : Nat) : Int)).2 = 2 ∧ 1048576 < xs.length + r := by
      unfold lenR
      by_cases hq : refu ((xs.length + r : Nat) : Int) = 0
      · rw [if_pos hq, recB_length]
        exact .inl ⟨rfl, lenR_mono ep xs.length (xs.length + r) (by omega)⟩
      · rw [if_neg hq]
        have : 1048576 < xs.length + r := by
          apply Classical.byContradiction
          intro hh
          exact hq (refu_ok (by omega) (by omega))
        refine .inr ⟨?_, this⟩
        show refu _ = 2
        unfold refu
        rw [if_neg (by omega), if_pos (by omega)]
    rw [e1] at HF
    rw [e2] at HLn
    have e0 : errV 0 = .nilIface := rfl
    simp only [e0] at HLn
    replace HF : Hid (∀ W a' c', BytesIn W a' xs → (a' = none → c' = 0) → Calls Tryd.prog 7 #[.int .u64 ep, .slice a' xs.length c'] W fun e w' => ∃ a c, e = .returned (.tuple #[.slice a (recB ep xs).length c, .nilIface]) ∧ Below W.heap.size W w') := Lib.hid fun W a' c' h1 h2 => (HF.out W a' c' h1 h2).mono fun e w' ⟨a, c, q1, _, _, _, q2⟩ => ⟨a, c, q1, q2⟩
    generalize (recB ep xs).length = k at *
    generalize (lenR ep ((xs.length + r : Nat) : Int)).1 = x at *
    generalize (lenR ep ((xs.length + r : Nat) : Int)).2 = g at *
    generalize hm : xs.length + r = m at *
    clear e1 e2 hr h hx hc hE
    generalize hlen : xs.length = len at *
    have HL := Lib.hid hlen
    clear hlen
    have hgk : (k : Int) > (len : Int) + 4 := by omega
    have hw4 := wraps_i64 ((len : Int) + 4) (by omega) (by omega)
    go_enter Tryd.func6, Tryd.ntmps6
    go_wp2_with fail
    refine HT.out.mono ?_
    rintro e w1 ⟨a1, c1, rfl, hO1, hI1, hN1, hb1⟩
    have HI1 := Lib.hid hI1
    have HN1 := Lib.hid hN1
    have Hb1 := Lib.hid hb1
    rw [HL.out]
    clear hO1 hI1 hN1 hb1 HT
    go_wp2_with fail
    refine (HF.out w1 _ _ HI1.out HN1.out).mono ?_
    rintro e w2 ⟨a2, c2, rfl, hb2⟩
    have Hb2 := Lib.hid (below_step Hb1.out hb2)
    clear hb2 HF HI1 HN1 Hb1
    go_wp2_with fail
    refine (HLn.out w2).mono ?_
    rintro e w3 ⟨rfl, rfl⟩
    go_wp2_with fail
    refine (HLm.out w3).mono ?_
    rintro e w4 ⟨rfl, rfl⟩
    clear HLn HLm hwa hwa2 hwb hu hrr
    have HEw := Lib.hid (HE.out.on Hb2.out)
    rcases hcase with ⟨rfl, hxk⟩ | ⟨rfl, hm20⟩
    · rw [e0]
      have hxk2 : (x : Int) ≥ (k : Int) := by omega
      clear hxk
      go_wp2_with fail
      refine (HSU.out w4).mono ?_
      rintro e w5 ⟨rfl, hb5⟩
      have HB5 := Lib.hid (below_step Hb2.out hb5)
      clear hb5
      go_wp2_with fail
      go_ret
      exact ⟨rfl, HB5.out⟩
    · have hm2 : (m : Int) > 1048576 := by omega
      have HN2 := Lib.hid (HN.out 2)
      have ev2 : errV 2 = .iface 51 (.int .i64 2) := rfl
      rw [ev2] at HN2 ⊢
      clear hm20 HN
      go_wp2_with fail
      refine (HN2.out w4 HEw.out).mono ?_
      rintro e w5 ⟨rfl, hb5⟩
      have HB5 := Lib.hid (below_step Hb2.out hb5)
      clear hb5
      go_wp2_with fail
      refine (HSU.out w5).mono ?_
      rintro e w6 ⟨rfl, hb6⟩
      have HB6 := Lib.hid (below_step HB5.out hb6)
      clear hb6
      go_wp2_with fail
      go_ret
      exact ⟨rfl, HB6.out⟩
  · have e1 : frm ep xs = ([], refu xs.length) := if_neg hr
    have e2 : lenR ep xs.length = (0, refu xs.length) := if_neg hr
    rw [e1] at HF
    rw [e2] at HLn
    simp only [errV_not hr] at HLn
    replace HF : Hid (∀ W a' c', BytesIn W a' xs → (a' = none → c' = 0) → Calls Tryd.prog 7 #[.int .u64 ep, .slice a' xs.length c'] W fun e w' => ∃ a c, e = .returned (.tuple #[.slice a 0 c, .iface 51 (.int .i64 (refu xs.length))]) ∧ Below W.heap.size W w') := Lib.hid fun W a' c' h1 h2 => (HF.out W a' c' h1 h2).mono fun e w' ⟨a, c, q1, _, _, _, q2⟩ => ⟨a, c, by rw [← errV_not hr]; exact q1, q2⟩
    have HN2 := Lib.hid (HN.out (refu xs.length))
    rw [errV_not hr] at HN2
    generalize refu xs.length = k at *
    clear e1 e2 h hx hc hE HN
    generalize hlen : xs.length = len at *
    have HL := Lib.hid hlen
    clear hlen
    go_enter Tryd.func6, Tryd.ntmps6
    go_wp2_with fail
    refine HT.out.mono ?_
    rintro e w1 ⟨a1, c1, rfl, hO1, hI1, hN1, hb1⟩
    have HI1 := Lib.hid hI1
    have HN1 := Lib.hid hN1
    have Hb1 := Lib.hid hb1
    rw [HL.out]
    clear hO1 hI1 hN1 hb1 HT
    go_wp2_with fail
    refine (HF.out w1 _ _ HI1.out HN1.out).mono ?_
    rintro e w2 ⟨a2, c2, rfl, hb2⟩
    have Hb2 := Lib.hid (below_step Hb1.out hb2)
    clear hb2 HF HI1 HN1 Hb1
    go_wp2_with fail
    refine (HLn.out w2).mono ?_
    rintro e w3 ⟨rfl, rfl⟩
    have HEw := Lib.hid (HE.out.on Hb2.out)
    have hkk : ((k : Int) == (k : Int)) = true := by simp
    go_wp2_with fail
    refine (HN2.out w3 HEw.out).mono ?_
    rintro e w5 ⟨rfl, hb5⟩
    have HB5 := Lib.hid (below_step Hb2.out hb5)
    clear hb5
    go_wp2_with fail
    refine (HN2.out w5 (HE.out.on HB5.out)).mono ?_
    rintro e w6 ⟨rfl, hb6⟩
    have HB6 := Lib.hid (below_step HB5.out hb6)
    clear hb6
    go_wp2_with fail
    refine (HSU.out w6).mono ?_
    rintro e w7 ⟨rfl, hb7⟩
    have HB7 := Lib.hid (below_step HB6.out hb7)
    clear hb7
    go_wp2_with fail
    go_ret
    exact ⟨rfl, HB7.out⟩
end Go.Proofs.YtbplklfkkmhijaaDoor
