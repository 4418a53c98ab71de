/- The walk of the law PackSizes. -/
import Derived.Test.YtjchmpfncieegaaSure
namespace Go.Proofs.Ytjchmpfncieegaa
open Go.RowKit Go.Sort

set_option maxRecDepth 100000 in
set_option maxHeartbeats 2000000 in
theorem sizes_ (n m : Nat) (w : World) (hn : n < 18446744073709551616) (hm : m < 18446744073709551616) :
    Calls Try.prog 5 #[.int .u64 n, .int .u64 m] w fun e w' => e = .returned (.bool true) ∧ Below w.heap.size w w' := by
  have HL : Hid (∀ W, Calls Try.prog 13 #[.int .u64 n] W fun e w' => e = .returned (.int .i64 (enc n).length) ∧ w' = W) := fun W => len_ n W hn
  have HM : Hid (∀ W, Calls Try.prog 13 #[.int .u64 m] W fun e w' => e = .returned (.int .i64 (enc m).length) ∧ w' = W) := fun W => len_ m W hm
  have HA : Hid (∀ W, Calls Try.prog 7 #[.slice none 0 0, .int .u64 n] W fun e w' => ∃ v c, e = .returned (.slice v (enc n).length c) ∧ Below W.heap.size W w') := fun W => (appU_ none [] 0 n 0 W rfl (bytesIn_nil _ _) (fun _ => rfl) hn (by decide)).mono fun e w' hh => by
    obtain ⟨g, c, e1, _, h2⟩ := hh
    exact ⟨_, c, e1, h2⟩
  have HS : Hid (∀ W, Calls Try.prog 14 #[] W fun e w' => e = .returned (.bool true) ∧ Below W.heap.size W w') := sure_
  have hle : m ≤ n → (enc m).length ≤ (enc n).length := enc_mono n m
  have hl := enc_length n hn
  have hl10 := enc_le10 n hn
  have hm10 := enc_le10 m hm
  obtain ⟨bl, hbl⟩ : ∃ bl, bl = Lib.bitLen n := ⟨_, rfl⟩
  have hb64 : bl ≤ 64 := by rw [hbl]; exact Lib.bitLen_le n 64 (by omega) (by omega)
  have HBL := Lib.hid hbl
  rw [← hbl] at hl
  clear hbl
  generalize (enc n).length = L at *
  generalize (enc m).length = M at *
  have hM : (decide (n < m) || decide (M ≤ L)) = true := by
    rw [Bool.or_eq_true, decide_eq_true_eq, decide_eq_true_eq]
    rcases Nat.lt_or_ge n m with h | h
    · exact .inl h
    · exact .inr (hle h)
  have HLm := Lib.hid hle
  clear hle hM
  go_enter Try.func5, Try.ntmps5
  go_wp2_with fail
  go_loopw [5, 7] (fun bv xv wr => ∃ (j x : Nat), bv = .int .i64 j ∧ xv = .int .u64 x ∧ wr = w ∧ x < 18446744073709551616 ∧ j + Lib.bitLen x = bl) (fun _ xv _ => (intOf xv).toNat)
  case atStart => exact ⟨0, n, rfl, rfl, rfl, hn, by rw [HBL.out]; omega⟩
  case round =>
    obtain ⟨j, x, rfl, rfl, rfl, hx, hj⟩ := hrel
    by_cases h0 : x = 0
    · subst h0
      have ej : j = bl := by rw [← hj]; rfl
      subst ej
      clear hj
      have hmax : (max (((j : Int) + 6) / 7) 1) = (L : Int) := by omega
      by_cases hnm : n < m
      · go_wp2_with fail
        refine (HL.out _).mono ?_
        rintro e w1 ⟨rfl, rfl⟩
        go_wp2_with fail
        refine (HA.out _).mono ?_
        rintro e w2 ⟨v, c, rfl, hb⟩
        have Hb := Lib.hid hb
        clear hb
        go_wp2_with fail
        refine (HS.out _).mono ?_
        rintro e w3 ⟨rfl, hb3⟩
        have Hb3 : Hid (Below w1.heap.size w1 w3) := Lib.hid (Hb.out.trans (hb3.mono Hb.out.size))
        clear hb3
        go_wp2_with fail
        go_ret
        exact ⟨rfl, Hb3.out⟩
      · have hML : (M : Int) ≤ L := by have := HLm.out (by omega); omega
        go_wp2_with fail
        refine (HL.out _).mono ?_
        rintro e w1 ⟨rfl, rfl⟩
        go_wp2_with fail
        refine (HM.out _).mono ?_
        rintro e w1 ⟨rfl, rfl⟩
        go_wp2_with fail
        refine (HA.out _).mono ?_
        rintro e w2 ⟨v, c, rfl, hb⟩
        have Hb := Lib.hid hb
        clear hb
        go_wp2_with fail
        refine (HS.out _).mono ?_
        rintro e w3 ⟨rfl, hb3⟩
        have Hb3 : Hid (Below w1.heap.size w1 w3) := Lib.hid (Hb.out.trans (hb3.mono Hb.out.size))
        clear hb3
        go_wp2_with fail
        go_ret
        exact ⟨rfl, Hb3.out⟩
    · have hh := Lib.bitLen_half x h0 (by omega)
      have hj' : j + 1 + Lib.bitLen (x / 2) = bl := by omega
      have HJ := Lib.hid hj'
      clear hj hj' hh
      have hjb : j ≤ 64 := by have := HJ.out; omega
      go_wp2_with fail
      go_roundw
      case rel => exact ⟨j + 1, x / 2, by go_num, by go_num, trivial, by omega, HJ.out⟩
      case measure => simp [intOf]; omega
end Go.Proofs.Ytjchmpfncieegaa
