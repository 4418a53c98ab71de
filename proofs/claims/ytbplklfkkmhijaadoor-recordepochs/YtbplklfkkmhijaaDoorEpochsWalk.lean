/- The walk of the law RecordEpochs. -/
import Derived.Test.YtbplklfkkmhijaaDoorRcAs
import Derived.Test.YtbplklfkkmhijaaDoorRcOne
namespace Go.Proofs.YtbplklfkkmhijaaDoor
open Go.RowKit Go.Sort

set_option maxRecDepth 100000 in
set_option maxHeartbeats 4000000 in
theorem epochs_law (e1 e2 : Nat) (a : Option Addr) (xs : List Nat) (c : Nat) (w : World) (h : BytesIn w a xs) (hx : ∀ x ∈ xs, x < 256) (hc : a = none → c = 0) (hlim : xs.length ≤ 140737488351232) (he1 : e1 < 18446744073709551616) (_he2 : e2 < 18446744073709551616) (hE : ErrType w) :
    Calls Tryd.prog 5 #[.int .u64 e1, .int .u64 e2, .slice a xs.length c] w fun e w' => e = .returned (.bool true) ∧ Below w.heap.size w w' := by
  have HT := Lib.hid (twin_ a xs c w h hc (by omega))
  have HSU : Hid (∀ W, Calls Tryd.prog 12 #[] W fun e w' => e = .returned (.bool true) ∧ Below W.heap.size W w') := sure_
  have HE := Lib.hid hE
  have HB := Lib.hid h
  have e0 : errV 0 = .nilIface := rfl
  by_cases hr : refu xs.length = 0
  · have hb := refu_zero hr
    have hne : xs ≠ [] := by intro q; rw [q] at hb; simp at hb
    have ef : frm e1 xs = (recB e1 xs, 0) := if_pos hr
    have hlen := recB_length e1 xs
    have hle := enc_le10 xs.length (by omega)
    have hle2 := enc_le10 e1 he1
    have HF : Hid (∀ W a' c', BytesIn W a' xs → (a' = none → c' = 0) → Calls Tryd.prog 7 #[.int .u64 e1, .slice a' xs.length c'] W fun e w' => ∃ a c, e = .returned (.tuple #[.slice a (recB e1 xs).length c, .nilIface]) ∧ BytesIn w' a (recB e1 xs) ∧ (recB e1 xs).length ≤ c ∧ Below W.heap.size W w') := Lib.hid fun W a' c' h1 h2 => (frame_ e1 a' xs c' W h1 hx h2 he1 (by omega)).mono fun e w' hh => by
      rw [ef] at hh
      obtain ⟨a, c, q1, q2, q3, _, q4⟩ := hh
      exact ⟨a, c, q1, q3, own_cap q2, q4⟩
    have HO : Hid (∀ W a' c', BytesIn W a' (recB e1 xs) → (recB e1 xs).length ≤ c' → Calls Tryd.prog 13 #[.int .u64 e2, .slice a' (recB e1 xs).length c'] W (OneTold W (one e2 (recB e1 xs)))) := Lib.hid fun W a' c' h1 h2 => one_ e2 a' (recB e1 xs) _ c' W h1 (recB_byte e1 xs hx) rfl (by omega) h2
    by_cases heq : e1 = e2
    · subst heq
      have eo : one e1 (recB e1 xs) = (xs, (recB e1 xs).length, 0) := by
        have := one_rec e1 xs [] he1 hne (by omega)
        rw [List.append_nil] at this
        exact this
      rw [eo] at HO
      replace HO : Hid (∀ W a' c', BytesIn W a' (recB e1 xs) → (recB e1 xs).length ≤ c' → Calls Tryd.prog 13 #[.int .u64 e1, .slice a' (recB e1 xs).length c'] W fun e w' => ∃ a c, e = .returned (.tuple #[.slice a xs.length c, .int .i64 (recB e1 xs).length, .nilIface]) ∧ BytesIn w' a xs ∧ Below W.heap.size W w') := Lib.hid fun W a' c' h1 h2 => (HO.out W a' c' h1 h2).mono fun e w' ⟨a, c, q1, q2, _, _, q3⟩ => ⟨a, c, q1, q2.1, q3⟩
      clear eo ef hr h hx hc hE hlen hle hle2
      generalize recB e1 xs = R at *
      generalize R.length = rl at *
      generalize hlen : xs.length = len at *
      have HL := Lib.hid hlen
      clear hlen hne
      go_enter Tryd.func5, Tryd.ntmps5
      go_wp2_with fail
      refine HT.out.mono ?_
      rintro e w1 ⟨a1, c1, rfl, hO1, hI1, hN1, hb1⟩
      have HI1 := Lib.hid hI1
      have HN1 := Lib.hid hN1
      have Hb1 := Lib.hid hb1
      rw [HL.out]
      clear hO1 hI1 hN1 hb1 HT
      go_wp2_with fail
      refine (HF.out w1 _ _ HI1.out HN1.out).mono ?_
      rintro e w2 ⟨a2, c2, rfl, hi2, hc2, hb2⟩
      have HI2 := Lib.hid hi2
      have Hb2 := Lib.hid (below_step Hb1.out hb2)
      have HC2 := Lib.hid hc2
      clear hb2 hi2 hc2 HF HI1 HN1 Hb1
      go_wp2_with fail
      refine (HO.out w2 _ _ HI2.out HC2.out).mono ?_
      rintro e w3 ⟨a3, c3, rfl, hi3, hb3⟩
      have Hb3 := Lib.hid (below_step Hb2.out hb3)
      have cv1 := conv_ w3 a3 len c3 xs HL.out.symm hi3
      have cv2 := conv_ w3 a len c xs HL.out.symm (HB.out.on Hb3.out)
      generalize bs xs = sx at *
      clear hi3 hb3 HO
      go_wp2_with fail
      refine (HSU.out w3).mono ?_
      rintro e w4 ⟨rfl, hb4⟩
      have Hb4 := Lib.hid (below_step Hb3.out hb4)
      clear hb4
      go_wp2_with fail
      go_ret
      exact ⟨rfl, Hb4.out⟩
    · have eo : one e2 (recB e1 xs) = ([], 0, 11) := by
        have := one_other e1 e2 xs [] he1 hne (by omega) heq
        rw [List.append_nil] at this
        exact this
      rw [eo] at HO
      have hneq : ((e1 : Int) == (e2 : Int)) = false := beq_false_of_ne (by omega)
      have ev11 : errV 11 = .iface 51 (.int .i64 11) := rfl
      have HN11 := Lib.hid (num_ 11)
      rw [ev11] at HN11
      replace HO : Hid (∀ W a' c', BytesIn W a' (recB e1 xs) → (recB e1 xs).length ≤ c' → Calls Tryd.prog 13 #[.int .u64 e2, .slice a' (recB e1 xs).length c'] W fun e w' => ∃ a c, e = .returned (.tuple #[.slice a 0 c, .int .i64 0, .iface 51 (.int .i64 11)]) ∧ Below W.heap.size W w') := Lib.hid fun W a' c' h1 h2 => (HO.out W a' c' h1 h2).mono fun e w' ⟨a, c, q1, _, _, _, q3⟩ => ⟨a, c, q1, q3⟩
      clear eo ef hr h hx hc hE hlen hle hle2
      generalize recB e1 xs = R at *
      generalize R.length = rl at *
      generalize hlen : xs.length = len at *
      have HL := Lib.hid hlen
      clear hlen hne heq
      go_enter Tryd.func5, Tryd.ntmps5
      go_wp2_with fail
      refine HT.out.mono ?_
      rintro e w1 ⟨a1, c1, rfl, hO1, hI1, hN1, hb1⟩
      have HI1 := Lib.hid hI1
      have HN1 := Lib.hid hN1
      have Hb1 := Lib.hid hb1
      rw [HL.out]
      clear hO1 hI1 hN1 hb1 HT
      go_wp2_with fail
      refine (HF.out w1 _ _ HI1.out HN1.out).mono ?_
      rintro e w2 ⟨a2, c2, rfl, hi2, hc2, hb2⟩
      have HI2 := Lib.hid hi2
      have Hb2 := Lib.hid (below_step Hb1.out hb2)
      have HC2 := Lib.hid hc2
      clear hb2 hi2 hc2 HF HI1 HN1 Hb1
      go_wp2_with fail
      refine (HO.out w2 _ _ HI2.out HC2.out).mono ?_
      rintro e w3 ⟨a3, c3, rfl, hb3⟩
      have Hb3 := Lib.hid (below_step Hb2.out hb3)
      clear hb3 HO
      go_wp2_with fail
      refine (HN11.out w3 (HE.out.on Hb3.out)).mono ?_
      rintro e w4 ⟨rfl, hb4⟩
      have Hb4 := Lib.hid (below_step Hb3.out hb4)
      clear hb4
      go_wp2_with fail
      refine (HSU.out w4).mono ?_
      rintro e w5 ⟨rfl, hb5⟩
      have Hb5 := Lib.hid (below_step Hb4.out hb5)
      clear hb5
      go_wp2_with fail
      go_ret
      exact ⟨rfl, Hb5.out⟩
  · have ef : frm e1 xs = ([], refu xs.length) := if_neg hr
    have HF : Hid (∀ W a' c', BytesIn W a' xs → (a' = none → c' = 0) → Calls Tryd.prog 7 #[.int .u64 e1, .slice a' xs.length c'] W fun e w' => ∃ a c, e = .returned (.tuple #[.slice a 0 c, .iface 51 (.int .i64 (refu xs.length))]) ∧ Below W.heap.size W w') := Lib.hid fun W a' c' h1 h2 => (frame_ e1 a' xs c' W h1 hx h2 he1 (by omega)).mono fun e w' hh => by
      rw [ef] at hh
      obtain ⟨a, c, q1, _, _, _, q4⟩ := hh
      exact ⟨a, c, by rw [← errV_not hr]; exact q1, q4⟩
    generalize refu xs.length = k at *
    clear ef h hx hc hE
    generalize hlen : xs.length = len at *
    have HL := Lib.hid hlen
    clear hlen
    go_enter Tryd.func5, Tryd.ntmps5
    go_wp2_with fail
    refine HT.out.mono ?_
    rintro e w1 ⟨a1, c1, rfl, hO1, hI1, hN1, hb1⟩
    have HI1 := Lib.hid hI1
    have HN1 := Lib.hid hN1
    have Hb1 := Lib.hid hb1
    rw [HL.out]
    clear hO1 hI1 hN1 hb1 HT
    go_wp2_with fail
    refine (HF.out w1 _ _ HI1.out HN1.out).mono ?_
    rintro e w2 ⟨a2, c2, rfl, hb2⟩
    have Hb2 := Lib.hid (below_step Hb1.out hb2)
    clear hb2 HF HI1 HN1 Hb1
    go_wp2_with fail
    refine (HSU.out w2).mono ?_
    rintro e w3 ⟨rfl, hb3⟩
    have Hb3 := Lib.hid (below_step Hb2.out hb3)
    clear hb3
    go_wp2_with fail
    go_ret
    exact ⟨rfl, Hb3.out⟩
end Go.Proofs.YtbplklfkkmhijaaDoor
