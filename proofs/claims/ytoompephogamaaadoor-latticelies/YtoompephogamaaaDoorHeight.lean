/- The walk of the document's own height. -/
import Derived.Test.YtoompephogamaaaDoorRef
namespace Go.Proofs.YtoompephogamaaaDoor
open Go.RowKit Go.Sort

theorem topTo_yes {f : Nat → Nat} {p : Nat → Bool} {k : Nat} (h : p k = true) : topTo f p (k + 1) = max (topTo f p k) (1 + f k) := by rw [topTo, if_pos h]
theorem topTo_no {f : Nat → Nat} {p : Nat → Bool} {k : Nat} (h : p k = false) : topTo f p (k + 1) = topTo f p k := by rw [topTo, if_neg (by rw [h]; decide)]
theorem topTo_lim {f : Nat → Nat} {p : Nat → Bool} {m : Nat} (k : Nat) (h : ∀ j, p j = true → f j < m) : topTo f p k ≤ m := (topTo_le k).2 fun j _ hj => h j hj

set_option maxHeartbeats 2000000 in
theorem height_ (a : Option Addr) (c : Nat) (ls : List Lab) (hw : allW ls) (hd : ls.Nodup) (hn : ls.length ≤ 16) : ∀ (m i : Nat), (belowL ls i).length ≤ m → i < ls.length → ∀ w, LabsIn w a ls →
    Calls Tryd.prog 28 #[.slice a ls.length c, .int .i64 i] w fun e w' => e = .returned (.int .i64 (hgt ls i)) ∧ Below w.heap.size w w'
  | 0, i, hm, hi, _, _ => by
    have : i ∈ belowL ls i := mem_below.2 (domAt_nat.2 ⟨⟨hi, hi⟩, dm_refl hw i⟩)
    have := List.length_pos_of_mem this
    omega
  | m + 1, i, hm, hi, w, h => by
    have HREC : Hid (∀ (j : Nat) (W : World), under ls i j = true → LabsIn W a ls → Calls Tryd.prog 28 #[.slice a ls.length c, .int .i64 j] W fun e w' => e = .returned (.int .i64 (hgt ls j)) ∧ Below W.heap.size W w') := fun j W hu hL => by
      simp only [under, Bool.and_eq_true, bne_iff_ne] at hu
      have := below_lt hw hd hu.2 hu.1
      exact height_ a c ls hw hd hn m j (by omega) (domAt_nat.1 hu.2).1.2 W hL
    have HDOM : Hid (∀ (j : Nat) (W : World), LabsIn W a ls → Calls Tryd.prog 17 #[.slice a ls.length c, .int .i64 i, .int .i64 j] W fun e w' => e = .returned (.bool (domAt ls i j)) ∧ Below W.heap.size W w') := fun j W hL => r2Dom_ a c i j ls W hL hw
    have HU : Hid (∀ j, under ls i j = (j != i && domAt ls i j)) := fun _ => rfl
    have HE : Hid (hgt ls i = topTo (hgt ls) (under ls i) ls.length) := hgt_eq hw hd hi
    have HLT : Hid (∀ j, under ls i j = true → hgt ls j < ls.length) := fun j hu => by
      simp only [under, Bool.and_eq_true] at hu
      exact hgt_lt hw hd (domAt_nat.1 hu.2).1.2
    rw [HE.out]
    have HL : Hid (LabsIn w a ls) := h
    clear HE hm hi h hw hd
    obtain ⟨dd, hdd⟩ : ∃ dd : Nat → Bool, (fun j : Nat => domAt ls i j) = dd := ⟨_, rfl⟩
    have HDD : Hid (∀ j : Nat, domAt ls i j = dd j) := fun j => congrFun hdd j
    generalize under ls i = p at *
    generalize hgt ls = f at *
    obtain ⟨n, hnn⟩ : ∃ n, ls.length = n := ⟨_, rfl⟩
    rw [hnn] at hn HREC HDOM HLT ⊢
    have HTL : Hid (∀ k, topTo f p k ≤ n) := fun k => topTo_lim k HLT.out
    clear hnn hdd
    go_enter Tryd.func28, Tryd.ntmps28
    go_wp2_with fail
    go_loopw [5, 6] (fun hv iv wr => ∃ k : Nat, k ≤ n ∧ iv = .int .i64 k ∧ hv = .int .i64 (topTo f p k) ∧ Below w.heap.size w wr) (fun _ iv _ => n - (intOf iv).toNat)
    case atStart => exact ⟨0, Nat.zero_le _, rfl, rfl, Below.refl _ _⟩
    case round =>
      obtain ⟨k, hk, rfl, rfl, hb⟩ := hrel
      by_cases hlt : k < n
      · have htl := HTL.out k
        by_cases hki : k = i
        · have hp : p k = false := by rw [HU.out k, hki]; simp
          have HP := Lib.hid (topTo_no (f := f) hp)
          subst hki
          clear hp
          go_wp2_with fail
          go_roundw
          case rel => exact ⟨k + 1, by omega, by go_num, by rw [HP.out], hb⟩
          case measure => simp [intOf]; omega
        · have hki' : ¬ (k : Int) = (i : Int) := by omega
          go_wp2_with fail
          refine (HDOM.out k wr (HL.out.on hb)).mono ?_
          rintro e w2 ⟨rfl, hb2⟩
          rw [HDD.out k]
          have hb3 : Below w.heap.size w w2 := hb.trans (hb2.mono hb.size)
          cases hdk : dd k
          · have hp : p k = false := by rw [HU.out k, HDD.out k, hdk]; simp
            have HP := Lib.hid (topTo_no (f := f) hp)
            clear hp
            go_wp2_with fail
            go_roundw
            case rel => exact ⟨k + 1, by omega, by go_num, by rw [HP.out], hb3⟩
            case measure => simp [intOf]; omega
          · have hp : p k = true := by rw [HU.out k, HDD.out k, hdk]; simpa using hki
            have HP := Lib.hid (topTo_yes (f := f) hp)
            have hfk := HLT.out k hp
            have HPK := Lib.hid hp
            clear hp
            go_wp2_with fail
            refine (HREC.out k w2 HPK.out (HL.out.on hb3)).mono ?_
            rintro e w4 ⟨rfl, hb4⟩
            have hb5 : Below w.heap.size w w4 := hb3.trans (hb4.mono hb3.size)
            generalize topTo f p k = t at *
            generalize f k = u at *
            go_wp2_with fail
            go_roundw
            case rel => exact ⟨k + 1, by omega, by go_num, by rw [HP.out]; congr 1; split <;> omega, hb5⟩
            case measure => simp [intOf]; omega
      · obtain rfl : k = n := by omega
        go_wp2_with fail
        go_ret
        exact ⟨rfl, hb⟩
end Go.Proofs.YtoompephogamaaaDoor
