/- The walks of the document's letter, digit, pair, single, word. -/
import Derived.Test.YtfmpnakonffkcaaGreatDoorLxTxt
namespace Go.Proofs.YtfmpnakonffkcaaGreatDoor
open Go.RowKit Go.Sort

set_option maxHeartbeats 1000000 in
theorem rletter_ (c : UInt8) (w : World) : Calls Tryz.prog 34 #[.int .u8 (c.toNat : Int)] w fun e w' => e = .returned (.bool (letB c)) ∧ w' = w := by
  rw [let_int]
  generalize (c.toNat : Int) = x
  by_cases h1 : (97 : Int) ≤ x <;> by_cases h2 : x ≤ 122 <;> by_cases h3 : (65 : Int) ≤ x <;> by_cases h4 : x ≤ 90 <;> first
    | (exfalso; omega)
    | (go_enter Tryz.func34, Tryz.ntmps34
       go_wp2_with fail
       go_ret
       first | exact ⟨rfl, rfl⟩ | exact ⟨by simp_all, rfl⟩)
set_option maxHeartbeats 1000000 in
theorem rdigit_ (c : UInt8) (w : World) : Calls Tryz.prog 36 #[.int .u8 (c.toNat : Int)] w fun e w' => e = .returned (.bool (isDig c)) ∧ w' = w := by
  rw [dig_int]
  generalize (c.toNat : Int) = x
  by_cases h1 : (48 : Int) ≤ x <;> by_cases h2 : x ≤ 57 <;> first
    | (exfalso; omega)
    | (go_enter Tryz.func36, Tryz.ntmps36
       go_wp2_with fail
       go_ret
       first | exact ⟨rfl, rfl⟩ | exact ⟨by simp_all, rfl⟩)

theorem sg2_ {l : List UInt8} : sg2 l = ((l == [60, 62]) || (l == [60, 61]) || (l == [62, 61]) || (l == [124, 124])) := by
  simp only [sg2, pairs, List.any_cons, List.any_nil, Bool.or_false, fun x => beq_swap x l, Bool.or_assoc]
set_option maxHeartbeats 1000000 in
theorem pair_ (s : ByteArray) (w : World) : Calls Tryz.prog 39 #[.string s] w fun e w' => e = .returned (.bool (sg2 (lst s))) ∧ w' = w := by
  rw [← toList_lst, sg2_]
  cases h1 : (s.toList == ([60, 62] : List UInt8)) <;> cases h2 : (s.toList == ([60, 61] : List UInt8)) <;> cases h3 : (s.toList == ([62, 61] : List UInt8)) <;> cases h4 : (s.toList == ([124, 124] : List UInt8)) <;>
    (go_enter Tryz.func39, Tryz.ntmps39
     go_wp2_with fail
     go_ret
     exact ⟨rfl, rfl⟩)
def oneL : List UInt8 := [40, 41, 44, 42, 43, 45, 47, 37, 61, 60, 62]
theorem sg1_no {c : UInt8} (h : ∀ j, j < 11 → (oneL.getD j 0 == c) = false) : sg1 c = false := by
  have k := fun j hj => h j hj
  have k0 := k 0 (by omega); have k1 := k 1 (by omega); have k2 := k 2 (by omega); have k3 := k 3 (by omega); have k4 := k 4 (by omega); have k5 := k 5 (by omega)
  have k6 := k 6 (by omega); have k7 := k 7 (by omega); have k8 := k 8 (by omega); have k9 := k 9 (by omega); have k10 := k 10 (by omega)
  simp only [oneL, List.getD_cons_zero, List.getD_cons_succ] at k0 k1 k2 k3 k4 k5 k6 k7 k8 k9 k10
  simp only [sg1, ones, List.any_cons, List.any_nil, k0, k1, k2, k3, k4, k5, k6, k7, k8, k9, k10, Bool.or_false]
theorem sg1_yes {c : UInt8} {j : Nat} (hj : j < 11) (h : (oneL.getD j 0 == c) = true) : sg1 c = true := by
  have e := beq_iff_eq.1 h
  subst e
  have all : ∀ j : Fin 11, sg1 (oneL.getD j.val 0) = true := by decide
  exact all ⟨j, hj⟩
set_option maxHeartbeats 1000000 in
theorem single_ (c : UInt8) (w : World) : Calls Tryz.prog 40 #[.int .u8 (c.toNat : Int)] w fun e w' => e = .returned (.bool (sg1 c)) ∧ w' = w := by
  obtain ⟨R, hR⟩ : ∃ R, sg1 c = R := ⟨_, rfl⟩
  have HY : Hid (∀ j, j < 11 → (oneL.getD j 0 == c) = true → R = true) := fun j hj h => by rw [← hR]; exact sg1_yes hj h
  have HN : Hid ((∀ j, j < 11 → (oneL.getD j 0 == c) = false) → R = false) := fun h => by rw [← hR]; exact sg1_no h
  have HA : Hid (∀ j (hj : j < 11), ((⟨#[40, 41, 44, 42, 43, 45, 47, 37, 61, 60, 62]⟩ : ByteArray)[j]'hj) = oneL.getD j 0) := by
    intro j hj
    have all : ∀ j : Fin 11, ((⟨#[40, 41, 44, 42, 43, 45, 47, 37, 61, 60, 62]⟩ : ByteArray)[j.val]'j.isLt) = oneL.getD j.val 0 := by decide +kernel
    exact all ⟨j, hj⟩
  rw [hR]
  clear hR
  go_enter Tryz.func40, Tryz.ntmps40
  go_wp2_with fail
  go_loopw [3] (fun iv wr => ∃ i : Nat, i ≤ 11 ∧ iv = .int .i64 i ∧ wr = w ∧ Hid (∀ j, j < 11 → j < i → (oneL.getD j 0 == c) = false)) (fun iv _ => 11 - (intOf iv).toNat)
  case atStart => exact ⟨0, Nat.zero_le _, rfl, rfl, fun j _ hj => by omega⟩
  case round =>
    obtain ⟨i, hi, rfl, rfl, HV⟩ := hrel
    by_cases hlt : i < 11
    · have hlt2 : (i : Int) < 11 := by omega
      have hsz : (⟨#[40, 41, 44, 42, 43, 45, 47, 37, 61, 60, 62]⟩ : ByteArray).size = 11 := by decide +kernel
      have hin : i < (⟨#[40, 41, 44, 42, 43, 45, 47, 37, 61, 60, 62]⟩ : ByteArray).size := by rw [hsz]; exact hlt
      obtain ⟨x, hx⟩ : ∃ x, oneL.getD i 0 = x := ⟨_, rfl⟩
      have hat := HA.out i hlt
      rw [hx] at hat
      cases hb : (x == c) with
      | true =>
        have HF : Hid (R = true) := HY.out i hlt (by rw [hx]; exact hb)
        have hI : ((x.toNat : Int) == (c.toNat : Int)) = true := by rw [beq_iff_eq.1 hb]; simp
        clear HV HY HN HA hb hx
        go_wp2_with fail
        go_ret
        exact ⟨by rw [HF.out]; rfl, rfl⟩
      | false =>
        have hI : ((x.toNat : Int) == (c.toNat : Int)) = false := by
          refine beq_eq_false_iff_ne.2 fun e => ?_
          have : x = c := UInt8.toNat_inj.1 (by omega)
          subst this; simp at hb
        have HV2 : Hid (∀ j, j < 11 → j < i + 1 → (oneL.getD j 0 == c) = false) := fun j hj hji => by
          rcases Nat.lt_or_ge j i with hh | hh
          · exact HV.out j hj hh
          · obtain rfl : j = i := by omega
            rw [hx]; exact hb
        clear HV HY HN HA hb hx
        go_wp2_with fail
        go_roundw
        case rel => exact ⟨i + 1, by omega, by go_num, by trivial, HV2⟩
        case measure => simp [intOf]; omega
    · obtain rfl : i = 11 := by omega
      have HF : Hid (R = false) := HN.out (fun j hj => HV.out j hj hj)
      have hlt2 : ¬ (((11 : Nat) : Int) < 11) := by omega
      clear HV HY HN HA
      go_wp2_with fail
      go_ret
      exact ⟨by rw [HF.out]; rfl, rfl⟩
/-- A token as the document's result. -/
def oneV (g : Got) (p : Nat) : Value := if g.e = 0 then .tuple #[agT (g.t.at_ p), .int .i64 ((p + g.s : Nat) : Int), .int .i64 0] else .tuple #[agT tk0, .int .i64 (p : Int), .int .i64 g.e]
end Go.Proofs.YtfmpnakonffkcaaGreatDoor
