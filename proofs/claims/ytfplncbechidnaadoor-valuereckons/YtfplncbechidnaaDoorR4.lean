/- The walks of the document's plus and times. -/
import Derived.Test.YtfplncbechidnaaDoorW6
namespace Go.Proofs.YtfplncbechidnaaDoor
open Go.RowKit Go.Sort

theorem plus_no1 (x y : Int) (w : World) (hx : inI x) (hy : inI y) (h0 : 0 < y) (h1 : 9223372036854775807 - y < x) : Calls Tryd.prog 45 #[.int .i64 x, .int .i64 y] w fun e w' => e = .returned (.tuple #[.int .i64 0, .bool false]) ∧ w' = w := by
  have g1 := hx.1; have g2 := hx.2; have g3 := hy.1; have g4 := hy.2
  go_enter Tryd.func45, Tryd.ntmps45
  go_wp2_with fail
  exact bodyPost_ret (v := .tuple #[.int .i64 0, .bool false]) (by simp [results, Tryd.results45, go_sem]) rfl ⟨rfl, rfl⟩
theorem plus_no2 (x y : Int) (w : World) (hx : inI x) (hy : inI y) (h0 : y < 0) (h1 : x < -9223372036854775808 - y) : Calls Tryd.prog 45 #[.int .i64 x, .int .i64 y] w fun e w' => e = .returned (.tuple #[.int .i64 0, .bool false]) ∧ w' = w := by
  have g1 := hx.1; have g2 := hx.2; have g3 := hy.1; have g4 := hy.2
  go_enter Tryd.func45, Tryd.ntmps45
  go_wp2_with fail
  exact bodyPost_ret (v := .tuple #[.int .i64 0, .bool false]) (by simp [results, Tryd.results45, go_sem]) rfl ⟨rfl, rfl⟩
theorem plus_ok1 (x y : Int) (w : World) (hx : inI x) (hy : inI y) (h0 : 0 < y) (h1 : ¬ 9223372036854775807 - y < x) : Calls Tryd.prog 45 #[.int .i64 x, .int .i64 y] w fun e w' => e = .returned (.tuple #[.int .i64 (x + y), .bool true]) ∧ w' = w := by
  have g1 := hx.1; have g2 := hx.2; have g3 := hy.1; have g4 := hy.2
  go_enter Tryd.func45, Tryd.ntmps45
  go_wp2_with fail
  exact bodyPost_ret (v := .tuple #[.int .i64 (x + y), .bool true]) (by simp [results, Tryd.results45, go_sem]) rfl ⟨rfl, rfl⟩
theorem plus_ok2 (x y : Int) (w : World) (hx : inI x) (hy : inI y) (h0 : y < 0) (h1 : ¬ x < -9223372036854775808 - y) : Calls Tryd.prog 45 #[.int .i64 x, .int .i64 y] w fun e w' => e = .returned (.tuple #[.int .i64 (x + y), .bool true]) ∧ w' = w := by
  have g1 := hx.1; have g2 := hx.2; have g3 := hy.1; have g4 := hy.2
  go_enter Tryd.func45, Tryd.ntmps45
  go_wp2_with fail
  exact bodyPost_ret (v := .tuple #[.int .i64 (x + y), .bool true]) (by simp [results, Tryd.results45, go_sem]) rfl ⟨rfl, rfl⟩
theorem plus_ok3 (x : Int) (w : World) (hx : inI x) : Calls Tryd.prog 45 #[.int .i64 x, .int .i64 0] w fun e w' => e = .returned (.tuple #[.int .i64 x, .bool true]) ∧ w' = w := by
  have g1 := hx.1; have g2 := hx.2
  go_enter Tryd.func45, Tryd.ntmps45
  go_wp2_with fail
  exact bodyPost_ret (v := .tuple #[.int .i64 x, .bool true]) (by simp [results, Tryd.results45, go_sem]) rfl ⟨rfl, rfl⟩
/-- A number, if it is an int; else 0. -/
def intN (x : Int) : Int := if inI x then x else 0
theorem plus_ (x y : Int) (w : World) (hx : inI x) (hy : inI y) : Calls Tryd.prog 45 #[.int .i64 x, .int .i64 y] w fun e w' => e = .returned (.tuple #[.int .i64 (intN (x + y)), .bool (decide (inI (x + y)))]) ∧ w' = w := by
  have g1 := hx.1; have g2 := hx.2; have g3 := hy.1; have g4 := hy.2
  by_cases hi : inI (x + y)
  · rw [intN, if_pos hi, decide_eq_true hi]
    have h := hi
    unfold inI at h
    rcases (by omega : y < 0 ∨ y = 0 ∨ 0 < y) with h0 | h0 | h0
    · exact plus_ok2 x y w hx hy h0 (by omega)
    · subst h0; rw [Int.add_zero]; exact plus_ok3 x w hx
    · exact plus_ok1 x y w hx hy h0 (by omega)
  · rw [intN, if_neg hi, decide_eq_false hi]
    have h := hi
    unfold inI at h
    rcases (by omega : y < 0 ∨ y = 0 ∨ 0 < y) with h0 | h0 | h0
    · exact plus_no2 x y w hx hy h0 (by omega)
    · omega
    · exact plus_no1 x y w hx hy h0 (by omega)
theorem times_zero (x y : Int) (w : World) (h : x = 0 ∨ (x ≠ 0 ∧ y = 0)) : Calls Tryd.prog 46 #[.int .i64 x, .int .i64 y] w fun e w' => e = .returned (.tuple #[.int .i64 0, .bool true]) ∧ w' = w := by
  rcases h with rfl | ⟨h, rfl⟩
  all_goals
    go_enter Tryd.func46, Tryd.ntmps46
    go_wp2_with fail
    exact bodyPost_ret (v := .tuple #[.int .i64 0, .bool true]) (by simp [results, Tryd.results46, go_sem]) rfl ⟨rfl, rfl⟩
theorem times_one (x : Int) (w : World) (h : (x == 0) = false) : Calls Tryd.prog 46 #[.int .i64 x, .int .i64 1] w fun e w' => e = .returned (.tuple #[.int .i64 x, .bool true]) ∧ w' = w := by
  go_enter Tryd.func46, Tryd.ntmps46
  go_wp2_with fail
  exact bodyPost_ret (v := .tuple #[.int .i64 x, .bool true]) (by simp [results, Tryd.results46, go_sem]) rfl ⟨rfl, rfl⟩
theorem times_minus (x : Int) (w : World) (h : (x == 0) = false) : Calls Tryd.prog 46 #[.int .i64 x, .int .i64 (-1)] w fun e w' => e = .returned (.tuple #[.int .i64 (wrap64 (-x)), .bool (x != -9223372036854775808)]) ∧ w' = w := by
  go_enter Tryd.func46, Tryd.ntmps46
  go_wp2_with fail
  exact bodyPost_ret (v := .tuple #[.int .i64 (wrap64 (-x)), .bool (x != -9223372036854775808)]) (by simp [results, Tryd.results46, go_sem]) rfl ⟨rfl, rfl⟩
theorem times_a (x y H : Int) (h : (x == 0) = false) (h0 : (y == 0) = false) (h1 : (y == 1) = false) (h2 : (y == -1) = false) (hH : wrap64 (y.tdiv 2) = H) (v : Int) (w : World) (a1 : ∀ W, Calls Tryd.prog 46 #[.int .i64 x, .int .i64 H] W fun e w' => e = .returned (.tuple #[.int .i64 v, .bool false]) ∧ w' = W) :
    Calls Tryd.prog 46 #[.int .i64 x, .int .i64 y] w fun e w' => e = .returned (.tuple #[.int .i64 0, .bool false]) ∧ w' = w := by
  have A1 := Lib.hid a1
  clear a1
  go_enter Tryd.func46, Tryd.ntmps46
  go_wp2_with fail
  refine (A1.out _).mono ?_
  rintro e w1 ⟨rfl, rfl⟩
  go_wp2_with fail
  exact bodyPost_ret (v := .tuple #[.int .i64 0, .bool false]) (by simp [results, Tryd.results46, go_sem]) rfl ⟨rfl, rfl⟩
theorem times_b (x y H : Int) (h : (x == 0) = false) (h0 : (y == 0) = false) (h1 : (y == 1) = false) (h2 : (y == -1) = false) (hH : wrap64 (y.tdiv 2) = H) (p v : Int) (w : World) (a1 : ∀ W, Calls Tryd.prog 46 #[.int .i64 x, .int .i64 H] W fun e w' => e = .returned (.tuple #[.int .i64 p, .bool true]) ∧ w' = W) (a2 : ∀ W, Calls Tryd.prog 45 #[.int .i64 p, .int .i64 p] W fun e w' => e = .returned (.tuple #[.int .i64 v, .bool false]) ∧ w' = W) :
    Calls Tryd.prog 46 #[.int .i64 x, .int .i64 y] w fun e w' => e = .returned (.tuple #[.int .i64 0, .bool false]) ∧ w' = w := by
  have A1 := Lib.hid a1
  have A2 := Lib.hid a2
  clear a1 a2
  go_enter Tryd.func46, Tryd.ntmps46
  go_wp2_with fail
  refine (A1.out _).mono ?_
  rintro e w1 ⟨rfl, rfl⟩
  go_wp2_with fail
  refine (A2.out _).mono ?_
  rintro e w1 ⟨rfl, rfl⟩
  go_wp2_with fail
  exact bodyPost_ret (v := .tuple #[.int .i64 0, .bool false]) (by simp [results, Tryd.results46, go_sem]) rfl ⟨rfl, rfl⟩
theorem times_c (x y H : Int) (h : (x == 0) = false) (h0 : (y == 0) = false) (h1 : (y == 1) = false) (h2 : (y == -1) = false) (hH : wrap64 (y.tdiv 2) = H) (R p s q v : Int) (ok : Bool) (hR : y.tmod 2 = R) (w : World) (a1 : ∀ W, Calls Tryd.prog 46 #[.int .i64 x, .int .i64 H] W fun e w' => e = .returned (.tuple #[.int .i64 p, .bool true]) ∧ w' = W) (a2 : ∀ W, Calls Tryd.prog 45 #[.int .i64 p, .int .i64 p] W fun e w' => e = .returned (.tuple #[.int .i64 s, .bool true]) ∧ w' = W)
    (a3 : ∀ W, Calls Tryd.prog 46 #[.int .i64 x, .int .i64 R] W fun e w' => e = .returned (.tuple #[.int .i64 q, .bool true]) ∧ w' = W) (a4 : ∀ W, Calls Tryd.prog 45 #[.int .i64 s, .int .i64 q] W fun e w' => e = .returned (.tuple #[.int .i64 v, .bool ok]) ∧ w' = W) :
    Calls Tryd.prog 46 #[.int .i64 x, .int .i64 y] w fun e w' => e = .returned (.tuple #[.int .i64 v, .bool ok]) ∧ w' = w := by
  have A1 := Lib.hid a1
  have A2 := Lib.hid a2
  have A3 := Lib.hid a3
  have A4 := Lib.hid a4
  clear a1 a2 a3 a4
  go_enter Tryd.func46, Tryd.ntmps46
  go_wp2_with fail
  refine (A1.out _).mono ?_
  rintro e w1 ⟨rfl, rfl⟩
  go_wp2_with fail
  refine (A2.out _).mono ?_
  rintro e w1 ⟨rfl, rfl⟩
  go_wp2_with fail
  refine (A3.out _).mono ?_
  rintro e w1 ⟨rfl, rfl⟩
  go_wp2_with fail
  refine (A4.out _).mono ?_
  rintro e w1 ⟨rfl, rfl⟩
  go_wp2_with fail
  exact bodyPost_ret (v := .tuple #[.int .i64 v, .bool ok]) (by simp [results, Tryd.results46, go_sem]) rfl ⟨rfl, rfl⟩
theorem mul_signs {x h : Int} (hx : 0 ≤ x) (hh : 0 ≤ h) : 0 ≤ x * h := Int.mul_nonneg hx hh
theorem half_facts {x y : Int} (h2 : 2 ≤ y ∨ y ≤ -2) : ∃ h r : Int, y.tdiv 2 = h ∧ y.tmod 2 = r ∧ y = 2 * h + r ∧ h.natAbs < y.natAbs ∧ r.natAbs < y.natAbs ∧ h ≠ 0 ∧ (r = -1 ∨ r = 0 ∨ r = 1) ∧ (r = -1 → h ≤ -1) ∧ x * y = 2 * (x * h) + x * r ∧ ((0 ≤ x * h ∧ 0 ≤ x * r) ∨ (x * h ≤ 0 ∧ x * r ≤ 0)) := by
  obtain ⟨h, hh⟩ : ∃ h, y.tdiv 2 = h := ⟨_, rfl⟩
  obtain ⟨r, hr⟩ : ∃ r, y.tmod 2 = r := ⟨_, rfl⟩
  have hm := Int.mul_tdiv_add_tmod y 2
  have hs := tmod_small y (b := 2) (by decide)
  rw [hh, hr] at hm
  rw [hr] at hs
  have hs2 : r.natAbs < 2 := hs
  have sg : (2 ≤ y ∧ 0 ≤ r) ∨ (y ≤ -2 ∧ r ≤ 0) := by
    rcases h2 with h2 | h2
    · exact .inl ⟨h2, hr ▸ mod_nonneg (by omega)⟩
    · exact .inr ⟨h2, hr ▸ mod_nonpos (by omega)⟩
  refine ⟨h, r, hh, hr, by omega, by omega, by omega, by omega, by omega, by omega, ?_, ?_⟩
  · rw [← hm, Int.mul_add, ← Int.mul_assoc, Int.mul_comm x 2, Int.mul_assoc]
  · rcases sg with ⟨s1, s2⟩ | ⟨s1, s2⟩
    · have e1 : 0 ≤ h := by omega
      rcases Int.le_total 0 x with hx | hx
      · exact .inl ⟨Int.mul_nonneg hx e1, Int.mul_nonneg hx s2⟩
      · right
        have a := Int.mul_nonneg (show 0 ≤ -x by omega) e1
        have b := Int.mul_nonneg (show 0 ≤ -x by omega) s2
        rw [Int.neg_mul] at a b
        omega
    · have e1 : 0 ≤ -h := by omega
      have e2 : 0 ≤ -r := by omega
      rcases Int.le_total 0 x with hx | hx
      · right
        have a := Int.mul_nonneg hx e1
        have b := Int.mul_nonneg hx e2
        rw [Int.mul_neg] at a b
        omega
      · left
        have a := Int.mul_nonneg (show 0 ≤ -x by omega) e1
        have b := Int.mul_nonneg (show 0 ≤ -x by omega) e2
        rw [Int.neg_mul_neg] at a b
        exact ⟨a, b⟩
theorem times_ex (x : Int) (hx : inI x) : ∀ (m : Nat) (y : Int), y.natAbs < m → inI y → ∃ v, (inI (x * y) → v = x * y) ∧ (∀ W, Calls Tryd.prog 46 #[.int .i64 x, .int .i64 y] W fun e w' => e = .returned (.tuple #[.int .i64 v, .bool (decide (inI (x * y)))]) ∧ w' = W)
  | 0, _, h, _ => by omega
  | m + 1, y, hm, hy => by
    have g1 := hx.1; have g2 := hx.2
    by_cases x0 : x = 0
    · subst x0
      refine ⟨0, fun _ => by rw [Int.zero_mul], fun W => ?_⟩
      rw [Int.zero_mul, decide_eq_true inI_zero]
      exact times_zero 0 y W (.inl rfl)
    by_cases y0 : y = 0
    · subst y0
      refine ⟨0, fun _ => by rw [Int.mul_zero], fun W => ?_⟩
      rw [Int.mul_zero, decide_eq_true inI_zero]
      exact times_zero x 0 W (.inr ⟨x0, rfl⟩)
    have bx : (x == 0) = false := by simpa using x0
    by_cases y1 : y = 1
    · subst y1
      refine ⟨x, fun _ => by rw [Int.mul_one], fun W => ?_⟩
      rw [Int.mul_one, decide_eq_true hx]
      exact times_one x W bx
    by_cases y2 : y = -1
    · subst y2
      have e : x * -1 = -x := by omega
      refine ⟨wrap64 (-x), fun h => by rw [e] at h ⊢; exact wrap_in h, fun W => ?_⟩
      have e2 : decide (inI (x * -1)) = (x != -9223372036854775808) := by
        rw [e, Bool.eq_iff_iff]
        simp only [decide_eq_true_eq, bne_iff_ne]
        unfold inI
        omega
      rw [e2]
      exact times_minus x W bx
    have bs : (y == 0) = false ∧ (y == 1) = false ∧ (y == -1) = false := ⟨by simpa using y0, by simpa using y1, by simpa using y2⟩
    obtain ⟨h, r, hh, hr, ye, nh, nr, h0, r3, rh, xy, sg⟩ := half_facts (x := x) (y := y) (by omega)
    have hI := hy
    unfold inI at hI
    have ih : inI h := by unfold inI; omega
    have ir : inI r := by unfold inI; omega
    have hH : wrap64 (y.tdiv 2) = h := by rw [hh]; exact wrap_in ih
    obtain ⟨p, hp, cp⟩ := times_ex x hx m h (by omega) ih
    by_cases ip : inI (x * h)
    · have ep := hp ip
      subst ep
      rw [decide_eq_true ip] at cp
      have cs := fun W => plus_ (x * h) (x * h) W ip ip
      by_cases is2 : inI (x * h + x * h)
      · rw [intN, if_pos is2, decide_eq_true is2] at cs
        have iq : inI (x * r) := by
          have hip := ip
          unfold inI at hip ⊢
          rcases r3 with e | e | e
          · subst e
            have := rh rfl
            refine ⟨by omega, ?_⟩
            refine Classical.byContradiction fun hc => ?_
            have ex : x = -9223372036854775808 := by omega
            subst ex
            omega
          · subst e; omega
          · subst e; omega
        obtain ⟨q, hq, cq⟩ := times_ex x hx m r (by omega) ir
        have eq := hq iq
        subst eq
        rw [decide_eq_true iq] at cq
        have cv := fun W => plus_ (x * h + x * h) (x * r) W is2 iq
        have et : x * h + x * h + x * r = x * y := by rw [xy]; omega
        rw [et] at cv
        exact ⟨_, fun hi => by rw [intN, if_pos hi], fun W => times_c x y h bx bs.1 bs.2.1 bs.2.2 hH r _ _ _ _ _ hr W cp cs cq cv⟩
      · rw [intN, if_neg is2, decide_eq_false is2] at cs
        have nn : ¬ inI (x * y) := by rw [xy]; unfold inI at is2 ⊢; omega
        refine ⟨0, fun hi => absurd hi nn, fun W => ?_⟩
        rw [decide_eq_false nn]
        exact times_b x y h bx bs.1 bs.2.1 bs.2.2 hH _ _ W cp cs
    · rw [decide_eq_false ip] at cp
      have nn : ¬ inI (x * y) := by rw [xy]; unfold inI at ip ⊢; omega
      refine ⟨0, fun hi => absurd hi nn, fun W => ?_⟩
      rw [decide_eq_false nn]
      exact times_a x y h bx bs.1 bs.2.1 bs.2.2 hH _ W cp
theorem times_ (x y : Int) (hx : inI x) (hy : inI y) : ∃ v, (inI (x * y) → v = x * y) ∧ (∀ W, Calls Tryd.prog 46 #[.int .i64 x, .int .i64 y] W fun e w' => e = .returned (.tuple #[.int .i64 v, .bool (decide (inI (x * y)))]) ∧ w' = W) :=
  times_ex x hx (y.natAbs + 1) y (by omega) hy
end Go.Proofs.YtfplncbechidnaaDoor
