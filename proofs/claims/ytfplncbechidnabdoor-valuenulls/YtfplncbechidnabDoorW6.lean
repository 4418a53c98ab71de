/- The walks of what value.Reckon reckons with. -/
import Derived.Test.YtfplncbechidnabDoorW3
namespace Go.Proofs.YtfplncbechidnabDoor
open Go.RowKit Go.Sort

/-- An answer of numbers, and the error beside it. -/
def ansN : Ans → Int
  | .ok n => n
  | .error _ => 0
def ansE : Ans → Int
  | .ok _ => 0
  | .error e => e
theorem xor_not {b : Int} (h : inI b) : bits .xor .i64 (-1) b = -b - 1 := by
  have h1 := h.1; have h2 := h.2
  have e1 : BitVec.ofInt 64 (-1) = BitVec.allOnes 64 := by decide
  show IntKind.i64.wrap ((BitVec.ofInt 64 (-1) ^^^ BitVec.ofInt 64 b).toNat : Int) = _
  rw [e1, BitVec.allOnes_xor, BitVec.toNat_not, IntWalk.i64_left, BitVec.toNat_ofInt]
  unfold wrap64
  omega
theorem quo_over (w : World) : Calls Tryd.prog 29 #[.int .i64 (-9223372036854775808), .int .i64 (-1)] w fun e w' => e = .returned (.tuple #[.int .i64 0, .iface 37 (.int .i64 5)]) ∧ w' = w := by
  go_enter Tryd.func29, Tryd.ntmps29
  go_wp2_with fail
  exact bodyPost_ret (v := .tuple #[.int .i64 0, .iface 37 (.int .i64 5)]) (by simp [results, Tryd.results29, go_sem]) rfl ⟨rfl, rfl⟩
theorem quo_ok (a b : Int) (w : World) (ha : inI a) (h0 : b ≠ 0) (h : ¬ (a = -9223372036854775808 ∧ b = -1)) : Calls Tryd.prog 29 #[.int .i64 a, .int .i64 b] w fun e w' => e = .returned (.tuple #[.int .i64 (a.tdiv b), .nilIface]) ∧ w' = w := by
  have hq := wrap_in (quot_in ha h0 h)
  by_cases h1 : a = -9223372036854775808
  · have h2 : b ≠ -1 := fun e => h ⟨h1, e⟩
    subst h1
    rw [Int.neg_tdiv] at hq ⊢
    clear h ha
    go_enter Tryd.func29, Tryd.ntmps29
    go_wp2_with fail
    exact bodyPost_ret (v := .tuple #[.int .i64 (wrap64 (-Int.tdiv 9223372036854775808 b)), .nilIface]) (by simp [results, Tryd.results29, go_sem]) rfl ⟨by rw [hq], rfl⟩
  · clear h ha
    go_enter Tryd.func29, Tryd.ntmps29
    go_wp2_with fail
    exact bodyPost_ret (v := .tuple #[.int .i64 (wrap64 (a.tdiv b)), .nilIface]) (by simp [results, Tryd.results29, go_sem]) rfl ⟨by rw [hq], rfl⟩
theorem sum0_111 (a b : Int) (w : World) (h1 : a < 0) (h2 : b < 0) (h3 : wrap64 (wrap64 (a + b)) < 0) : Calls Tryd.prog 27 #[.int .i64 a, .int .i64 b, .int .i64 0] w fun e w' => e = .returned (.tuple #[.int .i64 (wrap64 (wrap64 (a + b))), .nilIface]) ∧ w' = w := by
  go_enter Tryd.func27, Tryd.ntmps27
  go_wp2_with fail
  exact bodyPost_ret (v := .tuple #[.int .i64 (wrap64 (wrap64 (a + b))), .nilIface]) (by simp [results, Tryd.results27, go_sem]) rfl ⟨rfl, rfl⟩
theorem sum0_110 (a b : Int) (w : World) (h1 : a < 0) (h2 : b < 0) (h3 : ¬ wrap64 (wrap64 (a + b)) < 0) : Calls Tryd.prog 27 #[.int .i64 a, .int .i64 b, .int .i64 0] w fun e w' => e = .returned (.tuple #[.int .i64 0, .iface 37 (.int .i64 5)]) ∧ w' = w := by
  go_enter Tryd.func27, Tryd.ntmps27
  go_wp2_with fail
  exact bodyPost_ret (v := .tuple #[.int .i64 0, .iface 37 (.int .i64 5)]) (by simp [results, Tryd.results27, go_sem]) rfl ⟨rfl, rfl⟩
theorem sum0_101 (a b : Int) (w : World) (h1 : a < 0) (h2 : ¬ b < 0) (_h3 : wrap64 (wrap64 (a + b)) < 0) : Calls Tryd.prog 27 #[.int .i64 a, .int .i64 b, .int .i64 0] w fun e w' => e = .returned (.tuple #[.int .i64 (wrap64 (wrap64 (a + b))), .nilIface]) ∧ w' = w := by
  go_enter Tryd.func27, Tryd.ntmps27
  go_wp2_with fail
  exact bodyPost_ret (v := .tuple #[.int .i64 (wrap64 (wrap64 (a + b))), .nilIface]) (by simp [results, Tryd.results27, go_sem]) rfl ⟨rfl, rfl⟩
theorem sum0_100 (a b : Int) (w : World) (h1 : a < 0) (h2 : ¬ b < 0) (_h3 : ¬ wrap64 (wrap64 (a + b)) < 0) : Calls Tryd.prog 27 #[.int .i64 a, .int .i64 b, .int .i64 0] w fun e w' => e = .returned (.tuple #[.int .i64 (wrap64 (wrap64 (a + b))), .nilIface]) ∧ w' = w := by
  go_enter Tryd.func27, Tryd.ntmps27
  go_wp2_with fail
  exact bodyPost_ret (v := .tuple #[.int .i64 (wrap64 (wrap64 (a + b))), .nilIface]) (by simp [results, Tryd.results27, go_sem]) rfl ⟨rfl, rfl⟩
theorem sum0_011 (a b : Int) (w : World) (h1 : ¬ a < 0) (h2 : b < 0) (_h3 : wrap64 (wrap64 (a + b)) < 0) : Calls Tryd.prog 27 #[.int .i64 a, .int .i64 b, .int .i64 0] w fun e w' => e = .returned (.tuple #[.int .i64 (wrap64 (wrap64 (a + b))), .nilIface]) ∧ w' = w := by
  go_enter Tryd.func27, Tryd.ntmps27
  go_wp2_with fail
  exact bodyPost_ret (v := .tuple #[.int .i64 (wrap64 (wrap64 (a + b))), .nilIface]) (by simp [results, Tryd.results27, go_sem]) rfl ⟨rfl, rfl⟩
theorem sum0_010 (a b : Int) (w : World) (h1 : ¬ a < 0) (h2 : b < 0) (_h3 : ¬ wrap64 (wrap64 (a + b)) < 0) : Calls Tryd.prog 27 #[.int .i64 a, .int .i64 b, .int .i64 0] w fun e w' => e = .returned (.tuple #[.int .i64 (wrap64 (wrap64 (a + b))), .nilIface]) ∧ w' = w := by
  go_enter Tryd.func27, Tryd.ntmps27
  go_wp2_with fail
  exact bodyPost_ret (v := .tuple #[.int .i64 (wrap64 (wrap64 (a + b))), .nilIface]) (by simp [results, Tryd.results27, go_sem]) rfl ⟨rfl, rfl⟩
theorem sum0_001 (a b : Int) (w : World) (h1 : ¬ a < 0) (h2 : ¬ b < 0) (h3 : wrap64 (wrap64 (a + b)) < 0) : Calls Tryd.prog 27 #[.int .i64 a, .int .i64 b, .int .i64 0] w fun e w' => e = .returned (.tuple #[.int .i64 0, .iface 37 (.int .i64 5)]) ∧ w' = w := by
  go_enter Tryd.func27, Tryd.ntmps27
  go_wp2_with fail
  exact bodyPost_ret (v := .tuple #[.int .i64 0, .iface 37 (.int .i64 5)]) (by simp [results, Tryd.results27, go_sem]) rfl ⟨rfl, rfl⟩
theorem sum0_000 (a b : Int) (w : World) (h1 : ¬ a < 0) (h2 : ¬ b < 0) (h3 : ¬ wrap64 (wrap64 (a + b)) < 0) : Calls Tryd.prog 27 #[.int .i64 a, .int .i64 b, .int .i64 0] w fun e w' => e = .returned (.tuple #[.int .i64 (wrap64 (wrap64 (a + b))), .nilIface]) ∧ w' = w := by
  go_enter Tryd.func27, Tryd.ntmps27
  go_wp2_with fail
  exact bodyPost_ret (v := .tuple #[.int .i64 (wrap64 (wrap64 (a + b))), .nilIface]) (by simp [results, Tryd.results27, go_sem]) rfl ⟨rfl, rfl⟩
theorem sum0_ (a b : Int) (w : World) (ha : inI a) (hb : inI b) : Calls Tryd.prog 27 #[.int .i64 a, .int .i64 b, .int .i64 0] w fun e w' => e = .returned (.tuple #[.int .i64 (ansN (keep (a + b))), errV 37 (ansE (keep (a + b)))]) ∧ w' = w := by
  have g1 := ha.1; have g2 := ha.2; have g3 := hb.1; have g4 := hb.2
  have no : ¬ inI (a + b) → .tuple #[.int .i64 0, .iface 37 (.int .i64 5)] = Value.tuple #[.int .i64 (ansN (keep (a + b))), errV 37 (ansE (keep (a + b)))] := fun h => by rw [keep, if_neg h]; rfl
  have yes : inI (a + b) → Value.tuple #[.int .i64 (wrap64 (wrap64 (a + b))), .nilIface] = Value.tuple #[.int .i64 (ansN (keep (a + b))), errV 37 (ansE (keep (a + b)))] := fun h => by
    have e : wrap64 (wrap64 (a + b)) = a + b := by have := wrap_in h; unfold wrap64 at this ⊢; omega
    rw [keep, if_pos h, e]; rfl
  by_cases h1 : a < 0 <;> by_cases h2 : b < 0 <;> by_cases h3 : wrap64 (wrap64 (a + b)) < 0
  · rw [← yes (by unfold inI; unfold wrap64 at h3; omega)]; exact sum0_111 a b w h1 h2 h3
  · rw [← no (by unfold inI; unfold wrap64 at h3; omega)]; exact sum0_110 a b w h1 h2 h3
  · rw [← yes (by unfold inI; unfold wrap64 at h3; omega)]; exact sum0_101 a b w h1 h2 h3
  · rw [← yes (by unfold inI; unfold wrap64 at h3; omega)]; exact sum0_100 a b w h1 h2 h3
  · rw [← yes (by unfold inI; unfold wrap64 at h3; omega)]; exact sum0_011 a b w h1 h2 h3
  · rw [← yes (by unfold inI; unfold wrap64 at h3; omega)]; exact sum0_010 a b w h1 h2 h3
  · rw [← no (by unfold inI; unfold wrap64 at h3; omega)]; exact sum0_001 a b w h1 h2 h3
  · rw [← yes (by unfold inI; unfold wrap64 at h3; omega)]; exact sum0_000 a b w h1 h2 h3
theorem sum1_111 (a b : Int) (w : World) (h1 : a < 0) (h2 : (-b - 1) < 0) (h3 : wrap64 (wrap64 (a + (-b - 1)) + 1) < 0) : Calls Tryd.prog 27 #[.int .i64 a, .int .i64 (-b - 1), .int .i64 1] w fun e w' => e = .returned (.tuple #[.int .i64 (wrap64 (wrap64 (a + (-b - 1)) + 1)), .nilIface]) ∧ w' = w := by
  go_enter Tryd.func27, Tryd.ntmps27
  go_wp2_with fail
  exact bodyPost_ret (v := .tuple #[.int .i64 (wrap64 (wrap64 (a + (-b - 1)) + 1)), .nilIface]) (by simp [results, Tryd.results27, go_sem]) rfl ⟨rfl, rfl⟩
theorem sum1_110 (a b : Int) (w : World) (h1 : a < 0) (h2 : (-b - 1) < 0) (h3 : ¬ wrap64 (wrap64 (a + (-b - 1)) + 1) < 0) : Calls Tryd.prog 27 #[.int .i64 a, .int .i64 (-b - 1), .int .i64 1] w fun e w' => e = .returned (.tuple #[.int .i64 0, .iface 37 (.int .i64 5)]) ∧ w' = w := by
  go_enter Tryd.func27, Tryd.ntmps27
  go_wp2_with fail
  exact bodyPost_ret (v := .tuple #[.int .i64 0, .iface 37 (.int .i64 5)]) (by simp [results, Tryd.results27, go_sem]) rfl ⟨rfl, rfl⟩
theorem sum1_101 (a b : Int) (w : World) (h1 : a < 0) (h2 : ¬ (-b - 1) < 0) (_h3 : wrap64 (wrap64 (a + (-b - 1)) + 1) < 0) : Calls Tryd.prog 27 #[.int .i64 a, .int .i64 (-b - 1), .int .i64 1] w fun e w' => e = .returned (.tuple #[.int .i64 (wrap64 (wrap64 (a + (-b - 1)) + 1)), .nilIface]) ∧ w' = w := by
  go_enter Tryd.func27, Tryd.ntmps27
  go_wp2_with fail
  exact bodyPost_ret (v := .tuple #[.int .i64 (wrap64 (wrap64 (a + (-b - 1)) + 1)), .nilIface]) (by simp [results, Tryd.results27, go_sem]) rfl ⟨rfl, rfl⟩
theorem sum1_100 (a b : Int) (w : World) (h1 : a < 0) (h2 : ¬ (-b - 1) < 0) (_h3 : ¬ wrap64 (wrap64 (a + (-b - 1)) + 1) < 0) : Calls Tryd.prog 27 #[.int .i64 a, .int .i64 (-b - 1), .int .i64 1] w fun e w' => e = .returned (.tuple #[.int .i64 (wrap64 (wrap64 (a + (-b - 1)) + 1)), .nilIface]) ∧ w' = w := by
  go_enter Tryd.func27, Tryd.ntmps27
  go_wp2_with fail
  exact bodyPost_ret (v := .tuple #[.int .i64 (wrap64 (wrap64 (a + (-b - 1)) + 1)), .nilIface]) (by simp [results, Tryd.results27, go_sem]) rfl ⟨rfl, rfl⟩
theorem sum1_011 (a b : Int) (w : World) (h1 : ¬ a < 0) (h2 : (-b - 1) < 0) (_h3 : wrap64 (wrap64 (a + (-b - 1)) + 1) < 0) : Calls Tryd.prog 27 #[.int .i64 a, .int .i64 (-b - 1), .int .i64 1] w fun e w' => e = .returned (.tuple #[.int .i64 (wrap64 (wrap64 (a + (-b - 1)) + 1)), .nilIface]) ∧ w' = w := by
  go_enter Tryd.func27, Tryd.ntmps27
  go_wp2_with fail
  exact bodyPost_ret (v := .tuple #[.int .i64 (wrap64 (wrap64 (a + (-b - 1)) + 1)), .nilIface]) (by simp [results, Tryd.results27, go_sem]) rfl ⟨rfl, rfl⟩
theorem sum1_010 (a b : Int) (w : World) (h1 : ¬ a < 0) (h2 : (-b - 1) < 0) (_h3 : ¬ wrap64 (wrap64 (a + (-b - 1)) + 1) < 0) : Calls Tryd.prog 27 #[.int .i64 a, .int .i64 (-b - 1), .int .i64 1] w fun e w' => e = .returned (.tuple #[.int .i64 (wrap64 (wrap64 (a + (-b - 1)) + 1)), .nilIface]) ∧ w' = w := by
  go_enter Tryd.func27, Tryd.ntmps27
  go_wp2_with fail
  exact bodyPost_ret (v := .tuple #[.int .i64 (wrap64 (wrap64 (a + (-b - 1)) + 1)), .nilIface]) (by simp [results, Tryd.results27, go_sem]) rfl ⟨rfl, rfl⟩
theorem sum1_001 (a b : Int) (w : World) (h1 : ¬ a < 0) (h2 : ¬ (-b - 1) < 0) (h3 : wrap64 (wrap64 (a + (-b - 1)) + 1) < 0) : Calls Tryd.prog 27 #[.int .i64 a, .int .i64 (-b - 1), .int .i64 1] w fun e w' => e = .returned (.tuple #[.int .i64 0, .iface 37 (.int .i64 5)]) ∧ w' = w := by
  go_enter Tryd.func27, Tryd.ntmps27
  go_wp2_with fail
  exact bodyPost_ret (v := .tuple #[.int .i64 0, .iface 37 (.int .i64 5)]) (by simp [results, Tryd.results27, go_sem]) rfl ⟨rfl, rfl⟩
theorem sum1_000 (a b : Int) (w : World) (h1 : ¬ a < 0) (h2 : ¬ (-b - 1) < 0) (h3 : ¬ wrap64 (wrap64 (a + (-b - 1)) + 1) < 0) : Calls Tryd.prog 27 #[.int .i64 a, .int .i64 (-b - 1), .int .i64 1] w fun e w' => e = .returned (.tuple #[.int .i64 (wrap64 (wrap64 (a + (-b - 1)) + 1)), .nilIface]) ∧ w' = w := by
  go_enter Tryd.func27, Tryd.ntmps27
  go_wp2_with fail
  exact bodyPost_ret (v := .tuple #[.int .i64 (wrap64 (wrap64 (a + (-b - 1)) + 1)), .nilIface]) (by simp [results, Tryd.results27, go_sem]) rfl ⟨rfl, rfl⟩
theorem sum1_ (a b : Int) (w : World) (ha : inI a) (hb : inI b) : Calls Tryd.prog 27 #[.int .i64 a, .int .i64 (-b - 1), .int .i64 1] w fun e w' => e = .returned (.tuple #[.int .i64 (ansN (keep (a - b))), errV 37 (ansE (keep (a - b)))]) ∧ w' = w := by
  have g1 := ha.1; have g2 := ha.2; have g3 := hb.1; have g4 := hb.2
  have no : ¬ inI (a - b) → .tuple #[.int .i64 0, .iface 37 (.int .i64 5)] = Value.tuple #[.int .i64 (ansN (keep (a - b))), errV 37 (ansE (keep (a - b)))] := fun h => by rw [keep, if_neg h]; rfl
  have yes : inI (a - b) → Value.tuple #[.int .i64 (wrap64 (wrap64 (a + (-b - 1)) + 1)), .nilIface] = Value.tuple #[.int .i64 (ansN (keep (a - b))), errV 37 (ansE (keep (a - b)))] := fun h => by
    have e : wrap64 (wrap64 (a + (-b - 1)) + 1) = a - b := by have := wrap_in h; unfold wrap64 at this ⊢; omega
    rw [keep, if_pos h, e]; rfl
  by_cases h1 : a < 0 <;> by_cases h2 : (-b - 1) < 0 <;> by_cases h3 : wrap64 (wrap64 (a + (-b - 1)) + 1) < 0
  · rw [← yes (by unfold inI; unfold wrap64 at h3; omega)]; exact sum1_111 a b w h1 h2 h3
  · rw [← no (by unfold inI; unfold wrap64 at h3; omega)]; exact sum1_110 a b w h1 h2 h3
  · rw [← yes (by unfold inI; unfold wrap64 at h3; omega)]; exact sum1_101 a b w h1 h2 h3
  · rw [← yes (by unfold inI; unfold wrap64 at h3; omega)]; exact sum1_100 a b w h1 h2 h3
  · rw [← yes (by unfold inI; unfold wrap64 at h3; omega)]; exact sum1_011 a b w h1 h2 h3
  · rw [← yes (by unfold inI; unfold wrap64 at h3; omega)]; exact sum1_010 a b w h1 h2 h3
  · rw [← no (by unfold inI; unfold wrap64 at h3; omega)]; exact sum1_001 a b w h1 h2 h3
  · rw [← yes (by unfold inI; unfold wrap64 at h3; omega)]; exact sum1_000 a b w h1 h2 h3
theorem prod0 (a : Int) (w : World) : Calls Tryd.prog 28 #[.int .i64 a, .int .i64 0] w fun e w' => e = .returned (.tuple #[.int .i64 0, .nilIface]) ∧ w' = w := by
  go_enter Tryd.func28, Tryd.ntmps28
  go_wp2_with fail
  exact bodyPost_ret (v := .tuple #[.int .i64 0, .nilIface]) (by simp [results, Tryd.results28, go_sem]) rfl ⟨rfl, rfl⟩
theorem prod_over (a b : Int) (w : World) (h0 : b ≠ 0) (h : wrap64 (a * b) = -9223372036854775808 ∧ b = -1) : Calls Tryd.prog 28 #[.int .i64 a, .int .i64 b] w fun e w' => e = .returned (.tuple #[.int .i64 0, .iface 37 (.int .i64 5)]) ∧ w' = w := by
  have HQ : Hid (∀ W, Calls Tryd.prog 29 #[.int .i64 (wrap64 (a * b)), .int .i64 b] W fun e w' => e = .returned (.tuple #[.int .i64 0, .iface 37 (.int .i64 5)]) ∧ w' = W) := fun W => by rw [h.1, h.2]; exact quo_over W
  clear h
  go_enter Tryd.func28, Tryd.ntmps28
  go_wp2_with fail
  refine (HQ.out _).mono ?_
  rintro e w1 ⟨rfl, rfl⟩
  go_wp2_with fail
  exact bodyPost_ret (v := .tuple #[.int .i64 0, .iface 37 (.int .i64 5)]) (by simp [results, Tryd.results28, go_sem]) rfl ⟨rfl, rfl⟩
theorem prod_some (a b q : Int) (w : World) (h0 : b ≠ 0) (h : ¬ (wrap64 (a * b) = -9223372036854775808 ∧ b = -1)) (hq : (wrap64 (a * b)).tdiv b = q) (hne : (q != a) = true) : Calls Tryd.prog 28 #[.int .i64 a, .int .i64 b] w fun e w' => e = .returned (.tuple #[.int .i64 0, .iface 37 (.int .i64 5)]) ∧ w' = w := by
  have HQ : Hid (∀ W, Calls Tryd.prog 29 #[.int .i64 (wrap64 (a * b)), .int .i64 b] W fun e w' => e = .returned (.tuple #[.int .i64 q, .nilIface]) ∧ w' = W) := fun W => by rw [← hq]; exact quo_ok _ b W (wrap_inI _) h0 h
  clear h hq
  go_enter Tryd.func28, Tryd.ntmps28
  go_wp2_with fail
  refine (HQ.out _).mono ?_
  rintro e w1 ⟨rfl, rfl⟩
  go_wp2_with fail
  exact bodyPost_ret (v := .tuple #[.int .i64 0, .iface 37 (.int .i64 5)]) (by simp [results, Tryd.results28, go_sem]) rfl ⟨rfl, rfl⟩
theorem prod_fine (a b : Int) (w : World) (h0 : b ≠ 0) (h : ¬ (wrap64 (a * b) = -9223372036854775808 ∧ b = -1)) (hq : (wrap64 (a * b)).tdiv b = a) : Calls Tryd.prog 28 #[.int .i64 a, .int .i64 b] w fun e w' => e = .returned (.tuple #[.int .i64 (wrap64 (a * b)), .nilIface]) ∧ w' = w := by
  have HQ : Hid (∀ W, Calls Tryd.prog 29 #[.int .i64 (wrap64 (a * b)), .int .i64 b] W fun e w' => e = .returned (.tuple #[.int .i64 a, .nilIface]) ∧ w' = W) := fun W => by
    have := quo_ok _ b W (wrap_inI (a * b)) h0 h
    rw [hq] at this
    exact this
  clear h hq
  go_enter Tryd.func28, Tryd.ntmps28
  go_wp2_with fail
  refine (HQ.out _).mono ?_
  rintro e w1 ⟨rfl, rfl⟩
  go_wp2_with fail
  exact bodyPost_ret (v := .tuple #[.int .i64 (wrap64 (a * b)), .nilIface]) (by simp [results, Tryd.results28, go_sem]) rfl ⟨rfl, rfl⟩
theorem prod_ (a b : Int) (w : World) (ha : inI a) (hb : inI b) : Calls Tryd.prog 28 #[.int .i64 a, .int .i64 b] w fun e w' => e = .returned (.tuple #[.int .i64 (ansN (keep (a * b))), errV 37 (ansE (keep (a * b)))]) ∧ w' = w := by
  by_cases h0 : b = 0
  · subst h0
    rw [Int.mul_zero]
    exact prod0 a w
  · have key := back_iff ha hb h0
    by_cases hi : inI (a * b)
    · have hn : ¬ (wrap64 (a * b) = -9223372036854775808 ∧ b = -1 ∨ ¬ (wrap64 (a * b)).tdiv b = a) := fun h => key.1 h hi
      have h1 : ¬ (wrap64 (a * b) = -9223372036854775808 ∧ b = -1) := fun h => hn (.inl h)
      have h2 : (wrap64 (a * b)).tdiv b = a := Classical.byContradiction fun h => hn (.inr h)
      have := prod_fine a b w h0 h1 h2
      rw [wrap_in hi] at this
      rw [keep, if_pos hi]
      exact this
    · rw [keep, if_neg hi]
      by_cases h1 : wrap64 (a * b) = -9223372036854775808 ∧ b = -1
      · exact prod_over a b w h0 h1
      · rcases key.2 hi with h | h
        · exact absurd h h1
        · exact prod_some a b _ w h0 h1 rfl (by simpa using h)
end Go.Proofs.YtfplncbechidnabDoor
