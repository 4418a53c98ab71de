/- The walk of row.first. -/
import Derived.Test.YtlldamgnfaikhaaDoorRwSome
namespace Go.Proofs.YtlldamgnfaikhaaDoor
open Go.RowKit Go.Sort

theorem BytesIn.cutAt {w : World} {b o c k : Nat} {xs : List Nat} (h : BytesIn w (some ⟨b, o, none⟩) xs) (hc : xs.length ≤ c) : BytesIn w (if c = k then (some ⟨b, o, none⟩ : Option Addr) else some ⟨b, o + k, none⟩) (xs.drop k) := by
  by_cases hk : c = k
  · rw [if_pos hk, List.drop_eq_nil_of_le (by omega)]; exact bytesIn_nil _ _
  · rw [if_neg hk]
    intro i hi
    rw [List.length_drop] at hi
    obtain ⟨b', o', e, h1⟩ := h (k + i) (by omega)
    cases e
    refine ⟨b, o + k, rfl, ?_⟩
    rw [Nat.add_assoc, h1]
    congr 2
    rw [List.getD_eq_getElem?_getD, List.getD_eq_getElem?_getD, List.getElem?_drop]
set_option maxRecDepth 100000 in
set_option maxHeartbeats 1000000 in
theorem first_none (k : Int) (a : Option Addr) (c : Nat) (w : World) :
    Calls Tryd.prog 21 #[.int .i64 k, .slice a 0 c] w fun e w' => e = .returned (.tuple #[.agg #[.int .i64 0, .int .i64 0, .string ⟨#[]⟩, .bool false], .int .i64 0, .bool false]) ∧ Below w.heap.size w w' := by
  have F0 := Lib.hid (fr0_start w 47)
  go_enter Tryd.func21, Tryd.ntmps21
  go_wp2_with fail
  generalize w.alloc (.cells #[.int .i64 0, .int .i64 0, .string ⟨#[]⟩, .bool false] 47) = V at *
  obtain ⟨⟨r0, r1, r2, r3⟩, ⟨f0, f1, f2, f3⟩, hbw, hsz⟩ := F0.out
  refine bodyPost_ret (v := .tuple #[.agg #[.int .i64 0, .int .i64 0, .string ⟨#[]⟩, .bool false], .int .i64 0, .bool false]) ?_ rfl ⟨rfl, hbw⟩
  simp [results, Tryd.results21, go_sem, r0, r1, r2, r3]
set_option maxRecDepth 100000 in
set_option maxHeartbeats 1000000 in
theorem first_odd (k : Int) (b o L c y : Nat) (w : World) (hL : 0 < L) (hy : 1 < y) (hc : w.cell? ⟨b, o, none⟩ = some (.int .u8 y)) :
    Calls Tryd.prog 21 #[.int .i64 k, .slice (some ⟨b, o, none⟩) L c] w fun e w' => e = .returned (.tuple #[.agg #[.int .i64 0, .int .i64 0, .string ⟨#[]⟩, .bool false], .int .i64 0, .bool false]) ∧ Below w.heap.size w w' := by
  have F0 := Lib.hid (fr0_start w 47)
  have hc' := ((below_alloc1 w (.cells #[.int .i64 0, .int .i64 0, .string ⟨#[]⟩, .bool false] 47)).cell (block_lt_of_cell hc)).trans hc
  have hL2 : (0 : Int) < (L : Int) := by omega
  have hL3 : ((L : Int) == 0) = false := by simp; omega
  have hy2 : (1 : Int) < (y : Int) := by omega
  clear hc
  go_enter Tryd.func21, Tryd.ntmps21
  go_wp2_with fail
  generalize w.alloc (.cells #[.int .i64 0, .int .i64 0, .string ⟨#[]⟩, .bool false] 47) = V at *
  obtain ⟨⟨r0, r1, r2, r3⟩, ⟨f0, f1, f2, f3⟩, hbw, hsz⟩ := F0.out
  refine bodyPost_ret (v := .tuple #[.agg #[.int .i64 0, .int .i64 0, .string ⟨#[]⟩, .bool false], .int .i64 0, .bool false]) ?_ rfl ⟨rfl, hbw⟩
  simp [results, Tryd.results21, go_sem, r0, r1, r2, r3]
set_option maxRecDepth 100000 in
set_option maxHeartbeats 1000000 in
theorem first_null (k : Int) (b o L c : Nat) (w : World) (hL : 0 < L) (hc : w.cell? ⟨b, o, none⟩ = some (.int .u8 0)) :
    Calls Tryd.prog 21 #[.int .i64 k, .slice (some ⟨b, o, none⟩) L c] w fun e w' => e = .returned (.tuple #[.agg #[.int .i64 0, .int .i64 0, .string ⟨#[]⟩, .bool false], .int .i64 1, .bool true]) ∧ Below w.heap.size w w' := by
  have HV : Hid (∀ W, Calls Tryd.prog 35 #[] W fun e w' => e = .returned (.agg #[.int .i64 0, .int .i64 0, .string ⟨#[]⟩, .bool false]) ∧ Below W.heap.size W w') := fun W => null_ W
  have F0 := Lib.hid (fr0_start w 47)
  have hc' := ((below_alloc1 w (.cells #[.int .i64 0, .int .i64 0, .string ⟨#[]⟩, .bool false] 47)).cell (block_lt_of_cell hc)).trans hc
  have hL2 : (0 : Int) < (L : Int) := by omega
  have hL3 : ((L : Int) == 0) = false := by simp; omega
  clear hc
  go_enter Tryd.func21, Tryd.ntmps21
  go_wp2_with fail
  refine (HV.out _).mono ?_
  rintro e w1 ⟨rfl, hb1⟩
  have F1 := Lib.hid (F0.out.on hb1)
  clear hb1 F0 hc'
  obtain ⟨⟨r0, r1, r2, r3⟩, ⟨f0, f1, f2, f3⟩, hbw, hsz⟩ := F1.out
  go_wp2_with fail
  refine bodyPost_ret (v := .tuple #[.agg #[.int .i64 0, .int .i64 0, .string ⟨#[]⟩, .bool false], .int .i64 1, .bool true]) ?_ rfl ⟨rfl, four_set hbw (w.heap.size) (by omega) _ _ _ _⟩
  simp [results, Tryd.results21, go_sem, r0, r1, r2, r3]
set_option maxRecDepth 100000 in
set_option maxHeartbeats 1000000 in
theorem first_some (k : Int) (b o L c : Nat) (w : World) (hL : 0 < L) (hLc : L ≤ c) (hc : w.cell? ⟨b, o, none⟩ = some (.int .u8 1)) (k' n' : Int) (t' : ByteArray) (b' : Bool) (m : Nat) (ok : Bool) (hm : m ≤ 9223372036854775806)
    (HS : Hid (∀ W A, Below w.heap.size w W → A = (if c = 1 then (some ⟨b, o, none⟩ : Option Addr) else some ⟨b, o + 1, none⟩) → Calls Tryd.prog 36 #[.int .i64 k, .slice A (L - 1) (c - 1)] W fun e w' => e = .returned (.tuple #[.agg #[.int .i64 k', .int .i64 n', .string t', .bool b'], .int .i64 m, .bool ok]) ∧ Below W.heap.size W w')) :
    Calls Tryd.prog 21 #[.int .i64 k, .slice (some ⟨b, o, none⟩) L c] w fun e w' => e = .returned (.tuple #[.agg #[.int .i64 k', .int .i64 n', .string t', .bool b'], .int .i64 (1 + m), .bool ok]) ∧ Below w.heap.size w w' := by
  have F0 := Lib.hid (fr0_start w 47)
  have hc' := ((below_alloc1 w (.cells #[.int .i64 0, .int .i64 0, .string ⟨#[]⟩, .bool false] 47)).cell (block_lt_of_cell hc)).trans hc
  have hL2 : (0 : Int) < (L : Int) := by omega
  have hL3 : ((L : Int) == 0) = false := by simp; omega
  have hL4 : (1 : Int) ≤ (L : Int) := by omega
  have hL5 : (1 : Int) ≤ (c : Int) := by omega
  clear hc
  by_cases hc1 : c = 1
  · subst hc1
    obtain rfl : L = 1 := by omega
    have HS2 : Hid (∀ W, Below w.heap.size w W → Calls Tryd.prog 36 #[.int .i64 k, .slice (some ⟨b, o, none⟩) 0 0] W fun e w' => e = .returned (.tuple #[.agg #[.int .i64 k', .int .i64 n', .string t', .bool b'], .int .i64 m, .bool ok]) ∧ Below W.heap.size W w') := fun W hW => HS.out W _ hW rfl
    clear HS hL hLc hL2 hL3 hL4 hL5
    go_enter Tryd.func21, Tryd.ntmps21
    go_wp2_with fail
    refine (HS2.out _ F0.out.2.2.1).mono ?_
    rintro e w1 ⟨rfl, hb1⟩
    have F1 := Lib.hid ((F0.out.on hb1).on (below_alloc1 w1 (.cells #[.int .i64 k', .int .i64 n', .string t', .bool b'] 47)))
    clear hb1 F0 hc' HS2
    obtain ⟨⟨r0, r1, r2, r3⟩, ⟨f0, f1, f2, f3⟩, hbw, hsz⟩ := F1.out
    go_wp2_with fail
    refine bodyPost_ret (v := .tuple #[.agg #[.int .i64 k', .int .i64 n', .string t', .bool b'], .int .i64 (1 + m), .bool ok]) ?_ rfl ⟨rfl, four_set hbw (w.heap.size) (by omega) _ _ _ _⟩
    simp [results, Tryd.results21, go_sem, r0, r1, r2, r3]
  · have hc2 : ¬ (c : Int) = 1 := by omega
    have HS2 : Hid (∀ W, Below w.heap.size w W → Calls Tryd.prog 36 #[.int .i64 k, .slice (some ⟨b, o + 1, none⟩) (L - 1) (c - 1)] W fun e w' => e = .returned (.tuple #[.agg #[.int .i64 k', .int .i64 n', .string t', .bool b'], .int .i64 m, .bool ok]) ∧ Below W.heap.size W w') := fun W hW => HS.out W _ hW (by rw [if_neg hc1])
    clear HS
    go_enter Tryd.func21, Tryd.ntmps21
    go_wp2_with fail
    refine (HS2.out _ F0.out.2.2.1).mono ?_
    rintro e w1 ⟨rfl, hb1⟩
    have F1 := Lib.hid ((F0.out.on hb1).on (below_alloc1 w1 (.cells #[.int .i64 k', .int .i64 n', .string t', .bool b'] 47)))
    clear hb1 F0 hc' HS2
    obtain ⟨⟨r0, r1, r2, r3⟩, ⟨f0, f1, f2, f3⟩, hbw, hsz⟩ := F1.out
    go_wp2_with fail
    refine bodyPost_ret (v := .tuple #[.agg #[.int .i64 k', .int .i64 n', .string t', .bool b'], .int .i64 (1 + m), .bool ok]) ?_ rfl ⟨rfl, four_set hbw (w.heap.size) (by omega) _ _ _ _⟩
    simp [results, Tryd.results21, go_sem, r0, r1, r2, r3]
theorem some_size (k : Int) (xs : List Nat) (hb : ∀ x ∈ xs, x < 256) : (someR k xs).2.1 ≤ xs.length + 1 := by
  have h := (rdU_lt xs hb).2
  unfold someR
  split
  · simp only [rdI]; omega
  · split
    · simp only [rdT]
      repeat' split
      all_goals simp only
      all_goals omega
    · split
      · rename_i q; simp only; omega
      · simp
/-- What first tells. -/
theorem first_ (k : Int) (a : Option Addr) (xs : List Nat) (c : Nat) (w : World) (h : BytesIn w a xs) (hb : ∀ x ∈ xs, x < 256) (hlim : xs.length ≤ 9223372036854775) (hcap : xs.length ≤ c) :
    Calls Tryd.prog 21 #[.int .i64 k, .slice a xs.length c] w fun e w' => e = .returned (.tuple #[agV (firstR k xs).1, .int .i64 (firstR k xs).2.1, .bool (firstR k xs).2.2]) ∧ Below w.heap.size w w' := by
  unfold firstR agV
  by_cases h0 : xs.length = 0
  · rw [if_pos (.inl h0), h0]
    exact first_none k a c w
  obtain ⟨b, o, rfl, hc⟩ := h 0 (by omega)
  rw [Nat.add_zero] at hc
  by_cases h1 : 1 < xs.getD 0 0
  · rw [if_pos (.inr h1)]
    exact first_odd k b o xs.length c _ w (by omega) h1 hc
  rw [if_neg (by rintro (q | q); exact h0 q; exact h1 q)]
  by_cases h2 : xs.getD 0 0 = 0
  · rw [if_pos h2]
    rw [h2] at hc
    exact first_null k b o xs.length c w (by omega) hc
  · rw [if_neg h2]
    have h3 : xs.getD 0 0 = 1 := by omega
    rw [h3] at hc
    have hsz := some_size k (xs.drop 1) (fun x hx => hb x (List.mem_of_mem_drop hx))
    rw [List.length_drop] at hsz
    have hd : (xs.drop 1).length = xs.length - 1 := List.length_drop
    have HS : Hid (∀ W A, Below w.heap.size w W → A = (if c = 1 then (some ⟨b, o, none⟩ : Option Addr) else some ⟨b, o + 1, none⟩) → Calls Tryd.prog 36 #[.int .i64 k, .slice A (xs.length - 1) (c - 1)] W fun e w' => e = .returned (.tuple #[agV (someR k (xs.drop 1)).1, .int .i64 (someR k (xs.drop 1)).2.1, .bool (someR k (xs.drop 1)).2.2]) ∧ Below W.heap.size W w') := fun W A hW hA => by
      have := some_ k A (xs.drop 1) (c - 1) W (hA ▸ (h.on hW).cutAt hcap) (fun x hx => hb x (List.mem_of_mem_drop hx)) (by omega) (by omega)
      rw [hd] at this
      exact this
    have := first_some k b o xs.length c w (by omega) hcap hc _ _ _ _ _ _ (by omega) HS
    rw [Int.natCast_add]
    exact this
end Go.Proofs.YtlldamgnfaikhaaDoor
