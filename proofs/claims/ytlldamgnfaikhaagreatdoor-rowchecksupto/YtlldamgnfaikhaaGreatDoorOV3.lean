/- The walks of the document's Valid and Compare. -/
import Derived.Test.YtlldamgnfaikhaaGreatDoorOV2
namespace Go.Proofs.YtlldamgnfaikhaaGreatDoor
open Go.RowKit Go.Sort

theorem rv_low (k n : Int) (t : ByteArray) (b : Bool) (w : World) (h : k < 0) : Calls Tryz.prog 21 #[.agg #[.int .i64 k, .int .i64 n, .string t, .bool b]] w fun e w' => e = .returned (.int .i64 3) ∧ Below w.heap.size w w' := by
  go_enter Tryz.func21, Tryz.ntmps21
  go_wp2_with fail
  go_ret
  exact ⟨rfl, (Below.refl _ _).alloc (Nat.le_refl _) _⟩
theorem rv_high (k n : Int) (t : ByteArray) (b : Bool) (w : World) (h : 3 < k) : Calls Tryz.prog 21 #[.agg #[.int .i64 k, .int .i64 n, .string t, .bool b]] w fun e w' => e = .returned (.int .i64 3) ∧ Below w.heap.size w w' := by
  go_enter Tryz.func21, Tryz.ntmps21
  go_wp2_with fail
  go_ret
  exact ⟨rfl, (Below.refl _ _).alloc (Nat.le_refl _) _⟩
theorem rv_n0 (n : Int) (t : ByteArray) (b : Bool) (w : World) (h : (n != 0) = true) : Calls Tryz.prog 21 #[.agg #[.int .i64 0, .int .i64 n, .string t, .bool b]] w fun e w' => e = .returned (.int .i64 3) ∧ Below w.heap.size w w' := by
  go_enter Tryz.func21, Tryz.ntmps21
  go_wp2_with fail
  go_ret
  exact ⟨rfl, (Below.refl _ _).alloc (Nat.le_refl _) _⟩
theorem rv_n2 (n : Int) (t : ByteArray) (b : Bool) (w : World) (h : (n != 0) = true) : Calls Tryz.prog 21 #[.agg #[.int .i64 2, .int .i64 n, .string t, .bool b]] w fun e w' => e = .returned (.int .i64 3) ∧ Below w.heap.size w w' := by
  go_enter Tryz.func21, Tryz.ntmps21
  go_wp2_with fail
  go_ret
  exact ⟨rfl, (Below.refl _ _).alloc (Nat.le_refl _) _⟩
theorem rv_n3 (n : Int) (t : ByteArray) (b : Bool) (w : World) (h : (n != 0) = true) : Calls Tryz.prog 21 #[.agg #[.int .i64 3, .int .i64 n, .string t, .bool b]] w fun e w' => e = .returned (.int .i64 3) ∧ Below w.heap.size w w' := by
  go_enter Tryz.func21, Tryz.ntmps21
  go_wp2_with fail
  go_ret
  exact ⟨rfl, (Below.refl _ _).alloc (Nat.le_refl _) _⟩
theorem rv_t0 (t : ByteArray) (b : Bool) (w : World) (h : (t.toList == []) = false) : Calls Tryz.prog 21 #[.agg #[.int .i64 0, .int .i64 0, .string t, .bool b]] w fun e w' => e = .returned (.int .i64 3) ∧ Below w.heap.size w w' := by
  go_enter Tryz.func21, Tryz.ntmps21
  go_wp2_with fail
  go_ret
  exact ⟨rfl, (Below.refl _ _).alloc (Nat.le_refl _) _⟩
theorem rv_t1 (n : Int) (t : ByteArray) (b : Bool) (w : World) (h : (t.toList == []) = false) : Calls Tryz.prog 21 #[.agg #[.int .i64 1, .int .i64 n, .string t, .bool b]] w fun e w' => e = .returned (.int .i64 3) ∧ Below w.heap.size w w' := by
  go_enter Tryz.func21, Tryz.ntmps21
  go_wp2_with fail
  go_ret
  exact ⟨rfl, (Below.refl _ _).alloc (Nat.le_refl _) _⟩
theorem rv_t3 (t : ByteArray) (b : Bool) (w : World) (h : (t.toList == []) = false) : Calls Tryz.prog 21 #[.agg #[.int .i64 3, .int .i64 0, .string t, .bool b]] w fun e w' => e = .returned (.int .i64 3) ∧ Below w.heap.size w w' := by
  go_enter Tryz.func21, Tryz.ntmps21
  go_wp2_with fail
  go_ret
  exact ⟨rfl, (Below.refl _ _).alloc (Nat.le_refl _) _⟩
theorem rv_b0 (w : World) : Calls Tryz.prog 21 #[.agg #[.int .i64 0, .int .i64 0, .string ⟨#[]⟩, .bool true]] w fun e w' => e = .returned (.int .i64 3) ∧ Below w.heap.size w w' := by
  go_enter Tryz.func21, Tryz.ntmps21
  go_wp2_with fail
  go_ret
  exact ⟨rfl, (Below.refl _ _).alloc (Nat.le_refl _) _⟩
theorem rv_b1 (n : Int) (w : World) : Calls Tryz.prog 21 #[.agg #[.int .i64 1, .int .i64 n, .string ⟨#[]⟩, .bool true]] w fun e w' => e = .returned (.int .i64 3) ∧ Below w.heap.size w w' := by
  go_enter Tryz.func21, Tryz.ntmps21
  go_wp2_with fail
  go_ret
  exact ⟨rfl, (Below.refl _ _).alloc (Nat.le_refl _) _⟩
theorem rv_b2 (t : ByteArray) (w : World) : Calls Tryz.prog 21 #[.agg #[.int .i64 2, .int .i64 0, .string t, .bool true]] w fun e w' => e = .returned (.int .i64 3) ∧ Below w.heap.size w w' := by
  go_enter Tryz.func21, Tryz.ntmps21
  go_wp2_with fail
  go_ret
  exact ⟨rfl, (Below.refl _ _).alloc (Nat.le_refl _) _⟩
theorem rv_ok0 (w : World) : Calls Tryz.prog 21 #[.agg #[.int .i64 0, .int .i64 0, .string ⟨#[]⟩, .bool false]] w fun e w' => e = .returned (.int .i64 0) ∧ Below w.heap.size w w' := by
  go_enter Tryz.func21, Tryz.ntmps21
  go_wp2_with fail
  refine wp_loop_rounds 1 ?_
  rw [rounds_succ]
  go_wp2_with fail
  go_ret
  exact ⟨rfl, (Below.refl _ _).alloc (Nat.le_refl _) _⟩
theorem rv_ok1 (n : Int) (w : World) : Calls Tryz.prog 21 #[.agg #[.int .i64 1, .int .i64 n, .string ⟨#[]⟩, .bool false]] w fun e w' => e = .returned (.int .i64 0) ∧ Below w.heap.size w w' := by
  go_enter Tryz.func21, Tryz.ntmps21
  go_wp2_with fail
  refine wp_loop_rounds 1 ?_
  rw [rounds_succ]
  go_wp2_with fail
  go_ret
  exact ⟨rfl, (Below.refl _ _).alloc (Nat.le_refl _) _⟩
theorem rv_ok3t (w : World) : Calls Tryz.prog 21 #[.agg #[.int .i64 3, .int .i64 0, .string ⟨#[]⟩, .bool true]] w fun e w' => e = .returned (.int .i64 0) ∧ Below w.heap.size w w' := by
  go_enter Tryz.func21, Tryz.ntmps21
  go_wp2_with fail
  refine wp_loop_rounds 1 ?_
  rw [rounds_succ]
  go_wp2_with fail
  go_ret
  exact ⟨rfl, (Below.refl _ _).alloc (Nat.le_refl _) _⟩
theorem rv_ok3f (w : World) : Calls Tryz.prog 21 #[.agg #[.int .i64 3, .int .i64 0, .string ⟨#[]⟩, .bool false]] w fun e w' => e = .returned (.int .i64 0) ∧ Below w.heap.size w w' := by
  go_enter Tryz.func21, Tryz.ntmps21
  go_wp2_with fail
  refine wp_loop_rounds 1 ?_
  rw [rounds_succ]
  go_wp2_with fail
  go_ret
  exact ⟨rfl, (Below.refl _ _).alloc (Nat.le_refl _) _⟩
theorem rv_long (t : ByteArray) (w : World) (hl : 4096 < t.size) : Calls Tryz.prog 21 #[.agg #[.int .i64 2, .int .i64 0, .string t, .bool false]] w fun e w' => e = .returned (.int .i64 2) ∧ Below w.heap.size w w' := by
  have hl2 : (4096 : Int) < (t.size : Int) := by omega
  go_enter Tryz.func21, Tryz.ntmps21
  go_wp2_with fail
  go_ret
  exact ⟨rfl, (Below.refl _ _).alloc (Nat.le_refl _) _⟩
set_option maxHeartbeats 1000000 in
theorem rv_short (t : ByteArray) (w : World) (hl : t.size ≤ 4096) : Calls Tryz.prog 21 #[.agg #[.int .i64 2, .int .i64 0, .string t, .bool false]] w fun e w' => e = .returned (.int .i64 (if t.data.toList.all okB = false then 3 else 0)) ∧ Below w.heap.size w w' := by
  obtain ⟨E, hE⟩ : ∃ E : Int, (if t.data.toList.all okB = false then (3 : Int) else 0) = E := ⟨_, rfl⟩
  rw [hE]
  have HBAD : Hid (∀ (j : Nat) (h : j < t.size), ¬ (32 ≤ t[j].toNat ∧ t[j].toNat ≤ 126) → (3 : Int) = E) := fun j h hn => by
    have : t.data.toList.all okB = false := by
      cases e : t.data.toList.all okB
      · rfl
      · exact absurd (all_get.1 e j h) hn
    rw [← hE, if_pos this]
  have HGOOD : Hid ((∀ (j : Nat) (h : j < t.size), 32 ≤ t[j].toNat ∧ t[j].toNat ≤ 126) → (0 : Int) = E) := fun hh => by
    rw [← hE, all_get.2 hh]; rfl
  clear hE
  have hl2 : ¬ (4096 : Int) < (t.size : Int) := by omega
  obtain ⟨p0, p1, p2, p3⟩ := in4_new w 2 0 t false 44
  have HB0 : Hid (Below w.heap.size w (w.alloc (.cells #[.int .i64 2, .int .i64 0, .string t, .bool false] 44))) := (Below.refl _ _).alloc (Nat.le_refl _) _
  go_enter Tryz.func21, Tryz.ntmps21
  go_wp2_with fail
  generalize w.alloc (.cells #[.int .i64 2, .int .i64 0, .string t, .bool false] 44) = W2 at *
  go_loopw [3] (fun iv wr => ∃ i : Nat, i ≤ t.size ∧ Hid (∀ (j : Nat) (h : j < t.size), j < i → 32 ≤ t[j].toNat ∧ t[j].toNat ≤ 126) ∧ iv = .int .i64 i ∧ wr = W2) (fun iv _ => t.size - (intOf iv).toNat)
  case atStart => exact ⟨0, by omega, fun j _ hj => by omega, rfl, rfl⟩
  case round =>
    obtain ⟨i, hi, HH, rfl, rfl⟩ := hrel
    by_cases hlt : i < t.size
    · have hlt2 : (i : Int) < (t.size : Int) := by omega
      rcases (by omega : t[i].toNat < 32 ∨ (32 ≤ t[i].toNat ∧ t[i].toNat ≤ 126) ∨ 126 < t[i].toNat) with h1 | ⟨h1, h2⟩ | h1
      · go_wp2_with fail
        go_ret
        exact ⟨ret_int (HBAD.out i hlt (by omega)), HB0.out⟩
      · go_wp2_with fail
        refine ⟨⟨i + 1, by omega, fun j hj hji => ?_, by go_num, trivial⟩, by simp [intOf]; omega⟩
        by_cases e : j = i
        · subst e; exact ⟨h1, h2⟩
        · exact HH.out j hj (by omega)
      · go_wp2_with fail
        go_ret
        exact ⟨ret_int (HBAD.out i hlt (by omega)), HB0.out⟩
    · obtain rfl : i = t.size := by omega
      go_wp2_with fail
      go_ret
      exact ⟨ret_int (HGOOD.out fun j hj => HH.out j hj hj), HB0.out⟩
theorem txt_ne {t : ByteArray} (h : t ≠ ⟨#[]⟩) : (t.toList == []) = false := by
  rw [Lib.toList_data, beq_eq_false_iff_ne]
  exact fun e => h (ba_ext e)
theorem rvalid_ (k n : Int) (t : ByteArray) (b : Bool) (w : World) : Calls Tryz.prog 21 #[.agg #[.int .i64 k, .int .i64 n, .string t, .bool b]] w fun e w' => e = .returned (.int .i64 (validN ⟨k, n, t, b⟩)) ∧ Below w.heap.size w w' := by
  have hz : ∀ {x : ByteArray}, x ≠ ⟨#[]⟩ → ¬ x.size = 0 := fun h e => h (ba_empty e)
  have bad : fit ⟨k, n, t, b⟩ = false → validN ⟨k, n, t, b⟩ = 3 := fun h => by rw [validN, if_pos h]
  have good0 : fit ⟨k, n, t, b⟩ = true → t = ⟨#[]⟩ → validN ⟨k, n, t, b⟩ = 0 := fun h e => by
    rw [validN, if_neg (by rw [h]; decide)]; subst e; rfl
  by_cases k0 : k = 0
  · subst k0
    by_cases hn : n = 0
    · subst hn
      by_cases ht : t = ⟨#[]⟩
      · subst ht
        cases b
        · exact rv_ok0 w
        · exact rv_b0 w
      · rw [bad (by simp [fit, hz ht])]; exact rv_t0 t b w (txt_ne ht)
    · rw [bad (by simp [fit, hn])]; exact rv_n0 n t b w (by simpa using hn)
  by_cases k1 : k = 1
  · subst k1
    by_cases ht : t = ⟨#[]⟩
    · subst ht
      cases b
      · rw [good0 (by simp [fit]; rfl) rfl]; exact rv_ok1 n w
      · rw [bad (by simp [fit])]; exact rv_b1 n w
    · rw [bad (by simp [fit, hz ht])]; exact rv_t1 n t b w (txt_ne ht)
  by_cases k2 : k = 2
  · subst k2
    by_cases hn : n = 0
    · subst hn
      cases b
      · have hf : fit ⟨2, 0, t, false⟩ = true := rfl
        by_cases hl : 4096 < t.size
        · rw [validN, if_neg (by rw [hf]; decide), if_pos hl]; exact rv_long t w hl
        · rw [validN, if_neg (by rw [hf]; decide), if_neg hl]; exact rv_short t w (by omega)
      · rw [bad (by simp [fit])]; exact rv_b2 t w
    · rw [bad (by simp [fit, hn])]; exact rv_n2 n t b w (by simpa using hn)
  by_cases k3 : k = 3
  · subst k3
    by_cases hn : n = 0
    · subst hn
      by_cases ht : t = ⟨#[]⟩
      · subst ht
        cases b
        · exact rv_ok3f w
        · exact rv_ok3t w
      · rw [bad (by simp [fit, hz ht])]; exact rv_t3 t b w (txt_ne ht)
    · rw [bad (by simp [fit, hn])]; exact rv_n3 n t b w (by simpa using hn)
  · rw [bad (by simp [fit, k0, k1, k2, k3])]
    rcases (by omega : k < 0 ∨ 3 < k) with h | h
    · exact rv_low k n t b w h
    · exact rv_high k n t b w h
end Go.Proofs.YtlldamgnfaikhaaGreatDoor
