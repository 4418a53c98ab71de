/- The walks of the document's Valid and Compare. -/
import Derived.Test.YtonbecjankghaaaOV2
namespace Go.Proofs.Ytonbecjankghaaa
open Go.RowKit Go.Sort

set_option maxHeartbeats 2000000 in
theorem rcomp_ (k n : Int) (t : ByteArray) (b : Bool) (k' n' : Int) (t' : ByteArray) (b' : Bool) (w : World) :
    Calls Try.prog 16 #[.agg #[.int .i64 k, .int .i64 n, .string t, .bool b], .agg #[.int .i64 k', .int .i64 n', .string t', .bool b']] w fun e w' => e = .returned (.int .i64 (cmpV ⟨k, n, t, b⟩ ⟨k', n', t', b'⟩)) ∧ Below w.heap.size w w' := by
  by_cases hk : k = k'
  · subst hk
    by_cases h1 : k = 1
    · subst h1
      have e1 : cmpV ⟨1, n, t, b⟩ ⟨1, n', t', b'⟩ = Lib.compareInt n n' := rfl
      rw [e1]
      clear e1
      rcases (by omega : n < n' ∨ n = n' ∨ n' < n) with h | h | h
      · have e2 : Lib.compareInt n n' = -1 := by simp [Lib.compareInt, h]
        rw [e2]
        go_enter Try.func16, Try.ntmps16
        go_wp2_with fail
        go_quiet (fail)
        go_wp2_with fail
        go_ret
        exact ⟨rfl, below_drewN (((Below.refl _ _).alloc (Nat.le_refl _) _).alloc (by simp) _) _⟩
      · subst h
        have e2 : Lib.compareInt n n = 0 := ordered_int.refl _
        rw [e2]
        go_enter Try.func16, Try.ntmps16
        go_wp2_with fail
        go_quiet (fail)
        go_wp2_with fail
        go_ret
        exact ⟨rfl, below_drewN (((Below.refl _ _).alloc (Nat.le_refl _) _).alloc (by simp) _) _⟩
      · have e2 : Lib.compareInt n n' = 1 := by have := ordered_int.anti n n'; rw [this]; simp [Lib.compareInt, h]
        rw [e2]
        go_enter Try.func16, Try.ntmps16
        go_wp2_with fail
        go_quiet (fail)
        go_wp2_with fail
        go_ret
        exact ⟨rfl, below_drewN (((Below.refl _ _).alloc (Nat.le_refl _) _).alloc (by simp) _) _⟩
    by_cases h2 : k = 2
    · subst h2
      have e1 : cmpV ⟨2, n, t, b⟩ ⟨2, n', t', b'⟩ = cmpT t.toList t'.toList := rfl
      rw [e1]
      clear e1
      rcases cmpT_cases t.toList t'.toList with ⟨e2, h⟩ | ⟨e2, h⟩ | ⟨e2, h⟩
      · rw [e2]
        go_enter Try.func16, Try.ntmps16
        go_wp2_with fail
        go_quiet (fail)
        go_wp2_with fail
        go_ret
        exact ⟨rfl, below_drewN (((Below.refl _ _).alloc (Nat.le_refl _) _).alloc (by simp) _) _⟩
      · obtain rfl := toList_inj h
        rw [e2]
        have h0 := less_irrefl t.toList
        have h2' : (t.toList == t.toList) = true := by simp
        clear h e2
        go_enter Try.func16, Try.ntmps16
        go_wp2_with fail
        go_quiet (fail)
        go_wp2_with fail
        go_ret
        exact ⟨rfl, below_drewN (((Below.refl _ _).alloc (Nat.le_refl _) _).alloc (by simp) _) _⟩
      · rw [e2]
        have h0 := less_asymm h
        have h2' : (t.toList == t'.toList) = false := by
          simp only [beq_eq_false_iff_ne]; intro e; rw [e, less_irrefl] at h; cases h
        go_enter Try.func16, Try.ntmps16
        go_wp2_with fail
        go_quiet (fail)
        go_wp2_with fail
        go_ret
        exact ⟨rfl, below_drewN (((Below.refl _ _).alloc (Nat.le_refl _) _).alloc (by simp) _) _⟩
    by_cases h3 : k = 3
    · subst h3
      have e1 : cmpV ⟨3, n, t, b⟩ ⟨3, n', t', b'⟩ = Lib.compareInt (rk b) (rk b') := rfl
      rw [e1]
      clear e1
      cases b <;> cases b'
      all_goals
        simp only [rk, Lib.compareInt]
        go_enter Try.func16, Try.ntmps16
        go_wp2_with fail
        go_quiet (fail)
        go_wp2_with fail
        go_ret
        exact ⟨rfl, below_drewN (((Below.refl _ _).alloc (Nat.le_refl _) _).alloc (by simp) _) _⟩
    · have e1 : cmpV ⟨k, n, t, b⟩ ⟨k, n', t', b'⟩ = 0 := by simp [cmpV, h1, h2, h3]
      rw [e1]
      go_enter Try.func16, Try.ntmps16
      go_wp2_with fail
      go_ret
      exact ⟨rfl, ((Below.refl _ _).alloc (Nat.le_refl _) _).alloc (by simp) _⟩
  · have e1 : cmpV ⟨k, n, t, b⟩ ⟨k', n', t', b'⟩ = Lib.compareInt k k' := by simp [cmpV, hk]
    rw [e1]
    clear e1
    rcases (by omega : k < k' ∨ k' < k) with h | h
    · have e2 : Lib.compareInt k k' = -1 := by simp [Lib.compareInt, h]
      rw [e2]
      go_enter Try.func16, Try.ntmps16
      go_wp2_with fail
      go_quiet (fail)
      go_wp2_with fail
      go_ret
      exact ⟨rfl, below_drewN (((Below.refl _ _).alloc (Nat.le_refl _) _).alloc (by simp) _) _⟩
    · have e2 : Lib.compareInt k k' = 1 := by have := ordered_int.anti k k'; rw [this]; simp [Lib.compareInt, h]
      rw [e2]
      go_enter Try.func16, Try.ntmps16
      go_wp2_with fail
      go_quiet (fail)
      go_wp2_with fail
      go_ret
      exact ⟨rfl, below_drewN (((Below.refl _ _).alloc (Nat.le_refl _) _).alloc (by simp) _) _⟩
end Go.Proofs.Ytonbecjankghaaa
