/- The walks of the document's Bool, Compare, Order, truth, of, And, Or, Not. -/
import Derived.Test.YtfplncbechidnaaDoorW3
namespace Go.Proofs.YtfplncbechidnaaDoor
open Go.RowKit Go.Sort

theorem rbool_ (b : Bool) (w : World) : Calls Tryd.prog 32 #[.bool b] w fun e w' => e = .returned (.agg #[.int .i64 3, .int .i64 0, .string ⟨#[]⟩, .bool b]) ∧ Below w.heap.size w w' := by
  go_enter Tryd.func32, Tryd.ntmps32
  go_wp2_with fail
  exact bodyPost_ret (v := .agg #[.int .i64 3, .int .i64 0, .string ⟨#[]⟩, .bool b]) (by simp [results, Tryd.results32, go_sem]) rfl ⟨rfl, (Below.refl _ _).alloc (Nat.le_refl _) _⟩
theorem rint_ (n : Int) (w : World) : Calls Tryd.prog 47 #[.int .i64 n] w fun e w' => e = .returned (.agg #[.int .i64 1, .int .i64 n, .string ⟨#[]⟩, .bool false]) ∧ Below w.heap.size w w' := by
  go_enter Tryd.func47, Tryd.ntmps47
  go_wp2_with fail
  exact bodyPost_ret (v := .agg #[.int .i64 1, .int .i64 n, .string ⟨#[]⟩, .bool false]) (by simp [results, Tryd.results47, go_sem]) rfl ⟨rfl, (Below.refl _ _).alloc (Nat.le_refl _) _⟩
theorem rtext_ (t : ByteArray) (w : World) : Calls Tryd.prog 48 #[.string t] w fun e w' => e = .returned (.agg #[.int .i64 2, .int .i64 0, .string t, .bool false]) ∧ Below w.heap.size w w' := by
  go_enter Tryd.func48, Tryd.ntmps48
  go_wp2_with fail
  exact bodyPost_ret (v := .agg #[.int .i64 2, .int .i64 0, .string t, .bool false]) (by simp [results, Tryd.results48, go_sem]) rfl ⟨rfl, (Below.refl _ _).alloc (Nat.le_refl _) _⟩
set_option maxHeartbeats 2000000 in
theorem rcomp_ (k n : Int) (t : ByteArray) (b : Bool) (k' n' : Int) (t' : ByteArray) (b' : Bool) (w : World) :
    Calls Tryd.prog 12 #[.agg #[.int .i64 k, .int .i64 n, .string t, .bool b], .agg #[.int .i64 k', .int .i64 n', .string t', .bool b']] w fun e w' => e = .returned (.int .i64 (cmpV ⟨k, n, t, b⟩ ⟨k', n', t', b'⟩)) ∧ Below w.heap.size w w' := by
  by_cases hk : k = k'
  · subst hk
    by_cases h1 : k = 1
    · subst h1
      have e1 : cmpV ⟨1, n, t, b⟩ ⟨1, n', t', b'⟩ = Lib.compareInt n n' := rfl
      rw [e1]
      clear e1
      rcases (by omega : n < n' ∨ n = n' ∨ n' < n) with h | h | h
      · have e2 : Lib.compareInt n n' = -1 := by simp [Lib.compareInt, h]
        rw [e2]
        go_enter Tryd.func12, Tryd.ntmps12
        go_wp2_with fail
        go_quiet (fail)
        go_wp2_with fail
        go_ret
        exact ⟨rfl, below_drewN (((Below.refl _ _).alloc (Nat.le_refl _) _).alloc (by simp) _) _⟩
      · subst h
        have e2 : Lib.compareInt n n = 0 := ordered_int.refl _
        rw [e2]
        go_enter Tryd.func12, Tryd.ntmps12
        go_wp2_with fail
        go_quiet (fail)
        go_wp2_with fail
        go_ret
        exact ⟨rfl, below_drewN (((Below.refl _ _).alloc (Nat.le_refl _) _).alloc (by simp) _) _⟩
      · have e2 : Lib.compareInt n n' = 1 := by have := ordered_int.anti n n'; rw [this]; simp [Lib.compareInt, h]
        rw [e2]
        go_enter Tryd.func12, Tryd.ntmps12
        go_wp2_with fail
        go_quiet (fail)
        go_wp2_with fail
        go_ret
        exact ⟨rfl, below_drewN (((Below.refl _ _).alloc (Nat.le_refl _) _).alloc (by simp) _) _⟩
    by_cases h2 : k = 2
    · subst h2
      have e1 : cmpV ⟨2, n, t, b⟩ ⟨2, n', t', b'⟩ = cmpT t.toList t'.toList := rfl
      rw [e1]
      clear e1
      rcases cmpT_cases t.toList t'.toList with ⟨e2, h⟩ | ⟨e2, h⟩ | ⟨e2, h⟩
      · rw [e2]
        go_enter Tryd.func12, Tryd.ntmps12
        go_wp2_with fail
        go_quiet (fail)
        go_wp2_with fail
        go_ret
        exact ⟨rfl, below_drewN (((Below.refl _ _).alloc (Nat.le_refl _) _).alloc (by simp) _) _⟩
      · obtain rfl := toList_inj h
        rw [e2]
        have h0 := less_irrefl t.toList
        have h2' : (t.toList == t.toList) = true := by simp
        clear h e2
        go_enter Tryd.func12, Tryd.ntmps12
        go_wp2_with fail
        go_quiet (fail)
        go_wp2_with fail
        go_ret
        exact ⟨rfl, below_drewN (((Below.refl _ _).alloc (Nat.le_refl _) _).alloc (by simp) _) _⟩
      · rw [e2]
        have h0 := less_asymm h
        have h2' : (t.toList == t'.toList) = false := by
          simp only [beq_eq_false_iff_ne]; intro e; rw [e, less_irrefl] at h; cases h
        go_enter Tryd.func12, Tryd.ntmps12
        go_wp2_with fail
        go_quiet (fail)
        go_wp2_with fail
        go_ret
        exact ⟨rfl, below_drewN (((Below.refl _ _).alloc (Nat.le_refl _) _).alloc (by simp) _) _⟩
    by_cases h3 : k = 3
    · subst h3
      have e1 : cmpV ⟨3, n, t, b⟩ ⟨3, n', t', b'⟩ = Lib.compareInt (rk b) (rk b') := rfl
      rw [e1]
      clear e1
      cases b <;> cases b'
      all_goals
        simp only [rk, Lib.compareInt]
        go_enter Tryd.func12, Tryd.ntmps12
        go_wp2_with fail
        go_quiet (fail)
        go_wp2_with fail
        go_ret
        exact ⟨rfl, below_drewN (((Below.refl _ _).alloc (Nat.le_refl _) _).alloc (by simp) _) _⟩
    · have e1 : cmpV ⟨k, n, t, b⟩ ⟨k, n', t', b'⟩ = 0 := by simp [cmpV, h1, h2, h3]
      rw [e1]
      go_enter Tryd.func12, Tryd.ntmps12
      go_wp2_with fail
      go_ret
      exact ⟨rfl, ((Below.refl _ _).alloc (Nat.le_refl _) _).alloc (by simp) _⟩
  · have e1 : cmpV ⟨k, n, t, b⟩ ⟨k', n', t', b'⟩ = Lib.compareInt k k' := by simp [cmpV, hk]
    rw [e1]
    clear e1
    rcases (by omega : k < k' ∨ k' < k) with h | h
    · have e2 : Lib.compareInt k k' = -1 := by simp [Lib.compareInt, h]
      rw [e2]
      go_enter Tryd.func12, Tryd.ntmps12
      go_wp2_with fail
      go_quiet (fail)
      go_wp2_with fail
      go_ret
      exact ⟨rfl, below_drewN (((Below.refl _ _).alloc (Nat.le_refl _) _).alloc (by simp) _) _⟩
    · have e2 : Lib.compareInt k k' = 1 := by have := ordered_int.anti k k'; rw [this]; simp [Lib.compareInt, h]
      rw [e2]
      go_enter Tryd.func12, Tryd.ntmps12
      go_wp2_with fail
      go_quiet (fail)
      go_wp2_with fail
      go_ret
      exact ⟨rfl, below_drewN (((Below.refl _ _).alloc (Nat.le_refl _) _).alloc (by simp) _) _⟩
def truthN (v : Val) : Int := if v.k = 0 then 1 else if v.k = 3 ∧ v.b = true then 2 else if v.k = 3 then 0 else -1
theorem truth_ (k n : Int) (t : ByteArray) (b : Bool) (w : World) : Calls Tryd.prog 39 #[.agg #[.int .i64 k, .int .i64 n, .string t, .bool b]] w fun e w' => e = .returned (.int .i64 (truthN ⟨k, n, t, b⟩)) ∧ Below w.heap.size w w' := by
  by_cases h0 : k = 0
  · subst h0
    go_enter Tryd.func39, Tryd.ntmps39
    go_wp2_with fail
    go_ret
    exact ⟨rfl, (Below.refl _ _).alloc (Nat.le_refl _) _⟩
  by_cases h3 : k = 3
  · subst h3
    cases b
    all_goals
      go_enter Tryd.func39, Tryd.ntmps39
      go_wp2_with fail
      go_ret
      exact ⟨rfl, (Below.refl _ _).alloc (Nat.le_refl _) _⟩
  · have e1 : truthN ⟨k, n, t, b⟩ = -1 := by simp [truthN, h0, h3]
    rw [e1]
    go_enter Tryd.func39, Tryd.ntmps39
    go_wp2_with fail
    go_ret
    exact ⟨rfl, (Below.refl _ _).alloc (Nat.le_refl _) _⟩
def ofV (n : Int) : Val := if n = 1 then vNull else vBool (n == 2)
def Fr0 (w V : World) : Prop :=
  In4 V w.heap.size 0 0 0 ⟨#[]⟩ false ∧ (V.frozen? ⟨w.heap.size, 0, none⟩ = false ∧ V.frozen? ⟨w.heap.size, 1, none⟩ = false ∧ V.frozen? ⟨w.heap.size, 2, none⟩ = false ∧ V.frozen? ⟨w.heap.size, 3, none⟩ = false) ∧ Below w.heap.size w V ∧ w.heap.size + 1 ≤ V.heap.size
theorem Fr0.on {w V V' : World} (h : Fr0 w V) (hb : Below V.heap.size V V') : Fr0 w V' := by
  obtain ⟨h3, ⟨f0, f1, f2, f3⟩, h5, h6⟩ := h
  have hl : w.heap.size < V.heap.size := by omega
  exact ⟨h3.on hb, ⟨Frz.on f0 hl hb, Frz.on f1 hl hb, Frz.on f2 hl hb, Frz.on f3 hl hb⟩, below_step h5 hb, Nat.le_trans h6 hb.size⟩
theorem fr0_start (w : World) (ty : TypeId) : Fr0 w (w.alloc (.cells #[.int .i64 0, .int .i64 0, .string ⟨#[]⟩, .bool false] ty)) := by
  refine ⟨in4_new w 0 0 ⟨#[]⟩ false ty, ⟨?_, ?_, ?_, ?_⟩, (Below.refl _ _).alloc (Nat.le_refl _) _, by simp⟩
  all_goals simp [go_sem]
theorem of_ (n : Int) (w : World) (hn : n = 0 ∨ n = 1 ∨ n = 2) : Calls Tryd.prog 40 #[.int .i64 n] w fun e w' => e = .returned (agV (ofV n)) ∧ Below w.heap.size w w' := by
  have HB : Hid (∀ (x : Bool) (W : World), Calls Tryd.prog 32 #[.bool x] W fun e w' => e = .returned (.agg #[.int .i64 3, .int .i64 0, .string ⟨#[]⟩, .bool x]) ∧ Below W.heap.size W w') := fun x W => rbool_ x W
  have F0 := Lib.hid (fr0_start w 23)
  rcases hn with rfl | rfl | rfl
  · go_enter Tryd.func40, Tryd.ntmps40
    go_wp2_with fail
    refine (HB.out _ _).mono ?_
    rintro e w1 ⟨rfl, hb1⟩
    obtain ⟨⟨r0, r1, r2, r3⟩, ⟨f0, f1, f2, f3⟩, hbw, hsz⟩ := F0.out.on hb1
    go_wp2_with fail
    refine bodyPost_ret (v := .agg #[.int .i64 3, .int .i64 0, .string ⟨#[]⟩, .bool false]) ?_ rfl ⟨rfl, four_set hbw (w.heap.size) (by omega) _ _ _ _⟩
    simp [results, Tryd.results40, go_sem, r0, r1, r2, r3]
  · go_enter Tryd.func40, Tryd.ntmps40
    go_wp2_with fail
    exact bodyPost_ret (v := .agg #[.int .i64 0, .int .i64 0, .string ⟨#[]⟩, .bool false]) (by simp [results, Tryd.results40, go_sem]) rfl ⟨rfl, (Below.refl _ _).alloc (Nat.le_refl _) _⟩
  · go_enter Tryd.func40, Tryd.ntmps40
    go_wp2_with fail
    refine (HB.out _ _).mono ?_
    rintro e w1 ⟨rfl, hb1⟩
    obtain ⟨⟨r0, r1, r2, r3⟩, ⟨f0, f1, f2, f3⟩, hbw, hsz⟩ := F0.out.on hb1
    go_wp2_with fail
    refine bodyPost_ret (v := .agg #[.int .i64 3, .int .i64 0, .string ⟨#[]⟩, .bool true]) ?_ rfl ⟨rfl, four_set hbw (w.heap.size) (by omega) _ _ _ _⟩
    simp [results, Tryd.results40, go_sem, r0, r1, r2, r3]
end Go.Proofs.YtfplncbechidnaaDoor
