/- The walks of the document's Order. -/
import Derived.Test.YtfplncbechidnaaDoorR1
import Derived.BigQuiet
namespace Go.Proofs.YtfplncbechidnaaDoor
open Go.RowKit Go.Sort

theorem rorder_bad (x : Int) (k n : Int) (t : ByteArray) (b : Bool) (k' n' : Int) (t' : ByteArray) (b' : Bool) (w : World) (h : k < 0 ∨ (¬ k < 0 ∧ 3 < k) ∨ (¬ k < 0 ∧ ¬ 3 < k ∧ k' < 0) ∨ (¬ k < 0 ∧ ¬ 3 < k ∧ ¬ k' < 0 ∧ 3 < k') ∨ (¬ k < 0 ∧ ¬ 3 < k ∧ ¬ k' < 0 ∧ ¬ 3 < k' ∧ (k != 0) = true ∧ (k' != 0) = true ∧ (k != k') = true)) :
    Calls Tryd.prog 9 #[.agg #[.int .i64 k, .int .i64 n, .string t, .bool b], .agg #[.int .i64 k', .int .i64 n', .string t', .bool b'], .int .i64 x] w fun e w' => e = .returned (.tuple #[.agg #[.int .i64 0, .int .i64 0, .string ⟨#[]⟩, .bool false], .int .i64 7]) ∧ Below w.heap.size w w' := by
  rcases h with h | ⟨h0, h⟩ | ⟨h0, h1, h⟩ | ⟨h0, h1, h2, h⟩ | ⟨h0, h1, h2, h3, h4, h5, h⟩
  all_goals
    go_enter Tryd.func9, Tryd.ntmps9
    go_wp2_with fail
    exact bodyPost_ret (v := .tuple #[.agg #[.int .i64 0, .int .i64 0, .string ⟨#[]⟩, .bool false], .int .i64 7]) (by simp [results, Tryd.results9, go_sem]) rfl ⟨rfl, (((Below.refl _ _).alloc (Nat.le_refl _) _).alloc (by simp) _).alloc (by simp; omega) _⟩
theorem rorder_null (x : Int) (k n : Int) (t : ByteArray) (b : Bool) (k' n' : Int) (t' : ByteArray) (b' : Bool) (w : World) (h0 : ¬ k < 0) (h1 : ¬ 3 < k) (h2 : ¬ k' < 0) (h3 : ¬ 3 < k') (h : k = 0 ∨ ((k != 0) = true ∧ (k == 0) = false ∧ k' = 0)) :
    Calls Tryd.prog 9 #[.agg #[.int .i64 k, .int .i64 n, .string t, .bool b], .agg #[.int .i64 k', .int .i64 n', .string t', .bool b'], .int .i64 x] w fun e w' => e = .returned (.tuple #[.agg #[.int .i64 0, .int .i64 0, .string ⟨#[]⟩, .bool false], .int .i64 0]) ∧ Below w.heap.size w w' := by
  rcases h with rfl | ⟨h4, h5, rfl⟩
  all_goals
    go_enter Tryd.func9, Tryd.ntmps9
    go_wp2_with fail
    exact bodyPost_ret (v := .tuple #[.agg #[.int .i64 0, .int .i64 0, .string ⟨#[]⟩, .bool false], .int .i64 0]) (by simp [results, Tryd.results9, go_sem]) rfl ⟨rfl, (((Below.refl _ _).alloc (Nat.le_refl _) _).alloc (by simp) _).alloc (by simp; omega) _⟩
theorem rorder_yes (x : Int) (k n : Int) (t : ByteArray) (b : Bool) (k' n' : Int) (t' : ByteArray) (b' : Bool) (w : World) (h0 : ¬ k < 0) (h1 : ¬ 3 < k) (h4 : k ≠ 0) (h : k = k') :
    Calls Tryd.prog 9 #[.agg #[.int .i64 k, .int .i64 n, .string t, .bool b], .agg #[.int .i64 k', .int .i64 n', .string t', .bool b'], .int .i64 x] w fun e w' => e = .returned (.tuple #[.agg #[.int .i64 3, .int .i64 0, .string ⟨#[]⟩, .bool (cmpV ⟨k, n, t, b⟩ ⟨k', n', t', b'⟩ == x)], .int .i64 0]) ∧ Below w.heap.size w w' := by
  subst h
  have HC : Hid (∀ W, Calls Tryd.prog 12 #[.agg #[.int .i64 k, .int .i64 n, .string t, .bool b], .agg #[.int .i64 k, .int .i64 n', .string t', .bool b']] W fun e w' => e = .returned (.int .i64 (cmpV ⟨k, n, t, b⟩ ⟨k, n', t', b'⟩)) ∧ Below W.heap.size W w') := fun W => rcomp_ k n t b k n' t' b' W
  generalize cmpV ⟨k, n, t, b⟩ ⟨k, n', t', b'⟩ = c at *
  have HBo : Hid (∀ W, Calls Tryd.prog 32 #[.bool (c == x)] W fun e w' => e = .returned (.agg #[.int .i64 3, .int .i64 0, .string ⟨#[]⟩, .bool (c == x)]) ∧ Below W.heap.size W w') := fun W => rbool_ _ W
  have F0 := Lib.hid (fr2_start w k n t b k n' t' b' 23)
  go_enter Tryd.func9, Tryd.ntmps9
  go_wp2_with fail
  refine (HC.out _).mono ?_
  rintro e w1 ⟨rfl, hb1⟩
  have F1 := Lib.hid (F0.out.on hb1)
  clear F0 hb1
  obtain ⟨⟨p0, p1, p2, p3⟩, ⟨q0, q1, q2, q3⟩, ⟨r0, r1, r2, r3⟩, ⟨f0, f1, f2, f3⟩, hbw, hsz⟩ := F1.out
  go_wp2_with fail
  refine (HBo.out _).mono ?_
  rintro e w2 ⟨rfl, hb2⟩
  have F2 := Lib.hid (F1.out.on hb2)
  clear F1 hb2
  clear p0 p1 p2 p3 q0 q1 q2 q3 r0 r1 r2 r3 f0 f1 f2 f3 hbw hsz
  obtain ⟨⟨p0, p1, p2, p3⟩, ⟨q0, q1, q2, q3⟩, ⟨r0, r1, r2, r3⟩, ⟨f0, f1, f2, f3⟩, hbw, hsz⟩ := F2.out
  go_wp2_with fail
  refine bodyPost_ret (v := .tuple #[.agg #[.int .i64 3, .int .i64 0, .string ⟨#[]⟩, .bool (c == x)], .int .i64 0]) ?_ rfl ⟨rfl, four_set hbw (w.heap.size + 1 + 1) (by omega) _ _ _ _⟩
  simp [results, Tryd.results9, go_sem, r0, r1, r2, r3]
theorem like_iff (k k' : Int) : likeB k k' = true ↔ (0 ≤ k ∧ k ≤ 3 ∧ 0 ≤ k' ∧ k' ≤ 3 ∧ (k = 0 ∨ k' = 0 ∨ k = k')) := by
  simp only [likeB, isK, Bool.or_eq_true, Bool.and_eq_true, decide_eq_true_eq]; omega
theorem rorder_ (x : Int) (k n : Int) (t : ByteArray) (b : Bool) (k' n' : Int) (t' : ByteArray) (b' : Bool) (w : World) :
    Calls Tryd.prog 9 #[.agg #[.int .i64 k, .int .i64 n, .string t, .bool b], .agg #[.int .i64 k', .int .i64 n', .string t', .bool b'], .int .i64 x] w fun e w' => e = .returned (.tuple #[agV (eqR ⟨k, n, t, b⟩ ⟨k', n', t', b'⟩ (fun c => (c == x))), .int .i64 (eqE k k')]) ∧ Below w.heap.size w w' := by
  have hl := like_iff k k'
  cases h : likeB k k'
  · rw [h] at hl
    have hb : ¬ (0 ≤ k ∧ k ≤ 3 ∧ 0 ≤ k' ∧ k' ≤ 3 ∧ (k = 0 ∨ k' = 0 ∨ k = k')) := fun hh => by have := hl.2 hh; cases this
    refine (rorder_bad x k n t b k' n' t' b' w (by simp only [bne_iff_ne]; omega)).mono fun e w' ⟨he, hb⟩ => ⟨he.trans ?_, hb⟩
    simp [eqR, eqE, agV, h, vNull]
  · have hh := hl.1 h
    cases h1 : one0 k k'
    · have h2 : k ≠ 0 ∧ k' ≠ 0 := by simpa [one0] using h1
      refine (rorder_yes x k n t b k' n' t' b' w (by omega) (by omega) h2.1 (by omega)).mono fun e w' ⟨he, hb⟩ => ⟨he.trans ?_, hb⟩
      simp [eqR, eqE, agV, h, h1, vBool]
    · have h2 : k = 0 ∨ k' = 0 := by simpa [one0] using h1
      refine (rorder_null x k n t b k' n' t' b' w (by omega) (by omega) (by omega) (by omega) (by simp only [bne_iff_ne, beq_eq_false_iff_ne]; omega)).mono fun e w' ⟨he, hb⟩ => ⟨he.trans ?_, hb⟩
      simp [eqR, eqE, agV, h, h1, vNull]
end Go.Proofs.YtfplncbechidnaaDoor
