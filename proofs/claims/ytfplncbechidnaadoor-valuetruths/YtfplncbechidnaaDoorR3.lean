/- The walks of the document's And, Or, Not. -/
import Derived.Test.YtfplncbechidnaaDoorR1
import Derived.BigQuiet
namespace Go.Proofs.YtfplncbechidnaaDoor
open Go.RowKit Go.Sort

theorem not_lt {a : Int} (h : a = 0 ∨ a = 1 ∨ a = 2) : ¬ a < 0 := by omega
theorem truth_cases (v : Val) : (truthN v = -1 ∧ isK 3 v.k = false) ∨ ((truthN v = 0 ∨ truthN v = 1 ∨ truthN v = 2) ∧ isK 3 v.k = true) := by
  unfold truthN isK
  by_cases h0 : v.k = 0
  · right; simp [h0]
  by_cases h3 : v.k = 3
  · right; cases hb : v.b <;> simp [h3]
  · left; simp [h0, h3]
theorem kind3 {v : Val} (h : isK 3 v.k = true) : (v.k = 0 ∧ truthN v = 1) ∨ (v.k = 3 ∧ v.b = true ∧ truthN v = 2) ∨ (v.k = 3 ∧ v.b = false ∧ truthN v = 0) := by
  simp only [isK, Bool.or_eq_true, decide_eq_true_eq] at h
  rcases h with h | h
  · cases hb : v.b
    · right; right; simp [truthN, h, hb]
    · right; left; simp [truthN, h, hb]
  · left; simp [truthN, h]
theorem cmp_b {v : Val} (h : isK 3 v.k = true) (d : Bool) : cmpV v (vBool d) = 0 ↔ v.k = 3 ∧ v.b = d := by
  rcases kind3 h with ⟨h, _⟩ | ⟨h, hb, _⟩ | ⟨h, hb, _⟩
  · simp [cmpV, vBool, h, Lib.compareInt]
  · cases d <;> simp [cmpV, vBool, h, hb, Lib.compareInt, rk]
  · cases d <;> simp [cmpV, vBool, h, hb, Lib.compareInt, rk]
theorem rand_eq (a b : Val) (ha : isK 3 a.k = true) (hb : isK 3 b.k = true) : decR a b false = ofV (min (truthN a) (truthN b)) := by
  unfold decR
  simp only [cmp_b ha, cmp_b hb, ha, hb]
  rcases kind3 ha with ⟨h1, h2⟩ | ⟨h1, h2, h3⟩ | ⟨h1, h2, h3⟩ <;> rcases kind3 hb with ⟨g1, g2⟩ | ⟨g1, g2, g3⟩ | ⟨g1, g2, g3⟩ <;> simp [*, one0, ofV] <;> first | rfl | (intro h; exact absurd (by decide) h)
theorem ror_eq (a b : Val) (ha : isK 3 a.k = true) (hb : isK 3 b.k = true) : decR a b true = ofV (max (truthN a) (truthN b)) := by
  unfold decR
  simp only [cmp_b ha, cmp_b hb, ha, hb]
  rcases kind3 ha with ⟨h1, h2⟩ | ⟨h1, h2, h3⟩ | ⟨h1, h2, h3⟩ <;> rcases kind3 hb with ⟨g1, g2⟩ | ⟨g1, g2, g3⟩ | ⟨g1, g2, g3⟩ <;> simp [*, one0, ofV] <;> first | rfl | (intro h; exact absurd (by decide) h)
theorem rnot_eq (a : Val) (ha : isK 3 a.k = true) : notR a = ofV (2 - truthN a) := by
  unfold notR
  rcases kind3 ha with ⟨h1, h2⟩ | ⟨h1, h2, h3⟩ | ⟨h1, h2, h3⟩ <;> simp [*, ofV] <;> first | rfl | (intro h; exact absurd h (by decide))
set_option maxHeartbeats 4000000 in
theorem rand_yes (k n : Int) (t : ByteArray) (b : Bool) (k' n' : Int) (t' : ByteArray) (b' : Bool) (w : World) (a : Int) (a' : Int) (h0 : a = 0 ∨ a = 1 ∨ a = 2) (h0' : a' = 0 ∨ a' = 1 ∨ a' = 2) (ha : truthN ⟨k, n, t, b⟩ = a) (ha' : truthN ⟨k', n', t', b'⟩ = a') :
    Calls Tryd.prog 16 #[.agg #[.int .i64 k, .int .i64 n, .string t, .bool b], .agg #[.int .i64 k', .int .i64 n', .string t', .bool b']] w fun e w' => e = .returned (.tuple #[agV (ofV (min a a')), .int .i64 0]) ∧ Below w.heap.size w w' := by
  have HA : Hid (∀ W, Calls Tryd.prog 39 #[.agg #[.int .i64 k, .int .i64 n, .string t, .bool b]] W fun e w' => e = .returned (.int .i64 a) ∧ Below W.heap.size W w') := fun W => by rw [← ha]; exact truth_ k n t b W
  have HA' : Hid (∀ W, Calls Tryd.prog 39 #[.agg #[.int .i64 k', .int .i64 n', .string t', .bool b']] W fun e w' => e = .returned (.int .i64 a') ∧ Below W.heap.size W w') := fun W => by rw [← ha']; exact truth_ k' n' t' b' W
  clear ha ha'
  have F0 := Lib.hid (fr2_start w k n t b k' n' t' b' 23)
  have n0 : ¬ a < 0 := not_lt h0
  have n0' : ¬ a' < 0 := not_lt h0'
  have HX : Hid (∀ W, Calls Tryd.prog 40 #[.int .i64 (min a a')] W fun e w' => e = .returned (.agg #[.int .i64 (ofV (min a a')).k, .int .i64 (ofV (min a a')).n, .string (ofV (min a a')).t, .bool (ofV (min a a')).b]) ∧ Below W.heap.size W w') := fun W => of_ (min a a') W (by omega)
  generalize ofV (min a a') = X at *
  obtain ⟨K, N, T, B⟩ := X
  simp only [agV] at *
  clear h0 h0'
  go_enter Tryd.func16, Tryd.ntmps16
  go_wp2_with fail
  refine (HA.out _).mono ?_
  rintro e w1 ⟨rfl, hb1⟩
  have F1 := Lib.hid (F0.out.on hb1)
  clear F0 hb1
  obtain ⟨⟨p0, p1, p2, p3⟩, ⟨q0, q1, q2, q3⟩, ⟨r0, r1, r2, r3⟩, ⟨f0, f1, f2, f3⟩, hbw, hsz⟩ := F1.out
  go_wp2_with fail
  refine (HA'.out _).mono ?_
  rintro e w2 ⟨rfl, hb2⟩
  have F2 := Lib.hid (F1.out.on hb2)
  clear F1 hb2
  clear p0 p1 p2 p3 q0 q1 q2 q3 r0 r1 r2 r3 f0 f1 f2 f3 hbw hsz
  obtain ⟨⟨p0, p1, p2, p3⟩, ⟨q0, q1, q2, q3⟩, ⟨r0, r1, r2, r3⟩, ⟨f0, f1, f2, f3⟩, hbw, hsz⟩ := F2.out
  go_wp2_with fail
  go_region_with (first
    | (go_at_call_of 39 (.agg #[.int .i64 k, .int .i64 n, .string t, .bool b] : Value); refine (HA.out _).mono ?_; rintro e w3 ⟨rfl, hb3⟩; have F3 := Lib.hid ((F2.out.on (below_drew _)).on hb3); clear p0 p1 p2 p3 q0 q1 q2 q3 r0 r1 r2 r3 f0 f1 f2 f3 hbw hsz; obtain ⟨⟨p0, p1, p2, p3⟩, ⟨q0, q1, q2, q3⟩, ⟨r0, r1, r2, r3⟩, ⟨f0, f1, f2, f3⟩, hbw, hsz⟩ := F3.out)
    | (go_at_call_of 39 (.agg #[.int .i64 k', .int .i64 n', .string t', .bool b'] : Value); refine (HA'.out _).mono ?_; rintro e w4 ⟨rfl, hb4⟩; have F4 := Lib.hid (F3.out.on hb4); clear p0 p1 p2 p3 q0 q1 q2 q3 r0 r1 r2 r3 f0 f1 f2 f3 hbw hsz; obtain ⟨⟨p0, p1, p2, p3⟩, ⟨q0, q1, q2, q3⟩, ⟨r0, r1, r2, r3⟩, ⟨f0, f1, f2, f3⟩, hbw, hsz⟩ := F4.out)
    | (go_at_call 40; refine (HX.out _).mono ?_; rintro e w5 ⟨rfl, hb5⟩; have F5 := Lib.hid (F4.out.on hb5); clear p0 p1 p2 p3 q0 q1 q2 q3 r0 r1 r2 r3 f0 f1 f2 f3 hbw hsz; obtain ⟨⟨p0, p1, p2, p3⟩, ⟨q0, q1, q2, q3⟩, ⟨r0, r1, r2, r3⟩, ⟨f0, f1, f2, f3⟩, hbw, hsz⟩ := F5.out))
  all_goals go_wp2_with fail
  all_goals
    refine bodyPost_ret (v := .tuple #[.agg #[.int .i64 K, .int .i64 N, .string T, .bool B], .int .i64 0]) ?_ rfl ⟨rfl, four_set hbw (w.heap.size + 1 + 1) (by omega) _ _ _ _⟩
    simp [results, Tryd.results16, go_sem, r0, r1, r2, r3]
theorem rand_no1 (k n : Int) (t : ByteArray) (b : Bool) (k' n' : Int) (t' : ByteArray) (b' : Bool) (w : World) (a : Int) (h0 : a < 0) (ha : truthN ⟨k, n, t, b⟩ = a) :
    Calls Tryd.prog 16 #[.agg #[.int .i64 k, .int .i64 n, .string t, .bool b], .agg #[.int .i64 k', .int .i64 n', .string t', .bool b']] w fun e w' => e = .returned (.tuple #[.agg #[.int .i64 0, .int .i64 0, .string ⟨#[]⟩, .bool false], .int .i64 7]) ∧ Below w.heap.size w w' := by
  have HA : Hid (∀ W, Calls Tryd.prog 39 #[.agg #[.int .i64 k, .int .i64 n, .string t, .bool b]] W fun e w' => e = .returned (.int .i64 a) ∧ Below W.heap.size W w') := fun W => by rw [← ha]; exact truth_ k n t b W
  clear ha
  have F0 := Lib.hid (fr2_start w k n t b k' n' t' b' 23)
  go_enter Tryd.func16, Tryd.ntmps16
  go_wp2_with fail
  refine (HA.out _).mono ?_
  rintro e w1 ⟨rfl, hb1⟩
  have F1 := Lib.hid (F0.out.on hb1)
  clear F0 hb1
  obtain ⟨⟨p0, p1, p2, p3⟩, ⟨q0, q1, q2, q3⟩, ⟨r0, r1, r2, r3⟩, ⟨f0, f1, f2, f3⟩, hbw, hsz⟩ := F1.out
  go_wp2_with fail
  refine bodyPost_ret (v := .tuple #[.agg #[.int .i64 0, .int .i64 0, .string ⟨#[]⟩, .bool false], .int .i64 7]) ?_ rfl ⟨rfl, four_set hbw (w.heap.size + 1 + 1) (by omega) _ _ _ _⟩
  simp [results, Tryd.results16, go_sem, r0, r1, r2, r3]

theorem rand_no2 (k n : Int) (t : ByteArray) (b : Bool) (k' n' : Int) (t' : ByteArray) (b' : Bool) (w : World) (a a' : Int) (h0 : ¬ a < 0) (h0' : a' < 0) (ha : truthN ⟨k, n, t, b⟩ = a) (ha' : truthN ⟨k', n', t', b'⟩ = a') :
    Calls Tryd.prog 16 #[.agg #[.int .i64 k, .int .i64 n, .string t, .bool b], .agg #[.int .i64 k', .int .i64 n', .string t', .bool b']] w fun e w' => e = .returned (.tuple #[.agg #[.int .i64 0, .int .i64 0, .string ⟨#[]⟩, .bool false], .int .i64 7]) ∧ Below w.heap.size w w' := by
  have HA : Hid (∀ W, Calls Tryd.prog 39 #[.agg #[.int .i64 k, .int .i64 n, .string t, .bool b]] W fun e w' => e = .returned (.int .i64 a) ∧ Below W.heap.size W w') := fun W => by rw [← ha]; exact truth_ k n t b W
  have HA' : Hid (∀ W, Calls Tryd.prog 39 #[.agg #[.int .i64 k', .int .i64 n', .string t', .bool b']] W fun e w' => e = .returned (.int .i64 a') ∧ Below W.heap.size W w') := fun W => by rw [← ha']; exact truth_ k' n' t' b' W
  clear ha ha'
  have F0 := Lib.hid (fr2_start w k n t b k' n' t' b' 23)
  go_enter Tryd.func16, Tryd.ntmps16
  go_wp2_with fail
  refine (HA.out _).mono ?_
  rintro e w1 ⟨rfl, hb1⟩
  have F1 := Lib.hid (F0.out.on hb1)
  clear F0 hb1
  obtain ⟨⟨p0, p1, p2, p3⟩, ⟨q0, q1, q2, q3⟩, ⟨r0, r1, r2, r3⟩, ⟨f0, f1, f2, f3⟩, hbw, hsz⟩ := F1.out
  go_wp2_with fail
  refine (HA'.out _).mono ?_
  rintro e w2 ⟨rfl, hb2⟩
  have F2 := Lib.hid (F1.out.on hb2)
  clear F1 hb2
  clear p0 p1 p2 p3 q0 q1 q2 q3 r0 r1 r2 r3 f0 f1 f2 f3 hbw hsz
  obtain ⟨⟨p0, p1, p2, p3⟩, ⟨q0, q1, q2, q3⟩, ⟨r0, r1, r2, r3⟩, ⟨f0, f1, f2, f3⟩, hbw, hsz⟩ := F2.out
  go_wp2_with fail
  refine bodyPost_ret (v := .tuple #[.agg #[.int .i64 0, .int .i64 0, .string ⟨#[]⟩, .bool false], .int .i64 7]) ?_ rfl ⟨rfl, four_set hbw (w.heap.size + 1 + 1) (by omega) _ _ _ _⟩
  simp [results, Tryd.results16, go_sem, r0, r1, r2, r3]

theorem rand_ (k n : Int) (t : ByteArray) (b : Bool) (k' n' : Int) (t' : ByteArray) (b' : Bool) (w : World) :
    Calls Tryd.prog 16 #[.agg #[.int .i64 k, .int .i64 n, .string t, .bool b], .agg #[.int .i64 k', .int .i64 n', .string t', .bool b']] w fun e w' => e = .returned (.tuple #[agV (decR ⟨k, n, t, b⟩ ⟨k', n', t', b'⟩ false), .int .i64 (decE k k')]) ∧ Below w.heap.size w w' := by
  rcases truth_cases ⟨k, n, t, b⟩ with ⟨h, hk⟩ | ⟨h, hk⟩
  · rw [show decE k k' = 7 by simp [decE, show isK 3 k = false from hk], show decR ⟨k, n, t, b⟩ ⟨k', n', t', b'⟩ false = vNull by simp [decR, show isK 3 k = false from hk]]
    exact rand_no1 k n t b k' n' t' b' w (-1) (by decide) h
  · rcases truth_cases ⟨k', n', t', b'⟩ with ⟨h', hk'⟩ | ⟨h', hk'⟩
    · rw [show decE k k' = 7 by simp [decE, show isK 3 k' = false from hk'], show decR ⟨k, n, t, b⟩ ⟨k', n', t', b'⟩ false = vNull by simp [decR, show isK 3 k' = false from hk']]
      exact rand_no2 k n t b k' n' t' b' w _ (-1) (by omega) (by decide) rfl h'
    · rw [show decE k k' = 0 by simp [decE, show isK 3 k = true from hk, show isK 3 k' = true from hk'], rand_eq ⟨k, n, t, b⟩ ⟨k', n', t', b'⟩ hk hk']
      exact rand_yes k n t b k' n' t' b' w _ _ h h' rfl rfl
set_option maxHeartbeats 4000000 in
theorem ror_yes (k n : Int) (t : ByteArray) (b : Bool) (k' n' : Int) (t' : ByteArray) (b' : Bool) (w : World) (a : Int) (a' : Int) (h0 : a = 0 ∨ a = 1 ∨ a = 2) (h0' : a' = 0 ∨ a' = 1 ∨ a' = 2) (ha : truthN ⟨k, n, t, b⟩ = a) (ha' : truthN ⟨k', n', t', b'⟩ = a') :
    Calls Tryd.prog 18 #[.agg #[.int .i64 k, .int .i64 n, .string t, .bool b], .agg #[.int .i64 k', .int .i64 n', .string t', .bool b']] w fun e w' => e = .returned (.tuple #[agV (ofV (max a a')), .int .i64 0]) ∧ Below w.heap.size w w' := by
  have HA : Hid (∀ W, Calls Tryd.prog 39 #[.agg #[.int .i64 k, .int .i64 n, .string t, .bool b]] W fun e w' => e = .returned (.int .i64 a) ∧ Below W.heap.size W w') := fun W => by rw [← ha]; exact truth_ k n t b W
  have HA' : Hid (∀ W, Calls Tryd.prog 39 #[.agg #[.int .i64 k', .int .i64 n', .string t', .bool b']] W fun e w' => e = .returned (.int .i64 a') ∧ Below W.heap.size W w') := fun W => by rw [← ha']; exact truth_ k' n' t' b' W
  clear ha ha'
  have F0 := Lib.hid (fr2_start w k n t b k' n' t' b' 23)
  have n0 : ¬ a < 0 := not_lt h0
  have n0' : ¬ a' < 0 := not_lt h0'
  have HX : Hid (∀ W, Calls Tryd.prog 40 #[.int .i64 (max a a')] W fun e w' => e = .returned (.agg #[.int .i64 (ofV (max a a')).k, .int .i64 (ofV (max a a')).n, .string (ofV (max a a')).t, .bool (ofV (max a a')).b]) ∧ Below W.heap.size W w') := fun W => of_ (max a a') W (by omega)
  generalize ofV (max a a') = X at *
  obtain ⟨K, N, T, B⟩ := X
  simp only [agV] at *
  clear h0 h0'
  go_enter Tryd.func18, Tryd.ntmps18
  go_wp2_with fail
  refine (HA.out _).mono ?_
  rintro e w1 ⟨rfl, hb1⟩
  have F1 := Lib.hid (F0.out.on hb1)
  clear F0 hb1
  obtain ⟨⟨p0, p1, p2, p3⟩, ⟨q0, q1, q2, q3⟩, ⟨r0, r1, r2, r3⟩, ⟨f0, f1, f2, f3⟩, hbw, hsz⟩ := F1.out
  go_wp2_with fail
  refine (HA'.out _).mono ?_
  rintro e w2 ⟨rfl, hb2⟩
  have F2 := Lib.hid (F1.out.on hb2)
  clear F1 hb2
  clear p0 p1 p2 p3 q0 q1 q2 q3 r0 r1 r2 r3 f0 f1 f2 f3 hbw hsz
  obtain ⟨⟨p0, p1, p2, p3⟩, ⟨q0, q1, q2, q3⟩, ⟨r0, r1, r2, r3⟩, ⟨f0, f1, f2, f3⟩, hbw, hsz⟩ := F2.out
  go_wp2_with fail
  go_region_with (first
    | (go_at_call_of 39 (.agg #[.int .i64 k, .int .i64 n, .string t, .bool b] : Value); refine (HA.out _).mono ?_; rintro e w3 ⟨rfl, hb3⟩; have F3 := Lib.hid ((F2.out.on (below_drew _)).on hb3); clear p0 p1 p2 p3 q0 q1 q2 q3 r0 r1 r2 r3 f0 f1 f2 f3 hbw hsz; obtain ⟨⟨p0, p1, p2, p3⟩, ⟨q0, q1, q2, q3⟩, ⟨r0, r1, r2, r3⟩, ⟨f0, f1, f2, f3⟩, hbw, hsz⟩ := F3.out)
    | (go_at_call_of 39 (.agg #[.int .i64 k', .int .i64 n', .string t', .bool b'] : Value); refine (HA'.out _).mono ?_; rintro e w4 ⟨rfl, hb4⟩; have F4 := Lib.hid (F3.out.on hb4); clear p0 p1 p2 p3 q0 q1 q2 q3 r0 r1 r2 r3 f0 f1 f2 f3 hbw hsz; obtain ⟨⟨p0, p1, p2, p3⟩, ⟨q0, q1, q2, q3⟩, ⟨r0, r1, r2, r3⟩, ⟨f0, f1, f2, f3⟩, hbw, hsz⟩ := F4.out)
    | (go_at_call 40; refine (HX.out _).mono ?_; rintro e w5 ⟨rfl, hb5⟩; have F5 := Lib.hid (F4.out.on hb5); clear p0 p1 p2 p3 q0 q1 q2 q3 r0 r1 r2 r3 f0 f1 f2 f3 hbw hsz; obtain ⟨⟨p0, p1, p2, p3⟩, ⟨q0, q1, q2, q3⟩, ⟨r0, r1, r2, r3⟩, ⟨f0, f1, f2, f3⟩, hbw, hsz⟩ := F5.out))
  all_goals go_wp2_with fail
  all_goals
    refine bodyPost_ret (v := .tuple #[.agg #[.int .i64 K, .int .i64 N, .string T, .bool B], .int .i64 0]) ?_ rfl ⟨rfl, four_set hbw (w.heap.size + 1 + 1) (by omega) _ _ _ _⟩
    simp [results, Tryd.results18, go_sem, r0, r1, r2, r3]
theorem ror_no1 (k n : Int) (t : ByteArray) (b : Bool) (k' n' : Int) (t' : ByteArray) (b' : Bool) (w : World) (a : Int) (h0 : a < 0) (ha : truthN ⟨k, n, t, b⟩ = a) :
    Calls Tryd.prog 18 #[.agg #[.int .i64 k, .int .i64 n, .string t, .bool b], .agg #[.int .i64 k', .int .i64 n', .string t', .bool b']] w fun e w' => e = .returned (.tuple #[.agg #[.int .i64 0, .int .i64 0, .string ⟨#[]⟩, .bool false], .int .i64 7]) ∧ Below w.heap.size w w' := by
  have HA : Hid (∀ W, Calls Tryd.prog 39 #[.agg #[.int .i64 k, .int .i64 n, .string t, .bool b]] W fun e w' => e = .returned (.int .i64 a) ∧ Below W.heap.size W w') := fun W => by rw [← ha]; exact truth_ k n t b W
  clear ha
  have F0 := Lib.hid (fr2_start w k n t b k' n' t' b' 23)
  go_enter Tryd.func18, Tryd.ntmps18
  go_wp2_with fail
  refine (HA.out _).mono ?_
  rintro e w1 ⟨rfl, hb1⟩
  have F1 := Lib.hid (F0.out.on hb1)
  clear F0 hb1
  obtain ⟨⟨p0, p1, p2, p3⟩, ⟨q0, q1, q2, q3⟩, ⟨r0, r1, r2, r3⟩, ⟨f0, f1, f2, f3⟩, hbw, hsz⟩ := F1.out
  go_wp2_with fail
  refine bodyPost_ret (v := .tuple #[.agg #[.int .i64 0, .int .i64 0, .string ⟨#[]⟩, .bool false], .int .i64 7]) ?_ rfl ⟨rfl, four_set hbw (w.heap.size + 1 + 1) (by omega) _ _ _ _⟩
  simp [results, Tryd.results18, go_sem, r0, r1, r2, r3]

theorem ror_no2 (k n : Int) (t : ByteArray) (b : Bool) (k' n' : Int) (t' : ByteArray) (b' : Bool) (w : World) (a a' : Int) (h0 : ¬ a < 0) (h0' : a' < 0) (ha : truthN ⟨k, n, t, b⟩ = a) (ha' : truthN ⟨k', n', t', b'⟩ = a') :
    Calls Tryd.prog 18 #[.agg #[.int .i64 k, .int .i64 n, .string t, .bool b], .agg #[.int .i64 k', .int .i64 n', .string t', .bool b']] w fun e w' => e = .returned (.tuple #[.agg #[.int .i64 0, .int .i64 0, .string ⟨#[]⟩, .bool false], .int .i64 7]) ∧ Below w.heap.size w w' := by
  have HA : Hid (∀ W, Calls Tryd.prog 39 #[.agg #[.int .i64 k, .int .i64 n, .string t, .bool b]] W fun e w' => e = .returned (.int .i64 a) ∧ Below W.heap.size W w') := fun W => by rw [← ha]; exact truth_ k n t b W
  have HA' : Hid (∀ W, Calls Tryd.prog 39 #[.agg #[.int .i64 k', .int .i64 n', .string t', .bool b']] W fun e w' => e = .returned (.int .i64 a') ∧ Below W.heap.size W w') := fun W => by rw [← ha']; exact truth_ k' n' t' b' W
  clear ha ha'
  have F0 := Lib.hid (fr2_start w k n t b k' n' t' b' 23)
  go_enter Tryd.func18, Tryd.ntmps18
  go_wp2_with fail
  refine (HA.out _).mono ?_
  rintro e w1 ⟨rfl, hb1⟩
  have F1 := Lib.hid (F0.out.on hb1)
  clear F0 hb1
  obtain ⟨⟨p0, p1, p2, p3⟩, ⟨q0, q1, q2, q3⟩, ⟨r0, r1, r2, r3⟩, ⟨f0, f1, f2, f3⟩, hbw, hsz⟩ := F1.out
  go_wp2_with fail
  refine (HA'.out _).mono ?_
  rintro e w2 ⟨rfl, hb2⟩
  have F2 := Lib.hid (F1.out.on hb2)
  clear F1 hb2
  clear p0 p1 p2 p3 q0 q1 q2 q3 r0 r1 r2 r3 f0 f1 f2 f3 hbw hsz
  obtain ⟨⟨p0, p1, p2, p3⟩, ⟨q0, q1, q2, q3⟩, ⟨r0, r1, r2, r3⟩, ⟨f0, f1, f2, f3⟩, hbw, hsz⟩ := F2.out
  go_wp2_with fail
  refine bodyPost_ret (v := .tuple #[.agg #[.int .i64 0, .int .i64 0, .string ⟨#[]⟩, .bool false], .int .i64 7]) ?_ rfl ⟨rfl, four_set hbw (w.heap.size + 1 + 1) (by omega) _ _ _ _⟩
  simp [results, Tryd.results18, go_sem, r0, r1, r2, r3]

theorem ror_ (k n : Int) (t : ByteArray) (b : Bool) (k' n' : Int) (t' : ByteArray) (b' : Bool) (w : World) :
    Calls Tryd.prog 18 #[.agg #[.int .i64 k, .int .i64 n, .string t, .bool b], .agg #[.int .i64 k', .int .i64 n', .string t', .bool b']] w fun e w' => e = .returned (.tuple #[agV (decR ⟨k, n, t, b⟩ ⟨k', n', t', b'⟩ true), .int .i64 (decE k k')]) ∧ Below w.heap.size w w' := by
  rcases truth_cases ⟨k, n, t, b⟩ with ⟨h, hk⟩ | ⟨h, hk⟩
  · rw [show decE k k' = 7 by simp [decE, show isK 3 k = false from hk], show decR ⟨k, n, t, b⟩ ⟨k', n', t', b'⟩ true = vNull by simp [decR, show isK 3 k = false from hk]]
    exact ror_no1 k n t b k' n' t' b' w (-1) (by decide) h
  · rcases truth_cases ⟨k', n', t', b'⟩ with ⟨h', hk'⟩ | ⟨h', hk'⟩
    · rw [show decE k k' = 7 by simp [decE, show isK 3 k' = false from hk'], show decR ⟨k, n, t, b⟩ ⟨k', n', t', b'⟩ true = vNull by simp [decR, show isK 3 k' = false from hk']]
      exact ror_no2 k n t b k' n' t' b' w _ (-1) (by omega) (by decide) rfl h'
    · rw [show decE k k' = 0 by simp [decE, show isK 3 k = true from hk, show isK 3 k' = true from hk'], ror_eq ⟨k, n, t, b⟩ ⟨k', n', t', b'⟩ hk hk']
      exact ror_yes k n t b k' n' t' b' w _ _ h h' rfl rfl
theorem rnot_no (k n : Int) (t : ByteArray) (b : Bool) (w : World) (a : Int) (h0 : a < 0) (ha : truthN ⟨k, n, t, b⟩ = a) :
    Calls Tryd.prog 20 #[.agg #[.int .i64 k, .int .i64 n, .string t, .bool b]] w fun e w' => e = .returned (.tuple #[.agg #[.int .i64 0, .int .i64 0, .string ⟨#[]⟩, .bool false], .int .i64 7]) ∧ Below w.heap.size w w' := by
  have HA : Hid (∀ W, Calls Tryd.prog 39 #[.agg #[.int .i64 k, .int .i64 n, .string t, .bool b]] W fun e w' => e = .returned (.int .i64 a) ∧ Below W.heap.size W w') := fun W => by rw [← ha]; exact truth_ k n t b W
  clear ha
  have F0 := Lib.hid (fr1_start w k n t b 23)
  go_enter Tryd.func20, Tryd.ntmps20
  go_wp2_with fail
  refine (HA.out _).mono ?_
  rintro e w1 ⟨rfl, hb1⟩
  have F1 := Lib.hid (F0.out.on hb1)
  clear F0 hb1
  obtain ⟨⟨p0, p1, p2, p3⟩, ⟨r0, r1, r2, r3⟩, ⟨f0, f1, f2, f3⟩, hbw, hsz⟩ := F1.out
  go_wp2_with fail
  refine bodyPost_ret (v := .tuple #[.agg #[.int .i64 0, .int .i64 0, .string ⟨#[]⟩, .bool false], .int .i64 7]) ?_ rfl ⟨rfl, four_set hbw (w.heap.size + 1) (by omega) _ _ _ _⟩
  simp [results, Tryd.results20, go_sem, r0, r1, r2, r3]

theorem rnot_yes (k n : Int) (t : ByteArray) (b : Bool) (w : World) (a : Int) (h0 : a = 0 ∨ a = 1 ∨ a = 2) (ha : truthN ⟨k, n, t, b⟩ = a) :
    Calls Tryd.prog 20 #[.agg #[.int .i64 k, .int .i64 n, .string t, .bool b]] w fun e w' => e = .returned (.tuple #[agV (ofV (2 - a)), .int .i64 0]) ∧ Below w.heap.size w w' := by
  have HA : Hid (∀ W, Calls Tryd.prog 39 #[.agg #[.int .i64 k, .int .i64 n, .string t, .bool b]] W fun e w' => e = .returned (.int .i64 a) ∧ Below W.heap.size W w') := fun W => by rw [← ha]; exact truth_ k n t b W
  have HX : Hid (∀ W, Calls Tryd.prog 40 #[.int .i64 (2 - a)] W fun e w' => e = .returned (.agg #[.int .i64 (ofV (2 - a)).k, .int .i64 (ofV (2 - a)).n, .string (ofV (2 - a)).t, .bool (ofV (2 - a)).b]) ∧ Below W.heap.size W w') := fun W => of_ (2 - a) W (by omega)
  have n0 : ¬ a < 0 := not_lt h0
  have n1 : a ≤ 2 := by omega
  clear ha h0
  generalize ofV (2 - a) = X at *
  obtain ⟨K, N, T, B⟩ := X
  simp only [agV] at *
  have F0 := Lib.hid (fr1_start w k n t b 23)
  go_enter Tryd.func20, Tryd.ntmps20
  go_wp2_with fail
  refine (HA.out _).mono ?_
  rintro e w1 ⟨rfl, hb1⟩
  have F1 := Lib.hid (F0.out.on hb1)
  clear F0 hb1
  obtain ⟨⟨p0, p1, p2, p3⟩, ⟨r0, r1, r2, r3⟩, ⟨f0, f1, f2, f3⟩, hbw, hsz⟩ := F1.out
  go_wp2_with fail
  refine (HA.out _).mono ?_
  rintro e w2 ⟨rfl, hb2⟩
  have F2 := Lib.hid (F1.out.on hb2)
  clear F1 hb2
  clear p0 p1 p2 p3 r0 r1 r2 r3 f0 f1 f2 f3 hbw hsz
  obtain ⟨⟨p0, p1, p2, p3⟩, ⟨r0, r1, r2, r3⟩, ⟨f0, f1, f2, f3⟩, hbw, hsz⟩ := F2.out
  go_wp2_with fail
  refine (HX.out _).mono ?_
  rintro e w3 ⟨rfl, hb3⟩
  have F3 := Lib.hid (F2.out.on hb3)
  clear F2 hb3
  clear p0 p1 p2 p3 r0 r1 r2 r3 f0 f1 f2 f3 hbw hsz
  obtain ⟨⟨p0, p1, p2, p3⟩, ⟨r0, r1, r2, r3⟩, ⟨f0, f1, f2, f3⟩, hbw, hsz⟩ := F3.out
  go_wp2_with fail
  refine bodyPost_ret (v := .tuple #[.agg #[.int .i64 K, .int .i64 N, .string T, .bool B], .int .i64 0]) ?_ rfl ⟨rfl, four_set hbw (w.heap.size + 1) (by omega) _ _ _ _⟩
  simp [results, Tryd.results20, go_sem, r0, r1, r2, r3]
theorem rnot_ (k n : Int) (t : ByteArray) (b : Bool) (w : World) :
    Calls Tryd.prog 20 #[.agg #[.int .i64 k, .int .i64 n, .string t, .bool b]] w fun e w' => e = .returned (.tuple #[agV (notR ⟨k, n, t, b⟩), .int .i64 (notE k)]) ∧ Below w.heap.size w w' := by
  rcases truth_cases ⟨k, n, t, b⟩ with ⟨h, hk⟩ | ⟨h, hk⟩
  · rw [show notE k = 7 by simp [notE, show isK 3 k = false from hk], show notR ⟨k, n, t, b⟩ = vNull by simp [notR, show isK 3 k = false from hk]]
    exact rnot_no k n t b w (-1) (by decide) h
  · rw [show notE k = 0 by simp [notE, show isK 3 k = true from hk], rnot_eq ⟨k, n, t, b⟩ hk]
    exact rnot_yes k n t b w _ h rfl
end Go.Proofs.YtfplncbechidnaaDoor
