/- The walks of the document's Reckon and Join. -/
import Derived.Test.YtfplncbechidnaaDoorW7
import Derived.Test.YtfplncbechidnaaDoorR1
import Derived.Test.YtfplncbechidnaaDoorR4
namespace Go.Proofs.YtfplncbechidnaaDoor
open Go.RowKit Go.Sort

theorem rreckon_form (op : Int) (k n : Int) (t : ByteArray) (b : Bool) (k' n' : Int) (t' : ByteArray) (b' : Bool) (w : World) (h1 : (op != 43) = true) (h2 : (op != 45) = true) (h3 : (op != 42) = true) (h4 : (op != 47) = true) (h5 : (op != 37) = true) :
    Calls Tryd.prog 22 #[.int .u8 op, .agg #[.int .i64 k, .int .i64 n, .string t, .bool b], .agg #[.int .i64 k', .int .i64 n', .string t', .bool b']] w fun e w' => e = .returned (.tuple #[.agg #[.int .i64 0, .int .i64 0, .string ⟨#[]⟩, .bool false], .int .i64 3]) ∧ Below w.heap.size w w' := by
  go_enter Tryd.func22, Tryd.ntmps22
  go_wp2_with fail
  exact bodyPost_ret (v := .tuple #[.agg #[.int .i64 0, .int .i64 0, .string ⟨#[]⟩, .bool false], .int .i64 3]) (by simp [results, Tryd.results22, go_sem]) rfl ⟨rfl, (((Below.refl _ _).alloc (Nat.le_refl _) _).alloc (by simp) _).alloc (by simp; omega) _⟩

set_option maxHeartbeats 8000000 in
theorem rreckon_kind1 (op : Int) (k n : Int) (t : ByteArray) (b : Bool) (k' n' : Int) (t' : ByteArray) (b' : Bool) (w : World) (hop : isOp op) (h1 : (k != 0) = true) (h2 : (k != 1) = true) :
    Calls Tryd.prog 22 #[.int .u8 op, .agg #[.int .i64 k, .int .i64 n, .string t, .bool b], .agg #[.int .i64 k', .int .i64 n', .string t', .bool b']] w fun e w' => e = .returned (.tuple #[.agg #[.int .i64 0, .int .i64 0, .string ⟨#[]⟩, .bool false], .int .i64 7]) ∧ Below w.heap.size w w' := by
  rcases hop with rfl | rfl | rfl | rfl | rfl
  all_goals
    go_enter Tryd.func22, Tryd.ntmps22
    go_wp2_with fail
    exact bodyPost_ret (v := .tuple #[.agg #[.int .i64 0, .int .i64 0, .string ⟨#[]⟩, .bool false], .int .i64 7]) (by simp [results, Tryd.results22, go_sem]) rfl ⟨rfl, (((Below.refl _ _).alloc (Nat.le_refl _) _).alloc (by simp) _).alloc (by simp; omega) _⟩

set_option maxHeartbeats 8000000 in
theorem rreckon_kind2 (op : Int) (k n : Int) (t : ByteArray) (b : Bool) (k' n' : Int) (t' : ByteArray) (b' : Bool) (w : World) (hop : isOp op) (hk : k = 0 ∨ k = 1) (h1 : (k' != 0) = true) (h2 : (k' != 1) = true) :
    Calls Tryd.prog 22 #[.int .u8 op, .agg #[.int .i64 k, .int .i64 n, .string t, .bool b], .agg #[.int .i64 k', .int .i64 n', .string t', .bool b']] w fun e w' => e = .returned (.tuple #[.agg #[.int .i64 0, .int .i64 0, .string ⟨#[]⟩, .bool false], .int .i64 7]) ∧ Below w.heap.size w w' := by
  rcases hk with rfl | rfl <;> rcases hop with rfl | rfl | rfl | rfl | rfl
  all_goals
    go_enter Tryd.func22, Tryd.ntmps22
    go_wp2_with fail
    exact bodyPost_ret (v := .tuple #[.agg #[.int .i64 0, .int .i64 0, .string ⟨#[]⟩, .bool false], .int .i64 7]) (by simp [results, Tryd.results22, go_sem]) rfl ⟨rfl, (((Below.refl _ _).alloc (Nat.le_refl _) _).alloc (by simp) _).alloc (by simp; omega) _⟩

set_option maxHeartbeats 8000000 in
theorem rreckon_null (op : Int) (k n : Int) (t : ByteArray) (b : Bool) (k' n' : Int) (t' : ByteArray) (b' : Bool) (w : World) (hop : isOp op) (hk : (k = 0 ∧ k' = 0) ∨ (k = 0 ∧ k' = 1) ∨ (k = 1 ∧ k' = 0)) :
    Calls Tryd.prog 22 #[.int .u8 op, .agg #[.int .i64 k, .int .i64 n, .string t, .bool b], .agg #[.int .i64 k', .int .i64 n', .string t', .bool b']] w fun e w' => e = .returned (.tuple #[.agg #[.int .i64 0, .int .i64 0, .string ⟨#[]⟩, .bool false], .int .i64 0]) ∧ Below w.heap.size w w' := by
  rcases hk with ⟨rfl, rfl⟩ | ⟨rfl, rfl⟩ | ⟨rfl, rfl⟩ <;> rcases hop with rfl | rfl | rfl | rfl | rfl
  all_goals
    go_enter Tryd.func22, Tryd.ntmps22
    go_wp2_with fail
    exact bodyPost_ret (v := .tuple #[.agg #[.int .i64 0, .int .i64 0, .string ⟨#[]⟩, .bool false], .int .i64 0]) (by simp [results, Tryd.results22, go_sem]) rfl ⟨rfl, (((Below.refl _ _).alloc (Nat.le_refl _) _).alloc (by simp) _).alloc (by simp; omega) _⟩

theorem rjoin_kind1 (k n : Int) (t : ByteArray) (b : Bool) (k' n' : Int) (t' : ByteArray) (b' : Bool) (w : World) (h1 : (k != 0) = true) (h2 : (k != 2) = true) :
    Calls Tryd.prog 24 #[.agg #[.int .i64 k, .int .i64 n, .string t, .bool b], .agg #[.int .i64 k', .int .i64 n', .string t', .bool b']] w fun e w' => e = .returned (.tuple #[.agg #[.int .i64 0, .int .i64 0, .string ⟨#[]⟩, .bool false], .int .i64 7]) ∧ Below w.heap.size w w' := by
  go_enter Tryd.func24, Tryd.ntmps24
  go_wp2_with fail
  exact bodyPost_ret (v := .tuple #[.agg #[.int .i64 0, .int .i64 0, .string ⟨#[]⟩, .bool false], .int .i64 7]) (by simp [results, Tryd.results24, go_sem]) rfl ⟨rfl, (((Below.refl _ _).alloc (Nat.le_refl _) _).alloc (by simp) _).alloc (by simp; omega) _⟩

theorem rjoin_kind2 (k n : Int) (t : ByteArray) (b : Bool) (k' n' : Int) (t' : ByteArray) (b' : Bool) (w : World) (hk : k = 0 ∨ k = 2) (h1 : (k' != 0) = true) (h2 : (k' != 2) = true) :
    Calls Tryd.prog 24 #[.agg #[.int .i64 k, .int .i64 n, .string t, .bool b], .agg #[.int .i64 k', .int .i64 n', .string t', .bool b']] w fun e w' => e = .returned (.tuple #[.agg #[.int .i64 0, .int .i64 0, .string ⟨#[]⟩, .bool false], .int .i64 7]) ∧ Below w.heap.size w w' := by
  rcases hk with rfl | rfl
  all_goals
    go_enter Tryd.func24, Tryd.ntmps24
    go_wp2_with fail
    exact bodyPost_ret (v := .tuple #[.agg #[.int .i64 0, .int .i64 0, .string ⟨#[]⟩, .bool false], .int .i64 7]) (by simp [results, Tryd.results24, go_sem]) rfl ⟨rfl, (((Below.refl _ _).alloc (Nat.le_refl _) _).alloc (by simp) _).alloc (by simp; omega) _⟩

theorem rjoin_null (k n : Int) (t : ByteArray) (b : Bool) (k' n' : Int) (t' : ByteArray) (b' : Bool) (w : World) (hk : (k = 0 ∧ k' = 0) ∨ (k = 0 ∧ k' = 2) ∨ (k = 2 ∧ k' = 0)) :
    Calls Tryd.prog 24 #[.agg #[.int .i64 k, .int .i64 n, .string t, .bool b], .agg #[.int .i64 k', .int .i64 n', .string t', .bool b']] w fun e w' => e = .returned (.tuple #[.agg #[.int .i64 0, .int .i64 0, .string ⟨#[]⟩, .bool false], .int .i64 0]) ∧ Below w.heap.size w w' := by
  rcases hk with ⟨rfl, rfl⟩ | ⟨rfl, rfl⟩ | ⟨rfl, rfl⟩
  all_goals
    go_enter Tryd.func24, Tryd.ntmps24
    go_wp2_with fail
    exact bodyPost_ret (v := .tuple #[.agg #[.int .i64 0, .int .i64 0, .string ⟨#[]⟩, .bool false], .int .i64 0]) (by simp [results, Tryd.results24, go_sem]) rfl ⟨rfl, (((Below.refl _ _).alloc (Nat.le_refl _) _).alloc (by simp) _).alloc (by simp; omega) _⟩

theorem rjoin_long (n : Int) (t : ByteArray) (b : Bool) (n' : Int) (t' : ByteArray) (b' : Bool) (w : World) (hl : t.size ≤ 140737488351232) (hl' : t'.size ≤ 140737488351232) (hb : 4096 < t.size + t'.size) :
    Calls Tryd.prog 24 #[.agg #[.int .i64 2, .int .i64 n, .string t, .bool b], .agg #[.int .i64 2, .int .i64 n', .string t', .bool b']] w fun e w' => e = .returned (.tuple #[.agg #[.int .i64 0, .int .i64 0, .string ⟨#[]⟩, .bool false], .int .i64 2]) ∧ Below w.heap.size w w' := by
  have g : (4096 : Int) < (t.size : Int) + (t'.size : Int) := by omega
  go_enter Tryd.func24, Tryd.ntmps24
  go_wp2_with fail
  exact bodyPost_ret (v := .tuple #[.agg #[.int .i64 0, .int .i64 0, .string ⟨#[]⟩, .bool false], .int .i64 2]) (by simp [results, Tryd.results24, go_sem]) rfl ⟨rfl, (((Below.refl _ _).alloc (Nat.le_refl _) _).alloc (by simp) _).alloc (by simp; omega) _⟩

theorem rjoin_ok (n : Int) (t : ByteArray) (b : Bool) (n' : Int) (t' : ByteArray) (b' : Bool) (w : World) (hb : t.size + t'.size ≤ 4096) :
    Calls Tryd.prog 24 #[.agg #[.int .i64 2, .int .i64 n, .string t, .bool b], .agg #[.int .i64 2, .int .i64 n', .string t', .bool b']] w fun e w' => e = .returned (.tuple #[.agg #[.int .i64 2, .int .i64 0, .string (t ++ t'), .bool false], .int .i64 0]) ∧ Below w.heap.size w w' := by
  have HTx : Hid (∀ W, Calls Tryd.prog 48 #[.string (t ++ t')] W fun e w' => e = .returned (.agg #[.int .i64 2, .int .i64 0, .string (t ++ t'), .bool false]) ∧ Below W.heap.size W w') := fun W => rtext_ _ W
  have g : ¬ (4096 : Int) < (t.size : Int) + (t'.size : Int) := by omega
  have F0 := Lib.hid (fr2_start w 2 n t b 2 n' t' b' 23)
  go_enter Tryd.func24, Tryd.ntmps24
  go_wp2_with fail
  refine (HTx.out _).mono ?_
  rintro e w1 ⟨rfl, hb1⟩
  have F1 := Lib.hid (F0.out.on hb1)
  clear F0 hb1
  obtain ⟨⟨p0, p1, p2, p3⟩, ⟨q0, q1, q2, q3⟩, ⟨r0, r1, r2, r3⟩, ⟨f0, f1, f2, f3⟩, hbw, hsz⟩ := F1.out
  go_wp2_with fail
  refine bodyPost_ret (v := .tuple #[.agg #[.int .i64 2, .int .i64 0, .string (t ++ t'), .bool false], .int .i64 0]) ?_ rfl ⟨rfl, four_set hbw (w.heap.size + 1 + 1) (by omega) _ _ _ _⟩
  simp [results, Tryd.results24, go_sem, r0, r1, r2, r3]

theorem rjoin_ (k n : Int) (t : ByteArray) (b : Bool) (k' n' : Int) (t' : ByteArray) (b' : Bool) (w : World) (hl : t.size ≤ 140737488351232) (hl' : t'.size ≤ 140737488351232) :
    Calls Tryd.prog 24 #[.agg #[.int .i64 k, .int .i64 n, .string t, .bool b], .agg #[.int .i64 k', .int .i64 n', .string t', .bool b']] w fun e w' => e = .returned (.tuple #[agV (jnR ⟨k, n, t, b⟩ ⟨k', n', t', b'⟩), .int .i64 (jnE ⟨k, n, t, b⟩ ⟨k', n', t', b'⟩)]) ∧ Below w.heap.size w w' := by
  rcases isK_cases 2 k with ⟨q, hi⟩ | ⟨q, z, hi⟩ | ⟨q, z, hi⟩
  · obtain rfl : k = 2 := by simpa using q
    rcases isK_cases 2 k' with ⟨q', hi'⟩ | ⟨q', z', hi'⟩ | ⟨q', z', hi'⟩
    · obtain rfl : k' = 2 := by simpa using q'
      by_cases hb : 4096 < t.size + t'.size
      · refine (rjoin_long n t b n' t' b' w hl hl' hb).mono fun e w' ⟨he, hbb⟩ => ⟨he.trans ?_, hbb⟩
        simp [jnR, jnE, isK, one0, hb, agV, vNull]
      · refine (rjoin_ok n t b n' t' b' w (by omega)).mono fun e w' ⟨he, hbb⟩ => ⟨he.trans ?_, hbb⟩
        simp [jnR, jnE, isK, one0, hb, agV]
    · obtain rfl : k' = 0 := by simpa using z'
      refine (rjoin_null 2 n t b 0 n' t' b' w (.inr (.inr ⟨rfl, rfl⟩))).mono fun e w' ⟨he, hbb⟩ => ⟨he.trans ?_, hbb⟩
      simp [jnR, jnE, isK, one0, agV, vNull]
    · refine (rjoin_kind2 2 n t b k' n' t' b' w (.inr rfl) z' q').mono fun e w' ⟨he, hbb⟩ => ⟨he.trans ?_, hbb⟩
      simp [jnR, jnE, hi', agV, vNull]
  · obtain rfl : k = 0 := by simpa using z
    rcases isK_cases 2 k' with ⟨q', hi'⟩ | ⟨q', z', hi'⟩ | ⟨q', z', hi'⟩
    · obtain rfl : k' = 2 := by simpa using q'
      refine (rjoin_null 0 n t b 2 n' t' b' w (.inr (.inl ⟨rfl, rfl⟩))).mono fun e w' ⟨he, hbb⟩ => ⟨he.trans ?_, hbb⟩
      simp [jnR, jnE, isK, one0, agV, vNull]
    · obtain rfl : k' = 0 := by simpa using z'
      refine (rjoin_null 0 n t b 0 n' t' b' w (.inl ⟨rfl, rfl⟩)).mono fun e w' ⟨he, hbb⟩ => ⟨he.trans ?_, hbb⟩
      simp [jnR, jnE, isK, one0, agV, vNull]
    · refine (rjoin_kind2 0 n t b k' n' t' b' w (.inl rfl) z' q').mono fun e w' ⟨he, hbb⟩ => ⟨he.trans ?_, hbb⟩
      simp [jnR, jnE, hi', agV, vNull]
  · refine (rjoin_kind1 k n t b k' n' t' b' w z q).mono fun e w' ⟨he, hbb⟩ => ⟨he.trans ?_, hbb⟩
    simp [jnR, jnE, hi, agV, vNull]
end Go.Proofs.YtfplncbechidnaaDoor
