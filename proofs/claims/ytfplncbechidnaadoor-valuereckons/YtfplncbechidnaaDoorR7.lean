/- The document's Reckon, at whatever values. -/
import Derived.Test.YtfplncbechidnaaDoorR5
import Derived.Test.YtfplncbechidnaaDoorR6
namespace Go.Proofs.YtfplncbechidnaaDoor
open Go.RowKit Go.Sort

theorem rk_ok {op n n' N : Int} {t t' : ByteArray} {b b' : Bool} (ho : ¬ opIx op < 0) (h : reck op n n' = .ok N) : Value.tuple #[.agg #[.int .i64 1, .int .i64 N, .string ⟨#[]⟩, .bool false], .int .i64 0] = .tuple #[agV (rkR op ⟨1, n, t, b⟩ ⟨1, n', t', b'⟩), .int .i64 (rkE op ⟨1, n, t, b⟩ ⟨1, n', t', b'⟩)] := by
  simp [rkR, rkE, ho, isK, one0, h, ansE, agV, vInt]
theorem rk_er {op n n' x : Int} {t t' : ByteArray} {b b' : Bool} (ho : ¬ opIx op < 0) (h : reck op n n' = .error x) : Value.tuple #[.agg #[.int .i64 0, .int .i64 0, .string ⟨#[]⟩, .bool false], .int .i64 x] = .tuple #[agV (rkR op ⟨1, n, t, b⟩ ⟨1, n', t', b'⟩), .int .i64 (rkE op ⟨1, n, t, b⟩ ⟨1, n', t', b'⟩)] := by
  simp [rkR, rkE, ho, isK, one0, h, ansE, agV, vNull]
theorem ret_eq {f : FuncId} {args : Array Value} {w : World} {a b : Value} (e : a = b) (h : Calls Tryd.prog f args w fun e w' => e = .returned a ∧ Below w.heap.size w w') : Calls Tryd.prog f args w fun e w' => e = .returned b ∧ Below w.heap.size w w' := e ▸ h
theorem rr_43 (n : Int) (t : ByteArray) (b : Bool) (n' : Int) (t' : ByteArray) (b' : Bool) (w : World) (hn : inI n) (hn' : inI n') :
    Calls Tryd.prog 22 #[.int .u8 43, .agg #[.int .i64 1, .int .i64 n, .string t, .bool b], .agg #[.int .i64 1, .int .i64 n', .string t', .bool b']] w fun e w' => e = .returned (.tuple #[agV (rkR 43 ⟨1, n, t, b⟩ ⟨1, n', t', b'⟩), .int .i64 (rkE 43 ⟨1, n, t, b⟩ ⟨1, n', t', b'⟩)]) ∧ Below w.heap.size w w' := by
  have hp := fun W => plus_ n n' W hn hn'
  by_cases hi : inI (n + n')
  · rw [intN, if_pos hi, decide_eq_true hi] at hp
    exact ret_eq (rk_ok (by decide) (by simp [reck, keep, hi])) (rr_plus_ok n t b n' t' b' w _ hp)
  · rw [intN, if_neg hi, decide_eq_false hi] at hp
    exact ret_eq (rk_er (by decide) (by simp [reck, keep, hi])) (rr_plus_no n t b n' t' b' w _ hp)
theorem rr_42 (n : Int) (t : ByteArray) (b : Bool) (n' : Int) (t' : ByteArray) (b' : Bool) (w : World) (hn : inI n) (hn' : inI n') :
    Calls Tryd.prog 22 #[.int .u8 42, .agg #[.int .i64 1, .int .i64 n, .string t, .bool b], .agg #[.int .i64 1, .int .i64 n', .string t', .bool b']] w fun e w' => e = .returned (.tuple #[agV (rkR 42 ⟨1, n, t, b⟩ ⟨1, n', t', b'⟩), .int .i64 (rkE 42 ⟨1, n, t, b⟩ ⟨1, n', t', b'⟩)]) ∧ Below w.heap.size w w' := by
  obtain ⟨v, hv, hp⟩ := times_ n n' hn hn'
  by_cases hi : inI (n * n')
  · rw [decide_eq_true hi] at hp
    obtain rfl := hv hi
    exact ret_eq (rk_ok (by decide) (by simp [reck, keep, hi])) (rr_times_ok n t b n' t' b' w _ hp)
  · rw [decide_eq_false hi] at hp
    exact ret_eq (rk_er (by decide) (by simp [reck, keep, hi])) (rr_times_no n t b n' t' b' w _ hp)
theorem rr_45 (n : Int) (t : ByteArray) (b : Bool) (n' : Int) (t' : ByteArray) (b' : Bool) (w : World) (hn : inI n) (hn' : inI n') :
    Calls Tryd.prog 22 #[.int .u8 45, .agg #[.int .i64 1, .int .i64 n, .string t, .bool b], .agg #[.int .i64 1, .int .i64 n', .string t', .bool b']] w fun e w' => e = .returned (.tuple #[agV (rkR 45 ⟨1, n, t, b⟩ ⟨1, n', t', b'⟩), .int .i64 (rkE 45 ⟨1, n, t, b⟩ ⟨1, n', t', b'⟩)]) ∧ Below w.heap.size w w' := by
  have g1 := hn.1; have g2 := hn.2; have g3 := hn'.1; have g4 := hn'.2
  by_cases hl : n' = -9223372036854775808
  · subst hl
    have hp := fun W => plus_ n 9223372036854775807 W hn (by unfold inI; omega)
    by_cases hi : inI (n + 9223372036854775807)
    · rw [intN, if_pos hi, decide_eq_true hi] at hp
      have hq := fun W => plus_ (n + 9223372036854775807) 1 W hi (by unfold inI; omega)
      by_cases hj : inI (n + 9223372036854775807 + 1)
      · rw [intN, if_pos hj, decide_eq_true hj] at hq
        refine ret_eq (rk_ok (by decide) ?_) (rr_least_ok n t b t' b' w _ _ hp hq)
        have e : n - -9223372036854775808 = n + 9223372036854775807 + 1 := by omega
        rw [reck, if_neg (by decide), if_pos rfl, e, keep, if_pos hj]
      · rw [intN, if_neg hj, decide_eq_false hj] at hq
        refine ret_eq (rk_er (by decide) ?_) (rr_least_no n t b t' b' w _ _ hp hq)
        have e : n - -9223372036854775808 = n + 9223372036854775807 + 1 := by omega
        rw [reck, if_neg (by decide), if_pos rfl, e, keep, if_neg hj]
    · rw [intN, if_neg hi, decide_eq_false hi] at hp
      refine ret_eq (rk_er (by decide) ?_) (rr_least_no2 n t b t' b' w _ hp)
      have hj : ¬ inI (n - -9223372036854775808) := by unfold inI at hi ⊢; omega
      rw [reck, if_neg (by decide), if_pos rfl, keep, if_neg hj]
  · have im : inI (-n') := by unfold inI; omega
    have hp := fun W => plus_ n (-n') W hn im
    have e : n + -n' = n - n' := by omega
    rw [e] at hp
    by_cases hi : inI (n - n')
    · rw [intN, if_pos hi, decide_eq_true hi] at hp
      exact ret_eq (rk_ok (by decide) (by rw [reck, if_neg (by decide), if_pos rfl, keep, if_pos hi])) (rr_minus_ok n t b n' t' b' w _ (by simpa using hl) (wrap_in im) hp)
    · rw [intN, if_neg hi, decide_eq_false hi] at hp
      exact ret_eq (rk_er (by decide) (by rw [reck, if_neg (by decide), if_pos rfl, keep, if_neg hi])) (rr_minus_no n t b n' t' b' w _ (by simpa using hl) (wrap_in im) hp)
theorem rr_47 (n : Int) (t : ByteArray) (b : Bool) (n' : Int) (t' : ByteArray) (b' : Bool) (w : World) (hn : inI n) :
    Calls Tryd.prog 22 #[.int .u8 47, .agg #[.int .i64 1, .int .i64 n, .string t, .bool b], .agg #[.int .i64 1, .int .i64 n', .string t', .bool b']] w fun e w' => e = .returned (.tuple #[agV (rkR 47 ⟨1, n, t, b⟩ ⟨1, n', t', b'⟩), .int .i64 (rkE 47 ⟨1, n, t, b⟩ ⟨1, n', t', b'⟩)]) ∧ Below w.heap.size w w' := by
  have g1 := hn.1; have g2 := hn.2
  by_cases h0 : n' = 0
  · subst h0
    exact ret_eq (rk_er (by decide) (by simp [reck])) (rr_div0 n t b t' b' w)
  by_cases h1 : n' = -1
  · subst h1
    by_cases hl : n = -9223372036854775808
    · subst hl
      refine ret_eq (rk_er (by decide) ?_) (rr_div1_no t b t' b' w)
      show keep (Int.tdiv (-9223372036854775808) (-1)) = _
      rw [keep, if_neg (by rw [tdiv_neg1]; unfold inI; omega)]
    · have im : inI (-n) := by unfold inI; omega
      refine ret_eq (rk_ok (by decide) ?_) (rr_div1_ok n t b t' b' w (by simpa using hl) (wrap_in im))
      show keep (Int.tdiv n (-1)) = _
      rw [tdiv_neg1, keep, if_pos im]
  · have hq := quot_in hn h0 (fun h => h1 h.2)
    refine ret_eq (rk_ok (by decide) ?_) (rr_div n t b n' t' b' w _ h0 (by simpa using h0) (by simpa using h1) (wrap_in hq))
    simp [reck, h0, keep, hq]
theorem rr_37 (n : Int) (t : ByteArray) (b : Bool) (n' : Int) (t' : ByteArray) (b' : Bool) (w : World) :
    Calls Tryd.prog 22 #[.int .u8 37, .agg #[.int .i64 1, .int .i64 n, .string t, .bool b], .agg #[.int .i64 1, .int .i64 n', .string t', .bool b']] w fun e w' => e = .returned (.tuple #[agV (rkR 37 ⟨1, n, t, b⟩ ⟨1, n', t', b'⟩), .int .i64 (rkE 37 ⟨1, n, t, b⟩ ⟨1, n', t', b'⟩)]) ∧ Below w.heap.size w w' := by
  by_cases h0 : n' = 0
  · subst h0
    exact ret_eq (rk_er (by decide) (by simp [reck])) (rr_mod0 n t b t' b' w)
  by_cases h1 : n' = -1
  · subst h1
    refine ret_eq (rk_ok (by decide) ?_) (rr_mod1 n t b t' b' w)
    show Except.ok (Int.tmod n (-1)) = _
    rw [tmod_neg1]
  · refine ret_eq (rk_ok (by decide) ?_) (rr_mod n t b n' t' b' w _ h0 (by simpa using h0) (by simpa using h1) rfl)
    simp [reck, h0]
theorem rreckon_ (op : Int) (k n : Int) (t : ByteArray) (b : Bool) (k' n' : Int) (t' : ByteArray) (b' : Bool) (w : World) (h0 : 0 ≤ op) (h1 : op ≤ 255) (hn : inI n) (hn' : inI n') :
    Calls Tryd.prog 22 #[.int .u8 op, .agg #[.int .i64 k, .int .i64 n, .string t, .bool b], .agg #[.int .i64 k', .int .i64 n', .string t', .bool b']] w fun e w' => e = .returned (.tuple #[agV (rkR op ⟨k, n, t, b⟩ ⟨k', n', t', b'⟩), .int .i64 (rkE op ⟨k, n, t, b⟩ ⟨k', n', t', b'⟩)]) ∧ Below w.heap.size w w' := by
  by_cases hop : opIx op < 0
  · have hno := (opIx_iff h0 h1).1 hop
    unfold isOp at hno
    refine (rreckon_form op k n t b k' n' t' b' w (by simp only [bne_iff_ne]; omega) (by simp only [bne_iff_ne]; omega) (by simp only [bne_iff_ne]; omega) (by simp only [bne_iff_ne]; omega) (by simp only [bne_iff_ne]; omega)).mono fun e w' ⟨he, hb⟩ => ⟨he.trans ?_, hb⟩
    simp [rkR, rkE, hop, agV, vNull]
  have his : isOp op := Classical.byContradiction fun h => hop ((opIx_iff h0 h1).2 h)
  rcases isK_cases 1 k with ⟨q, hi⟩ | ⟨q, z, hi⟩ | ⟨q, z, hi⟩
  · obtain rfl : k = 1 := by simpa using q
    rcases isK_cases 1 k' with ⟨q', hi'⟩ | ⟨q', z', hi'⟩ | ⟨q', z', hi'⟩
    · obtain rfl : k' = 1 := by simpa using q'
      rcases his with rfl | rfl | rfl | rfl | rfl
      · exact rr_43 n t b n' t' b' w hn hn'
      · exact rr_45 n t b n' t' b' w hn hn'
      · exact rr_42 n t b n' t' b' w hn hn'
      · exact rr_47 n t b n' t' b' w hn
      · exact rr_37 n t b n' t' b' w
    · obtain rfl : k' = 0 := by simpa using z'
      refine (rreckon_null op 1 n t b 0 n' t' b' w his (.inr (.inr ⟨rfl, rfl⟩))).mono fun e w' ⟨he, hbb⟩ => ⟨he.trans ?_, hbb⟩
      simp [rkR, rkE, hop, isK, one0, agV, vNull]
    · refine (rreckon_kind2 op 1 n t b k' n' t' b' w his (.inr rfl) z' q').mono fun e w' ⟨he, hbb⟩ => ⟨he.trans ?_, hbb⟩
      simp [rkR, rkE, hop, hi', agV, vNull]
  · obtain rfl : k = 0 := by simpa using z
    rcases isK_cases 1 k' with ⟨q', hi'⟩ | ⟨q', z', hi'⟩ | ⟨q', z', hi'⟩
    · obtain rfl : k' = 1 := by simpa using q'
      refine (rreckon_null op 0 n t b 1 n' t' b' w his (.inr (.inl ⟨rfl, rfl⟩))).mono fun e w' ⟨he, hbb⟩ => ⟨he.trans ?_, hbb⟩
      simp [rkR, rkE, hop, isK, one0, agV, vNull]
    · obtain rfl : k' = 0 := by simpa using z'
      refine (rreckon_null op 0 n t b 0 n' t' b' w his (.inl ⟨rfl, rfl⟩)).mono fun e w' ⟨he, hbb⟩ => ⟨he.trans ?_, hbb⟩
      simp [rkR, rkE, hop, isK, one0, agV, vNull]
    · refine (rreckon_kind2 op 0 n t b k' n' t' b' w his (.inl rfl) z' q').mono fun e w' ⟨he, hbb⟩ => ⟨he.trans ?_, hbb⟩
      simp [rkR, rkE, hop, hi', agV, vNull]
  · refine (rreckon_kind1 op k n t b k' n' t' b' w his z q).mono fun e w' ⟨he, hbb⟩ => ⟨he.trans ?_, hbb⟩
    simp [rkR, rkE, hop, hi, agV, vNull]
end Go.Proofs.YtfplncbechidnaaDoor
