/- The walk of the law ValueOrders. -/
import Derived.Test.YtfplncbechidnaaDoorR2
import Derived.Test.YtfplncbechidnaaDoorAs
import Derived.Test.YtfplncbechidnaaDoorSure
namespace Go.Proofs.YtfplncbechidnaaDoor
open Go.RowKit Go.Sort

theorem less_one (a b : Val) : eqR a b (fun c => (decide (c < 0))) = eqR a b (fun c => (c == -1)) := by
  unfold eqR
  have h1 := ordered_val.low a b
  have e : decide (cmpV a b < 0) = (cmpV a b == -1) := by rw [Bool.eq_iff_iff]; simp; omega
  simp only [e]
set_option maxHeartbeats 4000000 in
theorem orders_ (k n : Int) (t : ByteArray) (b : Bool) (k' n' : Int) (t' : ByteArray) (b' : Bool) (w : World) (hE : Env w) (hT : ErrType w) :
    Calls Tryd.prog 3 #[.agg #[.int .i64 k, .int .i64 n, .string t, .bool b], .agg #[.int .i64 k', .int .i64 n', .string t', .bool b']] w fun e w' => e = .returned (.bool true) ∧ Below w.heap.size w w' := by
  have H1 : Hid (∀ W, Calls Tryd.prog 8 #[.agg #[.int .i64 k, .int .i64 n, .string t, .bool b], .agg #[.int .i64 k', .int .i64 n', .string t', .bool b']] W fun e w' => e = .returned (.tuple #[agV (eqR ⟨k, n, t, b⟩ ⟨k', n', t', b'⟩ (fun c => (c == 0))), errV 45 (eqE k k')]) ∧ Below W.heap.size W w') := fun W => equal_ k n t b k' n' t' b' W
  have H2 : Hid (∀ W, Calls Tryd.prog 9 #[.agg #[.int .i64 k, .int .i64 n, .string t, .bool b], .agg #[.int .i64 k', .int .i64 n', .string t', .bool b'], .int .i64 0] W fun e w' => e = .returned (.tuple #[agV (eqR ⟨k, n, t, b⟩ ⟨k', n', t', b'⟩ (fun c => (c == 0))), .int .i64 (eqE k k')]) ∧ Below W.heap.size W w') := fun W => rorder_ 0 k n t b k' n' t' b' W
  have H3 : Hid (∀ W, Calls Tryd.prog 10 #[.agg #[.int .i64 k, .int .i64 n, .string t, .bool b], .agg #[.int .i64 k', .int .i64 n', .string t', .bool b']] W fun e w' => e = .returned (.tuple #[agV (eqR ⟨k, n, t, b⟩ ⟨k', n', t', b'⟩ (fun c => (c == -1))), errV 45 (eqE k k')]) ∧ Below W.heap.size W w') := fun W => by rw [← less_one]; exact less_ k n t b k' n' t' b' W
  have H4 : Hid (∀ W, Calls Tryd.prog 9 #[.agg #[.int .i64 k, .int .i64 n, .string t, .bool b], .agg #[.int .i64 k', .int .i64 n', .string t', .bool b'], .int .i64 (-1)] W fun e w' => e = .returned (.tuple #[agV (eqR ⟨k, n, t, b⟩ ⟨k', n', t', b'⟩ (fun c => (c == -1))), .int .i64 (eqE k k')]) ∧ Below W.heap.size W w') := fun W => rorder_ (-1) k n t b k' n' t' b' W
  have HC : Hid (∀ W, Calls Tryd.prog 11 #[.agg #[.int .i64 k, .int .i64 n, .string t, .bool b], .agg #[.int .i64 k', .int .i64 n', .string t', .bool b']] W fun e w' => e = .returned (.int .i64 (cmpV ⟨k, n, t, b⟩ ⟨k', n', t', b'⟩)) ∧ Below W.heap.size W w') := fun W => comp_ k n t b k' n' t' b' W
  have HC' : Hid (∀ W, Calls Tryd.prog 12 #[.agg #[.int .i64 k, .int .i64 n, .string t, .bool b], .agg #[.int .i64 k', .int .i64 n', .string t', .bool b']] W fun e w' => e = .returned (.int .i64 (cmpV ⟨k, n, t, b⟩ ⟨k', n', t', b'⟩)) ∧ Below W.heap.size W w') := fun W => rcomp_ k n t b k' n' t' b' W
  have HN : Hid (∀ W, ErrType W → Calls Tryd.prog 13 #[errV 45 (eqE k k')] W fun e w' => e = .returned (.int .i64 (eqE k k')) ∧ Below W.heap.size W w') := fun W hW => num_ _ W hW
  have HS : Hid (∀ W, Env W → Calls Tryd.prog 14 #[] W fun e w' => e = .returned (.bool true) ∧ Below W.heap.size W w') := fun W hW => sure_ W hW
  have HE := Lib.hid hE
  have HT := Lib.hid hT
  clear hE hT
  generalize eqR ⟨k, n, t, b⟩ ⟨k', n', t', b'⟩ (fun c => (c == 0)) = X at *
  generalize eqR ⟨k, n, t, b⟩ ⟨k', n', t', b'⟩ (fun c => (c == -1)) = U at *
  generalize errV 45 (eqE k k') = E at *
  generalize eqE k k' = f at *
  generalize cmpV ⟨k, n, t, b⟩ ⟨k', n', t', b'⟩ = c at *
  obtain ⟨xk, xn, xt, xb⟩ := X
  obtain ⟨uk, un, ut, ub⟩ := U
  simp only [agV] at *
  have hEQ : ∀ W, (Op.equalIn 10000 23 (.agg #[.int .i64 xk, .int .i64 xn, .string xt, .bool xb]) (.agg #[.int .i64 xk, .int .i64 xn, .string xt, .bool xb])).run Tryd.prog W = .ok true W := fun W => by rw [eqIn_, sameV_refl]
  have hEQ2 : ∀ W, (Op.equalIn 10000 23 (.agg #[.int .i64 uk, .int .i64 un, .string ut, .bool ub]) (.agg #[.int .i64 uk, .int .i64 un, .string ut, .bool ub])).run Tryd.prog W = .ok true W := fun W => by rw [eqIn_, sameV_refl]
  have hGD := guardV
  have Pa : Hid (In4 ((w.alloc (.cells #[.int .i64 k, .int .i64 n, .string t, .bool b] 23)).alloc (.cells #[.int .i64 k', .int .i64 n', .string t', .bool b'] 23)) (w.heap.size) 0 k n t b) := Lib.hid (by have := (in4_new w k n t b 23).alloc (.cells #[.int .i64 k', .int .i64 n', .string t', .bool b'] 23); simpa using this)
  have Pb : Hid (In4 ((w.alloc (.cells #[.int .i64 k, .int .i64 n, .string t, .bool b] 23)).alloc (.cells #[.int .i64 k', .int .i64 n', .string t', .bool b'] 23)) (w.heap.size + 1) 0 k' n' t' b') := Lib.hid (by have := in4_new (w.alloc (.cells #[.int .i64 k, .int .i64 n, .string t, .bool b] 23)) k' n' t' b' 23; simpa using this)
  have HB : Hid (Below w.heap.size w ((w.alloc (.cells #[.int .i64 k, .int .i64 n, .string t, .bool b] 23)).alloc (.cells #[.int .i64 k', .int .i64 n', .string t', .bool b'] 23))) := (((Below.refl _ _).alloc (by simp) _).alloc (by simp) _)
  go_enter Tryd.func3, Tryd.ntmps3
  go_wp2_with fail
  refine (H1.out _).mono ?_
  rintro e w1 ⟨rfl, hb1⟩
  replace Pa := Lib.hid (Pa.out.on hb1)
  replace Pb := Lib.hid (Pb.out.on hb1)
  replace HB := Lib.hid (below_step HB.out hb1)
  clear hb1
  replace Pa := Lib.hid (Pa.out.alloc (.cells #[.int .i64 xk, .int .i64 xn, .string xt, .bool xb] 23))
  replace Pb := Lib.hid (Pb.out.alloc (.cells #[.int .i64 xk, .int .i64 xn, .string xt, .bool xb] 23))
  have Px := Lib.hid (in4_new w1 xk xn xt xb 23)
  replace HB : Hid (Below w.heap.size w (w1.alloc (.cells #[.int .i64 xk, .int .i64 xn, .string xt, .bool xb] 23))) := below_step HB.out ((Below.refl _ _).alloc (Nat.le_refl _) _)
  obtain ⟨ca0, ca1, ca2, ca3⟩ := Pa.out
  obtain ⟨cb0, cb1, cb2, cb3⟩ := Pb.out
  obtain ⟨cx0, cx1, cx2, cx3⟩ := Px.out
  go_wp2_with fail
  refine (H2.out _).mono ?_
  rintro e w2 ⟨rfl, hb2⟩
  clear ca0 ca1 ca2 ca3 cb0 cb1 cb2 cb3 cx0 cx1 cx2 cx3
  replace Pa := Lib.hid (Pa.out.on hb2)
  replace Pb := Lib.hid (Pb.out.on hb2)
  replace Px := Lib.hid (Px.out.on hb2)
  replace HB := Lib.hid (below_step HB.out hb2)
  clear hb2
  replace Pa := Lib.hid (Pa.out.alloc (.cells #[.int .i64 xk, .int .i64 xn, .string xt, .bool xb] 23))
  replace Pb := Lib.hid (Pb.out.alloc (.cells #[.int .i64 xk, .int .i64 xn, .string xt, .bool xb] 23))
  replace Px := Lib.hid (Px.out.alloc (.cells #[.int .i64 xk, .int .i64 xn, .string xt, .bool xb] 23))
  have Py := Lib.hid (in4_new w2 xk xn xt xb 23)
  replace HB : Hid (Below w.heap.size w (w2.alloc (.cells #[.int .i64 xk, .int .i64 xn, .string xt, .bool xb] 23))) := below_step HB.out ((Below.refl _ _).alloc (Nat.le_refl _) _)
  obtain ⟨ca0, ca1, ca2, ca3⟩ := Pa.out
  obtain ⟨cb0, cb1, cb2, cb3⟩ := Pb.out
  obtain ⟨cx0, cx1, cx2, cx3⟩ := Px.out
  obtain ⟨cy0, cy1, cy2, cy3⟩ := Py.out
  go_wp2_with fail
  refine (H3.out _).mono ?_
  rintro e w3 ⟨rfl, hb3⟩
  clear ca0 ca1 ca2 ca3 cb0 cb1 cb2 cb3 cx0 cx1 cx2 cx3 cy0 cy1 cy2 cy3
  replace Pa := Lib.hid (Pa.out.on hb3)
  replace Pb := Lib.hid (Pb.out.on hb3)
  replace Px := Lib.hid (Px.out.on hb3)
  replace Py := Lib.hid (Py.out.on hb3)
  replace HB := Lib.hid (below_step HB.out hb3)
  clear hb3
  replace Pa := Lib.hid (Pa.out.alloc (.cells #[.int .i64 uk, .int .i64 un, .string ut, .bool ub] 23))
  replace Pb := Lib.hid (Pb.out.alloc (.cells #[.int .i64 uk, .int .i64 un, .string ut, .bool ub] 23))
  replace Px := Lib.hid (Px.out.alloc (.cells #[.int .i64 uk, .int .i64 un, .string ut, .bool ub] 23))
  replace Py := Lib.hid (Py.out.alloc (.cells #[.int .i64 uk, .int .i64 un, .string ut, .bool ub] 23))
  have Pu := Lib.hid (in4_new w3 uk un ut ub 23)
  replace HB : Hid (Below w.heap.size w (w3.alloc (.cells #[.int .i64 uk, .int .i64 un, .string ut, .bool ub] 23))) := below_step HB.out ((Below.refl _ _).alloc (Nat.le_refl _) _)
  obtain ⟨ca0, ca1, ca2, ca3⟩ := Pa.out
  obtain ⟨cb0, cb1, cb2, cb3⟩ := Pb.out
  obtain ⟨cx0, cx1, cx2, cx3⟩ := Px.out
  obtain ⟨cy0, cy1, cy2, cy3⟩ := Py.out
  obtain ⟨cu0, cu1, cu2, cu3⟩ := Pu.out
  go_wp2_with fail
  refine (H4.out _).mono ?_
  rintro e w4 ⟨rfl, hb4⟩
  clear ca0 ca1 ca2 ca3 cb0 cb1 cb2 cb3 cx0 cx1 cx2 cx3 cy0 cy1 cy2 cy3 cu0 cu1 cu2 cu3
  replace Pa := Lib.hid (Pa.out.on hb4)
  replace Pb := Lib.hid (Pb.out.on hb4)
  replace Px := Lib.hid (Px.out.on hb4)
  replace Py := Lib.hid (Py.out.on hb4)
  replace Pu := Lib.hid (Pu.out.on hb4)
  replace HB := Lib.hid (below_step HB.out hb4)
  clear hb4
  replace Pa := Lib.hid (Pa.out.alloc (.cells #[.int .i64 uk, .int .i64 un, .string ut, .bool ub] 23))
  replace Pb := Lib.hid (Pb.out.alloc (.cells #[.int .i64 uk, .int .i64 un, .string ut, .bool ub] 23))
  replace Px := Lib.hid (Px.out.alloc (.cells #[.int .i64 uk, .int .i64 un, .string ut, .bool ub] 23))
  replace Py := Lib.hid (Py.out.alloc (.cells #[.int .i64 uk, .int .i64 un, .string ut, .bool ub] 23))
  replace Pu := Lib.hid (Pu.out.alloc (.cells #[.int .i64 uk, .int .i64 un, .string ut, .bool ub] 23))
  have Pv := Lib.hid (in4_new w4 uk un ut ub 23)
  replace HB : Hid (Below w.heap.size w (w4.alloc (.cells #[.int .i64 uk, .int .i64 un, .string ut, .bool ub] 23))) := below_step HB.out ((Below.refl _ _).alloc (Nat.le_refl _) _)
  obtain ⟨ca0, ca1, ca2, ca3⟩ := Pa.out
  obtain ⟨cb0, cb1, cb2, cb3⟩ := Pb.out
  obtain ⟨cx0, cx1, cx2, cx3⟩ := Px.out
  obtain ⟨cy0, cy1, cy2, cy3⟩ := Py.out
  obtain ⟨cu0, cu1, cu2, cu3⟩ := Pu.out
  obtain ⟨cv0, cv1, cv2, cv3⟩ := Pv.out
  go_wp2_with fail
  have HBq : Hid (Below w.heap.size w (w4.alloc (.cells #[.int .i64 uk, .int .i64 un, .string ut, .bool ub] 23))) := HB.out
  clear ca0 ca1 ca2 ca3 cb0 cb1 cb2 cb3 cx0 cx1 cx2 cx3 cy0 cy1 cy2 cy3 cu0 cu1 cu2 cu3 cv0 cv1 cv2 cv3
  obtain ⟨ca0, ca1, ca2, ca3⟩ := Pa.out
  obtain ⟨cb0, cb1, cb2, cb3⟩ := Pb.out
  obtain ⟨cx0, cx1, cx2, cx3⟩ := Px.out
  obtain ⟨cy0, cy1, cy2, cy3⟩ := Py.out
  obtain ⟨cu0, cu1, cu2, cu3⟩ := Pu.out
  obtain ⟨cv0, cv1, cv2, cv3⟩ := Pv.out
  replace ca0 := cell_regrown ca0
  replace ca1 := cell_regrown ca1
  replace ca2 := cell_regrown ca2
  replace ca3 := cell_regrown ca3
  replace cb0 := cell_regrown cb0
  replace cb1 := cell_regrown cb1
  replace cb2 := cell_regrown cb2
  replace cb3 := cell_regrown cb3
  replace cx0 := cell_regrown cx0
  replace cx1 := cell_regrown cx1
  replace cx2 := cell_regrown cx2
  replace cx3 := cell_regrown cx3
  replace cy0 := cell_regrown cy0
  replace cy1 := cell_regrown cy1
  replace cy2 := cell_regrown cy2
  replace cy3 := cell_regrown cy3
  replace cu0 := cell_regrown cu0
  replace cu1 := cell_regrown cu1
  replace cu2 := cell_regrown cu2
  replace cu3 := cell_regrown cu3
  replace cv0 := cell_regrown cv0
  replace cv1 := cell_regrown cv1
  replace cv2 := cell_regrown cv2
  replace cv3 := cell_regrown cv3
  have HEQ : Hid (∀ d os, Env (grow (redrawn (w4.alloc (.cells #[.int .i64 uk, .int .i64 un, .string ut, .bool ub] 23)) d) os)) := fun d os => (HE.out.on HBq.out).on (below_regrown _ d os)
  have HTQ : Hid (∀ d os, ErrType (grow (redrawn (w4.alloc (.cells #[.int .i64 uk, .int .i64 un, .string ut, .bool ub] 23)) d) os)) := fun d os => (HT.out.on HBq.out).on (below_regrown _ d os)
  refine wp_region_quiet_below (by kernel_rfl) (by kernel_rfl) ?_
  repeat (go_big_quiet_step (first | (go_at_call 11; exact Calls.regrown_of (HC.out _)) | (go_at_call 12; exact Calls.regrown_of (HC'.out _)) | (go_at_call 13; exact Calls.regrown_of (HN.out _ (HTQ.out _ _))) | (go_at_call 14; exact Calls.regrown_of (HS.out _ (HEQ.out _ _)))))
  refine wpQuiet_nil ?_
  intro _ hw'
  obtain ⟨⟨dq, osq⟩, hw''⟩ := hw'
  subst hw''
  have hbq := Lib.hid (below_step HBq.out (below_regrown (w4.alloc (.cells #[.int .i64 uk, .int .i64 un, .string ut, .bool ub] 23)) dq osq))
  generalize grow (redrawn (w4.alloc (.cells #[.int .i64 uk, .int .i64 un, .string ut, .bool ub] 23)) dq) osq = WL at *
  go_wp2_with fail
  go_ret
  exact ⟨rfl, hbq.out⟩
end Go.Proofs.YtfplncbechidnaaDoor
