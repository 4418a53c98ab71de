/- The walk of the law ValueReckons. -/
import Derived.Test.YtfplncbechidnaaDoorR7
import Derived.Test.YtfplncbechidnaaDoorAs
import Derived.Test.YtfplncbechidnaaDoorSure
namespace Go.Proofs.YtfplncbechidnaaDoor
open Go.RowKit Go.Sort

set_option maxHeartbeats 4000000 in
theorem reckons_ (op : Int) (k n : Int) (t : ByteArray) (b : Bool) (k' n' : Int) (t' : ByteArray) (b' : Bool) (w : World) (hop : 0 ≤ op ∧ op ≤ 255) (hn : inI n) (hl : t.size ≤ 140737488351232) (hn' : inI n') (hl' : t'.size ≤ 140737488351232) (hE : Env w) (hT : ErrType w) :
    Calls Tryd.prog 5 #[.int .u8 op, .agg #[.int .i64 k, .int .i64 n, .string t, .bool b], .agg #[.int .i64 k', .int .i64 n', .string t', .bool b']] w fun e w' => e = .returned (.bool true) ∧ Below w.heap.size w w' := by
  have H1 : Hid (∀ W, Calls Tryd.prog 21 #[.int .u8 op, .agg #[.int .i64 k, .int .i64 n, .string t, .bool b], .agg #[.int .i64 k', .int .i64 n', .string t', .bool b']] W fun e w' => e = .returned (.tuple #[agV (rkR op ⟨k, n, t, b⟩ ⟨k', n', t', b'⟩), errV 45 (rkE op ⟨k, n, t, b⟩ ⟨k', n', t', b'⟩)]) ∧ Below W.heap.size W w') := fun W => reckon_ op k n t b k' n' t' b' W hop.1 hop.2 hn hn'
  have H2 : Hid (∀ W, Calls Tryd.prog 22 #[.int .u8 op, .agg #[.int .i64 k, .int .i64 n, .string t, .bool b], .agg #[.int .i64 k', .int .i64 n', .string t', .bool b']] W fun e w' => e = .returned (.tuple #[agV (rkR op ⟨k, n, t, b⟩ ⟨k', n', t', b'⟩), .int .i64 (rkE op ⟨k, n, t, b⟩ ⟨k', n', t', b'⟩)]) ∧ Below W.heap.size W w') := fun W => rreckon_ op k n t b k' n' t' b' W hop.1 hop.2 hn hn'
  have H3 : Hid (∀ W, Calls Tryd.prog 23 #[.agg #[.int .i64 k, .int .i64 n, .string t, .bool b], .agg #[.int .i64 k', .int .i64 n', .string t', .bool b']] W fun e w' => e = .returned (.tuple #[agV (jnR ⟨k, n, t, b⟩ ⟨k', n', t', b'⟩), errV 45 (jnE ⟨k, n, t, b⟩ ⟨k', n', t', b'⟩)]) ∧ Below W.heap.size W w') := fun W => join_ k n t b k' n' t' b' W hl hl'
  have H4 : Hid (∀ W, Calls Tryd.prog 24 #[.agg #[.int .i64 k, .int .i64 n, .string t, .bool b], .agg #[.int .i64 k', .int .i64 n', .string t', .bool b']] W fun e w' => e = .returned (.tuple #[agV (jnR ⟨k, n, t, b⟩ ⟨k', n', t', b'⟩), .int .i64 (jnE ⟨k, n, t, b⟩ ⟨k', n', t', b'⟩)]) ∧ Below W.heap.size W w') := fun W => rjoin_ k n t b k' n' t' b' W hl hl'
  have HN : Hid (∀ W, ErrType W → Calls Tryd.prog 13 #[errV 45 (rkE op ⟨k, n, t, b⟩ ⟨k', n', t', b'⟩)] W fun e w' => e = .returned (.int .i64 (rkE op ⟨k, n, t, b⟩ ⟨k', n', t', b'⟩)) ∧ Below W.heap.size W w') := fun W hW => num_ _ W hW
  have HN2 : Hid (∀ W, ErrType W → Calls Tryd.prog 13 #[errV 45 (jnE ⟨k, n, t, b⟩ ⟨k', n', t', b'⟩)] W fun e w' => e = .returned (.int .i64 (jnE ⟨k, n, t, b⟩ ⟨k', n', t', b'⟩)) ∧ Below W.heap.size W w') := fun W hW => num_ _ W hW
  have HS : Hid (∀ W, Env W → Calls Tryd.prog 14 #[] W fun e w' => e = .returned (.bool true) ∧ Below W.heap.size W w') := fun W hW => sure_ W hW
  have HE := Lib.hid hE
  have HT := Lib.hid hT
  clear hE hT hop hn hl hn' hl'
  generalize rkR op ⟨k, n, t, b⟩ ⟨k', n', t', b'⟩ = X at *
  generalize jnR ⟨k, n, t, b⟩ ⟨k', n', t', b'⟩ = U at *
  generalize errV 45 (rkE op ⟨k, n, t, b⟩ ⟨k', n', t', b'⟩) = E at *
  generalize rkE op ⟨k, n, t, b⟩ ⟨k', n', t', b'⟩ = f at *
  generalize errV 45 (jnE ⟨k, n, t, b⟩ ⟨k', n', t', b'⟩) = E' at *
  generalize jnE ⟨k, n, t, b⟩ ⟨k', n', t', b'⟩ = g at *
  obtain ⟨xk, xn, xt, xb⟩ := X
  obtain ⟨uk, un, ut, ub⟩ := U
  simp only [agV] at *
  have hEQ : ∀ W, (Op.equalIn 10000 23 (.agg #[.int .i64 xk, .int .i64 xn, .string xt, .bool xb]) (.agg #[.int .i64 xk, .int .i64 xn, .string xt, .bool xb])).run Tryd.prog W = .ok true W := fun W => by rw [eqIn_, sameV_refl]
  have hEQ2 : ∀ W, (Op.equalIn 10000 23 (.agg #[.int .i64 uk, .int .i64 un, .string ut, .bool ub]) (.agg #[.int .i64 uk, .int .i64 un, .string ut, .bool ub])).run Tryd.prog W = .ok true W := fun W => by rw [eqIn_, sameV_refl]
  have hGD := guardV
  have Pa : Hid (In4 ((w.alloc (.cells #[.int .i64 k, .int .i64 n, .string t, .bool b] 23)).alloc (.cells #[.int .i64 k', .int .i64 n', .string t', .bool b'] 23)) (w.heap.size) 0 k n t b) := Lib.hid (by have := (in4_new w k n t b 23).alloc (.cells #[.int .i64 k', .int .i64 n', .string t', .bool b'] 23); simpa using this)
  have Pb : Hid (In4 ((w.alloc (.cells #[.int .i64 k, .int .i64 n, .string t, .bool b] 23)).alloc (.cells #[.int .i64 k', .int .i64 n', .string t', .bool b'] 23)) (w.heap.size + 1) 0 k' n' t' b') := Lib.hid (by have := in4_new (w.alloc (.cells #[.int .i64 k, .int .i64 n, .string t, .bool b] 23)) k' n' t' b' 23; simpa using this)
  have HB : Hid (Below w.heap.size w ((w.alloc (.cells #[.int .i64 k, .int .i64 n, .string t, .bool b] 23)).alloc (.cells #[.int .i64 k', .int .i64 n', .string t', .bool b'] 23))) := (((Below.refl _ _).alloc (by simp) _).alloc (by simp) _)
  go_enter Tryd.func5, Tryd.ntmps5
  go_wp2_with fail
  refine (H1.out _).mono ?_
  rintro e w1 ⟨rfl, hb1⟩
  replace Pa := Lib.hid (Pa.out.on hb1)
  replace Pb := Lib.hid (Pb.out.on hb1)
  replace HB := Lib.hid (below_step HB.out hb1)
  clear hb1
  replace Pa := Lib.hid (Pa.out.alloc (.cells #[.int .i64 xk, .int .i64 xn, .string xt, .bool xb] 23))
  replace Pb := Lib.hid (Pb.out.alloc (.cells #[.int .i64 xk, .int .i64 xn, .string xt, .bool xb] 23))
  have Px := Lib.hid (in4_new w1 xk xn xt xb 23)
  replace HB : Hid (Below w.heap.size w (w1.alloc (.cells #[.int .i64 xk, .int .i64 xn, .string xt, .bool xb] 23))) := below_step HB.out ((Below.refl _ _).alloc (Nat.le_refl _) _)
  obtain ⟨ca0, ca1, ca2, ca3⟩ := Pa.out
  obtain ⟨cb0, cb1, cb2, cb3⟩ := Pb.out
  obtain ⟨cx0, cx1, cx2, cx3⟩ := Px.out
  go_wp2_with fail
  refine (H2.out _).mono ?_
  rintro e w2 ⟨rfl, hb2⟩
  clear ca0 ca1 ca2 ca3 cb0 cb1 cb2 cb3 cx0 cx1 cx2 cx3
  replace Pa := Lib.hid (Pa.out.on hb2)
  replace Pb := Lib.hid (Pb.out.on hb2)
  replace Px := Lib.hid (Px.out.on hb2)
  replace HB := Lib.hid (below_step HB.out hb2)
  clear hb2
  replace Pa := Lib.hid (Pa.out.alloc (.cells #[.int .i64 xk, .int .i64 xn, .string xt, .bool xb] 23))
  replace Pb := Lib.hid (Pb.out.alloc (.cells #[.int .i64 xk, .int .i64 xn, .string xt, .bool xb] 23))
  replace Px := Lib.hid (Px.out.alloc (.cells #[.int .i64 xk, .int .i64 xn, .string xt, .bool xb] 23))
  have Py := Lib.hid (in4_new w2 xk xn xt xb 23)
  replace HB : Hid (Below w.heap.size w (w2.alloc (.cells #[.int .i64 xk, .int .i64 xn, .string xt, .bool xb] 23))) := below_step HB.out ((Below.refl _ _).alloc (Nat.le_refl _) _)
  obtain ⟨ca0, ca1, ca2, ca3⟩ := Pa.out
  obtain ⟨cb0, cb1, cb2, cb3⟩ := Pb.out
  obtain ⟨cx0, cx1, cx2, cx3⟩ := Px.out
  obtain ⟨cy0, cy1, cy2, cy3⟩ := Py.out
  go_wp2_with fail
  refine (H3.out _).mono ?_
  rintro e w3 ⟨rfl, hb3⟩
  clear ca0 ca1 ca2 ca3 cb0 cb1 cb2 cb3 cx0 cx1 cx2 cx3 cy0 cy1 cy2 cy3
  replace Pa := Lib.hid (Pa.out.on hb3)
  replace Pb := Lib.hid (Pb.out.on hb3)
  replace Px := Lib.hid (Px.out.on hb3)
  replace Py := Lib.hid (Py.out.on hb3)
  replace HB := Lib.hid (below_step HB.out hb3)
  clear hb3
  replace Pa := Lib.hid (Pa.out.alloc (.cells #[.int .i64 uk, .int .i64 un, .string ut, .bool ub] 23))
  replace Pb := Lib.hid (Pb.out.alloc (.cells #[.int .i64 uk, .int .i64 un, .string ut, .bool ub] 23))
  replace Px := Lib.hid (Px.out.alloc (.cells #[.int .i64 uk, .int .i64 un, .string ut, .bool ub] 23))
  replace Py := Lib.hid (Py.out.alloc (.cells #[.int .i64 uk, .int .i64 un, .string ut, .bool ub] 23))
  have Pu := Lib.hid (in4_new w3 uk un ut ub 23)
  replace HB : Hid (Below w.heap.size w (w3.alloc (.cells #[.int .i64 uk, .int .i64 un, .string ut, .bool ub] 23))) := below_step HB.out ((Below.refl _ _).alloc (Nat.le_refl _) _)
  obtain ⟨ca0, ca1, ca2, ca3⟩ := Pa.out
  obtain ⟨cb0, cb1, cb2, cb3⟩ := Pb.out
  obtain ⟨cx0, cx1, cx2, cx3⟩ := Px.out
  obtain ⟨cy0, cy1, cy2, cy3⟩ := Py.out
  obtain ⟨cu0, cu1, cu2, cu3⟩ := Pu.out
  go_wp2_with fail
  refine (H4.out _).mono ?_
  rintro e w4 ⟨rfl, hb4⟩
  clear ca0 ca1 ca2 ca3 cb0 cb1 cb2 cb3 cx0 cx1 cx2 cx3 cy0 cy1 cy2 cy3 cu0 cu1 cu2 cu3
  replace Pa := Lib.hid (Pa.out.on hb4)
  replace Pb := Lib.hid (Pb.out.on hb4)
  replace Px := Lib.hid (Px.out.on hb4)
  replace Py := Lib.hid (Py.out.on hb4)
  replace Pu := Lib.hid (Pu.out.on hb4)
  replace HB := Lib.hid (below_step HB.out hb4)
  clear hb4
  replace Pa := Lib.hid (Pa.out.alloc (.cells #[.int .i64 uk, .int .i64 un, .string ut, .bool ub] 23))
  replace Pb := Lib.hid (Pb.out.alloc (.cells #[.int .i64 uk, .int .i64 un, .string ut, .bool ub] 23))
  replace Px := Lib.hid (Px.out.alloc (.cells #[.int .i64 uk, .int .i64 un, .string ut, .bool ub] 23))
  replace Py := Lib.hid (Py.out.alloc (.cells #[.int .i64 uk, .int .i64 un, .string ut, .bool ub] 23))
  replace Pu := Lib.hid (Pu.out.alloc (.cells #[.int .i64 uk, .int .i64 un, .string ut, .bool ub] 23))
  have Pv := Lib.hid (in4_new w4 uk un ut ub 23)
  replace HB : Hid (Below w.heap.size w (w4.alloc (.cells #[.int .i64 uk, .int .i64 un, .string ut, .bool ub] 23))) := below_step HB.out ((Below.refl _ _).alloc (Nat.le_refl _) _)
  obtain ⟨ca0, ca1, ca2, ca3⟩ := Pa.out
  obtain ⟨cb0, cb1, cb2, cb3⟩ := Pb.out
  obtain ⟨cx0, cx1, cx2, cx3⟩ := Px.out
  obtain ⟨cy0, cy1, cy2, cy3⟩ := Py.out
  obtain ⟨cu0, cu1, cu2, cu3⟩ := Pu.out
  obtain ⟨cv0, cv1, cv2, cv3⟩ := Pv.out
  go_wp2_with fail
  refine (HN.out _ (HT.out.on HB.out)).mono ?_
  rintro e w5 ⟨rfl, hb5⟩
  clear ca0 ca1 ca2 ca3 cb0 cb1 cb2 cb3 cx0 cx1 cx2 cx3 cy0 cy1 cy2 cy3 cu0 cu1 cu2 cu3 cv0 cv1 cv2 cv3
  replace Pa := Lib.hid (Pa.out.on hb5)
  replace Pb := Lib.hid (Pb.out.on hb5)
  replace Px := Lib.hid (Px.out.on hb5)
  replace Py := Lib.hid (Py.out.on hb5)
  replace Pu := Lib.hid (Pu.out.on hb5)
  replace Pv := Lib.hid (Pv.out.on hb5)
  replace HB := Lib.hid (below_step HB.out hb5)
  clear hb5
  obtain ⟨ca0, ca1, ca2, ca3⟩ := Pa.out
  obtain ⟨cb0, cb1, cb2, cb3⟩ := Pb.out
  obtain ⟨cx0, cx1, cx2, cx3⟩ := Px.out
  obtain ⟨cy0, cy1, cy2, cy3⟩ := Py.out
  obtain ⟨cu0, cu1, cu2, cu3⟩ := Pu.out
  obtain ⟨cv0, cv1, cv2, cv3⟩ := Pv.out
  go_wp2_with fail
  refine (HN2.out _ (HT.out.on HB.out)).mono ?_
  rintro e w6 ⟨rfl, hb6⟩
  clear ca0 ca1 ca2 ca3 cb0 cb1 cb2 cb3 cx0 cx1 cx2 cx3 cy0 cy1 cy2 cy3 cu0 cu1 cu2 cu3 cv0 cv1 cv2 cv3
  replace Pa := Lib.hid (Pa.out.on hb6)
  replace Pb := Lib.hid (Pb.out.on hb6)
  replace Px := Lib.hid (Px.out.on hb6)
  replace Py := Lib.hid (Py.out.on hb6)
  replace Pu := Lib.hid (Pu.out.on hb6)
  replace Pv := Lib.hid (Pv.out.on hb6)
  replace HB := Lib.hid (below_step HB.out hb6)
  clear hb6
  obtain ⟨ca0, ca1, ca2, ca3⟩ := Pa.out
  obtain ⟨cb0, cb1, cb2, cb3⟩ := Pb.out
  obtain ⟨cx0, cx1, cx2, cx3⟩ := Px.out
  obtain ⟨cy0, cy1, cy2, cy3⟩ := Py.out
  obtain ⟨cu0, cu1, cu2, cu3⟩ := Pu.out
  obtain ⟨cv0, cv1, cv2, cv3⟩ := Pv.out
  go_wp2_with fail
  refine (HS.out _ (HE.out.on HB.out)).mono ?_
  rintro e w7 ⟨rfl, hb7⟩
  clear ca0 ca1 ca2 ca3 cb0 cb1 cb2 cb3 cx0 cx1 cx2 cx3 cy0 cy1 cy2 cy3 cu0 cu1 cu2 cu3 cv0 cv1 cv2 cv3
  replace Pa := Lib.hid (Pa.out.on hb7)
  replace Pb := Lib.hid (Pb.out.on hb7)
  replace Px := Lib.hid (Px.out.on hb7)
  replace Py := Lib.hid (Py.out.on hb7)
  replace Pu := Lib.hid (Pu.out.on hb7)
  replace Pv := Lib.hid (Pv.out.on hb7)
  replace HB := Lib.hid (below_step HB.out hb7)
  clear hb7
  obtain ⟨ca0, ca1, ca2, ca3⟩ := Pa.out
  obtain ⟨cb0, cb1, cb2, cb3⟩ := Pb.out
  obtain ⟨cx0, cx1, cx2, cx3⟩ := Px.out
  obtain ⟨cy0, cy1, cy2, cy3⟩ := Py.out
  obtain ⟨cu0, cu1, cu2, cu3⟩ := Pu.out
  obtain ⟨cv0, cv1, cv2, cv3⟩ := Pv.out
  go_wp2_with fail
  go_ret
  exact ⟨rfl, HB.out⟩
end Go.Proofs.YtfplncbechidnaaDoor
