/- The walk of the law ValueTruths. -/
import Derived.Test.YtfplncbechidnaaDoorR3
import Derived.Test.YtfplncbechidnaaDoorAs
import Derived.Test.YtfplncbechidnaaDoorSure
namespace Go.Proofs.YtfplncbechidnaaDoor
open Go.RowKit Go.Sort

set_option maxHeartbeats 4000000 in
theorem truths_ (k n : Int) (t : ByteArray) (b : Bool) (k' n' : Int) (t' : ByteArray) (b' : Bool) (w : World) (hE : Env w) (hT : ErrType w) :
    Calls Tryd.prog 4 #[.agg #[.int .i64 k, .int .i64 n, .string t, .bool b], .agg #[.int .i64 k', .int .i64 n', .string t', .bool b']] w fun e w' => e = .returned (.bool true) ∧ Below w.heap.size w w' := by
  have H1 : Hid (∀ W, Calls Tryd.prog 15 #[.agg #[.int .i64 k, .int .i64 n, .string t, .bool b], .agg #[.int .i64 k', .int .i64 n', .string t', .bool b']] W fun e w' => e = .returned (.tuple #[agV (decR ⟨k, n, t, b⟩ ⟨k', n', t', b'⟩ false), errV 45 (decE k k')]) ∧ Below W.heap.size W w') := fun W => and_ k n t b k' n' t' b' W
  have H2 : Hid (∀ W, Calls Tryd.prog 16 #[.agg #[.int .i64 k, .int .i64 n, .string t, .bool b], .agg #[.int .i64 k', .int .i64 n', .string t', .bool b']] W fun e w' => e = .returned (.tuple #[agV (decR ⟨k, n, t, b⟩ ⟨k', n', t', b'⟩ false), .int .i64 (decE k k')]) ∧ Below W.heap.size W w') := fun W => rand_ k n t b k' n' t' b' W
  have H3 : Hid (∀ W, Calls Tryd.prog 17 #[.agg #[.int .i64 k, .int .i64 n, .string t, .bool b], .agg #[.int .i64 k', .int .i64 n', .string t', .bool b']] W fun e w' => e = .returned (.tuple #[agV (decR ⟨k, n, t, b⟩ ⟨k', n', t', b'⟩ true), errV 45 (decE k k')]) ∧ Below W.heap.size W w') := fun W => or_ k n t b k' n' t' b' W
  have H4 : Hid (∀ W, Calls Tryd.prog 18 #[.agg #[.int .i64 k, .int .i64 n, .string t, .bool b], .agg #[.int .i64 k', .int .i64 n', .string t', .bool b']] W fun e w' => e = .returned (.tuple #[agV (decR ⟨k, n, t, b⟩ ⟨k', n', t', b'⟩ true), .int .i64 (decE k k')]) ∧ Below W.heap.size W w') := fun W => ror_ k n t b k' n' t' b' W
  have H5 : Hid (∀ W, Calls Tryd.prog 19 #[.agg #[.int .i64 k, .int .i64 n, .string t, .bool b]] W fun e w' => e = .returned (.tuple #[agV (notR ⟨k, n, t, b⟩), errV 45 (notE k)]) ∧ Below W.heap.size W w') := fun W => not_ k n t b W
  have H6 : Hid (∀ W, Calls Tryd.prog 20 #[.agg #[.int .i64 k, .int .i64 n, .string t, .bool b]] W fun e w' => e = .returned (.tuple #[agV (notR ⟨k, n, t, b⟩), .int .i64 (notE k)]) ∧ Below W.heap.size W w') := fun W => rnot_ k n t b W
  have HN : Hid (∀ W, ErrType W → Calls Tryd.prog 13 #[errV 45 (decE k k')] W fun e w' => e = .returned (.int .i64 (decE k k')) ∧ Below W.heap.size W w') := fun W hW => num_ _ W hW
  have HN2 : Hid (∀ W, ErrType W → Calls Tryd.prog 13 #[errV 45 (notE k)] W fun e w' => e = .returned (.int .i64 (notE k)) ∧ Below W.heap.size W w') := fun W hW => num_ _ W hW
  have HS : Hid (∀ W, Env W → Calls Tryd.prog 14 #[] W fun e w' => e = .returned (.bool true) ∧ Below W.heap.size W w') := fun W hW => sure_ W hW
  have HE := Lib.hid hE
  have HT := Lib.hid hT
  clear hE hT
  generalize decR ⟨k, n, t, b⟩ ⟨k', n', t', b'⟩ false = X at *
  generalize decR ⟨k, n, t, b⟩ ⟨k', n', t', b'⟩ true = U at *
  generalize notR ⟨k, n, t, b⟩ = M at *
  generalize errV 45 (decE k k') = E at *
  generalize decE k k' = f at *
  generalize errV 45 (notE k) = E' at *
  generalize notE k = g at *
  obtain ⟨xk, xn, xt, xb⟩ := X
  obtain ⟨uk, un, ut, ub⟩ := U
  obtain ⟨mk, mn, mt, mb⟩ := M
  simp only [agV] at *
  have hEQ : ∀ W, (Op.equalIn 10000 23 (.agg #[.int .i64 xk, .int .i64 xn, .string xt, .bool xb]) (.agg #[.int .i64 xk, .int .i64 xn, .string xt, .bool xb])).run Tryd.prog W = .ok true W := fun W => by rw [eqIn_, sameV_refl]
  have hEQ2 : ∀ W, (Op.equalIn 10000 23 (.agg #[.int .i64 uk, .int .i64 un, .string ut, .bool ub]) (.agg #[.int .i64 uk, .int .i64 un, .string ut, .bool ub])).run Tryd.prog W = .ok true W := fun W => by rw [eqIn_, sameV_refl]
  have hEQ3 : ∀ W, (Op.equalIn 10000 23 (.agg #[.int .i64 mk, .int .i64 mn, .string mt, .bool mb]) (.agg #[.int .i64 mk, .int .i64 mn, .string mt, .bool mb])).run Tryd.prog W = .ok true W := fun W => by rw [eqIn_, sameV_refl]
  have hGD := guardV
  have Pa : Hid (In4 ((w.alloc (.cells #[.int .i64 k, .int .i64 n, .string t, .bool b] 23)).alloc (.cells #[.int .i64 k', .int .i64 n', .string t', .bool b'] 23)) (w.heap.size) 0 k n t b) := Lib.hid (by have := (in4_new w k n t b 23).alloc (.cells #[.int .i64 k', .int .i64 n', .string t', .bool b'] 23); simpa using this)
  have Pb : Hid (In4 ((w.alloc (.cells #[.int .i64 k, .int .i64 n, .string t, .bool b] 23)).alloc (.cells #[.int .i64 k', .int .i64 n', .string t', .bool b'] 23)) (w.heap.size + 1) 0 k' n' t' b') := Lib.hid (by have := in4_new (w.alloc (.cells #[.int .i64 k, .int .i64 n, .string t, .bool b] 23)) k' n' t' b' 23; simpa using this)
  have HB : Hid (Below w.heap.size w ((w.alloc (.cells #[.int .i64 k, .int .i64 n, .string t, .bool b] 23)).alloc (.cells #[.int .i64 k', .int .i64 n', .string t', .bool b'] 23))) := (((Below.refl _ _).alloc (by simp) _).alloc (by simp) _)
  go_enter Tryd.func4, Tryd.ntmps4
  go_wp2_with fail
  refine (H1.out _).mono ?_
  rintro e w1 ⟨rfl, hb1⟩
  replace Pa := Lib.hid (Pa.out.on hb1)
  replace Pb := Lib.hid (Pb.out.on hb1)
  replace HB := Lib.hid (below_step HB.out hb1)
  clear hb1
  replace Pa := Lib.hid (Pa.out.alloc (.cells #[.int .i64 xk, .int .i64 xn, .string xt, .bool xb] 23))
  replace Pb := Lib.hid (Pb.out.alloc (.cells #[.int .i64 xk, .int .i64 xn, .string xt, .bool xb] 23))
  have Px := Lib.hid (in4_new w1 xk xn xt xb 23)
  replace HB : Hid (Below w.heap.size w (w1.alloc (.cells #[.int .i64 xk, .int .i64 xn, .string xt, .bool xb] 23))) := below_step HB.out ((Below.refl _ _).alloc (Nat.le_refl _) _)
  obtain ⟨ca0, ca1, ca2, ca3⟩ := Pa.out
  obtain ⟨cb0, cb1, cb2, cb3⟩ := Pb.out
  obtain ⟨cx0, cx1, cx2, cx3⟩ := Px.out
  go_wp2_with fail
  refine (H2.out _).mono ?_
  rintro e w2 ⟨rfl, hb2⟩
  clear ca0 ca1 ca2 ca3 cb0 cb1 cb2 cb3 cx0 cx1 cx2 cx3
  replace Pa := Lib.hid (Pa.out.on hb2)
  replace Pb := Lib.hid (Pb.out.on hb2)
  replace Px := Lib.hid (Px.out.on hb2)
  replace HB := Lib.hid (below_step HB.out hb2)
  clear hb2
  replace Pa := Lib.hid (Pa.out.alloc (.cells #[.int .i64 xk, .int .i64 xn, .string xt, .bool xb] 23))
  replace Pb := Lib.hid (Pb.out.alloc (.cells #[.int .i64 xk, .int .i64 xn, .string xt, .bool xb] 23))
  replace Px := Lib.hid (Px.out.alloc (.cells #[.int .i64 xk, .int .i64 xn, .string xt, .bool xb] 23))
  have Py := Lib.hid (in4_new w2 xk xn xt xb 23)
  replace HB : Hid (Below w.heap.size w (w2.alloc (.cells #[.int .i64 xk, .int .i64 xn, .string xt, .bool xb] 23))) := below_step HB.out ((Below.refl _ _).alloc (Nat.le_refl _) _)
  obtain ⟨ca0, ca1, ca2, ca3⟩ := Pa.out
  obtain ⟨cb0, cb1, cb2, cb3⟩ := Pb.out
  obtain ⟨cx0, cx1, cx2, cx3⟩ := Px.out
  obtain ⟨cy0, cy1, cy2, cy3⟩ := Py.out
  go_wp2_with fail
  refine (H3.out _).mono ?_
  rintro e w3 ⟨rfl, hb3⟩
  clear ca0 ca1 ca2 ca3 cb0 cb1 cb2 cb3 cx0 cx1 cx2 cx3 cy0 cy1 cy2 cy3
  replace Pa := Lib.hid (Pa.out.on hb3)
  replace Pb := Lib.hid (Pb.out.on hb3)
  replace Px := Lib.hid (Px.out.on hb3)
  replace Py := Lib.hid (Py.out.on hb3)
  replace HB := Lib.hid (below_step HB.out hb3)
  clear hb3
  replace Pa := Lib.hid (Pa.out.alloc (.cells #[.int .i64 uk, .int .i64 un, .string ut, .bool ub] 23))
  replace Pb := Lib.hid (Pb.out.alloc (.cells #[.int .i64 uk, .int .i64 un, .string ut, .bool ub] 23))
  replace Px := Lib.hid (Px.out.alloc (.cells #[.int .i64 uk, .int .i64 un, .string ut, .bool ub] 23))
  replace Py := Lib.hid (Py.out.alloc (.cells #[.int .i64 uk, .int .i64 un, .string ut, .bool ub] 23))
  have Pu := Lib.hid (in4_new w3 uk un ut ub 23)
  replace HB : Hid (Below w.heap.size w (w3.alloc (.cells #[.int .i64 uk, .int .i64 un, .string ut, .bool ub] 23))) := below_step HB.out ((Below.refl _ _).alloc (Nat.le_refl _) _)
  obtain ⟨ca0, ca1, ca2, ca3⟩ := Pa.out
  obtain ⟨cb0, cb1, cb2, cb3⟩ := Pb.out
  obtain ⟨cx0, cx1, cx2, cx3⟩ := Px.out
  obtain ⟨cy0, cy1, cy2, cy3⟩ := Py.out
  obtain ⟨cu0, cu1, cu2, cu3⟩ := Pu.out
  go_wp2_with fail
  refine (H4.out _).mono ?_
  rintro e w4 ⟨rfl, hb4⟩
  clear ca0 ca1 ca2 ca3 cb0 cb1 cb2 cb3 cx0 cx1 cx2 cx3 cy0 cy1 cy2 cy3 cu0 cu1 cu2 cu3
  replace Pa := Lib.hid (Pa.out.on hb4)
  replace Pb := Lib.hid (Pb.out.on hb4)
  replace Px := Lib.hid (Px.out.on hb4)
  replace Py := Lib.hid (Py.out.on hb4)
  replace Pu := Lib.hid (Pu.out.on hb4)
  replace HB := Lib.hid (below_step HB.out hb4)
  clear hb4
  replace Pa := Lib.hid (Pa.out.alloc (.cells #[.int .i64 uk, .int .i64 un, .string ut, .bool ub] 23))
  replace Pb := Lib.hid (Pb.out.alloc (.cells #[.int .i64 uk, .int .i64 un, .string ut, .bool ub] 23))
  replace Px := Lib.hid (Px.out.alloc (.cells #[.int .i64 uk, .int .i64 un, .string ut, .bool ub] 23))
  replace Py := Lib.hid (Py.out.alloc (.cells #[.int .i64 uk, .int .i64 un, .string ut, .bool ub] 23))
  replace Pu := Lib.hid (Pu.out.alloc (.cells #[.int .i64 uk, .int .i64 un, .string ut, .bool ub] 23))
  have Pv := Lib.hid (in4_new w4 uk un ut ub 23)
  replace HB : Hid (Below w.heap.size w (w4.alloc (.cells #[.int .i64 uk, .int .i64 un, .string ut, .bool ub] 23))) := below_step HB.out ((Below.refl _ _).alloc (Nat.le_refl _) _)
  obtain ⟨ca0, ca1, ca2, ca3⟩ := Pa.out
  obtain ⟨cb0, cb1, cb2, cb3⟩ := Pb.out
  obtain ⟨cx0, cx1, cx2, cx3⟩ := Px.out
  obtain ⟨cy0, cy1, cy2, cy3⟩ := Py.out
  obtain ⟨cu0, cu1, cu2, cu3⟩ := Pu.out
  obtain ⟨cv0, cv1, cv2, cv3⟩ := Pv.out
  go_wp2_with fail
  refine (H5.out _).mono ?_
  rintro e w5 ⟨rfl, hb5⟩
  clear ca0 ca1 ca2 ca3 cb0 cb1 cb2 cb3 cx0 cx1 cx2 cx3 cy0 cy1 cy2 cy3 cu0 cu1 cu2 cu3 cv0 cv1 cv2 cv3
  replace Pa := Lib.hid (Pa.out.on hb5)
  replace Pb := Lib.hid (Pb.out.on hb5)
  replace Px := Lib.hid (Px.out.on hb5)
  replace Py := Lib.hid (Py.out.on hb5)
  replace Pu := Lib.hid (Pu.out.on hb5)
  replace Pv := Lib.hid (Pv.out.on hb5)
  replace HB := Lib.hid (below_step HB.out hb5)
  clear hb5
  replace Pa := Lib.hid (Pa.out.alloc (.cells #[.int .i64 mk, .int .i64 mn, .string mt, .bool mb] 23))
  replace Pb := Lib.hid (Pb.out.alloc (.cells #[.int .i64 mk, .int .i64 mn, .string mt, .bool mb] 23))
  replace Px := Lib.hid (Px.out.alloc (.cells #[.int .i64 mk, .int .i64 mn, .string mt, .bool mb] 23))
  replace Py := Lib.hid (Py.out.alloc (.cells #[.int .i64 mk, .int .i64 mn, .string mt, .bool mb] 23))
  replace Pu := Lib.hid (Pu.out.alloc (.cells #[.int .i64 mk, .int .i64 mn, .string mt, .bool mb] 23))
  replace Pv := Lib.hid (Pv.out.alloc (.cells #[.int .i64 mk, .int .i64 mn, .string mt, .bool mb] 23))
  have Pm := Lib.hid (in4_new w5 mk mn mt mb 23)
  replace HB : Hid (Below w.heap.size w (w5.alloc (.cells #[.int .i64 mk, .int .i64 mn, .string mt, .bool mb] 23))) := below_step HB.out ((Below.refl _ _).alloc (Nat.le_refl _) _)
  obtain ⟨ca0, ca1, ca2, ca3⟩ := Pa.out
  obtain ⟨cb0, cb1, cb2, cb3⟩ := Pb.out
  obtain ⟨cx0, cx1, cx2, cx3⟩ := Px.out
  obtain ⟨cy0, cy1, cy2, cy3⟩ := Py.out
  obtain ⟨cu0, cu1, cu2, cu3⟩ := Pu.out
  obtain ⟨cv0, cv1, cv2, cv3⟩ := Pv.out
  obtain ⟨cm0, cm1, cm2, cm3⟩ := Pm.out
  go_wp2_with fail
  refine (H6.out _).mono ?_
  rintro e w6 ⟨rfl, hb6⟩
  clear ca0 ca1 ca2 ca3 cb0 cb1 cb2 cb3 cx0 cx1 cx2 cx3 cy0 cy1 cy2 cy3 cu0 cu1 cu2 cu3 cv0 cv1 cv2 cv3 cm0 cm1 cm2 cm3
  replace Pa := Lib.hid (Pa.out.on hb6)
  replace Pb := Lib.hid (Pb.out.on hb6)
  replace Px := Lib.hid (Px.out.on hb6)
  replace Py := Lib.hid (Py.out.on hb6)
  replace Pu := Lib.hid (Pu.out.on hb6)
  replace Pv := Lib.hid (Pv.out.on hb6)
  replace Pm := Lib.hid (Pm.out.on hb6)
  replace HB := Lib.hid (below_step HB.out hb6)
  clear hb6
  replace Pa := Lib.hid (Pa.out.alloc (.cells #[.int .i64 mk, .int .i64 mn, .string mt, .bool mb] 23))
  replace Pb := Lib.hid (Pb.out.alloc (.cells #[.int .i64 mk, .int .i64 mn, .string mt, .bool mb] 23))
  replace Px := Lib.hid (Px.out.alloc (.cells #[.int .i64 mk, .int .i64 mn, .string mt, .bool mb] 23))
  replace Py := Lib.hid (Py.out.alloc (.cells #[.int .i64 mk, .int .i64 mn, .string mt, .bool mb] 23))
  replace Pu := Lib.hid (Pu.out.alloc (.cells #[.int .i64 mk, .int .i64 mn, .string mt, .bool mb] 23))
  replace Pv := Lib.hid (Pv.out.alloc (.cells #[.int .i64 mk, .int .i64 mn, .string mt, .bool mb] 23))
  replace Pm := Lib.hid (Pm.out.alloc (.cells #[.int .i64 mk, .int .i64 mn, .string mt, .bool mb] 23))
  have Pn := Lib.hid (in4_new w6 mk mn mt mb 23)
  replace HB : Hid (Below w.heap.size w (w6.alloc (.cells #[.int .i64 mk, .int .i64 mn, .string mt, .bool mb] 23))) := below_step HB.out ((Below.refl _ _).alloc (Nat.le_refl _) _)
  obtain ⟨ca0, ca1, ca2, ca3⟩ := Pa.out
  obtain ⟨cb0, cb1, cb2, cb3⟩ := Pb.out
  obtain ⟨cx0, cx1, cx2, cx3⟩ := Px.out
  obtain ⟨cy0, cy1, cy2, cy3⟩ := Py.out
  obtain ⟨cu0, cu1, cu2, cu3⟩ := Pu.out
  obtain ⟨cv0, cv1, cv2, cv3⟩ := Pv.out
  obtain ⟨cm0, cm1, cm2, cm3⟩ := Pm.out
  obtain ⟨cn0, cn1, cn2, cn3⟩ := Pn.out
  go_wp2_with fail
  refine (HN.out _ (HT.out.on HB.out)).mono ?_
  rintro e w7 ⟨rfl, hb7⟩
  clear ca0 ca1 ca2 ca3 cb0 cb1 cb2 cb3 cx0 cx1 cx2 cx3 cy0 cy1 cy2 cy3 cu0 cu1 cu2 cu3 cv0 cv1 cv2 cv3 cm0 cm1 cm2 cm3 cn0 cn1 cn2 cn3
  replace Pa := Lib.hid (Pa.out.on hb7)
  replace Pb := Lib.hid (Pb.out.on hb7)
  replace Px := Lib.hid (Px.out.on hb7)
  replace Py := Lib.hid (Py.out.on hb7)
  replace Pu := Lib.hid (Pu.out.on hb7)
  replace Pv := Lib.hid (Pv.out.on hb7)
  replace Pm := Lib.hid (Pm.out.on hb7)
  replace Pn := Lib.hid (Pn.out.on hb7)
  replace HB := Lib.hid (below_step HB.out hb7)
  clear hb7
  obtain ⟨ca0, ca1, ca2, ca3⟩ := Pa.out
  obtain ⟨cb0, cb1, cb2, cb3⟩ := Pb.out
  obtain ⟨cx0, cx1, cx2, cx3⟩ := Px.out
  obtain ⟨cy0, cy1, cy2, cy3⟩ := Py.out
  obtain ⟨cu0, cu1, cu2, cu3⟩ := Pu.out
  obtain ⟨cv0, cv1, cv2, cv3⟩ := Pv.out
  obtain ⟨cm0, cm1, cm2, cm3⟩ := Pm.out
  obtain ⟨cn0, cn1, cn2, cn3⟩ := Pn.out
  go_wp2_with fail
  refine (HN.out _ (HT.out.on HB.out)).mono ?_
  rintro e w8 ⟨rfl, hb8⟩
  clear ca0 ca1 ca2 ca3 cb0 cb1 cb2 cb3 cx0 cx1 cx2 cx3 cy0 cy1 cy2 cy3 cu0 cu1 cu2 cu3 cv0 cv1 cv2 cv3 cm0 cm1 cm2 cm3 cn0 cn1 cn2 cn3
  replace Pa := Lib.hid (Pa.out.on hb8)
  replace Pb := Lib.hid (Pb.out.on hb8)
  replace Px := Lib.hid (Px.out.on hb8)
  replace Py := Lib.hid (Py.out.on hb8)
  replace Pu := Lib.hid (Pu.out.on hb8)
  replace Pv := Lib.hid (Pv.out.on hb8)
  replace Pm := Lib.hid (Pm.out.on hb8)
  replace Pn := Lib.hid (Pn.out.on hb8)
  replace HB := Lib.hid (below_step HB.out hb8)
  clear hb8
  obtain ⟨ca0, ca1, ca2, ca3⟩ := Pa.out
  obtain ⟨cb0, cb1, cb2, cb3⟩ := Pb.out
  obtain ⟨cx0, cx1, cx2, cx3⟩ := Px.out
  obtain ⟨cy0, cy1, cy2, cy3⟩ := Py.out
  obtain ⟨cu0, cu1, cu2, cu3⟩ := Pu.out
  obtain ⟨cv0, cv1, cv2, cv3⟩ := Pv.out
  obtain ⟨cm0, cm1, cm2, cm3⟩ := Pm.out
  obtain ⟨cn0, cn1, cn2, cn3⟩ := Pn.out
  go_wp2_with fail
  refine (HN2.out _ (HT.out.on HB.out)).mono ?_
  rintro e w9 ⟨rfl, hb9⟩
  clear ca0 ca1 ca2 ca3 cb0 cb1 cb2 cb3 cx0 cx1 cx2 cx3 cy0 cy1 cy2 cy3 cu0 cu1 cu2 cu3 cv0 cv1 cv2 cv3 cm0 cm1 cm2 cm3 cn0 cn1 cn2 cn3
  replace Pa := Lib.hid (Pa.out.on hb9)
  replace Pb := Lib.hid (Pb.out.on hb9)
  replace Px := Lib.hid (Px.out.on hb9)
  replace Py := Lib.hid (Py.out.on hb9)
  replace Pu := Lib.hid (Pu.out.on hb9)
  replace Pv := Lib.hid (Pv.out.on hb9)
  replace Pm := Lib.hid (Pm.out.on hb9)
  replace Pn := Lib.hid (Pn.out.on hb9)
  replace HB := Lib.hid (below_step HB.out hb9)
  clear hb9
  obtain ⟨ca0, ca1, ca2, ca3⟩ := Pa.out
  obtain ⟨cb0, cb1, cb2, cb3⟩ := Pb.out
  obtain ⟨cx0, cx1, cx2, cx3⟩ := Px.out
  obtain ⟨cy0, cy1, cy2, cy3⟩ := Py.out
  obtain ⟨cu0, cu1, cu2, cu3⟩ := Pu.out
  obtain ⟨cv0, cv1, cv2, cv3⟩ := Pv.out
  obtain ⟨cm0, cm1, cm2, cm3⟩ := Pm.out
  obtain ⟨cn0, cn1, cn2, cn3⟩ := Pn.out
  go_wp2_with fail
  refine (HS.out _ (HE.out.on HB.out)).mono ?_
  rintro e w10 ⟨rfl, hb10⟩
  clear ca0 ca1 ca2 ca3 cb0 cb1 cb2 cb3 cx0 cx1 cx2 cx3 cy0 cy1 cy2 cy3 cu0 cu1 cu2 cu3 cv0 cv1 cv2 cv3 cm0 cm1 cm2 cm3 cn0 cn1 cn2 cn3
  replace Pa := Lib.hid (Pa.out.on hb10)
  replace Pb := Lib.hid (Pb.out.on hb10)
  replace Px := Lib.hid (Px.out.on hb10)
  replace Py := Lib.hid (Py.out.on hb10)
  replace Pu := Lib.hid (Pu.out.on hb10)
  replace Pv := Lib.hid (Pv.out.on hb10)
  replace Pm := Lib.hid (Pm.out.on hb10)
  replace Pn := Lib.hid (Pn.out.on hb10)
  replace HB := Lib.hid (below_step HB.out hb10)
  clear hb10
  obtain ⟨ca0, ca1, ca2, ca3⟩ := Pa.out
  obtain ⟨cb0, cb1, cb2, cb3⟩ := Pb.out
  obtain ⟨cx0, cx1, cx2, cx3⟩ := Px.out
  obtain ⟨cy0, cy1, cy2, cy3⟩ := Py.out
  obtain ⟨cu0, cu1, cu2, cu3⟩ := Pu.out
  obtain ⟨cv0, cv1, cv2, cv3⟩ := Pv.out
  obtain ⟨cm0, cm1, cm2, cm3⟩ := Pm.out
  obtain ⟨cn0, cn1, cn2, cn3⟩ := Pn.out
  go_wp2_with fail
  go_ret
  exact ⟨rfl, HB.out⟩
end Go.Proofs.YtfplncbechidnaaDoor
