/- The walk of the law ValueMorgan. -/
import Derived.Test.YtfplncbechidnaaDoorW8
import Derived.Test.YtfplncbechidnaaDoorSure
namespace Go.Proofs.YtfplncbechidnaaDoor
open Go.RowKit Go.Sort

set_option maxHeartbeats 4000000 in
set_option maxRecDepth 100000 in
theorem morgan_ok_bad (k n : Int) (t : ByteArray) (b : Bool) (k' n' : Int) (t' : ByteArray) (b' : Bool) (k2 n2 : Int) (t2 : ByteArray) (b2 : Bool) (w : World) (xk xn : Int) (xt : ByteArray) (xb : Bool) (yk yn : Int) (yt : ByteArray) (yb : Bool) (mk mn : Int) (mt : ByteArray) (mb : Bool) (qk qn : Int) (qt : ByteArray) (qb : Bool) (Ev : Int) (h1 : ∀ W, Calls Tryd.prog 15 #[.agg #[.int .i64 k, .int .i64 n, .string t, .bool b], .agg #[.int .i64 k', .int .i64 n', .string t', .bool b']] W fun e w' => e = .returned (.tuple #[.agg #[.int .i64 xk, .int .i64 xn, .string xt, .bool xb], .nilIface]) ∧ Below W.heap.size W w') (h2 : ∀ W, Calls Tryd.prog 19 #[.agg #[.int .i64 xk, .int .i64 xn, .string xt, .bool xb]] W fun e w' => e = .returned (.tuple #[.agg #[.int .i64 yk, .int .i64 yn, .string yt, .bool yb], .nilIface]) ∧ Below W.heap.size W w') (h3 : ∀ W, Calls Tryd.prog 19 #[.agg #[.int .i64 k, .int .i64 n, .string t, .bool b]] W fun e w' => e = .returned (.tuple #[.agg #[.int .i64 mk, .int .i64 mn, .string mt, .bool mb], .nilIface]) ∧ Below W.heap.size W w') (h4 : ∀ W, Calls Tryd.prog 19 #[.agg #[.int .i64 k', .int .i64 n', .string t', .bool b']] W fun e w' => e = .returned (.tuple #[.agg #[.int .i64 qk, .int .i64 qn, .string qt, .bool qb], .nilIface]) ∧ Below W.heap.size W w') (h5 : ∀ W, Calls Tryd.prog 17 #[.agg #[.int .i64 mk, .int .i64 mn, .string mt, .bool mb], .agg #[.int .i64 qk, .int .i64 qn, .string qt, .bool qb]] W fun e w' => e = .returned (.tuple #[.agg #[.int .i64 yk, .int .i64 yn, .string yt, .bool yb], .nilIface]) ∧ Below W.heap.size W w') (h6 : ∀ W, Env W → Calls Tryd.prog 26 #[.agg #[.int .i64 k2, .int .i64 n2, .string t2, .bool b2]] W fun e w' => e = .returned (.tuple #[.string ⟨#[]⟩, .iface 45 (.int .i64 Ev)]) ∧ Below W.heap.size W w') (hE : Env w) :
    Calls Tryd.prog 7 #[.agg #[.int .i64 k, .int .i64 n, .string t, .bool b], .agg #[.int .i64 k', .int .i64 n', .string t', .bool b'], .agg #[.int .i64 k2, .int .i64 n2, .string t2, .bool b2]] w fun e w' => e = .returned (.bool true) ∧ Below w.heap.size w w' := by
  have H1 := Lib.hid h1
  have H2 := Lib.hid h2
  have H3 := Lib.hid h3
  have H4 := Lib.hid h4
  have H5 := Lib.hid h5
  have hEQ : ∀ W, (Op.equalIn 10000 23 (.agg #[.int .i64 yk, .int .i64 yn, .string yt, .bool yb]) (.agg #[.int .i64 yk, .int .i64 yn, .string yt, .bool yb])).run Tryd.prog W = .ok true W := fun W => by rw [eqIn_, sameV_refl]
  have hEQv : ∀ W, (Op.equalIn 10000 23 (.agg #[.int .i64 k2, .int .i64 n2, .string t2, .bool b2]) (.agg #[.int .i64 k2, .int .i64 n2, .string t2, .bool b2])).run Tryd.prog W = .ok true W := fun W => by rw [eqIn_, sameV_refl]
  have hGD := guardV
  have H6 := Lib.hid h6
  have HS : Hid (∀ W, Env W → Calls Tryd.prog 14 #[] W fun e w' => e = .returned (.bool true) ∧ Below W.heap.size W w') := fun W hW => sure_ W hW
  have HE := Lib.hid hE
  clear hE h1 h2 h3 h4 h5 h6
  have Pa : Hid (In4 (((w.alloc (.cells #[.int .i64 k, .int .i64 n, .string t, .bool b] 23)).alloc (.cells #[.int .i64 k', .int .i64 n', .string t', .bool b'] 23)).alloc (.cells #[.int .i64 k2, .int .i64 n2, .string t2, .bool b2] 23)) (w.heap.size) 0 k n t b) := Lib.hid (by have := ((in4_new w k n t b 23).alloc (.cells #[.int .i64 k', .int .i64 n', .string t', .bool b'] 23)).alloc (.cells #[.int .i64 k2, .int .i64 n2, .string t2, .bool b2] 23); simpa using this)
  have Pb : Hid (In4 (((w.alloc (.cells #[.int .i64 k, .int .i64 n, .string t, .bool b] 23)).alloc (.cells #[.int .i64 k', .int .i64 n', .string t', .bool b'] 23)).alloc (.cells #[.int .i64 k2, .int .i64 n2, .string t2, .bool b2] 23)) (w.heap.size + 1) 0 k' n' t' b') := Lib.hid (by have := (in4_new (w.alloc (.cells #[.int .i64 k, .int .i64 n, .string t, .bool b] 23)) k' n' t' b' 23).alloc (.cells #[.int .i64 k2, .int .i64 n2, .string t2, .bool b2] 23); simpa using this)
  have Pc : Hid (In4 (((w.alloc (.cells #[.int .i64 k, .int .i64 n, .string t, .bool b] 23)).alloc (.cells #[.int .i64 k', .int .i64 n', .string t', .bool b'] 23)).alloc (.cells #[.int .i64 k2, .int .i64 n2, .string t2, .bool b2] 23)) (w.heap.size + 1 + 1) 0 k2 n2 t2 b2) := Lib.hid (by have := in4_new ((w.alloc (.cells #[.int .i64 k, .int .i64 n, .string t, .bool b] 23)).alloc (.cells #[.int .i64 k', .int .i64 n', .string t', .bool b'] 23)) k2 n2 t2 b2 23; simpa using this)
  have HB : Hid (Below w.heap.size w (((w.alloc (.cells #[.int .i64 k, .int .i64 n, .string t, .bool b] 23)).alloc (.cells #[.int .i64 k', .int .i64 n', .string t', .bool b'] 23)).alloc (.cells #[.int .i64 k2, .int .i64 n2, .string t2, .bool b2] 23))) := ((((Below.refl _ _).alloc (by simp) _).alloc (by simp) _).alloc (by simp; omega) _)
  go_enter Tryd.func7, Tryd.ntmps7
  go_wp2_with fail
  refine (H1.out _).mono ?_
  rintro e w1 ⟨rfl, hb1⟩
  replace Pa := Lib.hid (Pa.out.on hb1)
  replace Pb := Lib.hid (Pb.out.on hb1)
  replace Pc := Lib.hid (Pc.out.on hb1)
  replace HB := Lib.hid (below_step HB.out hb1)
  clear hb1
  replace Pa := Lib.hid (Pa.out.alloc (.cells #[.int .i64 xk, .int .i64 xn, .string xt, .bool xb] 23))
  replace Pb := Lib.hid (Pb.out.alloc (.cells #[.int .i64 xk, .int .i64 xn, .string xt, .bool xb] 23))
  replace Pc := Lib.hid (Pc.out.alloc (.cells #[.int .i64 xk, .int .i64 xn, .string xt, .bool xb] 23))
  have Px := Lib.hid (in4_new w1 xk xn xt xb 23)
  replace HB : Hid (Below w.heap.size w (w1.alloc (.cells #[.int .i64 xk, .int .i64 xn, .string xt, .bool xb] 23))) := below_step HB.out ((Below.refl _ _).alloc (Nat.le_refl _) _)
  obtain ⟨ca0, ca1, ca2, ca3⟩ := Pa.out
  obtain ⟨cb0, cb1, cb2, cb3⟩ := Pb.out
  obtain ⟨cc0, cc1, cc2, cc3⟩ := Pc.out
  obtain ⟨cx0, cx1, cx2, cx3⟩ := Px.out
  go_wp2_with fail
  refine (H2.out _).mono ?_
  rintro e w2 ⟨rfl, hb2⟩
  clear ca0 ca1 ca2 ca3 cb0 cb1 cb2 cb3 cc0 cc1 cc2 cc3 cx0 cx1 cx2 cx3
  replace Pa := Lib.hid (Pa.out.on hb2)
  replace Pb := Lib.hid (Pb.out.on hb2)
  replace Pc := Lib.hid (Pc.out.on hb2)
  replace Px := Lib.hid (Px.out.on hb2)
  replace HB := Lib.hid (below_step HB.out hb2)
  clear hb2
  replace Pa := Lib.hid (Pa.out.alloc (.cells #[.int .i64 yk, .int .i64 yn, .string yt, .bool yb] 23))
  replace Pb := Lib.hid (Pb.out.alloc (.cells #[.int .i64 yk, .int .i64 yn, .string yt, .bool yb] 23))
  replace Pc := Lib.hid (Pc.out.alloc (.cells #[.int .i64 yk, .int .i64 yn, .string yt, .bool yb] 23))
  replace Px := Lib.hid (Px.out.alloc (.cells #[.int .i64 yk, .int .i64 yn, .string yt, .bool yb] 23))
  have Py := Lib.hid (in4_new w2 yk yn yt yb 23)
  replace HB : Hid (Below w.heap.size w (w2.alloc (.cells #[.int .i64 yk, .int .i64 yn, .string yt, .bool yb] 23))) := below_step HB.out ((Below.refl _ _).alloc (Nat.le_refl _) _)
  obtain ⟨ca0, ca1, ca2, ca3⟩ := Pa.out
  obtain ⟨cb0, cb1, cb2, cb3⟩ := Pb.out
  obtain ⟨cc0, cc1, cc2, cc3⟩ := Pc.out
  obtain ⟨cx0, cx1, cx2, cx3⟩ := Px.out
  obtain ⟨cy0, cy1, cy2, cy3⟩ := Py.out
  go_wp2_with fail
  refine (H3.out _).mono ?_
  rintro e w3 ⟨rfl, hb3⟩
  clear ca0 ca1 ca2 ca3 cb0 cb1 cb2 cb3 cc0 cc1 cc2 cc3 cx0 cx1 cx2 cx3 cy0 cy1 cy2 cy3
  replace Pa := Lib.hid (Pa.out.on hb3)
  replace Pb := Lib.hid (Pb.out.on hb3)
  replace Pc := Lib.hid (Pc.out.on hb3)
  replace Px := Lib.hid (Px.out.on hb3)
  replace Py := Lib.hid (Py.out.on hb3)
  replace HB := Lib.hid (below_step HB.out hb3)
  clear hb3
  replace Pa := Lib.hid (Pa.out.alloc (.cells #[.int .i64 mk, .int .i64 mn, .string mt, .bool mb] 23))
  replace Pb := Lib.hid (Pb.out.alloc (.cells #[.int .i64 mk, .int .i64 mn, .string mt, .bool mb] 23))
  replace Pc := Lib.hid (Pc.out.alloc (.cells #[.int .i64 mk, .int .i64 mn, .string mt, .bool mb] 23))
  replace Px := Lib.hid (Px.out.alloc (.cells #[.int .i64 mk, .int .i64 mn, .string mt, .bool mb] 23))
  replace Py := Lib.hid (Py.out.alloc (.cells #[.int .i64 mk, .int .i64 mn, .string mt, .bool mb] 23))
  have Pm := Lib.hid (in4_new w3 mk mn mt mb 23)
  replace HB : Hid (Below w.heap.size w (w3.alloc (.cells #[.int .i64 mk, .int .i64 mn, .string mt, .bool mb] 23))) := below_step HB.out ((Below.refl _ _).alloc (Nat.le_refl _) _)
  obtain ⟨ca0, ca1, ca2, ca3⟩ := Pa.out
  obtain ⟨cb0, cb1, cb2, cb3⟩ := Pb.out
  obtain ⟨cc0, cc1, cc2, cc3⟩ := Pc.out
  obtain ⟨cx0, cx1, cx2, cx3⟩ := Px.out
  obtain ⟨cy0, cy1, cy2, cy3⟩ := Py.out
  obtain ⟨cm0, cm1, cm2, cm3⟩ := Pm.out
  go_wp2_with fail
  refine (H4.out _).mono ?_
  rintro e w4 ⟨rfl, hb4⟩
  clear ca0 ca1 ca2 ca3 cb0 cb1 cb2 cb3 cc0 cc1 cc2 cc3 cx0 cx1 cx2 cx3 cy0 cy1 cy2 cy3 cm0 cm1 cm2 cm3
  replace Pa := Lib.hid (Pa.out.on hb4)
  replace Pb := Lib.hid (Pb.out.on hb4)
  replace Pc := Lib.hid (Pc.out.on hb4)
  replace Px := Lib.hid (Px.out.on hb4)
  replace Py := Lib.hid (Py.out.on hb4)
  replace Pm := Lib.hid (Pm.out.on hb4)
  replace HB := Lib.hid (below_step HB.out hb4)
  clear hb4
  replace Pa := Lib.hid (Pa.out.alloc (.cells #[.int .i64 qk, .int .i64 qn, .string qt, .bool qb] 23))
  replace Pb := Lib.hid (Pb.out.alloc (.cells #[.int .i64 qk, .int .i64 qn, .string qt, .bool qb] 23))
  replace Pc := Lib.hid (Pc.out.alloc (.cells #[.int .i64 qk, .int .i64 qn, .string qt, .bool qb] 23))
  replace Px := Lib.hid (Px.out.alloc (.cells #[.int .i64 qk, .int .i64 qn, .string qt, .bool qb] 23))
  replace Py := Lib.hid (Py.out.alloc (.cells #[.int .i64 qk, .int .i64 qn, .string qt, .bool qb] 23))
  replace Pm := Lib.hid (Pm.out.alloc (.cells #[.int .i64 qk, .int .i64 qn, .string qt, .bool qb] 23))
  have Pq := Lib.hid (in4_new w4 qk qn qt qb 23)
  replace HB : Hid (Below w.heap.size w (w4.alloc (.cells #[.int .i64 qk, .int .i64 qn, .string qt, .bool qb] 23))) := below_step HB.out ((Below.refl _ _).alloc (Nat.le_refl _) _)
  obtain ⟨ca0, ca1, ca2, ca3⟩ := Pa.out
  obtain ⟨cb0, cb1, cb2, cb3⟩ := Pb.out
  obtain ⟨cc0, cc1, cc2, cc3⟩ := Pc.out
  obtain ⟨cx0, cx1, cx2, cx3⟩ := Px.out
  obtain ⟨cy0, cy1, cy2, cy3⟩ := Py.out
  obtain ⟨cm0, cm1, cm2, cm3⟩ := Pm.out
  obtain ⟨cq0, cq1, cq2, cq3⟩ := Pq.out
  go_wp2_with fail
  refine (H5.out _).mono ?_
  rintro e w5 ⟨rfl, hb5⟩
  clear ca0 ca1 ca2 ca3 cb0 cb1 cb2 cb3 cc0 cc1 cc2 cc3 cx0 cx1 cx2 cx3 cy0 cy1 cy2 cy3 cm0 cm1 cm2 cm3 cq0 cq1 cq2 cq3
  replace Pa := Lib.hid (Pa.out.on hb5)
  replace Pb := Lib.hid (Pb.out.on hb5)
  replace Pc := Lib.hid (Pc.out.on hb5)
  replace Px := Lib.hid (Px.out.on hb5)
  replace Py := Lib.hid (Py.out.on hb5)
  replace Pm := Lib.hid (Pm.out.on hb5)
  replace Pq := Lib.hid (Pq.out.on hb5)
  replace HB := Lib.hid (below_step HB.out hb5)
  clear hb5
  replace Pa := Lib.hid (Pa.out.alloc (.cells #[.int .i64 yk, .int .i64 yn, .string yt, .bool yb] 23))
  replace Pb := Lib.hid (Pb.out.alloc (.cells #[.int .i64 yk, .int .i64 yn, .string yt, .bool yb] 23))
  replace Pc := Lib.hid (Pc.out.alloc (.cells #[.int .i64 yk, .int .i64 yn, .string yt, .bool yb] 23))
  replace Px := Lib.hid (Px.out.alloc (.cells #[.int .i64 yk, .int .i64 yn, .string yt, .bool yb] 23))
  replace Py := Lib.hid (Py.out.alloc (.cells #[.int .i64 yk, .int .i64 yn, .string yt, .bool yb] 23))
  replace Pm := Lib.hid (Pm.out.alloc (.cells #[.int .i64 yk, .int .i64 yn, .string yt, .bool yb] 23))
  replace Pq := Lib.hid (Pq.out.alloc (.cells #[.int .i64 yk, .int .i64 yn, .string yt, .bool yb] 23))
  have Pz := Lib.hid (in4_new w5 yk yn yt yb 23)
  replace HB : Hid (Below w.heap.size w (w5.alloc (.cells #[.int .i64 yk, .int .i64 yn, .string yt, .bool yb] 23))) := below_step HB.out ((Below.refl _ _).alloc (Nat.le_refl _) _)
  obtain ⟨ca0, ca1, ca2, ca3⟩ := Pa.out
  obtain ⟨cb0, cb1, cb2, cb3⟩ := Pb.out
  obtain ⟨cc0, cc1, cc2, cc3⟩ := Pc.out
  obtain ⟨cx0, cx1, cx2, cx3⟩ := Px.out
  obtain ⟨cy0, cy1, cy2, cy3⟩ := Py.out
  obtain ⟨cm0, cm1, cm2, cm3⟩ := Pm.out
  obtain ⟨cq0, cq1, cq2, cq3⟩ := Pq.out
  obtain ⟨cz0, cz1, cz2, cz3⟩ := Pz.out
  go_wp2_with fail
  refine (H6.out _ (HE.out.on HB.out)).mono ?_
  rintro e w6 ⟨rfl, hb6⟩
  clear ca0 ca1 ca2 ca3 cb0 cb1 cb2 cb3 cc0 cc1 cc2 cc3 cx0 cx1 cx2 cx3 cy0 cy1 cy2 cy3 cm0 cm1 cm2 cm3 cq0 cq1 cq2 cq3 cz0 cz1 cz2 cz3
  replace Pa := Lib.hid (Pa.out.on hb6)
  replace Pb := Lib.hid (Pb.out.on hb6)
  replace Pc := Lib.hid (Pc.out.on hb6)
  replace Px := Lib.hid (Px.out.on hb6)
  replace Py := Lib.hid (Py.out.on hb6)
  replace Pm := Lib.hid (Pm.out.on hb6)
  replace Pq := Lib.hid (Pq.out.on hb6)
  replace Pz := Lib.hid (Pz.out.on hb6)
  replace HB := Lib.hid (below_step HB.out hb6)
  clear hb6
  obtain ⟨ca0, ca1, ca2, ca3⟩ := Pa.out
  obtain ⟨cb0, cb1, cb2, cb3⟩ := Pb.out
  obtain ⟨cc0, cc1, cc2, cc3⟩ := Pc.out
  obtain ⟨cx0, cx1, cx2, cx3⟩ := Px.out
  obtain ⟨cy0, cy1, cy2, cy3⟩ := Py.out
  obtain ⟨cm0, cm1, cm2, cm3⟩ := Pm.out
  obtain ⟨cq0, cq1, cq2, cq3⟩ := Pq.out
  obtain ⟨cz0, cz1, cz2, cz3⟩ := Pz.out
  go_wp2_with fail
  refine (HS.out _ (HE.out.on HB.out)).mono ?_
  rintro e w7 ⟨rfl, hb7⟩
  clear ca0 ca1 ca2 ca3 cb0 cb1 cb2 cb3 cc0 cc1 cc2 cc3 cx0 cx1 cx2 cx3 cy0 cy1 cy2 cy3 cm0 cm1 cm2 cm3 cq0 cq1 cq2 cq3 cz0 cz1 cz2 cz3
  replace Pa := Lib.hid (Pa.out.on hb7)
  replace Pb := Lib.hid (Pb.out.on hb7)
  replace Pc := Lib.hid (Pc.out.on hb7)
  replace Px := Lib.hid (Px.out.on hb7)
  replace Py := Lib.hid (Py.out.on hb7)
  replace Pm := Lib.hid (Pm.out.on hb7)
  replace Pq := Lib.hid (Pq.out.on hb7)
  replace Pz := Lib.hid (Pz.out.on hb7)
  replace HB := Lib.hid (below_step HB.out hb7)
  clear hb7
  obtain ⟨ca0, ca1, ca2, ca3⟩ := Pa.out
  obtain ⟨cb0, cb1, cb2, cb3⟩ := Pb.out
  obtain ⟨cc0, cc1, cc2, cc3⟩ := Pc.out
  obtain ⟨cx0, cx1, cx2, cx3⟩ := Px.out
  obtain ⟨cy0, cy1, cy2, cy3⟩ := Py.out
  obtain ⟨cm0, cm1, cm2, cm3⟩ := Pm.out
  obtain ⟨cq0, cq1, cq2, cq3⟩ := Pq.out
  obtain ⟨cz0, cz1, cz2, cz3⟩ := Pz.out
  go_wp2_with fail
  go_ret
  exact ⟨rfl, HB.out⟩
set_option maxHeartbeats 4000000 in
set_option maxRecDepth 100000 in
theorem morgan_a_bad (k n : Int) (t : ByteArray) (b : Bool) (k' n' : Int) (t' : ByteArray) (b' : Bool) (k2 n2 : Int) (t2 : ByteArray) (b2 : Bool) (w : World) (xk xn : Int) (xt : ByteArray) (xb : Bool) (yk yn : Int) (yt : ByteArray) (yb : Bool) (mk mn : Int) (mt : ByteArray) (mb : Bool) (qk qn : Int) (qt : ByteArray) (qb : Bool) (zk zn : Int) (zt : ByteArray) (zb : Bool) (Eh : Value) (Ev : Int) (h1 : ∀ W, Calls Tryd.prog 15 #[.agg #[.int .i64 k, .int .i64 n, .string t, .bool b], .agg #[.int .i64 k', .int .i64 n', .string t', .bool b']] W fun e w' => e = .returned (.tuple #[.agg #[.int .i64 xk, .int .i64 xn, .string xt, .bool xb], .iface 45 (.int .i64 7)]) ∧ Below W.heap.size W w') (h2 : ∀ W, Calls Tryd.prog 19 #[.agg #[.int .i64 xk, .int .i64 xn, .string xt, .bool xb]] W fun e w' => e = .returned (.tuple #[.agg #[.int .i64 yk, .int .i64 yn, .string yt, .bool yb], .nilIface]) ∧ Below W.heap.size W w') (h3 : ∀ W, Calls Tryd.prog 19 #[.agg #[.int .i64 k, .int .i64 n, .string t, .bool b]] W fun e w' => e = .returned (.tuple #[.agg #[.int .i64 mk, .int .i64 mn, .string mt, .bool mb], .iface 45 (.int .i64 7)]) ∧ Below W.heap.size W w') (h4 : ∀ W, Calls Tryd.prog 19 #[.agg #[.int .i64 k', .int .i64 n', .string t', .bool b']] W fun e w' => e = .returned (.tuple #[.agg #[.int .i64 qk, .int .i64 qn, .string qt, .bool qb], Eh]) ∧ Below W.heap.size W w') (h5 : ∀ W, Calls Tryd.prog 17 #[.agg #[.int .i64 mk, .int .i64 mn, .string mt, .bool mb], .agg #[.int .i64 qk, .int .i64 qn, .string qt, .bool qb]] W fun e w' => e = .returned (.tuple #[.agg #[.int .i64 zk, .int .i64 zn, .string zt, .bool zb], .nilIface]) ∧ Below W.heap.size W w') (h6 : ∀ W, Env W → Calls Tryd.prog 26 #[.agg #[.int .i64 k2, .int .i64 n2, .string t2, .bool b2]] W fun e w' => e = .returned (.tuple #[.string ⟨#[]⟩, .iface 45 (.int .i64 Ev)]) ∧ Below W.heap.size W w') (hE : Env w) :
    Calls Tryd.prog 7 #[.agg #[.int .i64 k, .int .i64 n, .string t, .bool b], .agg #[.int .i64 k', .int .i64 n', .string t', .bool b'], .agg #[.int .i64 k2, .int .i64 n2, .string t2, .bool b2]] w fun e w' => e = .returned (.bool true) ∧ Below w.heap.size w w' := by
  have H1 := Lib.hid h1
  have H2 := Lib.hid h2
  have H3 := Lib.hid h3
  have H4 := Lib.hid h4
  have H5 := Lib.hid h5
  have hEQv : ∀ W, (Op.equalIn 10000 23 (.agg #[.int .i64 k2, .int .i64 n2, .string t2, .bool b2]) (.agg #[.int .i64 k2, .int .i64 n2, .string t2, .bool b2])).run Tryd.prog W = .ok true W := fun W => by rw [eqIn_, sameV_refl]
  have hGD := guardV
  have H6 := Lib.hid h6
  have HS : Hid (∀ W, Env W → Calls Tryd.prog 14 #[] W fun e w' => e = .returned (.bool true) ∧ Below W.heap.size W w') := fun W hW => sure_ W hW
  have HE := Lib.hid hE
  clear hE h1 h2 h3 h4 h5 h6
  have Pa : Hid (In4 (((w.alloc (.cells #[.int .i64 k, .int .i64 n, .string t, .bool b] 23)).alloc (.cells #[.int .i64 k', .int .i64 n', .string t', .bool b'] 23)).alloc (.cells #[.int .i64 k2, .int .i64 n2, .string t2, .bool b2] 23)) (w.heap.size) 0 k n t b) := Lib.hid (by have := ((in4_new w k n t b 23).alloc (.cells #[.int .i64 k', .int .i64 n', .string t', .bool b'] 23)).alloc (.cells #[.int .i64 k2, .int .i64 n2, .string t2, .bool b2] 23); simpa using this)
  have Pb : Hid (In4 (((w.alloc (.cells #[.int .i64 k, .int .i64 n, .string t, .bool b] 23)).alloc (.cells #[.int .i64 k', .int .i64 n', .string t', .bool b'] 23)).alloc (.cells #[.int .i64 k2, .int .i64 n2, .string t2, .bool b2] 23)) (w.heap.size + 1) 0 k' n' t' b') := Lib.hid (by have := (in4_new (w.alloc (.cells #[.int .i64 k, .int .i64 n, .string t, .bool b] 23)) k' n' t' b' 23).alloc (.cells #[.int .i64 k2, .int .i64 n2, .string t2, .bool b2] 23); simpa using this)
  have Pc : Hid (In4 (((w.alloc (.cells #[.int .i64 k, .int .i64 n, .string t, .bool b] 23)).alloc (.cells #[.int .i64 k', .int .i64 n', .string t', .bool b'] 23)).alloc (.cells #[.int .i64 k2, .int .i64 n2, .string t2, .bool b2] 23)) (w.heap.size + 1 + 1) 0 k2 n2 t2 b2) := Lib.hid (by have := in4_new ((w.alloc (.cells #[.int .i64 k, .int .i64 n, .string t, .bool b] 23)).alloc (.cells #[.int .i64 k', .int .i64 n', .string t', .bool b'] 23)) k2 n2 t2 b2 23; simpa using this)
  have HB : Hid (Below w.heap.size w (((w.alloc (.cells #[.int .i64 k, .int .i64 n, .string t, .bool b] 23)).alloc (.cells #[.int .i64 k', .int .i64 n', .string t', .bool b'] 23)).alloc (.cells #[.int .i64 k2, .int .i64 n2, .string t2, .bool b2] 23))) := ((((Below.refl _ _).alloc (by simp) _).alloc (by simp) _).alloc (by simp; omega) _)
  go_enter Tryd.func7, Tryd.ntmps7
  go_wp2_with fail
  refine (H1.out _).mono ?_
  rintro e w1 ⟨rfl, hb1⟩
  replace Pa := Lib.hid (Pa.out.on hb1)
  replace Pb := Lib.hid (Pb.out.on hb1)
  replace Pc := Lib.hid (Pc.out.on hb1)
  replace HB := Lib.hid (below_step HB.out hb1)
  clear hb1
  replace Pa := Lib.hid (Pa.out.alloc (.cells #[.int .i64 xk, .int .i64 xn, .string xt, .bool xb] 23))
  replace Pb := Lib.hid (Pb.out.alloc (.cells #[.int .i64 xk, .int .i64 xn, .string xt, .bool xb] 23))
  replace Pc := Lib.hid (Pc.out.alloc (.cells #[.int .i64 xk, .int .i64 xn, .string xt, .bool xb] 23))
  have Px := Lib.hid (in4_new w1 xk xn xt xb 23)
  replace HB : Hid (Below w.heap.size w (w1.alloc (.cells #[.int .i64 xk, .int .i64 xn, .string xt, .bool xb] 23))) := below_step HB.out ((Below.refl _ _).alloc (Nat.le_refl _) _)
  obtain ⟨ca0, ca1, ca2, ca3⟩ := Pa.out
  obtain ⟨cb0, cb1, cb2, cb3⟩ := Pb.out
  obtain ⟨cc0, cc1, cc2, cc3⟩ := Pc.out
  obtain ⟨cx0, cx1, cx2, cx3⟩ := Px.out
  go_wp2_with fail
  refine (H2.out _).mono ?_
  rintro e w2 ⟨rfl, hb2⟩
  clear ca0 ca1 ca2 ca3 cb0 cb1 cb2 cb3 cc0 cc1 cc2 cc3 cx0 cx1 cx2 cx3
  replace Pa := Lib.hid (Pa.out.on hb2)
  replace Pb := Lib.hid (Pb.out.on hb2)
  replace Pc := Lib.hid (Pc.out.on hb2)
  replace Px := Lib.hid (Px.out.on hb2)
  replace HB := Lib.hid (below_step HB.out hb2)
  clear hb2
  replace Pa := Lib.hid (Pa.out.alloc (.cells #[.int .i64 yk, .int .i64 yn, .string yt, .bool yb] 23))
  replace Pb := Lib.hid (Pb.out.alloc (.cells #[.int .i64 yk, .int .i64 yn, .string yt, .bool yb] 23))
  replace Pc := Lib.hid (Pc.out.alloc (.cells #[.int .i64 yk, .int .i64 yn, .string yt, .bool yb] 23))
  replace Px := Lib.hid (Px.out.alloc (.cells #[.int .i64 yk, .int .i64 yn, .string yt, .bool yb] 23))
  have Py := Lib.hid (in4_new w2 yk yn yt yb 23)
  replace HB : Hid (Below w.heap.size w (w2.alloc (.cells #[.int .i64 yk, .int .i64 yn, .string yt, .bool yb] 23))) := below_step HB.out ((Below.refl _ _).alloc (Nat.le_refl _) _)
  obtain ⟨ca0, ca1, ca2, ca3⟩ := Pa.out
  obtain ⟨cb0, cb1, cb2, cb3⟩ := Pb.out
  obtain ⟨cc0, cc1, cc2, cc3⟩ := Pc.out
  obtain ⟨cx0, cx1, cx2, cx3⟩ := Px.out
  obtain ⟨cy0, cy1, cy2, cy3⟩ := Py.out
  go_wp2_with fail
  refine (H3.out _).mono ?_
  rintro e w3 ⟨rfl, hb3⟩
  clear ca0 ca1 ca2 ca3 cb0 cb1 cb2 cb3 cc0 cc1 cc2 cc3 cx0 cx1 cx2 cx3 cy0 cy1 cy2 cy3
  replace Pa := Lib.hid (Pa.out.on hb3)
  replace Pb := Lib.hid (Pb.out.on hb3)
  replace Pc := Lib.hid (Pc.out.on hb3)
  replace Px := Lib.hid (Px.out.on hb3)
  replace Py := Lib.hid (Py.out.on hb3)
  replace HB := Lib.hid (below_step HB.out hb3)
  clear hb3
  replace Pa := Lib.hid (Pa.out.alloc (.cells #[.int .i64 mk, .int .i64 mn, .string mt, .bool mb] 23))
  replace Pb := Lib.hid (Pb.out.alloc (.cells #[.int .i64 mk, .int .i64 mn, .string mt, .bool mb] 23))
  replace Pc := Lib.hid (Pc.out.alloc (.cells #[.int .i64 mk, .int .i64 mn, .string mt, .bool mb] 23))
  replace Px := Lib.hid (Px.out.alloc (.cells #[.int .i64 mk, .int .i64 mn, .string mt, .bool mb] 23))
  replace Py := Lib.hid (Py.out.alloc (.cells #[.int .i64 mk, .int .i64 mn, .string mt, .bool mb] 23))
  have Pm := Lib.hid (in4_new w3 mk mn mt mb 23)
  replace HB : Hid (Below w.heap.size w (w3.alloc (.cells #[.int .i64 mk, .int .i64 mn, .string mt, .bool mb] 23))) := below_step HB.out ((Below.refl _ _).alloc (Nat.le_refl _) _)
  obtain ⟨ca0, ca1, ca2, ca3⟩ := Pa.out
  obtain ⟨cb0, cb1, cb2, cb3⟩ := Pb.out
  obtain ⟨cc0, cc1, cc2, cc3⟩ := Pc.out
  obtain ⟨cx0, cx1, cx2, cx3⟩ := Px.out
  obtain ⟨cy0, cy1, cy2, cy3⟩ := Py.out
  obtain ⟨cm0, cm1, cm2, cm3⟩ := Pm.out
  go_wp2_with fail
  refine (H4.out _).mono ?_
  rintro e w4 ⟨rfl, hb4⟩
  clear ca0 ca1 ca2 ca3 cb0 cb1 cb2 cb3 cc0 cc1 cc2 cc3 cx0 cx1 cx2 cx3 cy0 cy1 cy2 cy3 cm0 cm1 cm2 cm3
  replace Pa := Lib.hid (Pa.out.on hb4)
  replace Pb := Lib.hid (Pb.out.on hb4)
  replace Pc := Lib.hid (Pc.out.on hb4)
  replace Px := Lib.hid (Px.out.on hb4)
  replace Py := Lib.hid (Py.out.on hb4)
  replace Pm := Lib.hid (Pm.out.on hb4)
  replace HB := Lib.hid (below_step HB.out hb4)
  clear hb4
  replace Pa := Lib.hid (Pa.out.alloc (.cells #[.int .i64 qk, .int .i64 qn, .string qt, .bool qb] 23))
  replace Pb := Lib.hid (Pb.out.alloc (.cells #[.int .i64 qk, .int .i64 qn, .string qt, .bool qb] 23))
  replace Pc := Lib.hid (Pc.out.alloc (.cells #[.int .i64 qk, .int .i64 qn, .string qt, .bool qb] 23))
  replace Px := Lib.hid (Px.out.alloc (.cells #[.int .i64 qk, .int .i64 qn, .string qt, .bool qb] 23))
  replace Py := Lib.hid (Py.out.alloc (.cells #[.int .i64 qk, .int .i64 qn, .string qt, .bool qb] 23))
  replace Pm := Lib.hid (Pm.out.alloc (.cells #[.int .i64 qk, .int .i64 qn, .string qt, .bool qb] 23))
  have Pq := Lib.hid (in4_new w4 qk qn qt qb 23)
  replace HB : Hid (Below w.heap.size w (w4.alloc (.cells #[.int .i64 qk, .int .i64 qn, .string qt, .bool qb] 23))) := below_step HB.out ((Below.refl _ _).alloc (Nat.le_refl _) _)
  obtain ⟨ca0, ca1, ca2, ca3⟩ := Pa.out
  obtain ⟨cb0, cb1, cb2, cb3⟩ := Pb.out
  obtain ⟨cc0, cc1, cc2, cc3⟩ := Pc.out
  obtain ⟨cx0, cx1, cx2, cx3⟩ := Px.out
  obtain ⟨cy0, cy1, cy2, cy3⟩ := Py.out
  obtain ⟨cm0, cm1, cm2, cm3⟩ := Pm.out
  obtain ⟨cq0, cq1, cq2, cq3⟩ := Pq.out
  go_wp2_with fail
  refine (H5.out _).mono ?_
  rintro e w5 ⟨rfl, hb5⟩
  clear ca0 ca1 ca2 ca3 cb0 cb1 cb2 cb3 cc0 cc1 cc2 cc3 cx0 cx1 cx2 cx3 cy0 cy1 cy2 cy3 cm0 cm1 cm2 cm3 cq0 cq1 cq2 cq3
  replace Pa := Lib.hid (Pa.out.on hb5)
  replace Pb := Lib.hid (Pb.out.on hb5)
  replace Pc := Lib.hid (Pc.out.on hb5)
  replace Px := Lib.hid (Px.out.on hb5)
  replace Py := Lib.hid (Py.out.on hb5)
  replace Pm := Lib.hid (Pm.out.on hb5)
  replace Pq := Lib.hid (Pq.out.on hb5)
  replace HB := Lib.hid (below_step HB.out hb5)
  clear hb5
  replace Pa := Lib.hid (Pa.out.alloc (.cells #[.int .i64 zk, .int .i64 zn, .string zt, .bool zb] 23))
  replace Pb := Lib.hid (Pb.out.alloc (.cells #[.int .i64 zk, .int .i64 zn, .string zt, .bool zb] 23))
  replace Pc := Lib.hid (Pc.out.alloc (.cells #[.int .i64 zk, .int .i64 zn, .string zt, .bool zb] 23))
  replace Px := Lib.hid (Px.out.alloc (.cells #[.int .i64 zk, .int .i64 zn, .string zt, .bool zb] 23))
  replace Py := Lib.hid (Py.out.alloc (.cells #[.int .i64 zk, .int .i64 zn, .string zt, .bool zb] 23))
  replace Pm := Lib.hid (Pm.out.alloc (.cells #[.int .i64 zk, .int .i64 zn, .string zt, .bool zb] 23))
  replace Pq := Lib.hid (Pq.out.alloc (.cells #[.int .i64 zk, .int .i64 zn, .string zt, .bool zb] 23))
  have Pz := Lib.hid (in4_new w5 zk zn zt zb 23)
  replace HB : Hid (Below w.heap.size w (w5.alloc (.cells #[.int .i64 zk, .int .i64 zn, .string zt, .bool zb] 23))) := below_step HB.out ((Below.refl _ _).alloc (Nat.le_refl _) _)
  obtain ⟨ca0, ca1, ca2, ca3⟩ := Pa.out
  obtain ⟨cb0, cb1, cb2, cb3⟩ := Pb.out
  obtain ⟨cc0, cc1, cc2, cc3⟩ := Pc.out
  obtain ⟨cx0, cx1, cx2, cx3⟩ := Px.out
  obtain ⟨cy0, cy1, cy2, cy3⟩ := Py.out
  obtain ⟨cm0, cm1, cm2, cm3⟩ := Pm.out
  obtain ⟨cq0, cq1, cq2, cq3⟩ := Pq.out
  obtain ⟨cz0, cz1, cz2, cz3⟩ := Pz.out
  go_wp2_with fail
  refine (H6.out _ (HE.out.on HB.out)).mono ?_
  rintro e w6 ⟨rfl, hb6⟩
  clear ca0 ca1 ca2 ca3 cb0 cb1 cb2 cb3 cc0 cc1 cc2 cc3 cx0 cx1 cx2 cx3 cy0 cy1 cy2 cy3 cm0 cm1 cm2 cm3 cq0 cq1 cq2 cq3 cz0 cz1 cz2 cz3
  replace Pa := Lib.hid (Pa.out.on hb6)
  replace Pb := Lib.hid (Pb.out.on hb6)
  replace Pc := Lib.hid (Pc.out.on hb6)
  replace Px := Lib.hid (Px.out.on hb6)
  replace Py := Lib.hid (Py.out.on hb6)
  replace Pm := Lib.hid (Pm.out.on hb6)
  replace Pq := Lib.hid (Pq.out.on hb6)
  replace Pz := Lib.hid (Pz.out.on hb6)
  replace HB := Lib.hid (below_step HB.out hb6)
  clear hb6
  obtain ⟨ca0, ca1, ca2, ca3⟩ := Pa.out
  obtain ⟨cb0, cb1, cb2, cb3⟩ := Pb.out
  obtain ⟨cc0, cc1, cc2, cc3⟩ := Pc.out
  obtain ⟨cx0, cx1, cx2, cx3⟩ := Px.out
  obtain ⟨cy0, cy1, cy2, cy3⟩ := Py.out
  obtain ⟨cm0, cm1, cm2, cm3⟩ := Pm.out
  obtain ⟨cq0, cq1, cq2, cq3⟩ := Pq.out
  obtain ⟨cz0, cz1, cz2, cz3⟩ := Pz.out
  go_wp2_with fail
  refine (HS.out _ (HE.out.on HB.out)).mono ?_
  rintro e w7 ⟨rfl, hb7⟩
  clear ca0 ca1 ca2 ca3 cb0 cb1 cb2 cb3 cc0 cc1 cc2 cc3 cx0 cx1 cx2 cx3 cy0 cy1 cy2 cy3 cm0 cm1 cm2 cm3 cq0 cq1 cq2 cq3 cz0 cz1 cz2 cz3
  replace Pa := Lib.hid (Pa.out.on hb7)
  replace Pb := Lib.hid (Pb.out.on hb7)
  replace Pc := Lib.hid (Pc.out.on hb7)
  replace Px := Lib.hid (Px.out.on hb7)
  replace Py := Lib.hid (Py.out.on hb7)
  replace Pm := Lib.hid (Pm.out.on hb7)
  replace Pq := Lib.hid (Pq.out.on hb7)
  replace Pz := Lib.hid (Pz.out.on hb7)
  replace HB := Lib.hid (below_step HB.out hb7)
  clear hb7
  obtain ⟨ca0, ca1, ca2, ca3⟩ := Pa.out
  obtain ⟨cb0, cb1, cb2, cb3⟩ := Pb.out
  obtain ⟨cc0, cc1, cc2, cc3⟩ := Pc.out
  obtain ⟨cx0, cx1, cx2, cx3⟩ := Px.out
  obtain ⟨cy0, cy1, cy2, cy3⟩ := Py.out
  obtain ⟨cm0, cm1, cm2, cm3⟩ := Pm.out
  obtain ⟨cq0, cq1, cq2, cq3⟩ := Pq.out
  obtain ⟨cz0, cz1, cz2, cz3⟩ := Pz.out
  go_wp2_with fail
  go_ret
  exact ⟨rfl, HB.out⟩
set_option maxHeartbeats 4000000 in
set_option maxRecDepth 100000 in
theorem morgan_b_bad (k n : Int) (t : ByteArray) (b : Bool) (k' n' : Int) (t' : ByteArray) (b' : Bool) (k2 n2 : Int) (t2 : ByteArray) (b2 : Bool) (w : World) (xk xn : Int) (xt : ByteArray) (xb : Bool) (yk yn : Int) (yt : ByteArray) (yb : Bool) (mk mn : Int) (mt : ByteArray) (mb : Bool) (qk qn : Int) (qt : ByteArray) (qb : Bool) (zk zn : Int) (zt : ByteArray) (zb : Bool) (Ev : Int) (h1 : ∀ W, Calls Tryd.prog 15 #[.agg #[.int .i64 k, .int .i64 n, .string t, .bool b], .agg #[.int .i64 k', .int .i64 n', .string t', .bool b']] W fun e w' => e = .returned (.tuple #[.agg #[.int .i64 xk, .int .i64 xn, .string xt, .bool xb], .iface 45 (.int .i64 7)]) ∧ Below W.heap.size W w') (h2 : ∀ W, Calls Tryd.prog 19 #[.agg #[.int .i64 xk, .int .i64 xn, .string xt, .bool xb]] W fun e w' => e = .returned (.tuple #[.agg #[.int .i64 yk, .int .i64 yn, .string yt, .bool yb], .nilIface]) ∧ Below W.heap.size W w') (h3 : ∀ W, Calls Tryd.prog 19 #[.agg #[.int .i64 k, .int .i64 n, .string t, .bool b]] W fun e w' => e = .returned (.tuple #[.agg #[.int .i64 mk, .int .i64 mn, .string mt, .bool mb], .nilIface]) ∧ Below W.heap.size W w') (h4 : ∀ W, Calls Tryd.prog 19 #[.agg #[.int .i64 k', .int .i64 n', .string t', .bool b']] W fun e w' => e = .returned (.tuple #[.agg #[.int .i64 qk, .int .i64 qn, .string qt, .bool qb], .iface 45 (.int .i64 7)]) ∧ Below W.heap.size W w') (h5 : ∀ W, Calls Tryd.prog 17 #[.agg #[.int .i64 mk, .int .i64 mn, .string mt, .bool mb], .agg #[.int .i64 qk, .int .i64 qn, .string qt, .bool qb]] W fun e w' => e = .returned (.tuple #[.agg #[.int .i64 zk, .int .i64 zn, .string zt, .bool zb], .nilIface]) ∧ Below W.heap.size W w') (h6 : ∀ W, Env W → Calls Tryd.prog 26 #[.agg #[.int .i64 k2, .int .i64 n2, .string t2, .bool b2]] W fun e w' => e = .returned (.tuple #[.string ⟨#[]⟩, .iface 45 (.int .i64 Ev)]) ∧ Below W.heap.size W w') (hE : Env w) :
    Calls Tryd.prog 7 #[.agg #[.int .i64 k, .int .i64 n, .string t, .bool b], .agg #[.int .i64 k', .int .i64 n', .string t', .bool b'], .agg #[.int .i64 k2, .int .i64 n2, .string t2, .bool b2]] w fun e w' => e = .returned (.bool true) ∧ Below w.heap.size w w' := by
  have H1 := Lib.hid h1
  have H2 := Lib.hid h2
  have H3 := Lib.hid h3
  have H4 := Lib.hid h4
  have H5 := Lib.hid h5
  have hEQv : ∀ W, (Op.equalIn 10000 23 (.agg #[.int .i64 k2, .int .i64 n2, .string t2, .bool b2]) (.agg #[.int .i64 k2, .int .i64 n2, .string t2, .bool b2])).run Tryd.prog W = .ok true W := fun W => by rw [eqIn_, sameV_refl]
  have hGD := guardV
  have H6 := Lib.hid h6
  have HS : Hid (∀ W, Env W → Calls Tryd.prog 14 #[] W fun e w' => e = .returned (.bool true) ∧ Below W.heap.size W w') := fun W hW => sure_ W hW
  have HE := Lib.hid hE
  clear hE h1 h2 h3 h4 h5 h6
  have Pa : Hid (In4 (((w.alloc (.cells #[.int .i64 k, .int .i64 n, .string t, .bool b] 23)).alloc (.cells #[.int .i64 k', .int .i64 n', .string t', .bool b'] 23)).alloc (.cells #[.int .i64 k2, .int .i64 n2, .string t2, .bool b2] 23)) (w.heap.size) 0 k n t b) := Lib.hid (by have := ((in4_new w k n t b 23).alloc (.cells #[.int .i64 k', .int .i64 n', .string t', .bool b'] 23)).alloc (.cells #[.int .i64 k2, .int .i64 n2, .string t2, .bool b2] 23); simpa using this)
  have Pb : Hid (In4 (((w.alloc (.cells #[.int .i64 k, .int .i64 n, .string t, .bool b] 23)).alloc (.cells #[.int .i64 k', .int .i64 n', .string t', .bool b'] 23)).alloc (.cells #[.int .i64 k2, .int .i64 n2, .string t2, .bool b2] 23)) (w.heap.size + 1) 0 k' n' t' b') := Lib.hid (by have := (in4_new (w.alloc (.cells #[.int .i64 k, .int .i64 n, .string t, .bool b] 23)) k' n' t' b' 23).alloc (.cells #[.int .i64 k2, .int .i64 n2, .string t2, .bool b2] 23); simpa using this)
  have Pc : Hid (In4 (((w.alloc (.cells #[.int .i64 k, .int .i64 n, .string t, .bool b] 23)).alloc (.cells #[.int .i64 k', .int .i64 n', .string t', .bool b'] 23)).alloc (.cells #[.int .i64 k2, .int .i64 n2, .string t2, .bool b2] 23)) (w.heap.size + 1 + 1) 0 k2 n2 t2 b2) := Lib.hid (by have := in4_new ((w.alloc (.cells #[.int .i64 k, .int .i64 n, .string t, .bool b] 23)).alloc (.cells #[.int .i64 k', .int .i64 n', .string t', .bool b'] 23)) k2 n2 t2 b2 23; simpa using this)
  have HB : Hid (Below w.heap.size w (((w.alloc (.cells #[.int .i64 k, .int .i64 n, .string t, .bool b] 23)).alloc (.cells #[.int .i64 k', .int .i64 n', .string t', .bool b'] 23)).alloc (.cells #[.int .i64 k2, .int .i64 n2, .string t2, .bool b2] 23))) := ((((Below.refl _ _).alloc (by simp) _).alloc (by simp) _).alloc (by simp; omega) _)
  go_enter Tryd.func7, Tryd.ntmps7
  go_wp2_with fail
  refine (H1.out _).mono ?_
  rintro e w1 ⟨rfl, hb1⟩
  replace Pa := Lib.hid (Pa.out.on hb1)
  replace Pb := Lib.hid (Pb.out.on hb1)
  replace Pc := Lib.hid (Pc.out.on hb1)
  replace HB := Lib.hid (below_step HB.out hb1)
  clear hb1
  replace Pa := Lib.hid (Pa.out.alloc (.cells #[.int .i64 xk, .int .i64 xn, .string xt, .bool xb] 23))
  replace Pb := Lib.hid (Pb.out.alloc (.cells #[.int .i64 xk, .int .i64 xn, .string xt, .bool xb] 23))
  replace Pc := Lib.hid (Pc.out.alloc (.cells #[.int .i64 xk, .int .i64 xn, .string xt, .bool xb] 23))
  have Px := Lib.hid (in4_new w1 xk xn xt xb 23)
  replace HB : Hid (Below w.heap.size w (w1.alloc (.cells #[.int .i64 xk, .int .i64 xn, .string xt, .bool xb] 23))) := below_step HB.out ((Below.refl _ _).alloc (Nat.le_refl _) _)
  obtain ⟨ca0, ca1, ca2, ca3⟩ := Pa.out
  obtain ⟨cb0, cb1, cb2, cb3⟩ := Pb.out
  obtain ⟨cc0, cc1, cc2, cc3⟩ := Pc.out
  obtain ⟨cx0, cx1, cx2, cx3⟩ := Px.out
  go_wp2_with fail
  refine (H2.out _).mono ?_
  rintro e w2 ⟨rfl, hb2⟩
  clear ca0 ca1 ca2 ca3 cb0 cb1 cb2 cb3 cc0 cc1 cc2 cc3 cx0 cx1 cx2 cx3
  replace Pa := Lib.hid (Pa.out.on hb2)
  replace Pb := Lib.hid (Pb.out.on hb2)
  replace Pc := Lib.hid (Pc.out.on hb2)
  replace Px := Lib.hid (Px.out.on hb2)
  replace HB := Lib.hid (below_step HB.out hb2)
  clear hb2
  replace Pa := Lib.hid (Pa.out.alloc (.cells #[.int .i64 yk, .int .i64 yn, .string yt, .bool yb] 23))
  replace Pb := Lib.hid (Pb.out.alloc (.cells #[.int .i64 yk, .int .i64 yn, .string yt, .bool yb] 23))
  replace Pc := Lib.hid (Pc.out.alloc (.cells #[.int .i64 yk, .int .i64 yn, .string yt, .bool yb] 23))
  replace Px := Lib.hid (Px.out.alloc (.cells #[.int .i64 yk, .int .i64 yn, .string yt, .bool yb] 23))
  have Py := Lib.hid (in4_new w2 yk yn yt yb 23)
  replace HB : Hid (Below w.heap.size w (w2.alloc (.cells #[.int .i64 yk, .int .i64 yn, .string yt, .bool yb] 23))) := below_step HB.out ((Below.refl _ _).alloc (Nat.le_refl _) _)
  obtain ⟨ca0, ca1, ca2, ca3⟩ := Pa.out
  obtain ⟨cb0, cb1, cb2, cb3⟩ := Pb.out
  obtain ⟨cc0, cc1, cc2, cc3⟩ := Pc.out
  obtain ⟨cx0, cx1, cx2, cx3⟩ := Px.out
  obtain ⟨cy0, cy1, cy2, cy3⟩ := Py.out
  go_wp2_with fail
  refine (H3.out _).mono ?_
  rintro e w3 ⟨rfl, hb3⟩
  clear ca0 ca1 ca2 ca3 cb0 cb1 cb2 cb3 cc0 cc1 cc2 cc3 cx0 cx1 cx2 cx3 cy0 cy1 cy2 cy3
  replace Pa := Lib.hid (Pa.out.on hb3)
  replace Pb := Lib.hid (Pb.out.on hb3)
  replace Pc := Lib.hid (Pc.out.on hb3)
  replace Px := Lib.hid (Px.out.on hb3)
  replace Py := Lib.hid (Py.out.on hb3)
  replace HB := Lib.hid (below_step HB.out hb3)
  clear hb3
  replace Pa := Lib.hid (Pa.out.alloc (.cells #[.int .i64 mk, .int .i64 mn, .string mt, .bool mb] 23))
  replace Pb := Lib.hid (Pb.out.alloc (.cells #[.int .i64 mk, .int .i64 mn, .string mt, .bool mb] 23))
  replace Pc := Lib.hid (Pc.out.alloc (.cells #[.int .i64 mk, .int .i64 mn, .string mt, .bool mb] 23))
  replace Px := Lib.hid (Px.out.alloc (.cells #[.int .i64 mk, .int .i64 mn, .string mt, .bool mb] 23))
  replace Py := Lib.hid (Py.out.alloc (.cells #[.int .i64 mk, .int .i64 mn, .string mt, .bool mb] 23))
  have Pm := Lib.hid (in4_new w3 mk mn mt mb 23)
  replace HB : Hid (Below w.heap.size w (w3.alloc (.cells #[.int .i64 mk, .int .i64 mn, .string mt, .bool mb] 23))) := below_step HB.out ((Below.refl _ _).alloc (Nat.le_refl _) _)
  obtain ⟨ca0, ca1, ca2, ca3⟩ := Pa.out
  obtain ⟨cb0, cb1, cb2, cb3⟩ := Pb.out
  obtain ⟨cc0, cc1, cc2, cc3⟩ := Pc.out
  obtain ⟨cx0, cx1, cx2, cx3⟩ := Px.out
  obtain ⟨cy0, cy1, cy2, cy3⟩ := Py.out
  obtain ⟨cm0, cm1, cm2, cm3⟩ := Pm.out
  go_wp2_with fail
  refine (H4.out _).mono ?_
  rintro e w4 ⟨rfl, hb4⟩
  clear ca0 ca1 ca2 ca3 cb0 cb1 cb2 cb3 cc0 cc1 cc2 cc3 cx0 cx1 cx2 cx3 cy0 cy1 cy2 cy3 cm0 cm1 cm2 cm3
  replace Pa := Lib.hid (Pa.out.on hb4)
  replace Pb := Lib.hid (Pb.out.on hb4)
  replace Pc := Lib.hid (Pc.out.on hb4)
  replace Px := Lib.hid (Px.out.on hb4)
  replace Py := Lib.hid (Py.out.on hb4)
  replace Pm := Lib.hid (Pm.out.on hb4)
  replace HB := Lib.hid (below_step HB.out hb4)
  clear hb4
  replace Pa := Lib.hid (Pa.out.alloc (.cells #[.int .i64 qk, .int .i64 qn, .string qt, .bool qb] 23))
  replace Pb := Lib.hid (Pb.out.alloc (.cells #[.int .i64 qk, .int .i64 qn, .string qt, .bool qb] 23))
  replace Pc := Lib.hid (Pc.out.alloc (.cells #[.int .i64 qk, .int .i64 qn, .string qt, .bool qb] 23))
  replace Px := Lib.hid (Px.out.alloc (.cells #[.int .i64 qk, .int .i64 qn, .string qt, .bool qb] 23))
  replace Py := Lib.hid (Py.out.alloc (.cells #[.int .i64 qk, .int .i64 qn, .string qt, .bool qb] 23))
  replace Pm := Lib.hid (Pm.out.alloc (.cells #[.int .i64 qk, .int .i64 qn, .string qt, .bool qb] 23))
  have Pq := Lib.hid (in4_new w4 qk qn qt qb 23)
  replace HB : Hid (Below w.heap.size w (w4.alloc (.cells #[.int .i64 qk, .int .i64 qn, .string qt, .bool qb] 23))) := below_step HB.out ((Below.refl _ _).alloc (Nat.le_refl _) _)
  obtain ⟨ca0, ca1, ca2, ca3⟩ := Pa.out
  obtain ⟨cb0, cb1, cb2, cb3⟩ := Pb.out
  obtain ⟨cc0, cc1, cc2, cc3⟩ := Pc.out
  obtain ⟨cx0, cx1, cx2, cx3⟩ := Px.out
  obtain ⟨cy0, cy1, cy2, cy3⟩ := Py.out
  obtain ⟨cm0, cm1, cm2, cm3⟩ := Pm.out
  obtain ⟨cq0, cq1, cq2, cq3⟩ := Pq.out
  go_wp2_with fail
  refine (H5.out _).mono ?_
  rintro e w5 ⟨rfl, hb5⟩
  clear ca0 ca1 ca2 ca3 cb0 cb1 cb2 cb3 cc0 cc1 cc2 cc3 cx0 cx1 cx2 cx3 cy0 cy1 cy2 cy3 cm0 cm1 cm2 cm3 cq0 cq1 cq2 cq3
  replace Pa := Lib.hid (Pa.out.on hb5)
  replace Pb := Lib.hid (Pb.out.on hb5)
  replace Pc := Lib.hid (Pc.out.on hb5)
  replace Px := Lib.hid (Px.out.on hb5)
  replace Py := Lib.hid (Py.out.on hb5)
  replace Pm := Lib.hid (Pm.out.on hb5)
  replace Pq := Lib.hid (Pq.out.on hb5)
  replace HB := Lib.hid (below_step HB.out hb5)
  clear hb5
  replace Pa := Lib.hid (Pa.out.alloc (.cells #[.int .i64 zk, .int .i64 zn, .string zt, .bool zb] 23))
  replace Pb := Lib.hid (Pb.out.alloc (.cells #[.int .i64 zk, .int .i64 zn, .string zt, .bool zb] 23))
  replace Pc := Lib.hid (Pc.out.alloc (.cells #[.int .i64 zk, .int .i64 zn, .string zt, .bool zb] 23))
  replace Px := Lib.hid (Px.out.alloc (.cells #[.int .i64 zk, .int .i64 zn, .string zt, .bool zb] 23))
  replace Py := Lib.hid (Py.out.alloc (.cells #[.int .i64 zk, .int .i64 zn, .string zt, .bool zb] 23))
  replace Pm := Lib.hid (Pm.out.alloc (.cells #[.int .i64 zk, .int .i64 zn, .string zt, .bool zb] 23))
  replace Pq := Lib.hid (Pq.out.alloc (.cells #[.int .i64 zk, .int .i64 zn, .string zt, .bool zb] 23))
  have Pz := Lib.hid (in4_new w5 zk zn zt zb 23)
  replace HB : Hid (Below w.heap.size w (w5.alloc (.cells #[.int .i64 zk, .int .i64 zn, .string zt, .bool zb] 23))) := below_step HB.out ((Below.refl _ _).alloc (Nat.le_refl _) _)
  obtain ⟨ca0, ca1, ca2, ca3⟩ := Pa.out
  obtain ⟨cb0, cb1, cb2, cb3⟩ := Pb.out
  obtain ⟨cc0, cc1, cc2, cc3⟩ := Pc.out
  obtain ⟨cx0, cx1, cx2, cx3⟩ := Px.out
  obtain ⟨cy0, cy1, cy2, cy3⟩ := Py.out
  obtain ⟨cm0, cm1, cm2, cm3⟩ := Pm.out
  obtain ⟨cq0, cq1, cq2, cq3⟩ := Pq.out
  obtain ⟨cz0, cz1, cz2, cz3⟩ := Pz.out
  go_wp2_with fail
  refine (H6.out _ (HE.out.on HB.out)).mono ?_
  rintro e w6 ⟨rfl, hb6⟩
  clear ca0 ca1 ca2 ca3 cb0 cb1 cb2 cb3 cc0 cc1 cc2 cc3 cx0 cx1 cx2 cx3 cy0 cy1 cy2 cy3 cm0 cm1 cm2 cm3 cq0 cq1 cq2 cq3 cz0 cz1 cz2 cz3
  replace Pa := Lib.hid (Pa.out.on hb6)
  replace Pb := Lib.hid (Pb.out.on hb6)
  replace Pc := Lib.hid (Pc.out.on hb6)
  replace Px := Lib.hid (Px.out.on hb6)
  replace Py := Lib.hid (Py.out.on hb6)
  replace Pm := Lib.hid (Pm.out.on hb6)
  replace Pq := Lib.hid (Pq.out.on hb6)
  replace Pz := Lib.hid (Pz.out.on hb6)
  replace HB := Lib.hid (below_step HB.out hb6)
  clear hb6
  obtain ⟨ca0, ca1, ca2, ca3⟩ := Pa.out
  obtain ⟨cb0, cb1, cb2, cb3⟩ := Pb.out
  obtain ⟨cc0, cc1, cc2, cc3⟩ := Pc.out
  obtain ⟨cx0, cx1, cx2, cx3⟩ := Px.out
  obtain ⟨cy0, cy1, cy2, cy3⟩ := Py.out
  obtain ⟨cm0, cm1, cm2, cm3⟩ := Pm.out
  obtain ⟨cq0, cq1, cq2, cq3⟩ := Pq.out
  obtain ⟨cz0, cz1, cz2, cz3⟩ := Pz.out
  go_wp2_with fail
  refine (HS.out _ (HE.out.on HB.out)).mono ?_
  rintro e w7 ⟨rfl, hb7⟩
  clear ca0 ca1 ca2 ca3 cb0 cb1 cb2 cb3 cc0 cc1 cc2 cc3 cx0 cx1 cx2 cx3 cy0 cy1 cy2 cy3 cm0 cm1 cm2 cm3 cq0 cq1 cq2 cq3 cz0 cz1 cz2 cz3
  replace Pa := Lib.hid (Pa.out.on hb7)
  replace Pb := Lib.hid (Pb.out.on hb7)
  replace Pc := Lib.hid (Pc.out.on hb7)
  replace Px := Lib.hid (Px.out.on hb7)
  replace Py := Lib.hid (Py.out.on hb7)
  replace Pm := Lib.hid (Pm.out.on hb7)
  replace Pq := Lib.hid (Pq.out.on hb7)
  replace Pz := Lib.hid (Pz.out.on hb7)
  replace HB := Lib.hid (below_step HB.out hb7)
  clear hb7
  obtain ⟨ca0, ca1, ca2, ca3⟩ := Pa.out
  obtain ⟨cb0, cb1, cb2, cb3⟩ := Pb.out
  obtain ⟨cc0, cc1, cc2, cc3⟩ := Pc.out
  obtain ⟨cx0, cx1, cx2, cx3⟩ := Px.out
  obtain ⟨cy0, cy1, cy2, cy3⟩ := Py.out
  obtain ⟨cm0, cm1, cm2, cm3⟩ := Pm.out
  obtain ⟨cq0, cq1, cq2, cq3⟩ := Pq.out
  obtain ⟨cz0, cz1, cz2, cz3⟩ := Pz.out
  go_wp2_with fail
  go_ret
  exact ⟨rfl, HB.out⟩
set_option maxHeartbeats 4000000 in
set_option maxRecDepth 100000 in
theorem morgan_ok_ok (k n : Int) (t : ByteArray) (b : Bool) (k' n' : Int) (t' : ByteArray) (b' : Bool) (k2 n2 : Int) (t2 : ByteArray) (b2 : Bool) (w : World) (xk xn : Int) (xt : ByteArray) (xb : Bool) (yk yn : Int) (yt : ByteArray) (yb : Bool) (mk mn : Int) (mt : ByteArray) (mb : Bool) (qk qn : Int) (qt : ByteArray) (qb : Bool) (s : ByteArray) (h1 : ∀ W, Calls Tryd.prog 15 #[.agg #[.int .i64 k, .int .i64 n, .string t, .bool b], .agg #[.int .i64 k', .int .i64 n', .string t', .bool b']] W fun e w' => e = .returned (.tuple #[.agg #[.int .i64 xk, .int .i64 xn, .string xt, .bool xb], .nilIface]) ∧ Below W.heap.size W w') (h2 : ∀ W, Calls Tryd.prog 19 #[.agg #[.int .i64 xk, .int .i64 xn, .string xt, .bool xb]] W fun e w' => e = .returned (.tuple #[.agg #[.int .i64 yk, .int .i64 yn, .string yt, .bool yb], .nilIface]) ∧ Below W.heap.size W w') (h3 : ∀ W, Calls Tryd.prog 19 #[.agg #[.int .i64 k, .int .i64 n, .string t, .bool b]] W fun e w' => e = .returned (.tuple #[.agg #[.int .i64 mk, .int .i64 mn, .string mt, .bool mb], .nilIface]) ∧ Below W.heap.size W w') (h4 : ∀ W, Calls Tryd.prog 19 #[.agg #[.int .i64 k', .int .i64 n', .string t', .bool b']] W fun e w' => e = .returned (.tuple #[.agg #[.int .i64 qk, .int .i64 qn, .string qt, .bool qb], .nilIface]) ∧ Below W.heap.size W w') (h5 : ∀ W, Calls Tryd.prog 17 #[.agg #[.int .i64 mk, .int .i64 mn, .string mt, .bool mb], .agg #[.int .i64 qk, .int .i64 qn, .string qt, .bool qb]] W fun e w' => e = .returned (.tuple #[.agg #[.int .i64 yk, .int .i64 yn, .string yt, .bool yb], .nilIface]) ∧ Below W.heap.size W w') (h6 : ∀ W, Env W → Calls Tryd.prog 26 #[.agg #[.int .i64 k2, .int .i64 n2, .string t2, .bool b2]] W fun e w' => e = .returned (.tuple #[.string s, .nilIface]) ∧ Below W.heap.size W w') (h7 : ∀ W, Env W → Errs2 W → Calls Tryd.prog 27 #[.string s] W fun e w' => e = .returned (.tuple #[.agg #[.int .i64 k2, .int .i64 n2, .string t2, .bool b2], .nilIface]) ∧ Below W.heap.size W w') (hE : Env w) (hX : Errs2 w) :
    Calls Tryd.prog 7 #[.agg #[.int .i64 k, .int .i64 n, .string t, .bool b], .agg #[.int .i64 k', .int .i64 n', .string t', .bool b'], .agg #[.int .i64 k2, .int .i64 n2, .string t2, .bool b2]] w fun e w' => e = .returned (.bool true) ∧ Below w.heap.size w w' := by
  have H1 := Lib.hid h1
  have H2 := Lib.hid h2
  have H3 := Lib.hid h3
  have H4 := Lib.hid h4
  have H5 := Lib.hid h5
  have hEQ : ∀ W, (Op.equalIn 10000 23 (.agg #[.int .i64 yk, .int .i64 yn, .string yt, .bool yb]) (.agg #[.int .i64 yk, .int .i64 yn, .string yt, .bool yb])).run Tryd.prog W = .ok true W := fun W => by rw [eqIn_, sameV_refl]
  have hEQv : ∀ W, (Op.equalIn 10000 23 (.agg #[.int .i64 k2, .int .i64 n2, .string t2, .bool b2]) (.agg #[.int .i64 k2, .int .i64 n2, .string t2, .bool b2])).run Tryd.prog W = .ok true W := fun W => by rw [eqIn_, sameV_refl]
  have hGD := guardV
  have H6 := Lib.hid h6
  have H7 := Lib.hid h7
  have HS : Hid (∀ W, Env W → Calls Tryd.prog 14 #[] W fun e w' => e = .returned (.bool true) ∧ Below W.heap.size W w') := fun W hW => sure_ W hW
  have HE := Lib.hid hE
  have HX := Lib.hid hX
  clear hE hX h1 h2 h3 h4 h5 h6 h7
  have Pa : Hid (In4 (((w.alloc (.cells #[.int .i64 k, .int .i64 n, .string t, .bool b] 23)).alloc (.cells #[.int .i64 k', .int .i64 n', .string t', .bool b'] 23)).alloc (.cells #[.int .i64 k2, .int .i64 n2, .string t2, .bool b2] 23)) (w.heap.size) 0 k n t b) := Lib.hid (by have := ((in4_new w k n t b 23).alloc (.cells #[.int .i64 k', .int .i64 n', .string t', .bool b'] 23)).alloc (.cells #[.int .i64 k2, .int .i64 n2, .string t2, .bool b2] 23); simpa using this)
  have Pb : Hid (In4 (((w.alloc (.cells #[.int .i64 k, .int .i64 n, .string t, .bool b] 23)).alloc (.cells #[.int .i64 k', .int .i64 n', .string t', .bool b'] 23)).alloc (.cells #[.int .i64 k2, .int .i64 n2, .string t2, .bool b2] 23)) (w.heap.size + 1) 0 k' n' t' b') := Lib.hid (by have := (in4_new (w.alloc (.cells #[.int .i64 k, .int .i64 n, .string t, .bool b] 23)) k' n' t' b' 23).alloc (.cells #[.int .i64 k2, .int .i64 n2, .string t2, .bool b2] 23); simpa using this)
  have Pc : Hid (In4 (((w.alloc (.cells #[.int .i64 k, .int .i64 n, .string t, .bool b] 23)).alloc (.cells #[.int .i64 k', .int .i64 n', .string t', .bool b'] 23)).alloc (.cells #[.int .i64 k2, .int .i64 n2, .string t2, .bool b2] 23)) (w.heap.size + 1 + 1) 0 k2 n2 t2 b2) := Lib.hid (by have := in4_new ((w.alloc (.cells #[.int .i64 k, .int .i64 n, .string t, .bool b] 23)).alloc (.cells #[.int .i64 k', .int .i64 n', .string t', .bool b'] 23)) k2 n2 t2 b2 23; simpa using this)
  have HB : Hid (Below w.heap.size w (((w.alloc (.cells #[.int .i64 k, .int .i64 n, .string t, .bool b] 23)).alloc (.cells #[.int .i64 k', .int .i64 n', .string t', .bool b'] 23)).alloc (.cells #[.int .i64 k2, .int .i64 n2, .string t2, .bool b2] 23))) := ((((Below.refl _ _).alloc (by simp) _).alloc (by simp) _).alloc (by simp; omega) _)
  go_enter Tryd.func7, Tryd.ntmps7
  go_wp2_with fail
  refine (H1.out _).mono ?_
  rintro e w1 ⟨rfl, hb1⟩
  replace Pa := Lib.hid (Pa.out.on hb1)
  replace Pb := Lib.hid (Pb.out.on hb1)
  replace Pc := Lib.hid (Pc.out.on hb1)
  replace HB := Lib.hid (below_step HB.out hb1)
  clear hb1
  replace Pa := Lib.hid (Pa.out.alloc (.cells #[.int .i64 xk, .int .i64 xn, .string xt, .bool xb] 23))
  replace Pb := Lib.hid (Pb.out.alloc (.cells #[.int .i64 xk, .int .i64 xn, .string xt, .bool xb] 23))
  replace Pc := Lib.hid (Pc.out.alloc (.cells #[.int .i64 xk, .int .i64 xn, .string xt, .bool xb] 23))
  have Px := Lib.hid (in4_new w1 xk xn xt xb 23)
  replace HB : Hid (Below w.heap.size w (w1.alloc (.cells #[.int .i64 xk, .int .i64 xn, .string xt, .bool xb] 23))) := below_step HB.out ((Below.refl _ _).alloc (Nat.le_refl _) _)
  obtain ⟨ca0, ca1, ca2, ca3⟩ := Pa.out
  obtain ⟨cb0, cb1, cb2, cb3⟩ := Pb.out
  obtain ⟨cc0, cc1, cc2, cc3⟩ := Pc.out
  obtain ⟨cx0, cx1, cx2, cx3⟩ := Px.out
  go_wp2_with fail
  refine (H2.out _).mono ?_
  rintro e w2 ⟨rfl, hb2⟩
  clear ca0 ca1 ca2 ca3 cb0 cb1 cb2 cb3 cc0 cc1 cc2 cc3 cx0 cx1 cx2 cx3
  replace Pa := Lib.hid (Pa.out.on hb2)
  replace Pb := Lib.hid (Pb.out.on hb2)
  replace Pc := Lib.hid (Pc.out.on hb2)
  replace Px := Lib.hid (Px.out.on hb2)
  replace HB := Lib.hid (below_step HB.out hb2)
  clear hb2
  replace Pa := Lib.hid (Pa.out.alloc (.cells #[.int .i64 yk, .int .i64 yn, .string yt, .bool yb] 23))
  replace Pb := Lib.hid (Pb.out.alloc (.cells #[.int .i64 yk, .int .i64 yn, .string yt, .bool yb] 23))
  replace Pc := Lib.hid (Pc.out.alloc (.cells #[.int .i64 yk, .int .i64 yn, .string yt, .bool yb] 23))
  replace Px := Lib.hid (Px.out.alloc (.cells #[.int .i64 yk, .int .i64 yn, .string yt, .bool yb] 23))
  have Py := Lib.hid (in4_new w2 yk yn yt yb 23)
  replace HB : Hid (Below w.heap.size w (w2.alloc (.cells #[.int .i64 yk, .int .i64 yn, .string yt, .bool yb] 23))) := below_step HB.out ((Below.refl _ _).alloc (Nat.le_refl _) _)
  obtain ⟨ca0, ca1, ca2, ca3⟩ := Pa.out
  obtain ⟨cb0, cb1, cb2, cb3⟩ := Pb.out
  obtain ⟨cc0, cc1, cc2, cc3⟩ := Pc.out
  obtain ⟨cx0, cx1, cx2, cx3⟩ := Px.out
  obtain ⟨cy0, cy1, cy2, cy3⟩ := Py.out
  go_wp2_with fail
  refine (H3.out _).mono ?_
  rintro e w3 ⟨rfl, hb3⟩
  clear ca0 ca1 ca2 ca3 cb0 cb1 cb2 cb3 cc0 cc1 cc2 cc3 cx0 cx1 cx2 cx3 cy0 cy1 cy2 cy3
  replace Pa := Lib.hid (Pa.out.on hb3)
  replace Pb := Lib.hid (Pb.out.on hb3)
  replace Pc := Lib.hid (Pc.out.on hb3)
  replace Px := Lib.hid (Px.out.on hb3)
  replace Py := Lib.hid (Py.out.on hb3)
  replace HB := Lib.hid (below_step HB.out hb3)
  clear hb3
  replace Pa := Lib.hid (Pa.out.alloc (.cells #[.int .i64 mk, .int .i64 mn, .string mt, .bool mb] 23))
  replace Pb := Lib.hid (Pb.out.alloc (.cells #[.int .i64 mk, .int .i64 mn, .string mt, .bool mb] 23))
  replace Pc := Lib.hid (Pc.out.alloc (.cells #[.int .i64 mk, .int .i64 mn, .string mt, .bool mb] 23))
  replace Px := Lib.hid (Px.out.alloc (.cells #[.int .i64 mk, .int .i64 mn, .string mt, .bool mb] 23))
  replace Py := Lib.hid (Py.out.alloc (.cells #[.int .i64 mk, .int .i64 mn, .string mt, .bool mb] 23))
  have Pm := Lib.hid (in4_new w3 mk mn mt mb 23)
  replace HB : Hid (Below w.heap.size w (w3.alloc (.cells #[.int .i64 mk, .int .i64 mn, .string mt, .bool mb] 23))) := below_step HB.out ((Below.refl _ _).alloc (Nat.le_refl _) _)
  obtain ⟨ca0, ca1, ca2, ca3⟩ := Pa.out
  obtain ⟨cb0, cb1, cb2, cb3⟩ := Pb.out
  obtain ⟨cc0, cc1, cc2, cc3⟩ := Pc.out
  obtain ⟨cx0, cx1, cx2, cx3⟩ := Px.out
  obtain ⟨cy0, cy1, cy2, cy3⟩ := Py.out
  obtain ⟨cm0, cm1, cm2, cm3⟩ := Pm.out
  go_wp2_with fail
  refine (H4.out _).mono ?_
  rintro e w4 ⟨rfl, hb4⟩
  clear ca0 ca1 ca2 ca3 cb0 cb1 cb2 cb3 cc0 cc1 cc2 cc3 cx0 cx1 cx2 cx3 cy0 cy1 cy2 cy3 cm0 cm1 cm2 cm3
  replace Pa := Lib.hid (Pa.out.on hb4)
  replace Pb := Lib.hid (Pb.out.on hb4)
  replace Pc := Lib.hid (Pc.out.on hb4)
  replace Px := Lib.hid (Px.out.on hb4)
  replace Py := Lib.hid (Py.out.on hb4)
  replace Pm := Lib.hid (Pm.out.on hb4)
  replace HB := Lib.hid (below_step HB.out hb4)
  clear hb4
  replace Pa := Lib.hid (Pa.out.alloc (.cells #[.int .i64 qk, .int .i64 qn, .string qt, .bool qb] 23))
  replace Pb := Lib.hid (Pb.out.alloc (.cells #[.int .i64 qk, .int .i64 qn, .string qt, .bool qb] 23))
  replace Pc := Lib.hid (Pc.out.alloc (.cells #[.int .i64 qk, .int .i64 qn, .string qt, .bool qb] 23))
  replace Px := Lib.hid (Px.out.alloc (.cells #[.int .i64 qk, .int .i64 qn, .string qt, .bool qb] 23))
  replace Py := Lib.hid (Py.out.alloc (.cells #[.int .i64 qk, .int .i64 qn, .string qt, .bool qb] 23))
  replace Pm := Lib.hid (Pm.out.alloc (.cells #[.int .i64 qk, .int .i64 qn, .string qt, .bool qb] 23))
  have Pq := Lib.hid (in4_new w4 qk qn qt qb 23)
  replace HB : Hid (Below w.heap.size w (w4.alloc (.cells #[.int .i64 qk, .int .i64 qn, .string qt, .bool qb] 23))) := below_step HB.out ((Below.refl _ _).alloc (Nat.le_refl _) _)
  obtain ⟨ca0, ca1, ca2, ca3⟩ := Pa.out
  obtain ⟨cb0, cb1, cb2, cb3⟩ := Pb.out
  obtain ⟨cc0, cc1, cc2, cc3⟩ := Pc.out
  obtain ⟨cx0, cx1, cx2, cx3⟩ := Px.out
  obtain ⟨cy0, cy1, cy2, cy3⟩ := Py.out
  obtain ⟨cm0, cm1, cm2, cm3⟩ := Pm.out
  obtain ⟨cq0, cq1, cq2, cq3⟩ := Pq.out
  go_wp2_with fail
  refine (H5.out _).mono ?_
  rintro e w5 ⟨rfl, hb5⟩
  clear ca0 ca1 ca2 ca3 cb0 cb1 cb2 cb3 cc0 cc1 cc2 cc3 cx0 cx1 cx2 cx3 cy0 cy1 cy2 cy3 cm0 cm1 cm2 cm3 cq0 cq1 cq2 cq3
  replace Pa := Lib.hid (Pa.out.on hb5)
  replace Pb := Lib.hid (Pb.out.on hb5)
  replace Pc := Lib.hid (Pc.out.on hb5)
  replace Px := Lib.hid (Px.out.on hb5)
  replace Py := Lib.hid (Py.out.on hb5)
  replace Pm := Lib.hid (Pm.out.on hb5)
  replace Pq := Lib.hid (Pq.out.on hb5)
  replace HB := Lib.hid (below_step HB.out hb5)
  clear hb5
  replace Pa := Lib.hid (Pa.out.alloc (.cells #[.int .i64 yk, .int .i64 yn, .string yt, .bool yb] 23))
  replace Pb := Lib.hid (Pb.out.alloc (.cells #[.int .i64 yk, .int .i64 yn, .string yt, .bool yb] 23))
  replace Pc := Lib.hid (Pc.out.alloc (.cells #[.int .i64 yk, .int .i64 yn, .string yt, .bool yb] 23))
  replace Px := Lib.hid (Px.out.alloc (.cells #[.int .i64 yk, .int .i64 yn, .string yt, .bool yb] 23))
  replace Py := Lib.hid (Py.out.alloc (.cells #[.int .i64 yk, .int .i64 yn, .string yt, .bool yb] 23))
  replace Pm := Lib.hid (Pm.out.alloc (.cells #[.int .i64 yk, .int .i64 yn, .string yt, .bool yb] 23))
  replace Pq := Lib.hid (Pq.out.alloc (.cells #[.int .i64 yk, .int .i64 yn, .string yt, .bool yb] 23))
  have Pz := Lib.hid (in4_new w5 yk yn yt yb 23)
  replace HB : Hid (Below w.heap.size w (w5.alloc (.cells #[.int .i64 yk, .int .i64 yn, .string yt, .bool yb] 23))) := below_step HB.out ((Below.refl _ _).alloc (Nat.le_refl _) _)
  obtain ⟨ca0, ca1, ca2, ca3⟩ := Pa.out
  obtain ⟨cb0, cb1, cb2, cb3⟩ := Pb.out
  obtain ⟨cc0, cc1, cc2, cc3⟩ := Pc.out
  obtain ⟨cx0, cx1, cx2, cx3⟩ := Px.out
  obtain ⟨cy0, cy1, cy2, cy3⟩ := Py.out
  obtain ⟨cm0, cm1, cm2, cm3⟩ := Pm.out
  obtain ⟨cq0, cq1, cq2, cq3⟩ := Pq.out
  obtain ⟨cz0, cz1, cz2, cz3⟩ := Pz.out
  go_wp2_with fail
  refine (H6.out _ (HE.out.on HB.out)).mono ?_
  rintro e w6 ⟨rfl, hb6⟩
  clear ca0 ca1 ca2 ca3 cb0 cb1 cb2 cb3 cc0 cc1 cc2 cc3 cx0 cx1 cx2 cx3 cy0 cy1 cy2 cy3 cm0 cm1 cm2 cm3 cq0 cq1 cq2 cq3 cz0 cz1 cz2 cz3
  replace Pa := Lib.hid (Pa.out.on hb6)
  replace Pb := Lib.hid (Pb.out.on hb6)
  replace Pc := Lib.hid (Pc.out.on hb6)
  replace Px := Lib.hid (Px.out.on hb6)
  replace Py := Lib.hid (Py.out.on hb6)
  replace Pm := Lib.hid (Pm.out.on hb6)
  replace Pq := Lib.hid (Pq.out.on hb6)
  replace Pz := Lib.hid (Pz.out.on hb6)
  replace HB := Lib.hid (below_step HB.out hb6)
  clear hb6
  obtain ⟨ca0, ca1, ca2, ca3⟩ := Pa.out
  obtain ⟨cb0, cb1, cb2, cb3⟩ := Pb.out
  obtain ⟨cc0, cc1, cc2, cc3⟩ := Pc.out
  obtain ⟨cx0, cx1, cx2, cx3⟩ := Px.out
  obtain ⟨cy0, cy1, cy2, cy3⟩ := Py.out
  obtain ⟨cm0, cm1, cm2, cm3⟩ := Pm.out
  obtain ⟨cq0, cq1, cq2, cq3⟩ := Pq.out
  obtain ⟨cz0, cz1, cz2, cz3⟩ := Pz.out
  go_wp2_with fail
  refine (H7.out _ (HE.out.on HB.out) (HX.out.on HB.out)).mono ?_
  rintro e w7 ⟨rfl, hb7⟩
  clear ca0 ca1 ca2 ca3 cb0 cb1 cb2 cb3 cc0 cc1 cc2 cc3 cx0 cx1 cx2 cx3 cy0 cy1 cy2 cy3 cm0 cm1 cm2 cm3 cq0 cq1 cq2 cq3 cz0 cz1 cz2 cz3
  replace Pa := Lib.hid (Pa.out.on hb7)
  replace Pb := Lib.hid (Pb.out.on hb7)
  replace Pc := Lib.hid (Pc.out.on hb7)
  replace Px := Lib.hid (Px.out.on hb7)
  replace Py := Lib.hid (Py.out.on hb7)
  replace Pm := Lib.hid (Pm.out.on hb7)
  replace Pq := Lib.hid (Pq.out.on hb7)
  replace Pz := Lib.hid (Pz.out.on hb7)
  replace HB := Lib.hid (below_step HB.out hb7)
  clear hb7
  replace Pa := Lib.hid (Pa.out.alloc (.cells #[.int .i64 k2, .int .i64 n2, .string t2, .bool b2] 23))
  replace Pb := Lib.hid (Pb.out.alloc (.cells #[.int .i64 k2, .int .i64 n2, .string t2, .bool b2] 23))
  replace Pc := Lib.hid (Pc.out.alloc (.cells #[.int .i64 k2, .int .i64 n2, .string t2, .bool b2] 23))
  replace Px := Lib.hid (Px.out.alloc (.cells #[.int .i64 k2, .int .i64 n2, .string t2, .bool b2] 23))
  replace Py := Lib.hid (Py.out.alloc (.cells #[.int .i64 k2, .int .i64 n2, .string t2, .bool b2] 23))
  replace Pm := Lib.hid (Pm.out.alloc (.cells #[.int .i64 k2, .int .i64 n2, .string t2, .bool b2] 23))
  replace Pq := Lib.hid (Pq.out.alloc (.cells #[.int .i64 k2, .int .i64 n2, .string t2, .bool b2] 23))
  replace Pz := Lib.hid (Pz.out.alloc (.cells #[.int .i64 k2, .int .i64 n2, .string t2, .bool b2] 23))
  have Pv := Lib.hid (in4_new w7 k2 n2 t2 b2 23)
  replace HB : Hid (Below w.heap.size w (w7.alloc (.cells #[.int .i64 k2, .int .i64 n2, .string t2, .bool b2] 23))) := below_step HB.out ((Below.refl _ _).alloc (Nat.le_refl _) _)
  obtain ⟨ca0, ca1, ca2, ca3⟩ := Pa.out
  obtain ⟨cb0, cb1, cb2, cb3⟩ := Pb.out
  obtain ⟨cc0, cc1, cc2, cc3⟩ := Pc.out
  obtain ⟨cx0, cx1, cx2, cx3⟩ := Px.out
  obtain ⟨cy0, cy1, cy2, cy3⟩ := Py.out
  obtain ⟨cm0, cm1, cm2, cm3⟩ := Pm.out
  obtain ⟨cq0, cq1, cq2, cq3⟩ := Pq.out
  obtain ⟨cz0, cz1, cz2, cz3⟩ := Pz.out
  obtain ⟨cv0, cv1, cv2, cv3⟩ := Pv.out
  go_wp2_with fail
  refine (HS.out _ (HE.out.on HB.out)).mono ?_
  rintro e w8 ⟨rfl, hb8⟩
  clear ca0 ca1 ca2 ca3 cb0 cb1 cb2 cb3 cc0 cc1 cc2 cc3 cx0 cx1 cx2 cx3 cy0 cy1 cy2 cy3 cm0 cm1 cm2 cm3 cq0 cq1 cq2 cq3 cz0 cz1 cz2 cz3 cv0 cv1 cv2 cv3
  replace Pa := Lib.hid (Pa.out.on hb8)
  replace Pb := Lib.hid (Pb.out.on hb8)
  replace Pc := Lib.hid (Pc.out.on hb8)
  replace Px := Lib.hid (Px.out.on hb8)
  replace Py := Lib.hid (Py.out.on hb8)
  replace Pm := Lib.hid (Pm.out.on hb8)
  replace Pq := Lib.hid (Pq.out.on hb8)
  replace Pz := Lib.hid (Pz.out.on hb8)
  replace Pv := Lib.hid (Pv.out.on hb8)
  replace HB := Lib.hid (below_step HB.out hb8)
  clear hb8
  obtain ⟨ca0, ca1, ca2, ca3⟩ := Pa.out
  obtain ⟨cb0, cb1, cb2, cb3⟩ := Pb.out
  obtain ⟨cc0, cc1, cc2, cc3⟩ := Pc.out
  obtain ⟨cx0, cx1, cx2, cx3⟩ := Px.out
  obtain ⟨cy0, cy1, cy2, cy3⟩ := Py.out
  obtain ⟨cm0, cm1, cm2, cm3⟩ := Pm.out
  obtain ⟨cq0, cq1, cq2, cq3⟩ := Pq.out
  obtain ⟨cz0, cz1, cz2, cz3⟩ := Pz.out
  obtain ⟨cv0, cv1, cv2, cv3⟩ := Pv.out
  go_wp2_with fail
  go_ret
  exact ⟨rfl, HB.out⟩
set_option maxHeartbeats 4000000 in
set_option maxRecDepth 100000 in
theorem morgan_a_ok (k n : Int) (t : ByteArray) (b : Bool) (k' n' : Int) (t' : ByteArray) (b' : Bool) (k2 n2 : Int) (t2 : ByteArray) (b2 : Bool) (w : World) (xk xn : Int) (xt : ByteArray) (xb : Bool) (yk yn : Int) (yt : ByteArray) (yb : Bool) (mk mn : Int) (mt : ByteArray) (mb : Bool) (qk qn : Int) (qt : ByteArray) (qb : Bool) (zk zn : Int) (zt : ByteArray) (zb : Bool) (Eh : Value) (s : ByteArray) (h1 : ∀ W, Calls Tryd.prog 15 #[.agg #[.int .i64 k, .int .i64 n, .string t, .bool b], .agg #[.int .i64 k', .int .i64 n', .string t', .bool b']] W fun e w' => e = .returned (.tuple #[.agg #[.int .i64 xk, .int .i64 xn, .string xt, .bool xb], .iface 45 (.int .i64 7)]) ∧ Below W.heap.size W w') (h2 : ∀ W, Calls Tryd.prog 19 #[.agg #[.int .i64 xk, .int .i64 xn, .string xt, .bool xb]] W fun e w' => e = .returned (.tuple #[.agg #[.int .i64 yk, .int .i64 yn, .string yt, .bool yb], .nilIface]) ∧ Below W.heap.size W w') (h3 : ∀ W, Calls Tryd.prog 19 #[.agg #[.int .i64 k, .int .i64 n, .string t, .bool b]] W fun e w' => e = .returned (.tuple #[.agg #[.int .i64 mk, .int .i64 mn, .string mt, .bool mb], .iface 45 (.int .i64 7)]) ∧ Below W.heap.size W w') (h4 : ∀ W, Calls Tryd.prog 19 #[.agg #[.int .i64 k', .int .i64 n', .string t', .bool b']] W fun e w' => e = .returned (.tuple #[.agg #[.int .i64 qk, .int .i64 qn, .string qt, .bool qb], Eh]) ∧ Below W.heap.size W w') (h5 : ∀ W, Calls Tryd.prog 17 #[.agg #[.int .i64 mk, .int .i64 mn, .string mt, .bool mb], .agg #[.int .i64 qk, .int .i64 qn, .string qt, .bool qb]] W fun e w' => e = .returned (.tuple #[.agg #[.int .i64 zk, .int .i64 zn, .string zt, .bool zb], .nilIface]) ∧ Below W.heap.size W w') (h6 : ∀ W, Env W → Calls Tryd.prog 26 #[.agg #[.int .i64 k2, .int .i64 n2, .string t2, .bool b2]] W fun e w' => e = .returned (.tuple #[.string s, .nilIface]) ∧ Below W.heap.size W w') (h7 : ∀ W, Env W → Errs2 W → Calls Tryd.prog 27 #[.string s] W fun e w' => e = .returned (.tuple #[.agg #[.int .i64 k2, .int .i64 n2, .string t2, .bool b2], .nilIface]) ∧ Below W.heap.size W w') (hE : Env w) (hX : Errs2 w) :
    Calls Tryd.prog 7 #[.agg #[.int .i64 k, .int .i64 n, .string t, .bool b], .agg #[.int .i64 k', .int .i64 n', .string t', .bool b'], .agg #[.int .i64 k2, .int .i64 n2, .string t2, .bool b2]] w fun e w' => e = .returned (.bool true) ∧ Below w.heap.size w w' := by
  have H1 := Lib.hid h1
  have H2 := Lib.hid h2
  have H3 := Lib.hid h3
  have H4 := Lib.hid h4
  have H5 := Lib.hid h5
  have hEQv : ∀ W, (Op.equalIn 10000 23 (.agg #[.int .i64 k2, .int .i64 n2, .string t2, .bool b2]) (.agg #[.int .i64 k2, .int .i64 n2, .string t2, .bool b2])).run Tryd.prog W = .ok true W := fun W => by rw [eqIn_, sameV_refl]
  have hGD := guardV
  have H6 := Lib.hid h6
  have H7 := Lib.hid h7
  have HS : Hid (∀ W, Env W → Calls Tryd.prog 14 #[] W fun e w' => e = .returned (.bool true) ∧ Below W.heap.size W w') := fun W hW => sure_ W hW
  have HE := Lib.hid hE
  have HX := Lib.hid hX
  clear hE hX h1 h2 h3 h4 h5 h6 h7
  have Pa : Hid (In4 (((w.alloc (.cells #[.int .i64 k, .int .i64 n, .string t, .bool b] 23)).alloc (.cells #[.int .i64 k', .int .i64 n', .string t', .bool b'] 23)).alloc (.cells #[.int .i64 k2, .int .i64 n2, .string t2, .bool b2] 23)) (w.heap.size) 0 k n t b) := Lib.hid (by have := ((in4_new w k n t b 23).alloc (.cells #[.int .i64 k', .int .i64 n', .string t', .bool b'] 23)).alloc (.cells #[.int .i64 k2, .int .i64 n2, .string t2, .bool b2] 23); simpa using this)
  have Pb : Hid (In4 (((w.alloc (.cells #[.int .i64 k, .int .i64 n, .string t, .bool b] 23)).alloc (.cells #[.int .i64 k', .int .i64 n', .string t', .bool b'] 23)).alloc (.cells #[.int .i64 k2, .int .i64 n2, .string t2, .bool b2] 23)) (w.heap.size + 1) 0 k' n' t' b') := Lib.hid (by have := (in4_new (w.alloc (.cells #[.int .i64 k, .int .i64 n, .string t, .bool b] 23)) k' n' t' b' 23).alloc (.cells #[.int .i64 k2, .int .i64 n2, .string t2, .bool b2] 23); simpa using this)
  have Pc : Hid (In4 (((w.alloc (.cells #[.int .i64 k, .int .i64 n, .string t, .bool b] 23)).alloc (.cells #[.int .i64 k', .int .i64 n', .string t', .bool b'] 23)).alloc (.cells #[.int .i64 k2, .int .i64 n2, .string t2, .bool b2] 23)) (w.heap.size + 1 + 1) 0 k2 n2 t2 b2) := Lib.hid (by have := in4_new ((w.alloc (.cells #[.int .i64 k, .int .i64 n, .string t, .bool b] 23)).alloc (.cells #[.int .i64 k', .int .i64 n', .string t', .bool b'] 23)) k2 n2 t2 b2 23; simpa using this)
  have HB : Hid (Below w.heap.size w (((w.alloc (.cells #[.int .i64 k, .int .i64 n, .string t, .bool b] 23)).alloc (.cells #[.int .i64 k', .int .i64 n', .string t', .bool b'] 23)).alloc (.cells #[.int .i64 k2, .int .i64 n2, .string t2, .bool b2] 23))) := ((((Below.refl _ _).alloc (by simp) _).alloc (by simp) _).alloc (by simp; omega) _)
  go_enter Tryd.func7, Tryd.ntmps7
  go_wp2_with fail
  refine (H1.out _).mono ?_
  rintro e w1 ⟨rfl, hb1⟩
  replace Pa := Lib.hid (Pa.out.on hb1)
  replace Pb := Lib.hid (Pb.out.on hb1)
  replace Pc := Lib.hid (Pc.out.on hb1)
  replace HB := Lib.hid (below_step HB.out hb1)
  clear hb1
  replace Pa := Lib.hid (Pa.out.alloc (.cells #[.int .i64 xk, .int .i64 xn, .string xt, .bool xb] 23))
  replace Pb := Lib.hid (Pb.out.alloc (.cells #[.int .i64 xk, .int .i64 xn, .string xt, .bool xb] 23))
  replace Pc := Lib.hid (Pc.out.alloc (.cells #[.int .i64 xk, .int .i64 xn, .string xt, .bool xb] 23))
  have Px := Lib.hid (in4_new w1 xk xn xt xb 23)
  replace HB : Hid (Below w.heap.size w (w1.alloc (.cells #[.int .i64 xk, .int .i64 xn, .string xt, .bool xb] 23))) := below_step HB.out ((Below.refl _ _).alloc (Nat.le_refl _) _)
  obtain ⟨ca0, ca1, ca2, ca3⟩ := Pa.out
  obtain ⟨cb0, cb1, cb2, cb3⟩ := Pb.out
  obtain ⟨cc0, cc1, cc2, cc3⟩ := Pc.out
  obtain ⟨cx0, cx1, cx2, cx3⟩ := Px.out
  go_wp2_with fail
  refine (H2.out _).mono ?_
  rintro e w2 ⟨rfl, hb2⟩
  clear ca0 ca1 ca2 ca3 cb0 cb1 cb2 cb3 cc0 cc1 cc2 cc3 cx0 cx1 cx2 cx3
  replace Pa := Lib.hid (Pa.out.on hb2)
  replace Pb := Lib.hid (Pb.out.on hb2)
  replace Pc := Lib.hid (Pc.out.on hb2)
  replace Px := Lib.hid (Px.out.on hb2)
  replace HB := Lib.hid (below_step HB.out hb2)
  clear hb2
  replace Pa := Lib.hid (Pa.out.alloc (.cells #[.int .i64 yk, .int .i64 yn, .string yt, .bool yb] 23))
  replace Pb := Lib.hid (Pb.out.alloc (.cells #[.int .i64 yk, .int .i64 yn, .string yt, .bool yb] 23))
  replace Pc := Lib.hid (Pc.out.alloc (.cells #[.int .i64 yk, .int .i64 yn, .string yt, .bool yb] 23))
  replace Px := Lib.hid (Px.out.alloc (.cells #[.int .i64 yk, .int .i64 yn, .string yt, .bool yb] 23))
  have Py := Lib.hid (in4_new w2 yk yn yt yb 23)
  replace HB : Hid (Below w.heap.size w (w2.alloc (.cells #[.int .i64 yk, .int .i64 yn, .string yt, .bool yb] 23))) := below_step HB.out ((Below.refl _ _).alloc (Nat.le_refl _) _)
  obtain ⟨ca0, ca1, ca2, ca3⟩ := Pa.out
  obtain ⟨cb0, cb1, cb2, cb3⟩ := Pb.out
  obtain ⟨cc0, cc1, cc2, cc3⟩ := Pc.out
  obtain ⟨cx0, cx1, cx2, cx3⟩ := Px.out
  obtain ⟨cy0, cy1, cy2, cy3⟩ := Py.out
  go_wp2_with fail
  refine (H3.out _).mono ?_
  rintro e w3 ⟨rfl, hb3⟩
  clear ca0 ca1 ca2 ca3 cb0 cb1 cb2 cb3 cc0 cc1 cc2 cc3 cx0 cx1 cx2 cx3 cy0 cy1 cy2 cy3
  replace Pa := Lib.hid (Pa.out.on hb3)
  replace Pb := Lib.hid (Pb.out.on hb3)
  replace Pc := Lib.hid (Pc.out.on hb3)
  replace Px := Lib.hid (Px.out.on hb3)
  replace Py := Lib.hid (Py.out.on hb3)
  replace HB := Lib.hid (below_step HB.out hb3)
  clear hb3
  replace Pa := Lib.hid (Pa.out.alloc (.cells #[.int .i64 mk, .int .i64 mn, .string mt, .bool mb] 23))
  replace Pb := Lib.hid (Pb.out.alloc (.cells #[.int .i64 mk, .int .i64 mn, .string mt, .bool mb] 23))
  replace Pc := Lib.hid (Pc.out.alloc (.cells #[.int .i64 mk, .int .i64 mn, .string mt, .bool mb] 23))
  replace Px := Lib.hid (Px.out.alloc (.cells #[.int .i64 mk, .int .i64 mn, .string mt, .bool mb] 23))
  replace Py := Lib.hid (Py.out.alloc (.cells #[.int .i64 mk, .int .i64 mn, .string mt, .bool mb] 23))
  have Pm := Lib.hid (in4_new w3 mk mn mt mb 23)
  replace HB : Hid (Below w.heap.size w (w3.alloc (.cells #[.int .i64 mk, .int .i64 mn, .string mt, .bool mb] 23))) := below_step HB.out ((Below.refl _ _).alloc (Nat.le_refl _) _)
  obtain ⟨ca0, ca1, ca2, ca3⟩ := Pa.out
  obtain ⟨cb0, cb1, cb2, cb3⟩ := Pb.out
  obtain ⟨cc0, cc1, cc2, cc3⟩ := Pc.out
  obtain ⟨cx0, cx1, cx2, cx3⟩ := Px.out
  obtain ⟨cy0, cy1, cy2, cy3⟩ := Py.out
  obtain ⟨cm0, cm1, cm2, cm3⟩ := Pm.out
  go_wp2_with fail
  refine (H4.out _).mono ?_
  rintro e w4 ⟨rfl, hb4⟩
  clear ca0 ca1 ca2 ca3 cb0 cb1 cb2 cb3 cc0 cc1 cc2 cc3 cx0 cx1 cx2 cx3 cy0 cy1 cy2 cy3 cm0 cm1 cm2 cm3
  replace Pa := Lib.hid (Pa.out.on hb4)
  replace Pb := Lib.hid (Pb.out.on hb4)
  replace Pc := Lib.hid (Pc.out.on hb4)
  replace Px := Lib.hid (Px.out.on hb4)
  replace Py := Lib.hid (Py.out.on hb4)
  replace Pm := Lib.hid (Pm.out.on hb4)
  replace HB := Lib.hid (below_step HB.out hb4)
  clear hb4
  replace Pa := Lib.hid (Pa.out.alloc (.cells #[.int .i64 qk, .int .i64 qn, .string qt, .bool qb] 23))
  replace Pb := Lib.hid (Pb.out.alloc (.cells #[.int .i64 qk, .int .i64 qn, .string qt, .bool qb] 23))
  replace Pc := Lib.hid (Pc.out.alloc (.cells #[.int .i64 qk, .int .i64 qn, .string qt, .bool qb] 23))
  replace Px := Lib.hid (Px.out.alloc (.cells #[.int .i64 qk, .int .i64 qn, .string qt, .bool qb] 23))
  replace Py := Lib.hid (Py.out.alloc (.cells #[.int .i64 qk, .int .i64 qn, .string qt, .bool qb] 23))
  replace Pm := Lib.hid (Pm.out.alloc (.cells #[.int .i64 qk, .int .i64 qn, .string qt, .bool qb] 23))
  have Pq := Lib.hid (in4_new w4 qk qn qt qb 23)
  replace HB : Hid (Below w.heap.size w (w4.alloc (.cells #[.int .i64 qk, .int .i64 qn, .string qt, .bool qb] 23))) := below_step HB.out ((Below.refl _ _).alloc (Nat.le_refl _) _)
  obtain ⟨ca0, ca1, ca2, ca3⟩ := Pa.out
  obtain ⟨cb0, cb1, cb2, cb3⟩ := Pb.out
  obtain ⟨cc0, cc1, cc2, cc3⟩ := Pc.out
  obtain ⟨cx0, cx1, cx2, cx3⟩ := Px.out
  obtain ⟨cy0, cy1, cy2, cy3⟩ := Py.out
  obtain ⟨cm0, cm1, cm2, cm3⟩ := Pm.out
  obtain ⟨cq0, cq1, cq2, cq3⟩ := Pq.out
  go_wp2_with fail
  refine (H5.out _).mono ?_
  rintro e w5 ⟨rfl, hb5⟩
  clear ca0 ca1 ca2 ca3 cb0 cb1 cb2 cb3 cc0 cc1 cc2 cc3 cx0 cx1 cx2 cx3 cy0 cy1 cy2 cy3 cm0 cm1 cm2 cm3 cq0 cq1 cq2 cq3
  replace Pa := Lib.hid (Pa.out.on hb5)
  replace Pb := Lib.hid (Pb.out.on hb5)
  replace Pc := Lib.hid (Pc.out.on hb5)
  replace Px := Lib.hid (Px.out.on hb5)
  replace Py := Lib.hid (Py.out.on hb5)
  replace Pm := Lib.hid (Pm.out.on hb5)
  replace Pq := Lib.hid (Pq.out.on hb5)
  replace HB := Lib.hid (below_step HB.out hb5)
  clear hb5
  replace Pa := Lib.hid (Pa.out.alloc (.cells #[.int .i64 zk, .int .i64 zn, .string zt, .bool zb] 23))
  replace Pb := Lib.hid (Pb.out.alloc (.cells #[.int .i64 zk, .int .i64 zn, .string zt, .bool zb] 23))
  replace Pc := Lib.hid (Pc.out.alloc (.cells #[.int .i64 zk, .int .i64 zn, .string zt, .bool zb] 23))
  replace Px := Lib.hid (Px.out.alloc (.cells #[.int .i64 zk, .int .i64 zn, .string zt, .bool zb] 23))
  replace Py := Lib.hid (Py.out.alloc (.cells #[.int .i64 zk, .int .i64 zn, .string zt, .bool zb] 23))
  replace Pm := Lib.hid (Pm.out.alloc (.cells #[.int .i64 zk, .int .i64 zn, .string zt, .bool zb] 23))
  replace Pq := Lib.hid (Pq.out.alloc (.cells #[.int .i64 zk, .int .i64 zn, .string zt, .bool zb] 23))
  have Pz := Lib.hid (in4_new w5 zk zn zt zb 23)
  replace HB : Hid (Below w.heap.size w (w5.alloc (.cells #[.int .i64 zk, .int .i64 zn, .string zt, .bool zb] 23))) := below_step HB.out ((Below.refl _ _).alloc (Nat.le_refl _) _)
  obtain ⟨ca0, ca1, ca2, ca3⟩ := Pa.out
  obtain ⟨cb0, cb1, cb2, cb3⟩ := Pb.out
  obtain ⟨cc0, cc1, cc2, cc3⟩ := Pc.out
  obtain ⟨cx0, cx1, cx2, cx3⟩ := Px.out
  obtain ⟨cy0, cy1, cy2, cy3⟩ := Py.out
  obtain ⟨cm0, cm1, cm2, cm3⟩ := Pm.out
  obtain ⟨cq0, cq1, cq2, cq3⟩ := Pq.out
  obtain ⟨cz0, cz1, cz2, cz3⟩ := Pz.out
  go_wp2_with fail
  refine (H6.out _ (HE.out.on HB.out)).mono ?_
  rintro e w6 ⟨rfl, hb6⟩
  clear ca0 ca1 ca2 ca3 cb0 cb1 cb2 cb3 cc0 cc1 cc2 cc3 cx0 cx1 cx2 cx3 cy0 cy1 cy2 cy3 cm0 cm1 cm2 cm3 cq0 cq1 cq2 cq3 cz0 cz1 cz2 cz3
  replace Pa := Lib.hid (Pa.out.on hb6)
  replace Pb := Lib.hid (Pb.out.on hb6)
  replace Pc := Lib.hid (Pc.out.on hb6)
  replace Px := Lib.hid (Px.out.on hb6)
  replace Py := Lib.hid (Py.out.on hb6)
  replace Pm := Lib.hid (Pm.out.on hb6)
  replace Pq := Lib.hid (Pq.out.on hb6)
  replace Pz := Lib.hid (Pz.out.on hb6)
  replace HB := Lib.hid (below_step HB.out hb6)
  clear hb6
  obtain ⟨ca0, ca1, ca2, ca3⟩ := Pa.out
  obtain ⟨cb0, cb1, cb2, cb3⟩ := Pb.out
  obtain ⟨cc0, cc1, cc2, cc3⟩ := Pc.out
  obtain ⟨cx0, cx1, cx2, cx3⟩ := Px.out
  obtain ⟨cy0, cy1, cy2, cy3⟩ := Py.out
  obtain ⟨cm0, cm1, cm2, cm3⟩ := Pm.out
  obtain ⟨cq0, cq1, cq2, cq3⟩ := Pq.out
  obtain ⟨cz0, cz1, cz2, cz3⟩ := Pz.out
  go_wp2_with fail
  refine (H7.out _ (HE.out.on HB.out) (HX.out.on HB.out)).mono ?_
  rintro e w7 ⟨rfl, hb7⟩
  clear ca0 ca1 ca2 ca3 cb0 cb1 cb2 cb3 cc0 cc1 cc2 cc3 cx0 cx1 cx2 cx3 cy0 cy1 cy2 cy3 cm0 cm1 cm2 cm3 cq0 cq1 cq2 cq3 cz0 cz1 cz2 cz3
  replace Pa := Lib.hid (Pa.out.on hb7)
  replace Pb := Lib.hid (Pb.out.on hb7)
  replace Pc := Lib.hid (Pc.out.on hb7)
  replace Px := Lib.hid (Px.out.on hb7)
  replace Py := Lib.hid (Py.out.on hb7)
  replace Pm := Lib.hid (Pm.out.on hb7)
  replace Pq := Lib.hid (Pq.out.on hb7)
  replace Pz := Lib.hid (Pz.out.on hb7)
  replace HB := Lib.hid (below_step HB.out hb7)
  clear hb7
  replace Pa := Lib.hid (Pa.out.alloc (.cells #[.int .i64 k2, .int .i64 n2, .string t2, .bool b2] 23))
  replace Pb := Lib.hid (Pb.out.alloc (.cells #[.int .i64 k2, .int .i64 n2, .string t2, .bool b2] 23))
  replace Pc := Lib.hid (Pc.out.alloc (.cells #[.int .i64 k2, .int .i64 n2, .string t2, .bool b2] 23))
  replace Px := Lib.hid (Px.out.alloc (.cells #[.int .i64 k2, .int .i64 n2, .string t2, .bool b2] 23))
  replace Py := Lib.hid (Py.out.alloc (.cells #[.int .i64 k2, .int .i64 n2, .string t2, .bool b2] 23))
  replace Pm := Lib.hid (Pm.out.alloc (.cells #[.int .i64 k2, .int .i64 n2, .string t2, .bool b2] 23))
  replace Pq := Lib.hid (Pq.out.alloc (.cells #[.int .i64 k2, .int .i64 n2, .string t2, .bool b2] 23))
  replace Pz := Lib.hid (Pz.out.alloc (.cells #[.int .i64 k2, .int .i64 n2, .string t2, .bool b2] 23))
  have Pv := Lib.hid (in4_new w7 k2 n2 t2 b2 23)
  replace HB : Hid (Below w.heap.size w (w7.alloc (.cells #[.int .i64 k2, .int .i64 n2, .string t2, .bool b2] 23))) := below_step HB.out ((Below.refl _ _).alloc (Nat.le_refl _) _)
  obtain ⟨ca0, ca1, ca2, ca3⟩ := Pa.out
  obtain ⟨cb0, cb1, cb2, cb3⟩ := Pb.out
  obtain ⟨cc0, cc1, cc2, cc3⟩ := Pc.out
  obtain ⟨cx0, cx1, cx2, cx3⟩ := Px.out
  obtain ⟨cy0, cy1, cy2, cy3⟩ := Py.out
  obtain ⟨cm0, cm1, cm2, cm3⟩ := Pm.out
  obtain ⟨cq0, cq1, cq2, cq3⟩ := Pq.out
  obtain ⟨cz0, cz1, cz2, cz3⟩ := Pz.out
  obtain ⟨cv0, cv1, cv2, cv3⟩ := Pv.out
  go_wp2_with fail
  refine (HS.out _ (HE.out.on HB.out)).mono ?_
  rintro e w8 ⟨rfl, hb8⟩
  clear ca0 ca1 ca2 ca3 cb0 cb1 cb2 cb3 cc0 cc1 cc2 cc3 cx0 cx1 cx2 cx3 cy0 cy1 cy2 cy3 cm0 cm1 cm2 cm3 cq0 cq1 cq2 cq3 cz0 cz1 cz2 cz3 cv0 cv1 cv2 cv3
  replace Pa := Lib.hid (Pa.out.on hb8)
  replace Pb := Lib.hid (Pb.out.on hb8)
  replace Pc := Lib.hid (Pc.out.on hb8)
  replace Px := Lib.hid (Px.out.on hb8)
  replace Py := Lib.hid (Py.out.on hb8)
  replace Pm := Lib.hid (Pm.out.on hb8)
  replace Pq := Lib.hid (Pq.out.on hb8)
  replace Pz := Lib.hid (Pz.out.on hb8)
  replace Pv := Lib.hid (Pv.out.on hb8)
  replace HB := Lib.hid (below_step HB.out hb8)
  clear hb8
  obtain ⟨ca0, ca1, ca2, ca3⟩ := Pa.out
  obtain ⟨cb0, cb1, cb2, cb3⟩ := Pb.out
  obtain ⟨cc0, cc1, cc2, cc3⟩ := Pc.out
  obtain ⟨cx0, cx1, cx2, cx3⟩ := Px.out
  obtain ⟨cy0, cy1, cy2, cy3⟩ := Py.out
  obtain ⟨cm0, cm1, cm2, cm3⟩ := Pm.out
  obtain ⟨cq0, cq1, cq2, cq3⟩ := Pq.out
  obtain ⟨cz0, cz1, cz2, cz3⟩ := Pz.out
  obtain ⟨cv0, cv1, cv2, cv3⟩ := Pv.out
  go_wp2_with fail
  go_ret
  exact ⟨rfl, HB.out⟩
set_option maxHeartbeats 4000000 in
set_option maxRecDepth 100000 in
theorem morgan_b_ok (k n : Int) (t : ByteArray) (b : Bool) (k' n' : Int) (t' : ByteArray) (b' : Bool) (k2 n2 : Int) (t2 : ByteArray) (b2 : Bool) (w : World) (xk xn : Int) (xt : ByteArray) (xb : Bool) (yk yn : Int) (yt : ByteArray) (yb : Bool) (mk mn : Int) (mt : ByteArray) (mb : Bool) (qk qn : Int) (qt : ByteArray) (qb : Bool) (zk zn : Int) (zt : ByteArray) (zb : Bool) (s : ByteArray) (h1 : ∀ W, Calls Tryd.prog 15 #[.agg #[.int .i64 k, .int .i64 n, .string t, .bool b], .agg #[.int .i64 k', .int .i64 n', .string t', .bool b']] W fun e w' => e = .returned (.tuple #[.agg #[.int .i64 xk, .int .i64 xn, .string xt, .bool xb], .iface 45 (.int .i64 7)]) ∧ Below W.heap.size W w') (h2 : ∀ W, Calls Tryd.prog 19 #[.agg #[.int .i64 xk, .int .i64 xn, .string xt, .bool xb]] W fun e w' => e = .returned (.tuple #[.agg #[.int .i64 yk, .int .i64 yn, .string yt, .bool yb], .nilIface]) ∧ Below W.heap.size W w') (h3 : ∀ W, Calls Tryd.prog 19 #[.agg #[.int .i64 k, .int .i64 n, .string t, .bool b]] W fun e w' => e = .returned (.tuple #[.agg #[.int .i64 mk, .int .i64 mn, .string mt, .bool mb], .nilIface]) ∧ Below W.heap.size W w') (h4 : ∀ W, Calls Tryd.prog 19 #[.agg #[.int .i64 k', .int .i64 n', .string t', .bool b']] W fun e w' => e = .returned (.tuple #[.agg #[.int .i64 qk, .int .i64 qn, .string qt, .bool qb], .iface 45 (.int .i64 7)]) ∧ Below W.heap.size W w') (h5 : ∀ W, Calls Tryd.prog 17 #[.agg #[.int .i64 mk, .int .i64 mn, .string mt, .bool mb], .agg #[.int .i64 qk, .int .i64 qn, .string qt, .bool qb]] W fun e w' => e = .returned (.tuple #[.agg #[.int .i64 zk, .int .i64 zn, .string zt, .bool zb], .nilIface]) ∧ Below W.heap.size W w') (h6 : ∀ W, Env W → Calls Tryd.prog 26 #[.agg #[.int .i64 k2, .int .i64 n2, .string t2, .bool b2]] W fun e w' => e = .returned (.tuple #[.string s, .nilIface]) ∧ Below W.heap.size W w') (h7 : ∀ W, Env W → Errs2 W → Calls Tryd.prog 27 #[.string s] W fun e w' => e = .returned (.tuple #[.agg #[.int .i64 k2, .int .i64 n2, .string t2, .bool b2], .nilIface]) ∧ Below W.heap.size W w') (hE : Env w) (hX : Errs2 w) :
    Calls Tryd.prog 7 #[.agg #[.int .i64 k, .int .i64 n, .string t, .bool b], .agg #[.int .i64 k', .int .i64 n', .string t', .bool b'], .agg #[.int .i64 k2, .int .i64 n2, .string t2, .bool b2]] w fun e w' => e = .returned (.bool true) ∧ Below w.heap.size w w' := by
  have H1 := Lib.hid h1
  have H2 := Lib.hid h2
  have H3 := Lib.hid h3
  have H4 := Lib.hid h4
  have H5 := Lib.hid h5
  have hEQv : ∀ W, (Op.equalIn 10000 23 (.agg #[.int .i64 k2, .int .i64 n2, .string t2, .bool b2]) (.agg #[.int .i64 k2, .int .i64 n2, .string t2, .bool b2])).run Tryd.prog W = .ok true W := fun W => by rw [eqIn_, sameV_refl]
  have hGD := guardV
  have H6 := Lib.hid h6
  have H7 := Lib.hid h7
  have HS : Hid (∀ W, Env W → Calls Tryd.prog 14 #[] W fun e w' => e = .returned (.bool true) ∧ Below W.heap.size W w') := fun W hW => sure_ W hW
  have HE := Lib.hid hE
  have HX := Lib.hid hX
  clear hE hX h1 h2 h3 h4 h5 h6 h7
  have Pa : Hid (In4 (((w.alloc (.cells #[.int .i64 k, .int .i64 n, .string t, .bool b] 23)).alloc (.cells #[.int .i64 k', .int .i64 n', .string t', .bool b'] 23)).alloc (.cells #[.int .i64 k2, .int .i64 n2, .string t2, .bool b2] 23)) (w.heap.size) 0 k n t b) := Lib.hid (by have := ((in4_new w k n t b 23).alloc (.cells #[.int .i64 k', .int .i64 n', .string t', .bool b'] 23)).alloc (.cells #[.int .i64 k2, .int .i64 n2, .string t2, .bool b2] 23); simpa using this)
  have Pb : Hid (In4 (((w.alloc (.cells #[.int .i64 k, .int .i64 n, .string t, .bool b] 23)).alloc (.cells #[.int .i64 k', .int .i64 n', .string t', .bool b'] 23)).alloc (.cells #[.int .i64 k2, .int .i64 n2, .string t2, .bool b2] 23)) (w.heap.size + 1) 0 k' n' t' b') := Lib.hid (by have := (in4_new (w.alloc (.cells #[.int .i64 k, .int .i64 n, .string t, .bool b] 23)) k' n' t' b' 23).alloc (.cells #[.int .i64 k2, .int .i64 n2, .string t2, .bool b2] 23); simpa using this)
  have Pc : Hid (In4 (((w.alloc (.cells #[.int .i64 k, .int .i64 n, .string t, .bool b] 23)).alloc (.cells #[.int .i64 k', .int .i64 n', .string t', .bool b'] 23)).alloc (.cells #[.int .i64 k2, .int .i64 n2, .string t2, .bool b2] 23)) (w.heap.size + 1 + 1) 0 k2 n2 t2 b2) := Lib.hid (by have := in4_new ((w.alloc (.cells #[.int .i64 k, .int .i64 n, .string t, .bool b] 23)).alloc (.cells #[.int .i64 k', .int .i64 n', .string t', .bool b'] 23)) k2 n2 t2 b2 23; simpa using this)
  have HB : Hid (Below w.heap.size w (((w.alloc (.cells #[.int .i64 k, .int .i64 n, .string t, .bool b] 23)).alloc (.cells #[.int .i64 k', .int .i64 n', .string t', .bool b'] 23)).alloc (.cells #[.int .i64 k2, .int .i64 n2, .string t2, .bool b2] 23))) := ((((Below.refl _ _).alloc (by simp) _).alloc (by simp) _).alloc (by simp; omega) _)
  go_enter Tryd.func7, Tryd.ntmps7
  go_wp2_with fail
  refine (H1.out _).mono ?_
  rintro e w1 ⟨rfl, hb1⟩
  replace Pa := Lib.hid (Pa.out.on hb1)
  replace Pb := Lib.hid (Pb.out.on hb1)
  replace Pc := Lib.hid (Pc.out.on hb1)
  replace HB := Lib.hid (below_step HB.out hb1)
  clear hb1
  replace Pa := Lib.hid (Pa.out.alloc (.cells #[.int .i64 xk, .int .i64 xn, .string xt, .bool xb] 23))
  replace Pb := Lib.hid (Pb.out.alloc (.cells #[.int .i64 xk, .int .i64 xn, .string xt, .bool xb] 23))
  replace Pc := Lib.hid (Pc.out.alloc (.cells #[.int .i64 xk, .int .i64 xn, .string xt, .bool xb] 23))
  have Px := Lib.hid (in4_new w1 xk xn xt xb 23)
  replace HB : Hid (Below w.heap.size w (w1.alloc (.cells #[.int .i64 xk, .int .i64 xn, .string xt, .bool xb] 23))) := below_step HB.out ((Below.refl _ _).alloc (Nat.le_refl _) _)
  obtain ⟨ca0, ca1, ca2, ca3⟩ := Pa.out
  obtain ⟨cb0, cb1, cb2, cb3⟩ := Pb.out
  obtain ⟨cc0, cc1, cc2, cc3⟩ := Pc.out
  obtain ⟨cx0, cx1, cx2, cx3⟩ := Px.out
  go_wp2_with fail
  refine (H2.out _).mono ?_
  rintro e w2 ⟨rfl, hb2⟩
  clear ca0 ca1 ca2 ca3 cb0 cb1 cb2 cb3 cc0 cc1 cc2 cc3 cx0 cx1 cx2 cx3
  replace Pa := Lib.hid (Pa.out.on hb2)
  replace Pb := Lib.hid (Pb.out.on hb2)
  replace Pc := Lib.hid (Pc.out.on hb2)
  replace Px := Lib.hid (Px.out.on hb2)
  replace HB := Lib.hid (below_step HB.out hb2)
  clear hb2
  replace Pa := Lib.hid (Pa.out.alloc (.cells #[.int .i64 yk, .int .i64 yn, .string yt, .bool yb] 23))
  replace Pb := Lib.hid (Pb.out.alloc (.cells #[.int .i64 yk, .int .i64 yn, .string yt, .bool yb] 23))
  replace Pc := Lib.hid (Pc.out.alloc (.cells #[.int .i64 yk, .int .i64 yn, .string yt, .bool yb] 23))
  replace Px := Lib.hid (Px.out.alloc (.cells #[.int .i64 yk, .int .i64 yn, .string yt, .bool yb] 23))
  have Py := Lib.hid (in4_new w2 yk yn yt yb 23)
  replace HB : Hid (Below w.heap.size w (w2.alloc (.cells #[.int .i64 yk, .int .i64 yn, .string yt, .bool yb] 23))) := below_step HB.out ((Below.refl _ _).alloc (Nat.le_refl _) _)
  obtain ⟨ca0, ca1, ca2, ca3⟩ := Pa.out
  obtain ⟨cb0, cb1, cb2, cb3⟩ := Pb.out
  obtain ⟨cc0, cc1, cc2, cc3⟩ := Pc.out
  obtain ⟨cx0, cx1, cx2, cx3⟩ := Px.out
  obtain ⟨cy0, cy1, cy2, cy3⟩ := Py.out
  go_wp2_with fail
  refine (H3.out _).mono ?_
  rintro e w3 ⟨rfl, hb3⟩
  clear ca0 ca1 ca2 ca3 cb0 cb1 cb2 cb3 cc0 cc1 cc2 cc3 cx0 cx1 cx2 cx3 cy0 cy1 cy2 cy3
  replace Pa := Lib.hid (Pa.out.on hb3)
  replace Pb := Lib.hid (Pb.out.on hb3)
  replace Pc := Lib.hid (Pc.out.on hb3)
  replace Px := Lib.hid (Px.out.on hb3)
  replace Py := Lib.hid (Py.out.on hb3)
  replace HB := Lib.hid (below_step HB.out hb3)
  clear hb3
  replace Pa := Lib.hid (Pa.out.alloc (.cells #[.int .i64 mk, .int .i64 mn, .string mt, .bool mb] 23))
  replace Pb := Lib.hid (Pb.out.alloc (.cells #[.int .i64 mk, .int .i64 mn, .string mt, .bool mb] 23))
  replace Pc := Lib.hid (Pc.out.alloc (.cells #[.int .i64 mk, .int .i64 mn, .string mt, .bool mb] 23))
  replace Px := Lib.hid (Px.out.alloc (.cells #[.int .i64 mk, .int .i64 mn, .string mt, .bool mb] 23))
  replace Py := Lib.hid (Py.out.alloc (.cells #[.int .i64 mk, .int .i64 mn, .string mt, .bool mb] 23))
  have Pm := Lib.hid (in4_new w3 mk mn mt mb 23)
  replace HB : Hid (Below w.heap.size w (w3.alloc (.cells #[.int .i64 mk, .int .i64 mn, .string mt, .bool mb] 23))) := below_step HB.out ((Below.refl _ _).alloc (Nat.le_refl _) _)
  obtain ⟨ca0, ca1, ca2, ca3⟩ := Pa.out
  obtain ⟨cb0, cb1, cb2, cb3⟩ := Pb.out
  obtain ⟨cc0, cc1, cc2, cc3⟩ := Pc.out
  obtain ⟨cx0, cx1, cx2, cx3⟩ := Px.out
  obtain ⟨cy0, cy1, cy2, cy3⟩ := Py.out
  obtain ⟨cm0, cm1, cm2, cm3⟩ := Pm.out
  go_wp2_with fail
  refine (H4.out _).mono ?_
  rintro e w4 ⟨rfl, hb4⟩
  clear ca0 ca1 ca2 ca3 cb0 cb1 cb2 cb3 cc0 cc1 cc2 cc3 cx0 cx1 cx2 cx3 cy0 cy1 cy2 cy3 cm0 cm1 cm2 cm3
  replace Pa := Lib.hid (Pa.out.on hb4)
  replace Pb := Lib.hid (Pb.out.on hb4)
  replace Pc := Lib.hid (Pc.out.on hb4)
  replace Px := Lib.hid (Px.out.on hb4)
  replace Py := Lib.hid (Py.out.on hb4)
  replace Pm := Lib.hid (Pm.out.on hb4)
  replace HB := Lib.hid (below_step HB.out hb4)
  clear hb4
  replace Pa := Lib.hid (Pa.out.alloc (.cells #[.int .i64 qk, .int .i64 qn, .string qt, .bool qb] 23))
  replace Pb := Lib.hid (Pb.out.alloc (.cells #[.int .i64 qk, .int .i64 qn, .string qt, .bool qb] 23))
  replace Pc := Lib.hid (Pc.out.alloc (.cells #[.int .i64 qk, .int .i64 qn, .string qt, .bool qb] 23))
  replace Px := Lib.hid (Px.out.alloc (.cells #[.int .i64 qk, .int .i64 qn, .string qt, .bool qb] 23))
  replace Py := Lib.hid (Py.out.alloc (.cells #[.int .i64 qk, .int .i64 qn, .string qt, .bool qb] 23))
  replace Pm := Lib.hid (Pm.out.alloc (.cells #[.int .i64 qk, .int .i64 qn, .string qt, .bool qb] 23))
  have Pq := Lib.hid (in4_new w4 qk qn qt qb 23)
  replace HB : Hid (Below w.heap.size w (w4.alloc (.cells #[.int .i64 qk, .int .i64 qn, .string qt, .bool qb] 23))) := below_step HB.out ((Below.refl _ _).alloc (Nat.le_refl _) _)
  obtain ⟨ca0, ca1, ca2, ca3⟩ := Pa.out
  obtain ⟨cb0, cb1, cb2, cb3⟩ := Pb.out
  obtain ⟨cc0, cc1, cc2, cc3⟩ := Pc.out
  obtain ⟨cx0, cx1, cx2, cx3⟩ := Px.out
  obtain ⟨cy0, cy1, cy2, cy3⟩ := Py.out
  obtain ⟨cm0, cm1, cm2, cm3⟩ := Pm.out
  obtain ⟨cq0, cq1, cq2, cq3⟩ := Pq.out
  go_wp2_with fail
  refine (H5.out _).mono ?_
  rintro e w5 ⟨rfl, hb5⟩
  clear ca0 ca1 ca2 ca3 cb0 cb1 cb2 cb3 cc0 cc1 cc2 cc3 cx0 cx1 cx2 cx3 cy0 cy1 cy2 cy3 cm0 cm1 cm2 cm3 cq0 cq1 cq2 cq3
  replace Pa := Lib.hid (Pa.out.on hb5)
  replace Pb := Lib.hid (Pb.out.on hb5)
  replace Pc := Lib.hid (Pc.out.on hb5)
  replace Px := Lib.hid (Px.out.on hb5)
  replace Py := Lib.hid (Py.out.on hb5)
  replace Pm := Lib.hid (Pm.out.on hb5)
  replace Pq := Lib.hid (Pq.out.on hb5)
  replace HB := Lib.hid (below_step HB.out hb5)
  clear hb5
  replace Pa := Lib.hid (Pa.out.alloc (.cells #[.int .i64 zk, .int .i64 zn, .string zt, .bool zb] 23))
  replace Pb := Lib.hid (Pb.out.alloc (.cells #[.int .i64 zk, .int .i64 zn, .string zt, .bool zb] 23))
  replace Pc := Lib.hid (Pc.out.alloc (.cells #[.int .i64 zk, .int .i64 zn, .string zt, .bool zb] 23))
  replace Px := Lib.hid (Px.out.alloc (.cells #[.int .i64 zk, .int .i64 zn, .string zt, .bool zb] 23))
  replace Py := Lib.hid (Py.out.alloc (.cells #[.int .i64 zk, .int .i64 zn, .string zt, .bool zb] 23))
  replace Pm := Lib.hid (Pm.out.alloc (.cells #[.int .i64 zk, .int .i64 zn, .string zt, .bool zb] 23))
  replace Pq := Lib.hid (Pq.out.alloc (.cells #[.int .i64 zk, .int .i64 zn, .string zt, .bool zb] 23))
  have Pz := Lib.hid (in4_new w5 zk zn zt zb 23)
  replace HB : Hid (Below w.heap.size w (w5.alloc (.cells #[.int .i64 zk, .int .i64 zn, .string zt, .bool zb] 23))) := below_step HB.out ((Below.refl _ _).alloc (Nat.le_refl _) _)
  obtain ⟨ca0, ca1, ca2, ca3⟩ := Pa.out
  obtain ⟨cb0, cb1, cb2, cb3⟩ := Pb.out
  obtain ⟨cc0, cc1, cc2, cc3⟩ := Pc.out
  obtain ⟨cx0, cx1, cx2, cx3⟩ := Px.out
  obtain ⟨cy0, cy1, cy2, cy3⟩ := Py.out
  obtain ⟨cm0, cm1, cm2, cm3⟩ := Pm.out
  obtain ⟨cq0, cq1, cq2, cq3⟩ := Pq.out
  obtain ⟨cz0, cz1, cz2, cz3⟩ := Pz.out
  go_wp2_with fail
  refine (H6.out _ (HE.out.on HB.out)).mono ?_
  rintro e w6 ⟨rfl, hb6⟩
  clear ca0 ca1 ca2 ca3 cb0 cb1 cb2 cb3 cc0 cc1 cc2 cc3 cx0 cx1 cx2 cx3 cy0 cy1 cy2 cy3 cm0 cm1 cm2 cm3 cq0 cq1 cq2 cq3 cz0 cz1 cz2 cz3
  replace Pa := Lib.hid (Pa.out.on hb6)
  replace Pb := Lib.hid (Pb.out.on hb6)
  replace Pc := Lib.hid (Pc.out.on hb6)
  replace Px := Lib.hid (Px.out.on hb6)
  replace Py := Lib.hid (Py.out.on hb6)
  replace Pm := Lib.hid (Pm.out.on hb6)
  replace Pq := Lib.hid (Pq.out.on hb6)
  replace Pz := Lib.hid (Pz.out.on hb6)
  replace HB := Lib.hid (below_step HB.out hb6)
  clear hb6
  obtain ⟨ca0, ca1, ca2, ca3⟩ := Pa.out
  obtain ⟨cb0, cb1, cb2, cb3⟩ := Pb.out
  obtain ⟨cc0, cc1, cc2, cc3⟩ := Pc.out
  obtain ⟨cx0, cx1, cx2, cx3⟩ := Px.out
  obtain ⟨cy0, cy1, cy2, cy3⟩ := Py.out
  obtain ⟨cm0, cm1, cm2, cm3⟩ := Pm.out
  obtain ⟨cq0, cq1, cq2, cq3⟩ := Pq.out
  obtain ⟨cz0, cz1, cz2, cz3⟩ := Pz.out
  go_wp2_with fail
  refine (H7.out _ (HE.out.on HB.out) (HX.out.on HB.out)).mono ?_
  rintro e w7 ⟨rfl, hb7⟩
  clear ca0 ca1 ca2 ca3 cb0 cb1 cb2 cb3 cc0 cc1 cc2 cc3 cx0 cx1 cx2 cx3 cy0 cy1 cy2 cy3 cm0 cm1 cm2 cm3 cq0 cq1 cq2 cq3 cz0 cz1 cz2 cz3
  replace Pa := Lib.hid (Pa.out.on hb7)
  replace Pb := Lib.hid (Pb.out.on hb7)
  replace Pc := Lib.hid (Pc.out.on hb7)
  replace Px := Lib.hid (Px.out.on hb7)
  replace Py := Lib.hid (Py.out.on hb7)
  replace Pm := Lib.hid (Pm.out.on hb7)
  replace Pq := Lib.hid (Pq.out.on hb7)
  replace Pz := Lib.hid (Pz.out.on hb7)
  replace HB := Lib.hid (below_step HB.out hb7)
  clear hb7
  replace Pa := Lib.hid (Pa.out.alloc (.cells #[.int .i64 k2, .int .i64 n2, .string t2, .bool b2] 23))
  replace Pb := Lib.hid (Pb.out.alloc (.cells #[.int .i64 k2, .int .i64 n2, .string t2, .bool b2] 23))
  replace Pc := Lib.hid (Pc.out.alloc (.cells #[.int .i64 k2, .int .i64 n2, .string t2, .bool b2] 23))
  replace Px := Lib.hid (Px.out.alloc (.cells #[.int .i64 k2, .int .i64 n2, .string t2, .bool b2] 23))
  replace Py := Lib.hid (Py.out.alloc (.cells #[.int .i64 k2, .int .i64 n2, .string t2, .bool b2] 23))
  replace Pm := Lib.hid (Pm.out.alloc (.cells #[.int .i64 k2, .int .i64 n2, .string t2, .bool b2] 23))
  replace Pq := Lib.hid (Pq.out.alloc (.cells #[.int .i64 k2, .int .i64 n2, .string t2, .bool b2] 23))
  replace Pz := Lib.hid (Pz.out.alloc (.cells #[.int .i64 k2, .int .i64 n2, .string t2, .bool b2] 23))
  have Pv := Lib.hid (in4_new w7 k2 n2 t2 b2 23)
  replace HB : Hid (Below w.heap.size w (w7.alloc (.cells #[.int .i64 k2, .int .i64 n2, .string t2, .bool b2] 23))) := below_step HB.out ((Below.refl _ _).alloc (Nat.le_refl _) _)
  obtain ⟨ca0, ca1, ca2, ca3⟩ := Pa.out
  obtain ⟨cb0, cb1, cb2, cb3⟩ := Pb.out
  obtain ⟨cc0, cc1, cc2, cc3⟩ := Pc.out
  obtain ⟨cx0, cx1, cx2, cx3⟩ := Px.out
  obtain ⟨cy0, cy1, cy2, cy3⟩ := Py.out
  obtain ⟨cm0, cm1, cm2, cm3⟩ := Pm.out
  obtain ⟨cq0, cq1, cq2, cq3⟩ := Pq.out
  obtain ⟨cz0, cz1, cz2, cz3⟩ := Pz.out
  obtain ⟨cv0, cv1, cv2, cv3⟩ := Pv.out
  go_wp2_with fail
  refine (HS.out _ (HE.out.on HB.out)).mono ?_
  rintro e w8 ⟨rfl, hb8⟩
  clear ca0 ca1 ca2 ca3 cb0 cb1 cb2 cb3 cc0 cc1 cc2 cc3 cx0 cx1 cx2 cx3 cy0 cy1 cy2 cy3 cm0 cm1 cm2 cm3 cq0 cq1 cq2 cq3 cz0 cz1 cz2 cz3 cv0 cv1 cv2 cv3
  replace Pa := Lib.hid (Pa.out.on hb8)
  replace Pb := Lib.hid (Pb.out.on hb8)
  replace Pc := Lib.hid (Pc.out.on hb8)
  replace Px := Lib.hid (Px.out.on hb8)
  replace Py := Lib.hid (Py.out.on hb8)
  replace Pm := Lib.hid (Pm.out.on hb8)
  replace Pq := Lib.hid (Pq.out.on hb8)
  replace Pz := Lib.hid (Pz.out.on hb8)
  replace Pv := Lib.hid (Pv.out.on hb8)
  replace HB := Lib.hid (below_step HB.out hb8)
  clear hb8
  obtain ⟨ca0, ca1, ca2, ca3⟩ := Pa.out
  obtain ⟨cb0, cb1, cb2, cb3⟩ := Pb.out
  obtain ⟨cc0, cc1, cc2, cc3⟩ := Pc.out
  obtain ⟨cx0, cx1, cx2, cx3⟩ := Px.out
  obtain ⟨cy0, cy1, cy2, cy3⟩ := Py.out
  obtain ⟨cm0, cm1, cm2, cm3⟩ := Pm.out
  obtain ⟨cq0, cq1, cq2, cq3⟩ := Pq.out
  obtain ⟨cz0, cz1, cz2, cz3⟩ := Pz.out
  obtain ⟨cv0, cv1, cv2, cv3⟩ := Pv.out
  go_wp2_with fail
  go_ret
  exact ⟨rfl, HB.out⟩
theorem not_kind (a : Val) : isK 3 (notR a).k = true := by
  unfold notR; (repeat' split) <;> rfl
theorem dec_kind (a b : Val) (d : Bool) : isK 3 (decR a b d).k = true := by
  unfold decR; (repeat' split) <;> rfl
/-- Not of and is or of nots. -/
theorem morgan_eq (a b : Val) (ha : isK 3 a.k = true) (hb : isK 3 b.k = true) : notR (decR a b false) = decR (notR a) (notR b) true := by
  have ca : (a.k = 0) ∨ (a.k = 3 ∧ a.b = true) ∨ (a.k = 3 ∧ a.b = false) := by
    simp only [isK, Bool.or_eq_true, decide_eq_true_eq] at ha
    cases h : a.b <;> simp <;> omega
  have cb : (b.k = 0) ∨ (b.k = 3 ∧ b.b = true) ∨ (b.k = 3 ∧ b.b = false) := by
    simp only [isK, Bool.or_eq_true, decide_eq_true_eq] at hb
    cases h : b.b <;> simp <;> omega
  rcases ca with h1 | ⟨h1, h2⟩ | ⟨h1, h2⟩ <;> rcases cb with g1 | ⟨g1, g2⟩ | ⟨g1, g2⟩ <;> simp [notR, decR, cmpV, isK, one0, vBool, vNull, Lib.compareInt, rk, *]
theorem paR_print {v : Val} (h : validN v = 0) (hn : inI v.n) : paR (printL v) = v ∧ paE (printL v) = 0 := by
  have e := gs_print h hn
  have ht : told (gs (printL v)) (printL v) = true := by rw [e]; simp [told, h]
  exact ⟨by rw [paR, if_pos ht, e], by rw [paE, if_pos ht]⟩
theorem print_len {v : Val} (h : validN v = 0) (hn : inI v.n) : (printL v).length < 4294967281 := by
  unfold printL
  split
  · have : (Lib.itoa v.n).length ≤ 20 := by
      have h1 := hn.1; have h2 := hn.2
      unfold Lib.itoa
      split
      · rw [List.length_cons, Lib.decDigits_length]; have := nDigits_lt (u := v.n.natAbs) (by omega); omega
      · rw [Lib.decDigits_length]; have := nDigits_lt (u := v.n.toNat) (by omega); omega
    omega
  · split
    · have h1 := dbl_len v.t.data.toList
      have h2 := size_of_valid h
      rw [size_list] at h2
      simp; omega
    · split
      · split <;> simp [trueW, falseW]
      · simp [nullW]
theorem morgan_ (k n : Int) (t : ByteArray) (b : Bool) (k' n' : Int) (t' : ByteArray) (b' : Bool) (k2 n2 : Int) (t2 : ByteArray) (b2 : Bool) (w : World) (_ : inI n) (_ : inI n') (hn : inI n2) (hE : Env w) (hX : Errs2 w) :
    Calls Tryd.prog 7 #[.agg #[.int .i64 k, .int .i64 n, .string t, .bool b], .agg #[.int .i64 k', .int .i64 n', .string t', .bool b'], .agg #[.int .i64 k2, .int .i64 n2, .string t2, .bool b2]] w fun e w' => e = .returned (.bool true) ∧ Below w.heap.size w w' := by
  have x1 := fun W => and_ k n t b k' n' t' b' W
  have x2 := fun W => not_ (decR ⟨k, n, t, b⟩ ⟨k', n', t', b'⟩ false).k (decR ⟨k, n, t, b⟩ ⟨k', n', t', b'⟩ false).n (decR ⟨k, n, t, b⟩ ⟨k', n', t', b'⟩ false).t (decR ⟨k, n, t, b⟩ ⟨k', n', t', b'⟩ false).b W
  have x3 := fun W => not_ k n t b W
  have x4 := fun W => not_ k' n' t' b' W
  have x5 := fun W => or_ (notR ⟨k, n, t, b⟩).k (notR ⟨k, n, t, b⟩).n (notR ⟨k, n, t, b⟩).t (notR ⟨k, n, t, b⟩).b (notR ⟨k', n', t', b'⟩).k (notR ⟨k', n', t', b'⟩).n (notR ⟨k', n', t', b'⟩).t (notR ⟨k', n', t', b'⟩).b W
  have e2 : notE (decR ⟨k, n, t, b⟩ ⟨k', n', t', b'⟩ false).k = 0 := by rw [notE, dec_kind]; rfl
  have e5 : decE (notR ⟨k, n, t, b⟩).k (notR ⟨k', n', t', b'⟩).k = 0 := by rw [decE, not_kind, not_kind]; rfl
  have z0 : errV 45 0 = .nilIface := rfl
  have z7 : errV 45 7 = .iface 45 (.int .i64 7) := rfl
  rw [e2, z0] at x2
  rw [e5, z0] at x5
  have p6 := fun (W : World) (hW : Env W) => print_ k2 n2 t2 b2 W hn hW
  by_cases hv : validN ⟨k2, n2, t2, b2⟩ = 0
  · have q := paR_print hv hn
    have p7 := fun (W : World) (hW : Env W) (hY : Errs2 W) => parse_ ⟨(printL ⟨k2, n2, t2, b2⟩).toArray⟩ W (by rw [list_size]; exact print_len hv hn) hW hY
    rw [prS, if_pos hv, hv, z0] at p6
    simp only [q.1, q.2, z0] at p7
    cases ha : isK 3 k
    · have eg : notE k = 7 := by rw [notE, ha]; rfl
      have ee : decE k k' = 7 := by rw [decE, ha]; rfl
      rw [ee, z7] at x1
      rw [eg, z7] at x3
      exact morgan_a_ok k n t b k' n' t' b' k2 n2 t2 b2 w _ _ _ _ _ _ _ _ _ _ _ _ _ _ _ _ _ _ _ _ _ _ x1 x2 x3 x4 x5 p6 p7 hE hX
    · have eg : notE k = 0 := by rw [notE, ha]; rfl
      rw [eg, z0] at x3
      cases hb : isK 3 k'
      · have eh : notE k' = 7 := by rw [notE, hb]; rfl
        have ee : decE k k' = 7 := by rw [decE, ha, hb]; rfl
        rw [ee, z7] at x1
        rw [eh, z7] at x4
        exact morgan_b_ok k n t b k' n' t' b' k2 n2 t2 b2 w _ _ _ _ _ _ _ _ _ _ _ _ _ _ _ _ _ _ _ _ _ x1 x2 x3 x4 x5 p6 p7 hE hX
      · have eh : notE k' = 0 := by rw [notE, hb]; rfl
        have ee : decE k k' = 0 := by rw [decE, ha, hb]; rfl
        rw [ee, z0] at x1
        rw [eh, z0] at x4
        rw [← morgan_eq ⟨k, n, t, b⟩ ⟨k', n', t', b'⟩ ha hb] at x5
        exact morgan_ok_ok k n t b k' n' t' b' k2 n2 t2 b2 w _ _ _ _ _ _ _ _ _ _ _ _ _ _ _ _ _ x1 x2 x3 x4 x5 p6 p7 hE hX
  · obtain ⟨Ev, hEv⟩ : ∃ E, errV 45 (validN ⟨k2, n2, t2, b2⟩) = .iface 45 (.int .i64 E) := ⟨_, by rw [errV, if_neg hv]⟩
    rw [prS, if_neg hv, hEv] at p6
    cases ha : isK 3 k
    · have eg : notE k = 7 := by rw [notE, ha]; rfl
      have ee : decE k k' = 7 := by rw [decE, ha]; rfl
      rw [ee, z7] at x1
      rw [eg, z7] at x3
      exact morgan_a_bad k n t b k' n' t' b' k2 n2 t2 b2 w _ _ _ _ _ _ _ _ _ _ _ _ _ _ _ _ _ _ _ _ _ _ x1 x2 x3 x4 x5 p6 hE
    · have eg : notE k = 0 := by rw [notE, ha]; rfl
      rw [eg, z0] at x3
      cases hb : isK 3 k'
      · have eh : notE k' = 7 := by rw [notE, hb]; rfl
        have ee : decE k k' = 7 := by rw [decE, ha, hb]; rfl
        rw [ee, z7] at x1
        rw [eh, z7] at x4
        exact morgan_b_bad k n t b k' n' t' b' k2 n2 t2 b2 w _ _ _ _ _ _ _ _ _ _ _ _ _ _ _ _ _ _ _ _ _ x1 x2 x3 x4 x5 p6 hE
      · have eh : notE k' = 0 := by rw [notE, hb]; rfl
        have ee : decE k k' = 0 := by rw [decE, ha, hb]; rfl
        rw [ee, z0] at x1
        rw [eh, z0] at x4
        rw [← morgan_eq ⟨k, n, t, b⟩ ⟨k', n', t', b'⟩ ha hb] at x5
        exact morgan_ok_bad k n t b k' n' t' b' k2 n2 t2 b2 w _ _ _ _ _ _ _ _ _ _ _ _ _ _ _ _ _ x1 x2 x3 x4 x5 p6 hE
end Go.Proofs.YtfplncbechidnaaDoor
