/- The walk of the law ValueMakes. -/
import Derived.Test.YtfplncbechidnaaGreatDoorZ7
import Derived.Test.YtfplncbechidnaaGreatDoorAs
import Derived.Test.YtfplncbechidnaaGreatDoorSure
namespace Go.Proofs.YtfplncbechidnaaGreatDoor
open Go.RowKit Go.Sort

set_option maxHeartbeats 4000000 in
set_option maxRecDepth 100000 in
theorem makes_0 (k n : Int) (t : ByteArray) (b : Bool) (s : ByteArray) (w : World) (hs : s.size ≤ 1048576) (hn : inI n) (hE : Env w) (hX : Errs2 w) (hT : ErrType w) :
    Calls Tryz.prog 3 #[.agg #[.int .i64 k, .int .i64 n, .string t, .bool b], .string s, .int .i64 0] w fun e w' => e = .returned (.bool true) ∧ Below w.heap.size w w' := by
  have H1 : Hid (∀ W, Env W → Calls Tryz.prog 4 #[.agg #[.int .i64 k, .int .i64 n, .string t, .bool b]] W fun e w' => e = .returned (.tuple #[.string ⟨(prS ⟨k, n, t, b⟩).toArray⟩, errV 47 (validN ⟨k, n, t, b⟩)]) ∧ Below W.heap.size W w') := fun W hW => print_ k n t b W hn hW
  have H2 : Hid (∀ W, Calls Tryz.prog 5 #[.agg #[.int .i64 k, .int .i64 n, .string t, .bool b]] W fun e w' => e = .returned (.tuple #[.string ⟨(prS ⟨k, n, t, b⟩).toArray⟩, .int .i64 (validN ⟨k, n, t, b⟩)]) ∧ Below W.heap.size W w') := fun W => rprint_ k n t b W hn
  have H3 : Hid (∀ W, Env W → Errs2 W → Calls Tryz.prog 6 #[.string s] W fun e w' => e = .returned (.tuple #[agV (paR s.data.toList), errV 47 (paE s.data.toList)]) ∧ Below W.heap.size W w') := fun W hW hY => parse_ s W (by omega) hW hY
  have H4 : Hid (∀ W, Calls Tryz.prog 7 #[.string s] W fun e w' => e = .returned (.tuple #[agV (paR s.data.toList), .int .i64 (paE s.data.toList)]) ∧ Below W.heap.size W w') := fun W => rparse_ s W hs
  have H5 : Hid (∀ W, Calls Tryz.prog 16 #[.agg #[.int .i64 k, .int .i64 n, .string t, .bool b]] W fun e w' => e = .returned (errV 47 (validN ⟨k, n, t, b⟩)) ∧ Below W.heap.size W w') := fun W => valid_ k n t b W
  have H6 : Hid (∀ W, Calls Tryz.prog 17 #[.agg #[.int .i64 k, .int .i64 n, .string t, .bool b]] W fun e w' => e = .returned (.int .i64 (validN ⟨k, n, t, b⟩)) ∧ Below W.heap.size W w') := fun W => rvalid_ k n t b W
  have HN : Hid (∀ W, ErrType W → Calls Tryz.prog 15 #[errV 47 (validN ⟨k, n, t, b⟩)] W fun e w' => e = .returned (.int .i64 (validN ⟨k, n, t, b⟩)) ∧ Below W.heap.size W w') := fun W hW => num_ _ W hW
  have HN2 : Hid (∀ W, ErrType W → Calls Tryz.prog 15 #[errV 47 (paE s.data.toList)] W fun e w' => e = .returned (.int .i64 (paE s.data.toList)) ∧ Below W.heap.size W w') := fun W hW => num_ _ W hW
  have HS : Hid (∀ W, Env W → Calls Tryz.prog 19 #[] W fun e w' => e = .returned (.bool true) ∧ Below W.heap.size W w') := fun W hW => sure_ W hW
  have M0 : Hid (∀ W, Calls Tryz.prog 8 #[] W fun e w' => e = .returned (.agg #[.int .i64 0, .int .i64 0, .string ⟨#[]⟩, .bool false]) ∧ Below W.heap.size W w') := fun W => null_ W
  have M1 : Hid (∀ W, Calls Tryz.prog 9 #[.int .i64 0] W fun e w' => e = .returned (.agg #[.int .i64 1, .int .i64 0, .string ⟨#[]⟩, .bool false]) ∧ Below W.heap.size W w') := fun W => int_ _ W
  have M2 : Hid (∀ W, Calls Tryz.prog 10 #[.int .i64 0] W fun e w' => e = .returned (.agg #[.int .i64 1, .int .i64 0, .string ⟨#[]⟩, .bool false]) ∧ Below W.heap.size W w') := fun W => rint_ _ W
  have M3 : Hid (∀ W, Calls Tryz.prog 11 #[.string s] W fun e w' => e = .returned (.agg #[.int .i64 2, .int .i64 0, .string s, .bool false]) ∧ Below W.heap.size W w') := fun W => text_ _ W
  have M4 : Hid (∀ W, Calls Tryz.prog 12 #[.string s] W fun e w' => e = .returned (.agg #[.int .i64 2, .int .i64 0, .string s, .bool false]) ∧ Below W.heap.size W w') := fun W => rtext_ _ W
  have M5 : Hid (∀ W, Calls Tryz.prog 13 #[.bool false] W fun e w' => e = .returned (.agg #[.int .i64 3, .int .i64 0, .string ⟨#[]⟩, .bool false]) ∧ Below W.heap.size W w') := fun W => bool_ _ W
  have M6 : Hid (∀ W, Calls Tryz.prog 14 #[.bool false] W fun e w' => e = .returned (.agg #[.int .i64 3, .int .i64 0, .string ⟨#[]⟩, .bool false]) ∧ Below W.heap.size W w') := fun W => rbool_ _ W
  have HK : Hid (∀ W, Calls Tryz.prog 18 #[.int .i64 0] W fun e w' => e = .returned (.string ⟨#[78, 85, 76, 76]⟩) ∧ Below W.heap.size W w') := fun W => kind_ _ W
  have HE := Lib.hid hE
  have HT := Lib.hid hT
  have HX := Lib.hid hX
  clear hE hT hX hn hs
  generalize paR s.data.toList = X at *
  generalize errV 47 (validN ⟨k, n, t, b⟩) = E at *
  generalize validN ⟨k, n, t, b⟩ = f at *
  generalize errV 47 (paE s.data.toList) = G at *
  generalize paE s.data.toList = h at *
  generalize (⟨(prS ⟨k, n, t, b⟩).toArray⟩ : ByteArray) = T at *
  obtain ⟨xk, xn, xt, xb⟩ := X
  simp only [agV] at *
  have hEQ : ∀ W, (Op.equalIn 10000 23 (.agg #[.int .i64 xk, .int .i64 xn, .string xt, .bool xb]) (.agg #[.int .i64 xk, .int .i64 xn, .string xt, .bool xb])).run Tryz.prog W = .ok true W := fun W => by rw [eqIn_, sameV_refl]
  have q0 : ∀ W, (Op.equalIn 10000 23 (.agg #[.int .i64 0, .int .i64 0, .string ⟨#[]⟩, .bool false]) (.agg #[.int .i64 0, .int .i64 0, .string ⟨#[]⟩, .bool false])).run Tryz.prog W = .ok true W := fun W => by rw [eqIn_, sameV_refl]
  have q1 : ∀ W, (Op.equalIn 10000 23 (.agg #[.int .i64 1, .int .i64 0, .string ⟨#[]⟩, .bool false]) (.agg #[.int .i64 1, .int .i64 0, .string ⟨#[]⟩, .bool false])).run Tryz.prog W = .ok true W := fun W => by rw [eqIn_, sameV_refl]
  have q2 : ∀ W, (Op.equalIn 10000 23 (.agg #[.int .i64 2, .int .i64 0, .string s, .bool false]) (.agg #[.int .i64 2, .int .i64 0, .string s, .bool false])).run Tryz.prog W = .ok true W := fun W => by rw [eqIn_, sameV_refl]
  have q3 : ∀ W, (Op.equalIn 10000 23 (.agg #[.int .i64 3, .int .i64 0, .string ⟨#[]⟩, .bool false]) (.agg #[.int .i64 3, .int .i64 0, .string ⟨#[]⟩, .bool false])).run Tryz.prog W = .ok true W := fun W => by rw [eqIn_, sameV_refl]
  have hTT : (T.toList == T.toList) = true := by simp
  have hGD := guardV
  have Pa : Hid (In4 (w.alloc (.cells #[.int .i64 k, .int .i64 n, .string t, .bool b] 23)) (w.heap.size) 0 k n t b) := Lib.hid (by have := in4_new w k n t b 23; simpa using this)
  have HB : Hid (Below w.heap.size w (w.alloc (.cells #[.int .i64 k, .int .i64 n, .string t, .bool b] 23))) := ((Below.refl _ _).alloc (by simp) _)
  go_enter Tryz.func3, Tryz.ntmps3
  go_wp2_with fail
  refine (H1.out _ (HE.out.on HB.out)).mono ?_
  rintro e w1 ⟨rfl, hb1⟩
  replace Pa := Lib.hid (Pa.out.on hb1)
  replace HB := Lib.hid (below_step HB.out hb1)
  clear hb1
  obtain ⟨ca0, ca1, ca2, ca3⟩ := Pa.out
  go_wp2_with fail
  refine (H2.out _).mono ?_
  rintro e w2 ⟨rfl, hb2⟩
  clear ca0 ca1 ca2 ca3
  replace Pa := Lib.hid (Pa.out.on hb2)
  replace HB := Lib.hid (below_step HB.out hb2)
  clear hb2
  obtain ⟨ca0, ca1, ca2, ca3⟩ := Pa.out
  go_wp2_with fail
  refine (H3.out _ (HE.out.on HB.out) (HX.out.on HB.out)).mono ?_
  rintro e w3 ⟨rfl, hb3⟩
  clear ca0 ca1 ca2 ca3
  replace Pa := Lib.hid (Pa.out.on hb3)
  replace HB := Lib.hid (below_step HB.out hb3)
  clear hb3
  replace Pa := Lib.hid (Pa.out.alloc (.cells #[.int .i64 xk, .int .i64 xn, .string xt, .bool xb] 23))
  have Px := Lib.hid (in4_new w3 xk xn xt xb 23)
  replace HB : Hid (Below w.heap.size w (w3.alloc (.cells #[.int .i64 xk, .int .i64 xn, .string xt, .bool xb] 23))) := below_step HB.out ((Below.refl _ _).alloc (Nat.le_refl _) _)
  obtain ⟨ca0, ca1, ca2, ca3⟩ := Pa.out
  obtain ⟨cx0, cx1, cx2, cx3⟩ := Px.out
  go_wp2_with fail
  refine (H4.out _).mono ?_
  rintro e w4 ⟨rfl, hb4⟩
  clear ca0 ca1 ca2 ca3 cx0 cx1 cx2 cx3
  replace Pa := Lib.hid (Pa.out.on hb4)
  replace Px := Lib.hid (Px.out.on hb4)
  replace HB := Lib.hid (below_step HB.out hb4)
  clear hb4
  replace Pa := Lib.hid (Pa.out.alloc (.cells #[.int .i64 xk, .int .i64 xn, .string xt, .bool xb] 23))
  replace Px := Lib.hid (Px.out.alloc (.cells #[.int .i64 xk, .int .i64 xn, .string xt, .bool xb] 23))
  have Py := Lib.hid (in4_new w4 xk xn xt xb 23)
  replace HB : Hid (Below w.heap.size w (w4.alloc (.cells #[.int .i64 xk, .int .i64 xn, .string xt, .bool xb] 23))) := below_step HB.out ((Below.refl _ _).alloc (Nat.le_refl _) _)
  obtain ⟨ca0, ca1, ca2, ca3⟩ := Pa.out
  obtain ⟨cx0, cx1, cx2, cx3⟩ := Px.out
  obtain ⟨cy0, cy1, cy2, cy3⟩ := Py.out
  go_wp2_with fail
  clear ca0 ca1 ca2 ca3 cx0 cx1 cx2 cx3 cy0 cy1 cy2 cy3
  replace Pa := Lib.hid (Pa.out.alloc (.cells #[.string ⟨#[78, 85, 76, 76]⟩, .string ⟨#[73, 78, 84]⟩, .string ⟨#[84, 69, 88, 84]⟩, .string ⟨#[66, 79, 79, 76]⟩] 9))
  replace Px := Lib.hid (Px.out.alloc (.cells #[.string ⟨#[78, 85, 76, 76]⟩, .string ⟨#[73, 78, 84]⟩, .string ⟨#[84, 69, 88, 84]⟩, .string ⟨#[66, 79, 79, 76]⟩] 9))
  replace Py := Lib.hid (Py.out.alloc (.cells #[.string ⟨#[78, 85, 76, 76]⟩, .string ⟨#[73, 78, 84]⟩, .string ⟨#[84, 69, 88, 84]⟩, .string ⟨#[66, 79, 79, 76]⟩] 9))
  replace HB := Lib.hid (below_step HB.out ((Below.refl _ _).alloc (Nat.le_refl _) (.cells #[.string ⟨#[78, 85, 76, 76]⟩, .string ⟨#[73, 78, 84]⟩, .string ⟨#[84, 69, 88, 84]⟩, .string ⟨#[66, 79, 79, 76]⟩] 9)))
  refine (M0.out _).mono ?_
  rintro e w5 ⟨rfl, hb5⟩
  replace Pa := Lib.hid (Pa.out.on hb5)
  replace Px := Lib.hid (Px.out.on hb5)
  replace Py := Lib.hid (Py.out.on hb5)
  replace HB := Lib.hid (below_step HB.out hb5)
  clear hb5
  obtain ⟨ca0, ca1, ca2, ca3⟩ := Pa.out
  obtain ⟨cx0, cx1, cx2, cx3⟩ := Px.out
  obtain ⟨cy0, cy1, cy2, cy3⟩ := Py.out
  go_wp2_with fail
  refine (M1.out _).mono ?_
  rintro e w6 ⟨rfl, hb6⟩
  clear ca0 ca1 ca2 ca3 cx0 cx1 cx2 cx3 cy0 cy1 cy2 cy3
  replace Pa := Lib.hid (Pa.out.on hb6)
  replace Px := Lib.hid (Px.out.on hb6)
  replace Py := Lib.hid (Py.out.on hb6)
  replace HB := Lib.hid (below_step HB.out hb6)
  clear hb6
  obtain ⟨ca0, ca1, ca2, ca3⟩ := Pa.out
  obtain ⟨cx0, cx1, cx2, cx3⟩ := Px.out
  obtain ⟨cy0, cy1, cy2, cy3⟩ := Py.out
  go_wp2_with fail
  refine (M2.out _).mono ?_
  rintro e w7 ⟨rfl, hb7⟩
  clear ca0 ca1 ca2 ca3 cx0 cx1 cx2 cx3 cy0 cy1 cy2 cy3
  replace Pa := Lib.hid (Pa.out.on hb7)
  replace Px := Lib.hid (Px.out.on hb7)
  replace Py := Lib.hid (Py.out.on hb7)
  replace HB := Lib.hid (below_step HB.out hb7)
  clear hb7
  obtain ⟨ca0, ca1, ca2, ca3⟩ := Pa.out
  obtain ⟨cx0, cx1, cx2, cx3⟩ := Px.out
  obtain ⟨cy0, cy1, cy2, cy3⟩ := Py.out
  go_wp2_with fail
  refine (M3.out _).mono ?_
  rintro e w8 ⟨rfl, hb8⟩
  clear ca0 ca1 ca2 ca3 cx0 cx1 cx2 cx3 cy0 cy1 cy2 cy3
  replace Pa := Lib.hid (Pa.out.on hb8)
  replace Px := Lib.hid (Px.out.on hb8)
  replace Py := Lib.hid (Py.out.on hb8)
  replace HB := Lib.hid (below_step HB.out hb8)
  clear hb8
  obtain ⟨ca0, ca1, ca2, ca3⟩ := Pa.out
  obtain ⟨cx0, cx1, cx2, cx3⟩ := Px.out
  obtain ⟨cy0, cy1, cy2, cy3⟩ := Py.out
  go_wp2_with fail
  refine (M4.out _).mono ?_
  rintro e w9 ⟨rfl, hb9⟩
  clear ca0 ca1 ca2 ca3 cx0 cx1 cx2 cx3 cy0 cy1 cy2 cy3
  replace Pa := Lib.hid (Pa.out.on hb9)
  replace Px := Lib.hid (Px.out.on hb9)
  replace Py := Lib.hid (Py.out.on hb9)
  replace HB := Lib.hid (below_step HB.out hb9)
  clear hb9
  obtain ⟨ca0, ca1, ca2, ca3⟩ := Pa.out
  obtain ⟨cx0, cx1, cx2, cx3⟩ := Px.out
  obtain ⟨cy0, cy1, cy2, cy3⟩ := Py.out
  go_wp2_with fail
  refine (M5.out _).mono ?_
  rintro e w10 ⟨rfl, hb10⟩
  clear ca0 ca1 ca2 ca3 cx0 cx1 cx2 cx3 cy0 cy1 cy2 cy3
  replace Pa := Lib.hid (Pa.out.on hb10)
  replace Px := Lib.hid (Px.out.on hb10)
  replace Py := Lib.hid (Py.out.on hb10)
  replace HB := Lib.hid (below_step HB.out hb10)
  clear hb10
  obtain ⟨ca0, ca1, ca2, ca3⟩ := Pa.out
  obtain ⟨cx0, cx1, cx2, cx3⟩ := Px.out
  obtain ⟨cy0, cy1, cy2, cy3⟩ := Py.out
  go_wp2_with fail
  refine (M6.out _).mono ?_
  rintro e w11 ⟨rfl, hb11⟩
  clear ca0 ca1 ca2 ca3 cx0 cx1 cx2 cx3 cy0 cy1 cy2 cy3
  replace Pa := Lib.hid (Pa.out.on hb11)
  replace Px := Lib.hid (Px.out.on hb11)
  replace Py := Lib.hid (Py.out.on hb11)
  replace HB := Lib.hid (below_step HB.out hb11)
  clear hb11
  obtain ⟨ca0, ca1, ca2, ca3⟩ := Pa.out
  obtain ⟨cx0, cx1, cx2, cx3⟩ := Px.out
  obtain ⟨cy0, cy1, cy2, cy3⟩ := Py.out
  go_wp2_with fail
  have HBq : Hid (Below w.heap.size w (w11)) := HB.out
  clear ca0 ca1 ca2 ca3 cx0 cx1 cx2 cx3 cy0 cy1 cy2 cy3
  obtain ⟨ca0, ca1, ca2, ca3⟩ := Pa.out
  obtain ⟨cx0, cx1, cx2, cx3⟩ := Px.out
  obtain ⟨cy0, cy1, cy2, cy3⟩ := Py.out
  replace ca0 := cell_regrown ca0
  replace ca1 := cell_regrown ca1
  replace ca2 := cell_regrown ca2
  replace ca3 := cell_regrown ca3
  replace cx0 := cell_regrown cx0
  replace cx1 := cell_regrown cx1
  replace cx2 := cell_regrown cx2
  replace cx3 := cell_regrown cx3
  replace cy0 := cell_regrown cy0
  replace cy1 := cell_regrown cy1
  replace cy2 := cell_regrown cy2
  replace cy3 := cell_regrown cy3
  have HEQ : Hid (∀ d os, Env (grow (redrawn (w11) d) os)) := fun d os => (HE.out.on HBq.out).on (below_regrown _ d os)
  have HTQ : Hid (∀ d os, ErrType (grow (redrawn (w11) d) os)) := fun d os => (HT.out.on HBq.out).on (below_regrown _ d os)
  refine wp_region_quiet_below (by kernel_rfl) (by kernel_rfl) ?_
  repeat (go_big_quiet_step (first | (go_at_call_of 16 (#[.agg #[.int .i64 k, .int .i64 n, .string t, .bool b]] : Array Value); exact Calls.regrown_of (H5.out _)) | (go_at_call_of 15 (#[E] : Array Value); exact Calls.regrown_of (HN.out _ (HTQ.out _ _))) | (go_at_call_of 17 (#[.agg #[.int .i64 k, .int .i64 n, .string t, .bool b]] : Array Value); exact Calls.regrown_of (H6.out _)) | (go_at_call_of 15 (#[G] : Array Value); exact Calls.regrown_of (HN2.out _ (HTQ.out _ _))) | (go_at_call_of 18 (#[.int .i64 0] : Array Value); exact Calls.regrown_of (HK.out _)) | (go_at_call_of 19 (#[] : Array Value); exact Calls.regrown_of (HS.out _ (HEQ.out _ _)))))
  refine wpQuiet_nil ?_
  intro _ hw'
  obtain ⟨⟨dq, osq⟩, hw''⟩ := hw'
  subst hw''
  have hbq := Lib.hid (below_step HBq.out (below_regrown (w11) dq osq))
  generalize grow (redrawn (w11) dq) osq = WL at *
  go_wp2_with fail
  go_ret
  exact ⟨rfl, hbq.out⟩
set_option maxHeartbeats 4000000 in
set_option maxRecDepth 100000 in
theorem makes_1 (k n : Int) (t : ByteArray) (b : Bool) (s : ByteArray) (w : World) (hs : s.size ≤ 1048576) (hn : inI n) (hE : Env w) (hX : Errs2 w) (hT : ErrType w) :
    Calls Tryz.prog 3 #[.agg #[.int .i64 k, .int .i64 n, .string t, .bool b], .string s, .int .i64 1] w fun e w' => e = .returned (.bool true) ∧ Below w.heap.size w w' := by
  have H1 : Hid (∀ W, Env W → Calls Tryz.prog 4 #[.agg #[.int .i64 k, .int .i64 n, .string t, .bool b]] W fun e w' => e = .returned (.tuple #[.string ⟨(prS ⟨k, n, t, b⟩).toArray⟩, errV 47 (validN ⟨k, n, t, b⟩)]) ∧ Below W.heap.size W w') := fun W hW => print_ k n t b W hn hW
  have H2 : Hid (∀ W, Calls Tryz.prog 5 #[.agg #[.int .i64 k, .int .i64 n, .string t, .bool b]] W fun e w' => e = .returned (.tuple #[.string ⟨(prS ⟨k, n, t, b⟩).toArray⟩, .int .i64 (validN ⟨k, n, t, b⟩)]) ∧ Below W.heap.size W w') := fun W => rprint_ k n t b W hn
  have H3 : Hid (∀ W, Env W → Errs2 W → Calls Tryz.prog 6 #[.string s] W fun e w' => e = .returned (.tuple #[agV (paR s.data.toList), errV 47 (paE s.data.toList)]) ∧ Below W.heap.size W w') := fun W hW hY => parse_ s W (by omega) hW hY
  have H4 : Hid (∀ W, Calls Tryz.prog 7 #[.string s] W fun e w' => e = .returned (.tuple #[agV (paR s.data.toList), .int .i64 (paE s.data.toList)]) ∧ Below W.heap.size W w') := fun W => rparse_ s W hs
  have H5 : Hid (∀ W, Calls Tryz.prog 16 #[.agg #[.int .i64 k, .int .i64 n, .string t, .bool b]] W fun e w' => e = .returned (errV 47 (validN ⟨k, n, t, b⟩)) ∧ Below W.heap.size W w') := fun W => valid_ k n t b W
  have H6 : Hid (∀ W, Calls Tryz.prog 17 #[.agg #[.int .i64 k, .int .i64 n, .string t, .bool b]] W fun e w' => e = .returned (.int .i64 (validN ⟨k, n, t, b⟩)) ∧ Below W.heap.size W w') := fun W => rvalid_ k n t b W
  have HN : Hid (∀ W, ErrType W → Calls Tryz.prog 15 #[errV 47 (validN ⟨k, n, t, b⟩)] W fun e w' => e = .returned (.int .i64 (validN ⟨k, n, t, b⟩)) ∧ Below W.heap.size W w') := fun W hW => num_ _ W hW
  have HN2 : Hid (∀ W, ErrType W → Calls Tryz.prog 15 #[errV 47 (paE s.data.toList)] W fun e w' => e = .returned (.int .i64 (paE s.data.toList)) ∧ Below W.heap.size W w') := fun W hW => num_ _ W hW
  have HS : Hid (∀ W, Env W → Calls Tryz.prog 19 #[] W fun e w' => e = .returned (.bool true) ∧ Below W.heap.size W w') := fun W hW => sure_ W hW
  have M0 : Hid (∀ W, Calls Tryz.prog 8 #[] W fun e w' => e = .returned (.agg #[.int .i64 0, .int .i64 0, .string ⟨#[]⟩, .bool false]) ∧ Below W.heap.size W w') := fun W => null_ W
  have M1 : Hid (∀ W, Calls Tryz.prog 9 #[.int .i64 1] W fun e w' => e = .returned (.agg #[.int .i64 1, .int .i64 1, .string ⟨#[]⟩, .bool false]) ∧ Below W.heap.size W w') := fun W => int_ _ W
  have M2 : Hid (∀ W, Calls Tryz.prog 10 #[.int .i64 1] W fun e w' => e = .returned (.agg #[.int .i64 1, .int .i64 1, .string ⟨#[]⟩, .bool false]) ∧ Below W.heap.size W w') := fun W => rint_ _ W
  have M3 : Hid (∀ W, Calls Tryz.prog 11 #[.string s] W fun e w' => e = .returned (.agg #[.int .i64 2, .int .i64 0, .string s, .bool false]) ∧ Below W.heap.size W w') := fun W => text_ _ W
  have M4 : Hid (∀ W, Calls Tryz.prog 12 #[.string s] W fun e w' => e = .returned (.agg #[.int .i64 2, .int .i64 0, .string s, .bool false]) ∧ Below W.heap.size W w') := fun W => rtext_ _ W
  have M5 : Hid (∀ W, Calls Tryz.prog 13 #[.bool true] W fun e w' => e = .returned (.agg #[.int .i64 3, .int .i64 0, .string ⟨#[]⟩, .bool true]) ∧ Below W.heap.size W w') := fun W => bool_ _ W
  have M6 : Hid (∀ W, Calls Tryz.prog 14 #[.bool true] W fun e w' => e = .returned (.agg #[.int .i64 3, .int .i64 0, .string ⟨#[]⟩, .bool true]) ∧ Below W.heap.size W w') := fun W => rbool_ _ W
  have HK : Hid (∀ W, Calls Tryz.prog 18 #[.int .i64 1] W fun e w' => e = .returned (.string ⟨#[73, 78, 84]⟩) ∧ Below W.heap.size W w') := fun W => kind_ _ W
  have HE := Lib.hid hE
  have HT := Lib.hid hT
  have HX := Lib.hid hX
  clear hE hT hX hn hs
  generalize paR s.data.toList = X at *
  generalize errV 47 (validN ⟨k, n, t, b⟩) = E at *
  generalize validN ⟨k, n, t, b⟩ = f at *
  generalize errV 47 (paE s.data.toList) = G at *
  generalize paE s.data.toList = h at *
  generalize (⟨(prS ⟨k, n, t, b⟩).toArray⟩ : ByteArray) = T at *
  obtain ⟨xk, xn, xt, xb⟩ := X
  simp only [agV] at *
  have hEQ : ∀ W, (Op.equalIn 10000 23 (.agg #[.int .i64 xk, .int .i64 xn, .string xt, .bool xb]) (.agg #[.int .i64 xk, .int .i64 xn, .string xt, .bool xb])).run Tryz.prog W = .ok true W := fun W => by rw [eqIn_, sameV_refl]
  have q0 : ∀ W, (Op.equalIn 10000 23 (.agg #[.int .i64 0, .int .i64 0, .string ⟨#[]⟩, .bool false]) (.agg #[.int .i64 0, .int .i64 0, .string ⟨#[]⟩, .bool false])).run Tryz.prog W = .ok true W := fun W => by rw [eqIn_, sameV_refl]
  have q1 : ∀ W, (Op.equalIn 10000 23 (.agg #[.int .i64 1, .int .i64 1, .string ⟨#[]⟩, .bool false]) (.agg #[.int .i64 1, .int .i64 1, .string ⟨#[]⟩, .bool false])).run Tryz.prog W = .ok true W := fun W => by rw [eqIn_, sameV_refl]
  have q2 : ∀ W, (Op.equalIn 10000 23 (.agg #[.int .i64 2, .int .i64 0, .string s, .bool false]) (.agg #[.int .i64 2, .int .i64 0, .string s, .bool false])).run Tryz.prog W = .ok true W := fun W => by rw [eqIn_, sameV_refl]
  have q3 : ∀ W, (Op.equalIn 10000 23 (.agg #[.int .i64 3, .int .i64 0, .string ⟨#[]⟩, .bool true]) (.agg #[.int .i64 3, .int .i64 0, .string ⟨#[]⟩, .bool true])).run Tryz.prog W = .ok true W := fun W => by rw [eqIn_, sameV_refl]
  have hTT : (T.toList == T.toList) = true := by simp
  have hGD := guardV
  have Pa : Hid (In4 (w.alloc (.cells #[.int .i64 k, .int .i64 n, .string t, .bool b] 23)) (w.heap.size) 0 k n t b) := Lib.hid (by have := in4_new w k n t b 23; simpa using this)
  have HB : Hid (Below w.heap.size w (w.alloc (.cells #[.int .i64 k, .int .i64 n, .string t, .bool b] 23))) := ((Below.refl _ _).alloc (by simp) _)
  go_enter Tryz.func3, Tryz.ntmps3
  go_wp2_with fail
  refine (H1.out _ (HE.out.on HB.out)).mono ?_
  rintro e w1 ⟨rfl, hb1⟩
  replace Pa := Lib.hid (Pa.out.on hb1)
  replace HB := Lib.hid (below_step HB.out hb1)
  clear hb1
  obtain ⟨ca0, ca1, ca2, ca3⟩ := Pa.out
  go_wp2_with fail
  refine (H2.out _).mono ?_
  rintro e w2 ⟨rfl, hb2⟩
  clear ca0 ca1 ca2 ca3
  replace Pa := Lib.hid (Pa.out.on hb2)
  replace HB := Lib.hid (below_step HB.out hb2)
  clear hb2
  obtain ⟨ca0, ca1, ca2, ca3⟩ := Pa.out
  go_wp2_with fail
  refine (H3.out _ (HE.out.on HB.out) (HX.out.on HB.out)).mono ?_
  rintro e w3 ⟨rfl, hb3⟩
  clear ca0 ca1 ca2 ca3
  replace Pa := Lib.hid (Pa.out.on hb3)
  replace HB := Lib.hid (below_step HB.out hb3)
  clear hb3
  replace Pa := Lib.hid (Pa.out.alloc (.cells #[.int .i64 xk, .int .i64 xn, .string xt, .bool xb] 23))
  have Px := Lib.hid (in4_new w3 xk xn xt xb 23)
  replace HB : Hid (Below w.heap.size w (w3.alloc (.cells #[.int .i64 xk, .int .i64 xn, .string xt, .bool xb] 23))) := below_step HB.out ((Below.refl _ _).alloc (Nat.le_refl _) _)
  obtain ⟨ca0, ca1, ca2, ca3⟩ := Pa.out
  obtain ⟨cx0, cx1, cx2, cx3⟩ := Px.out
  go_wp2_with fail
  refine (H4.out _).mono ?_
  rintro e w4 ⟨rfl, hb4⟩
  clear ca0 ca1 ca2 ca3 cx0 cx1 cx2 cx3
  replace Pa := Lib.hid (Pa.out.on hb4)
  replace Px := Lib.hid (Px.out.on hb4)
  replace HB := Lib.hid (below_step HB.out hb4)
  clear hb4
  replace Pa := Lib.hid (Pa.out.alloc (.cells #[.int .i64 xk, .int .i64 xn, .string xt, .bool xb] 23))
  replace Px := Lib.hid (Px.out.alloc (.cells #[.int .i64 xk, .int .i64 xn, .string xt, .bool xb] 23))
  have Py := Lib.hid (in4_new w4 xk xn xt xb 23)
  replace HB : Hid (Below w.heap.size w (w4.alloc (.cells #[.int .i64 xk, .int .i64 xn, .string xt, .bool xb] 23))) := below_step HB.out ((Below.refl _ _).alloc (Nat.le_refl _) _)
  obtain ⟨ca0, ca1, ca2, ca3⟩ := Pa.out
  obtain ⟨cx0, cx1, cx2, cx3⟩ := Px.out
  obtain ⟨cy0, cy1, cy2, cy3⟩ := Py.out
  go_wp2_with fail
  clear ca0 ca1 ca2 ca3 cx0 cx1 cx2 cx3 cy0 cy1 cy2 cy3
  replace Pa := Lib.hid (Pa.out.alloc (.cells #[.string ⟨#[78, 85, 76, 76]⟩, .string ⟨#[73, 78, 84]⟩, .string ⟨#[84, 69, 88, 84]⟩, .string ⟨#[66, 79, 79, 76]⟩] 9))
  replace Px := Lib.hid (Px.out.alloc (.cells #[.string ⟨#[78, 85, 76, 76]⟩, .string ⟨#[73, 78, 84]⟩, .string ⟨#[84, 69, 88, 84]⟩, .string ⟨#[66, 79, 79, 76]⟩] 9))
  replace Py := Lib.hid (Py.out.alloc (.cells #[.string ⟨#[78, 85, 76, 76]⟩, .string ⟨#[73, 78, 84]⟩, .string ⟨#[84, 69, 88, 84]⟩, .string ⟨#[66, 79, 79, 76]⟩] 9))
  replace HB := Lib.hid (below_step HB.out ((Below.refl _ _).alloc (Nat.le_refl _) (.cells #[.string ⟨#[78, 85, 76, 76]⟩, .string ⟨#[73, 78, 84]⟩, .string ⟨#[84, 69, 88, 84]⟩, .string ⟨#[66, 79, 79, 76]⟩] 9)))
  refine (M0.out _).mono ?_
  rintro e w5 ⟨rfl, hb5⟩
  replace Pa := Lib.hid (Pa.out.on hb5)
  replace Px := Lib.hid (Px.out.on hb5)
  replace Py := Lib.hid (Py.out.on hb5)
  replace HB := Lib.hid (below_step HB.out hb5)
  clear hb5
  obtain ⟨ca0, ca1, ca2, ca3⟩ := Pa.out
  obtain ⟨cx0, cx1, cx2, cx3⟩ := Px.out
  obtain ⟨cy0, cy1, cy2, cy3⟩ := Py.out
  go_wp2_with fail
  refine (M1.out _).mono ?_
  rintro e w6 ⟨rfl, hb6⟩
  clear ca0 ca1 ca2 ca3 cx0 cx1 cx2 cx3 cy0 cy1 cy2 cy3
  replace Pa := Lib.hid (Pa.out.on hb6)
  replace Px := Lib.hid (Px.out.on hb6)
  replace Py := Lib.hid (Py.out.on hb6)
  replace HB := Lib.hid (below_step HB.out hb6)
  clear hb6
  obtain ⟨ca0, ca1, ca2, ca3⟩ := Pa.out
  obtain ⟨cx0, cx1, cx2, cx3⟩ := Px.out
  obtain ⟨cy0, cy1, cy2, cy3⟩ := Py.out
  go_wp2_with fail
  refine (M2.out _).mono ?_
  rintro e w7 ⟨rfl, hb7⟩
  clear ca0 ca1 ca2 ca3 cx0 cx1 cx2 cx3 cy0 cy1 cy2 cy3
  replace Pa := Lib.hid (Pa.out.on hb7)
  replace Px := Lib.hid (Px.out.on hb7)
  replace Py := Lib.hid (Py.out.on hb7)
  replace HB := Lib.hid (below_step HB.out hb7)
  clear hb7
  obtain ⟨ca0, ca1, ca2, ca3⟩ := Pa.out
  obtain ⟨cx0, cx1, cx2, cx3⟩ := Px.out
  obtain ⟨cy0, cy1, cy2, cy3⟩ := Py.out
  go_wp2_with fail
  refine (M3.out _).mono ?_
  rintro e w8 ⟨rfl, hb8⟩
  clear ca0 ca1 ca2 ca3 cx0 cx1 cx2 cx3 cy0 cy1 cy2 cy3
  replace Pa := Lib.hid (Pa.out.on hb8)
  replace Px := Lib.hid (Px.out.on hb8)
  replace Py := Lib.hid (Py.out.on hb8)
  replace HB := Lib.hid (below_step HB.out hb8)
  clear hb8
  obtain ⟨ca0, ca1, ca2, ca3⟩ := Pa.out
  obtain ⟨cx0, cx1, cx2, cx3⟩ := Px.out
  obtain ⟨cy0, cy1, cy2, cy3⟩ := Py.out
  go_wp2_with fail
  refine (M4.out _).mono ?_
  rintro e w9 ⟨rfl, hb9⟩
  clear ca0 ca1 ca2 ca3 cx0 cx1 cx2 cx3 cy0 cy1 cy2 cy3
  replace Pa := Lib.hid (Pa.out.on hb9)
  replace Px := Lib.hid (Px.out.on hb9)
  replace Py := Lib.hid (Py.out.on hb9)
  replace HB := Lib.hid (below_step HB.out hb9)
  clear hb9
  obtain ⟨ca0, ca1, ca2, ca3⟩ := Pa.out
  obtain ⟨cx0, cx1, cx2, cx3⟩ := Px.out
  obtain ⟨cy0, cy1, cy2, cy3⟩ := Py.out
  go_wp2_with fail
  refine (M5.out _).mono ?_
  rintro e w10 ⟨rfl, hb10⟩
  clear ca0 ca1 ca2 ca3 cx0 cx1 cx2 cx3 cy0 cy1 cy2 cy3
  replace Pa := Lib.hid (Pa.out.on hb10)
  replace Px := Lib.hid (Px.out.on hb10)
  replace Py := Lib.hid (Py.out.on hb10)
  replace HB := Lib.hid (below_step HB.out hb10)
  clear hb10
  obtain ⟨ca0, ca1, ca2, ca3⟩ := Pa.out
  obtain ⟨cx0, cx1, cx2, cx3⟩ := Px.out
  obtain ⟨cy0, cy1, cy2, cy3⟩ := Py.out
  go_wp2_with fail
  refine (M6.out _).mono ?_
  rintro e w11 ⟨rfl, hb11⟩
  clear ca0 ca1 ca2 ca3 cx0 cx1 cx2 cx3 cy0 cy1 cy2 cy3
  replace Pa := Lib.hid (Pa.out.on hb11)
  replace Px := Lib.hid (Px.out.on hb11)
  replace Py := Lib.hid (Py.out.on hb11)
  replace HB := Lib.hid (below_step HB.out hb11)
  clear hb11
  obtain ⟨ca0, ca1, ca2, ca3⟩ := Pa.out
  obtain ⟨cx0, cx1, cx2, cx3⟩ := Px.out
  obtain ⟨cy0, cy1, cy2, cy3⟩ := Py.out
  go_wp2_with fail
  have HBq : Hid (Below w.heap.size w (w11)) := HB.out
  clear ca0 ca1 ca2 ca3 cx0 cx1 cx2 cx3 cy0 cy1 cy2 cy3
  obtain ⟨ca0, ca1, ca2, ca3⟩ := Pa.out
  obtain ⟨cx0, cx1, cx2, cx3⟩ := Px.out
  obtain ⟨cy0, cy1, cy2, cy3⟩ := Py.out
  replace ca0 := cell_regrown ca0
  replace ca1 := cell_regrown ca1
  replace ca2 := cell_regrown ca2
  replace ca3 := cell_regrown ca3
  replace cx0 := cell_regrown cx0
  replace cx1 := cell_regrown cx1
  replace cx2 := cell_regrown cx2
  replace cx3 := cell_regrown cx3
  replace cy0 := cell_regrown cy0
  replace cy1 := cell_regrown cy1
  replace cy2 := cell_regrown cy2
  replace cy3 := cell_regrown cy3
  have HEQ : Hid (∀ d os, Env (grow (redrawn (w11) d) os)) := fun d os => (HE.out.on HBq.out).on (below_regrown _ d os)
  have HTQ : Hid (∀ d os, ErrType (grow (redrawn (w11) d) os)) := fun d os => (HT.out.on HBq.out).on (below_regrown _ d os)
  refine wp_region_quiet_below (by kernel_rfl) (by kernel_rfl) ?_
  repeat (go_big_quiet_step (first | (go_at_call_of 16 (#[.agg #[.int .i64 k, .int .i64 n, .string t, .bool b]] : Array Value); exact Calls.regrown_of (H5.out _)) | (go_at_call_of 15 (#[E] : Array Value); exact Calls.regrown_of (HN.out _ (HTQ.out _ _))) | (go_at_call_of 17 (#[.agg #[.int .i64 k, .int .i64 n, .string t, .bool b]] : Array Value); exact Calls.regrown_of (H6.out _)) | (go_at_call_of 15 (#[G] : Array Value); exact Calls.regrown_of (HN2.out _ (HTQ.out _ _))) | (go_at_call_of 18 (#[.int .i64 1] : Array Value); exact Calls.regrown_of (HK.out _)) | (go_at_call_of 19 (#[] : Array Value); exact Calls.regrown_of (HS.out _ (HEQ.out _ _)))))
  refine wpQuiet_nil ?_
  intro _ hw'
  obtain ⟨⟨dq, osq⟩, hw''⟩ := hw'
  subst hw''
  have hbq := Lib.hid (below_step HBq.out (below_regrown (w11) dq osq))
  generalize grow (redrawn (w11) dq) osq = WL at *
  go_wp2_with fail
  go_ret
  exact ⟨rfl, hbq.out⟩
set_option maxHeartbeats 4000000 in
set_option maxRecDepth 100000 in
theorem makes_2 (k n : Int) (t : ByteArray) (b : Bool) (s : ByteArray) (w : World) (hs : s.size ≤ 1048576) (hn : inI n) (hE : Env w) (hX : Errs2 w) (hT : ErrType w) :
    Calls Tryz.prog 3 #[.agg #[.int .i64 k, .int .i64 n, .string t, .bool b], .string s, .int .i64 2] w fun e w' => e = .returned (.bool true) ∧ Below w.heap.size w w' := by
  have H1 : Hid (∀ W, Env W → Calls Tryz.prog 4 #[.agg #[.int .i64 k, .int .i64 n, .string t, .bool b]] W fun e w' => e = .returned (.tuple #[.string ⟨(prS ⟨k, n, t, b⟩).toArray⟩, errV 47 (validN ⟨k, n, t, b⟩)]) ∧ Below W.heap.size W w') := fun W hW => print_ k n t b W hn hW
  have H2 : Hid (∀ W, Calls Tryz.prog 5 #[.agg #[.int .i64 k, .int .i64 n, .string t, .bool b]] W fun e w' => e = .returned (.tuple #[.string ⟨(prS ⟨k, n, t, b⟩).toArray⟩, .int .i64 (validN ⟨k, n, t, b⟩)]) ∧ Below W.heap.size W w') := fun W => rprint_ k n t b W hn
  have H3 : Hid (∀ W, Env W → Errs2 W → Calls Tryz.prog 6 #[.string s] W fun e w' => e = .returned (.tuple #[agV (paR s.data.toList), errV 47 (paE s.data.toList)]) ∧ Below W.heap.size W w') := fun W hW hY => parse_ s W (by omega) hW hY
  have H4 : Hid (∀ W, Calls Tryz.prog 7 #[.string s] W fun e w' => e = .returned (.tuple #[agV (paR s.data.toList), .int .i64 (paE s.data.toList)]) ∧ Below W.heap.size W w') := fun W => rparse_ s W hs
  have H5 : Hid (∀ W, Calls Tryz.prog 16 #[.agg #[.int .i64 k, .int .i64 n, .string t, .bool b]] W fun e w' => e = .returned (errV 47 (validN ⟨k, n, t, b⟩)) ∧ Below W.heap.size W w') := fun W => valid_ k n t b W
  have H6 : Hid (∀ W, Calls Tryz.prog 17 #[.agg #[.int .i64 k, .int .i64 n, .string t, .bool b]] W fun e w' => e = .returned (.int .i64 (validN ⟨k, n, t, b⟩)) ∧ Below W.heap.size W w') := fun W => rvalid_ k n t b W
  have HN : Hid (∀ W, ErrType W → Calls Tryz.prog 15 #[errV 47 (validN ⟨k, n, t, b⟩)] W fun e w' => e = .returned (.int .i64 (validN ⟨k, n, t, b⟩)) ∧ Below W.heap.size W w') := fun W hW => num_ _ W hW
  have HN2 : Hid (∀ W, ErrType W → Calls Tryz.prog 15 #[errV 47 (paE s.data.toList)] W fun e w' => e = .returned (.int .i64 (paE s.data.toList)) ∧ Below W.heap.size W w') := fun W hW => num_ _ W hW
  have HS : Hid (∀ W, Env W → Calls Tryz.prog 19 #[] W fun e w' => e = .returned (.bool true) ∧ Below W.heap.size W w') := fun W hW => sure_ W hW
  have M0 : Hid (∀ W, Calls Tryz.prog 8 #[] W fun e w' => e = .returned (.agg #[.int .i64 0, .int .i64 0, .string ⟨#[]⟩, .bool false]) ∧ Below W.heap.size W w') := fun W => null_ W
  have M1 : Hid (∀ W, Calls Tryz.prog 9 #[.int .i64 2] W fun e w' => e = .returned (.agg #[.int .i64 1, .int .i64 2, .string ⟨#[]⟩, .bool false]) ∧ Below W.heap.size W w') := fun W => int_ _ W
  have M2 : Hid (∀ W, Calls Tryz.prog 10 #[.int .i64 2] W fun e w' => e = .returned (.agg #[.int .i64 1, .int .i64 2, .string ⟨#[]⟩, .bool false]) ∧ Below W.heap.size W w') := fun W => rint_ _ W
  have M3 : Hid (∀ W, Calls Tryz.prog 11 #[.string s] W fun e w' => e = .returned (.agg #[.int .i64 2, .int .i64 0, .string s, .bool false]) ∧ Below W.heap.size W w') := fun W => text_ _ W
  have M4 : Hid (∀ W, Calls Tryz.prog 12 #[.string s] W fun e w' => e = .returned (.agg #[.int .i64 2, .int .i64 0, .string s, .bool false]) ∧ Below W.heap.size W w') := fun W => rtext_ _ W
  have M5 : Hid (∀ W, Calls Tryz.prog 13 #[.bool true] W fun e w' => e = .returned (.agg #[.int .i64 3, .int .i64 0, .string ⟨#[]⟩, .bool true]) ∧ Below W.heap.size W w') := fun W => bool_ _ W
  have M6 : Hid (∀ W, Calls Tryz.prog 14 #[.bool true] W fun e w' => e = .returned (.agg #[.int .i64 3, .int .i64 0, .string ⟨#[]⟩, .bool true]) ∧ Below W.heap.size W w') := fun W => rbool_ _ W
  have HK : Hid (∀ W, Calls Tryz.prog 18 #[.int .i64 2] W fun e w' => e = .returned (.string ⟨#[84, 69, 88, 84]⟩) ∧ Below W.heap.size W w') := fun W => kind_ _ W
  have HE := Lib.hid hE
  have HT := Lib.hid hT
  have HX := Lib.hid hX
  clear hE hT hX hn hs
  generalize paR s.data.toList = X at *
  generalize errV 47 (validN ⟨k, n, t, b⟩) = E at *
  generalize validN ⟨k, n, t, b⟩ = f at *
  generalize errV 47 (paE s.data.toList) = G at *
  generalize paE s.data.toList = h at *
  generalize (⟨(prS ⟨k, n, t, b⟩).toArray⟩ : ByteArray) = T at *
  obtain ⟨xk, xn, xt, xb⟩ := X
  simp only [agV] at *
  have hEQ : ∀ W, (Op.equalIn 10000 23 (.agg #[.int .i64 xk, .int .i64 xn, .string xt, .bool xb]) (.agg #[.int .i64 xk, .int .i64 xn, .string xt, .bool xb])).run Tryz.prog W = .ok true W := fun W => by rw [eqIn_, sameV_refl]
  have q0 : ∀ W, (Op.equalIn 10000 23 (.agg #[.int .i64 0, .int .i64 0, .string ⟨#[]⟩, .bool false]) (.agg #[.int .i64 0, .int .i64 0, .string ⟨#[]⟩, .bool false])).run Tryz.prog W = .ok true W := fun W => by rw [eqIn_, sameV_refl]
  have q1 : ∀ W, (Op.equalIn 10000 23 (.agg #[.int .i64 1, .int .i64 2, .string ⟨#[]⟩, .bool false]) (.agg #[.int .i64 1, .int .i64 2, .string ⟨#[]⟩, .bool false])).run Tryz.prog W = .ok true W := fun W => by rw [eqIn_, sameV_refl]
  have q2 : ∀ W, (Op.equalIn 10000 23 (.agg #[.int .i64 2, .int .i64 0, .string s, .bool false]) (.agg #[.int .i64 2, .int .i64 0, .string s, .bool false])).run Tryz.prog W = .ok true W := fun W => by rw [eqIn_, sameV_refl]
  have q3 : ∀ W, (Op.equalIn 10000 23 (.agg #[.int .i64 3, .int .i64 0, .string ⟨#[]⟩, .bool true]) (.agg #[.int .i64 3, .int .i64 0, .string ⟨#[]⟩, .bool true])).run Tryz.prog W = .ok true W := fun W => by rw [eqIn_, sameV_refl]
  have hTT : (T.toList == T.toList) = true := by simp
  have hGD := guardV
  have Pa : Hid (In4 (w.alloc (.cells #[.int .i64 k, .int .i64 n, .string t, .bool b] 23)) (w.heap.size) 0 k n t b) := Lib.hid (by have := in4_new w k n t b 23; simpa using this)
  have HB : Hid (Below w.heap.size w (w.alloc (.cells #[.int .i64 k, .int .i64 n, .string t, .bool b] 23))) := ((Below.refl _ _).alloc (by simp) _)
  go_enter Tryz.func3, Tryz.ntmps3
  go_wp2_with fail
  refine (H1.out _ (HE.out.on HB.out)).mono ?_
  rintro e w1 ⟨rfl, hb1⟩
  replace Pa := Lib.hid (Pa.out.on hb1)
  replace HB := Lib.hid (below_step HB.out hb1)
  clear hb1
  obtain ⟨ca0, ca1, ca2, ca3⟩ := Pa.out
  go_wp2_with fail
  refine (H2.out _).mono ?_
  rintro e w2 ⟨rfl, hb2⟩
  clear ca0 ca1 ca2 ca3
  replace Pa := Lib.hid (Pa.out.on hb2)
  replace HB := Lib.hid (below_step HB.out hb2)
  clear hb2
  obtain ⟨ca0, ca1, ca2, ca3⟩ := Pa.out
  go_wp2_with fail
  refine (H3.out _ (HE.out.on HB.out) (HX.out.on HB.out)).mono ?_
  rintro e w3 ⟨rfl, hb3⟩
  clear ca0 ca1 ca2 ca3
  replace Pa := Lib.hid (Pa.out.on hb3)
  replace HB := Lib.hid (below_step HB.out hb3)
  clear hb3
  replace Pa := Lib.hid (Pa.out.alloc (.cells #[.int .i64 xk, .int .i64 xn, .string xt, .bool xb] 23))
  have Px := Lib.hid (in4_new w3 xk xn xt xb 23)
  replace HB : Hid (Below w.heap.size w (w3.alloc (.cells #[.int .i64 xk, .int .i64 xn, .string xt, .bool xb] 23))) := below_step HB.out ((Below.refl _ _).alloc (Nat.le_refl _) _)
  obtain ⟨ca0, ca1, ca2, ca3⟩ := Pa.out
  obtain ⟨cx0, cx1, cx2, cx3⟩ := Px.out
  go_wp2_with fail
  refine (H4.out _).mono ?_
  rintro e w4 ⟨rfl, hb4⟩
  clear ca0 ca1 ca2 ca3 cx0 cx1 cx2 cx3
  replace Pa := Lib.hid (Pa.out.on hb4)
  replace Px := Lib.hid (Px.out.on hb4)
  replace HB := Lib.hid (below_step HB.out hb4)
  clear hb4
  replace Pa := Lib.hid (Pa.out.alloc (.cells #[.int .i64 xk, .int .i64 xn, .string xt, .bool xb] 23))
  replace Px := Lib.hid (Px.out.alloc (.cells #[.int .i64 xk, .int .i64 xn, .string xt, .bool xb] 23))
  have Py := Lib.hid (in4_new w4 xk xn xt xb 23)
  replace HB : Hid (Below w.heap.size w (w4.alloc (.cells #[.int .i64 xk, .int .i64 xn, .string xt, .bool xb] 23))) := below_step HB.out ((Below.refl _ _).alloc (Nat.le_refl _) _)
  obtain ⟨ca0, ca1, ca2, ca3⟩ := Pa.out
  obtain ⟨cx0, cx1, cx2, cx3⟩ := Px.out
  obtain ⟨cy0, cy1, cy2, cy3⟩ := Py.out
  go_wp2_with fail
  clear ca0 ca1 ca2 ca3 cx0 cx1 cx2 cx3 cy0 cy1 cy2 cy3
  replace Pa := Lib.hid (Pa.out.alloc (.cells #[.string ⟨#[78, 85, 76, 76]⟩, .string ⟨#[73, 78, 84]⟩, .string ⟨#[84, 69, 88, 84]⟩, .string ⟨#[66, 79, 79, 76]⟩] 9))
  replace Px := Lib.hid (Px.out.alloc (.cells #[.string ⟨#[78, 85, 76, 76]⟩, .string ⟨#[73, 78, 84]⟩, .string ⟨#[84, 69, 88, 84]⟩, .string ⟨#[66, 79, 79, 76]⟩] 9))
  replace Py := Lib.hid (Py.out.alloc (.cells #[.string ⟨#[78, 85, 76, 76]⟩, .string ⟨#[73, 78, 84]⟩, .string ⟨#[84, 69, 88, 84]⟩, .string ⟨#[66, 79, 79, 76]⟩] 9))
  replace HB := Lib.hid (below_step HB.out ((Below.refl _ _).alloc (Nat.le_refl _) (.cells #[.string ⟨#[78, 85, 76, 76]⟩, .string ⟨#[73, 78, 84]⟩, .string ⟨#[84, 69, 88, 84]⟩, .string ⟨#[66, 79, 79, 76]⟩] 9)))
  refine (M0.out _).mono ?_
  rintro e w5 ⟨rfl, hb5⟩
  replace Pa := Lib.hid (Pa.out.on hb5)
  replace Px := Lib.hid (Px.out.on hb5)
  replace Py := Lib.hid (Py.out.on hb5)
  replace HB := Lib.hid (below_step HB.out hb5)
  clear hb5
  obtain ⟨ca0, ca1, ca2, ca3⟩ := Pa.out
  obtain ⟨cx0, cx1, cx2, cx3⟩ := Px.out
  obtain ⟨cy0, cy1, cy2, cy3⟩ := Py.out
  go_wp2_with fail
  refine (M1.out _).mono ?_
  rintro e w6 ⟨rfl, hb6⟩
  clear ca0 ca1 ca2 ca3 cx0 cx1 cx2 cx3 cy0 cy1 cy2 cy3
  replace Pa := Lib.hid (Pa.out.on hb6)
  replace Px := Lib.hid (Px.out.on hb6)
  replace Py := Lib.hid (Py.out.on hb6)
  replace HB := Lib.hid (below_step HB.out hb6)
  clear hb6
  obtain ⟨ca0, ca1, ca2, ca3⟩ := Pa.out
  obtain ⟨cx0, cx1, cx2, cx3⟩ := Px.out
  obtain ⟨cy0, cy1, cy2, cy3⟩ := Py.out
  go_wp2_with fail
  refine (M2.out _).mono ?_
  rintro e w7 ⟨rfl, hb7⟩
  clear ca0 ca1 ca2 ca3 cx0 cx1 cx2 cx3 cy0 cy1 cy2 cy3
  replace Pa := Lib.hid (Pa.out.on hb7)
  replace Px := Lib.hid (Px.out.on hb7)
  replace Py := Lib.hid (Py.out.on hb7)
  replace HB := Lib.hid (below_step HB.out hb7)
  clear hb7
  obtain ⟨ca0, ca1, ca2, ca3⟩ := Pa.out
  obtain ⟨cx0, cx1, cx2, cx3⟩ := Px.out
  obtain ⟨cy0, cy1, cy2, cy3⟩ := Py.out
  go_wp2_with fail
  refine (M3.out _).mono ?_
  rintro e w8 ⟨rfl, hb8⟩
  clear ca0 ca1 ca2 ca3 cx0 cx1 cx2 cx3 cy0 cy1 cy2 cy3
  replace Pa := Lib.hid (Pa.out.on hb8)
  replace Px := Lib.hid (Px.out.on hb8)
  replace Py := Lib.hid (Py.out.on hb8)
  replace HB := Lib.hid (below_step HB.out hb8)
  clear hb8
  obtain ⟨ca0, ca1, ca2, ca3⟩ := Pa.out
  obtain ⟨cx0, cx1, cx2, cx3⟩ := Px.out
  obtain ⟨cy0, cy1, cy2, cy3⟩ := Py.out
  go_wp2_with fail
  refine (M4.out _).mono ?_
  rintro e w9 ⟨rfl, hb9⟩
  clear ca0 ca1 ca2 ca3 cx0 cx1 cx2 cx3 cy0 cy1 cy2 cy3
  replace Pa := Lib.hid (Pa.out.on hb9)
  replace Px := Lib.hid (Px.out.on hb9)
  replace Py := Lib.hid (Py.out.on hb9)
  replace HB := Lib.hid (below_step HB.out hb9)
  clear hb9
  obtain ⟨ca0, ca1, ca2, ca3⟩ := Pa.out
  obtain ⟨cx0, cx1, cx2, cx3⟩ := Px.out
  obtain ⟨cy0, cy1, cy2, cy3⟩ := Py.out
  go_wp2_with fail
  refine (M5.out _).mono ?_
  rintro e w10 ⟨rfl, hb10⟩
  clear ca0 ca1 ca2 ca3 cx0 cx1 cx2 cx3 cy0 cy1 cy2 cy3
  replace Pa := Lib.hid (Pa.out.on hb10)
  replace Px := Lib.hid (Px.out.on hb10)
  replace Py := Lib.hid (Py.out.on hb10)
  replace HB := Lib.hid (below_step HB.out hb10)
  clear hb10
  obtain ⟨ca0, ca1, ca2, ca3⟩ := Pa.out
  obtain ⟨cx0, cx1, cx2, cx3⟩ := Px.out
  obtain ⟨cy0, cy1, cy2, cy3⟩ := Py.out
  go_wp2_with fail
  refine (M6.out _).mono ?_
  rintro e w11 ⟨rfl, hb11⟩
  clear ca0 ca1 ca2 ca3 cx0 cx1 cx2 cx3 cy0 cy1 cy2 cy3
  replace Pa := Lib.hid (Pa.out.on hb11)
  replace Px := Lib.hid (Px.out.on hb11)
  replace Py := Lib.hid (Py.out.on hb11)
  replace HB := Lib.hid (below_step HB.out hb11)
  clear hb11
  obtain ⟨ca0, ca1, ca2, ca3⟩ := Pa.out
  obtain ⟨cx0, cx1, cx2, cx3⟩ := Px.out
  obtain ⟨cy0, cy1, cy2, cy3⟩ := Py.out
  go_wp2_with fail
  have HBq : Hid (Below w.heap.size w (w11)) := HB.out
  clear ca0 ca1 ca2 ca3 cx0 cx1 cx2 cx3 cy0 cy1 cy2 cy3
  obtain ⟨ca0, ca1, ca2, ca3⟩ := Pa.out
  obtain ⟨cx0, cx1, cx2, cx3⟩ := Px.out
  obtain ⟨cy0, cy1, cy2, cy3⟩ := Py.out
  replace ca0 := cell_regrown ca0
  replace ca1 := cell_regrown ca1
  replace ca2 := cell_regrown ca2
  replace ca3 := cell_regrown ca3
  replace cx0 := cell_regrown cx0
  replace cx1 := cell_regrown cx1
  replace cx2 := cell_regrown cx2
  replace cx3 := cell_regrown cx3
  replace cy0 := cell_regrown cy0
  replace cy1 := cell_regrown cy1
  replace cy2 := cell_regrown cy2
  replace cy3 := cell_regrown cy3
  have HEQ : Hid (∀ d os, Env (grow (redrawn (w11) d) os)) := fun d os => (HE.out.on HBq.out).on (below_regrown _ d os)
  have HTQ : Hid (∀ d os, ErrType (grow (redrawn (w11) d) os)) := fun d os => (HT.out.on HBq.out).on (below_regrown _ d os)
  refine wp_region_quiet_below (by kernel_rfl) (by kernel_rfl) ?_
  repeat (go_big_quiet_step (first | (go_at_call_of 16 (#[.agg #[.int .i64 k, .int .i64 n, .string t, .bool b]] : Array Value); exact Calls.regrown_of (H5.out _)) | (go_at_call_of 15 (#[E] : Array Value); exact Calls.regrown_of (HN.out _ (HTQ.out _ _))) | (go_at_call_of 17 (#[.agg #[.int .i64 k, .int .i64 n, .string t, .bool b]] : Array Value); exact Calls.regrown_of (H6.out _)) | (go_at_call_of 15 (#[G] : Array Value); exact Calls.regrown_of (HN2.out _ (HTQ.out _ _))) | (go_at_call_of 18 (#[.int .i64 2] : Array Value); exact Calls.regrown_of (HK.out _)) | (go_at_call_of 19 (#[] : Array Value); exact Calls.regrown_of (HS.out _ (HEQ.out _ _)))))
  refine wpQuiet_nil ?_
  intro _ hw'
  obtain ⟨⟨dq, osq⟩, hw''⟩ := hw'
  subst hw''
  have hbq := Lib.hid (below_step HBq.out (below_regrown (w11) dq osq))
  generalize grow (redrawn (w11) dq) osq = WL at *
  go_wp2_with fail
  go_ret
  exact ⟨rfl, hbq.out⟩
set_option maxHeartbeats 4000000 in
set_option maxRecDepth 100000 in
theorem makes_3 (k n : Int) (t : ByteArray) (b : Bool) (s : ByteArray) (w : World) (hs : s.size ≤ 1048576) (hn : inI n) (hE : Env w) (hX : Errs2 w) (hT : ErrType w) :
    Calls Tryz.prog 3 #[.agg #[.int .i64 k, .int .i64 n, .string t, .bool b], .string s, .int .i64 3] w fun e w' => e = .returned (.bool true) ∧ Below w.heap.size w w' := by
  have H1 : Hid (∀ W, Env W → Calls Tryz.prog 4 #[.agg #[.int .i64 k, .int .i64 n, .string t, .bool b]] W fun e w' => e = .returned (.tuple #[.string ⟨(prS ⟨k, n, t, b⟩).toArray⟩, errV 47 (validN ⟨k, n, t, b⟩)]) ∧ Below W.heap.size W w') := fun W hW => print_ k n t b W hn hW
  have H2 : Hid (∀ W, Calls Tryz.prog 5 #[.agg #[.int .i64 k, .int .i64 n, .string t, .bool b]] W fun e w' => e = .returned (.tuple #[.string ⟨(prS ⟨k, n, t, b⟩).toArray⟩, .int .i64 (validN ⟨k, n, t, b⟩)]) ∧ Below W.heap.size W w') := fun W => rprint_ k n t b W hn
  have H3 : Hid (∀ W, Env W → Errs2 W → Calls Tryz.prog 6 #[.string s] W fun e w' => e = .returned (.tuple #[agV (paR s.data.toList), errV 47 (paE s.data.toList)]) ∧ Below W.heap.size W w') := fun W hW hY => parse_ s W (by omega) hW hY
  have H4 : Hid (∀ W, Calls Tryz.prog 7 #[.string s] W fun e w' => e = .returned (.tuple #[agV (paR s.data.toList), .int .i64 (paE s.data.toList)]) ∧ Below W.heap.size W w') := fun W => rparse_ s W hs
  have H5 : Hid (∀ W, Calls Tryz.prog 16 #[.agg #[.int .i64 k, .int .i64 n, .string t, .bool b]] W fun e w' => e = .returned (errV 47 (validN ⟨k, n, t, b⟩)) ∧ Below W.heap.size W w') := fun W => valid_ k n t b W
  have H6 : Hid (∀ W, Calls Tryz.prog 17 #[.agg #[.int .i64 k, .int .i64 n, .string t, .bool b]] W fun e w' => e = .returned (.int .i64 (validN ⟨k, n, t, b⟩)) ∧ Below W.heap.size W w') := fun W => rvalid_ k n t b W
  have HN : Hid (∀ W, ErrType W → Calls Tryz.prog 15 #[errV 47 (validN ⟨k, n, t, b⟩)] W fun e w' => e = .returned (.int .i64 (validN ⟨k, n, t, b⟩)) ∧ Below W.heap.size W w') := fun W hW => num_ _ W hW
  have HN2 : Hid (∀ W, ErrType W → Calls Tryz.prog 15 #[errV 47 (paE s.data.toList)] W fun e w' => e = .returned (.int .i64 (paE s.data.toList)) ∧ Below W.heap.size W w') := fun W hW => num_ _ W hW
  have HS : Hid (∀ W, Env W → Calls Tryz.prog 19 #[] W fun e w' => e = .returned (.bool true) ∧ Below W.heap.size W w') := fun W hW => sure_ W hW
  have M0 : Hid (∀ W, Calls Tryz.prog 8 #[] W fun e w' => e = .returned (.agg #[.int .i64 0, .int .i64 0, .string ⟨#[]⟩, .bool false]) ∧ Below W.heap.size W w') := fun W => null_ W
  have M1 : Hid (∀ W, Calls Tryz.prog 9 #[.int .i64 3] W fun e w' => e = .returned (.agg #[.int .i64 1, .int .i64 3, .string ⟨#[]⟩, .bool false]) ∧ Below W.heap.size W w') := fun W => int_ _ W
  have M2 : Hid (∀ W, Calls Tryz.prog 10 #[.int .i64 3] W fun e w' => e = .returned (.agg #[.int .i64 1, .int .i64 3, .string ⟨#[]⟩, .bool false]) ∧ Below W.heap.size W w') := fun W => rint_ _ W
  have M3 : Hid (∀ W, Calls Tryz.prog 11 #[.string s] W fun e w' => e = .returned (.agg #[.int .i64 2, .int .i64 0, .string s, .bool false]) ∧ Below W.heap.size W w') := fun W => text_ _ W
  have M4 : Hid (∀ W, Calls Tryz.prog 12 #[.string s] W fun e w' => e = .returned (.agg #[.int .i64 2, .int .i64 0, .string s, .bool false]) ∧ Below W.heap.size W w') := fun W => rtext_ _ W
  have M5 : Hid (∀ W, Calls Tryz.prog 13 #[.bool true] W fun e w' => e = .returned (.agg #[.int .i64 3, .int .i64 0, .string ⟨#[]⟩, .bool true]) ∧ Below W.heap.size W w') := fun W => bool_ _ W
  have M6 : Hid (∀ W, Calls Tryz.prog 14 #[.bool true] W fun e w' => e = .returned (.agg #[.int .i64 3, .int .i64 0, .string ⟨#[]⟩, .bool true]) ∧ Below W.heap.size W w') := fun W => rbool_ _ W
  have HK : Hid (∀ W, Calls Tryz.prog 18 #[.int .i64 3] W fun e w' => e = .returned (.string ⟨#[66, 79, 79, 76]⟩) ∧ Below W.heap.size W w') := fun W => kind_ _ W
  have HE := Lib.hid hE
  have HT := Lib.hid hT
  have HX := Lib.hid hX
  clear hE hT hX hn hs
  generalize paR s.data.toList = X at *
  generalize errV 47 (validN ⟨k, n, t, b⟩) = E at *
  generalize validN ⟨k, n, t, b⟩ = f at *
  generalize errV 47 (paE s.data.toList) = G at *
  generalize paE s.data.toList = h at *
  generalize (⟨(prS ⟨k, n, t, b⟩).toArray⟩ : ByteArray) = T at *
  obtain ⟨xk, xn, xt, xb⟩ := X
  simp only [agV] at *
  have hEQ : ∀ W, (Op.equalIn 10000 23 (.agg #[.int .i64 xk, .int .i64 xn, .string xt, .bool xb]) (.agg #[.int .i64 xk, .int .i64 xn, .string xt, .bool xb])).run Tryz.prog W = .ok true W := fun W => by rw [eqIn_, sameV_refl]
  have q0 : ∀ W, (Op.equalIn 10000 23 (.agg #[.int .i64 0, .int .i64 0, .string ⟨#[]⟩, .bool false]) (.agg #[.int .i64 0, .int .i64 0, .string ⟨#[]⟩, .bool false])).run Tryz.prog W = .ok true W := fun W => by rw [eqIn_, sameV_refl]
  have q1 : ∀ W, (Op.equalIn 10000 23 (.agg #[.int .i64 1, .int .i64 3, .string ⟨#[]⟩, .bool false]) (.agg #[.int .i64 1, .int .i64 3, .string ⟨#[]⟩, .bool false])).run Tryz.prog W = .ok true W := fun W => by rw [eqIn_, sameV_refl]
  have q2 : ∀ W, (Op.equalIn 10000 23 (.agg #[.int .i64 2, .int .i64 0, .string s, .bool false]) (.agg #[.int .i64 2, .int .i64 0, .string s, .bool false])).run Tryz.prog W = .ok true W := fun W => by rw [eqIn_, sameV_refl]
  have q3 : ∀ W, (Op.equalIn 10000 23 (.agg #[.int .i64 3, .int .i64 0, .string ⟨#[]⟩, .bool true]) (.agg #[.int .i64 3, .int .i64 0, .string ⟨#[]⟩, .bool true])).run Tryz.prog W = .ok true W := fun W => by rw [eqIn_, sameV_refl]
  have hTT : (T.toList == T.toList) = true := by simp
  have hGD := guardV
  have Pa : Hid (In4 (w.alloc (.cells #[.int .i64 k, .int .i64 n, .string t, .bool b] 23)) (w.heap.size) 0 k n t b) := Lib.hid (by have := in4_new w k n t b 23; simpa using this)
  have HB : Hid (Below w.heap.size w (w.alloc (.cells #[.int .i64 k, .int .i64 n, .string t, .bool b] 23))) := ((Below.refl _ _).alloc (by simp) _)
  go_enter Tryz.func3, Tryz.ntmps3
  go_wp2_with fail
  refine (H1.out _ (HE.out.on HB.out)).mono ?_
  rintro e w1 ⟨rfl, hb1⟩
  replace Pa := Lib.hid (Pa.out.on hb1)
  replace HB := Lib.hid (below_step HB.out hb1)
  clear hb1
  obtain ⟨ca0, ca1, ca2, ca3⟩ := Pa.out
  go_wp2_with fail
  refine (H2.out _).mono ?_
  rintro e w2 ⟨rfl, hb2⟩
  clear ca0 ca1 ca2 ca3
  replace Pa := Lib.hid (Pa.out.on hb2)
  replace HB := Lib.hid (below_step HB.out hb2)
  clear hb2
  obtain ⟨ca0, ca1, ca2, ca3⟩ := Pa.out
  go_wp2_with fail
  refine (H3.out _ (HE.out.on HB.out) (HX.out.on HB.out)).mono ?_
  rintro e w3 ⟨rfl, hb3⟩
  clear ca0 ca1 ca2 ca3
  replace Pa := Lib.hid (Pa.out.on hb3)
  replace HB := Lib.hid (below_step HB.out hb3)
  clear hb3
  replace Pa := Lib.hid (Pa.out.alloc (.cells #[.int .i64 xk, .int .i64 xn, .string xt, .bool xb] 23))
  have Px := Lib.hid (in4_new w3 xk xn xt xb 23)
  replace HB : Hid (Below w.heap.size w (w3.alloc (.cells #[.int .i64 xk, .int .i64 xn, .string xt, .bool xb] 23))) := below_step HB.out ((Below.refl _ _).alloc (Nat.le_refl _) _)
  obtain ⟨ca0, ca1, ca2, ca3⟩ := Pa.out
  obtain ⟨cx0, cx1, cx2, cx3⟩ := Px.out
  go_wp2_with fail
  refine (H4.out _).mono ?_
  rintro e w4 ⟨rfl, hb4⟩
  clear ca0 ca1 ca2 ca3 cx0 cx1 cx2 cx3
  replace Pa := Lib.hid (Pa.out.on hb4)
  replace Px := Lib.hid (Px.out.on hb4)
  replace HB := Lib.hid (below_step HB.out hb4)
  clear hb4
  replace Pa := Lib.hid (Pa.out.alloc (.cells #[.int .i64 xk, .int .i64 xn, .string xt, .bool xb] 23))
  replace Px := Lib.hid (Px.out.alloc (.cells #[.int .i64 xk, .int .i64 xn, .string xt, .bool xb] 23))
  have Py := Lib.hid (in4_new w4 xk xn xt xb 23)
  replace HB : Hid (Below w.heap.size w (w4.alloc (.cells #[.int .i64 xk, .int .i64 xn, .string xt, .bool xb] 23))) := below_step HB.out ((Below.refl _ _).alloc (Nat.le_refl _) _)
  obtain ⟨ca0, ca1, ca2, ca3⟩ := Pa.out
  obtain ⟨cx0, cx1, cx2, cx3⟩ := Px.out
  obtain ⟨cy0, cy1, cy2, cy3⟩ := Py.out
  go_wp2_with fail
  clear ca0 ca1 ca2 ca3 cx0 cx1 cx2 cx3 cy0 cy1 cy2 cy3
  replace Pa := Lib.hid (Pa.out.alloc (.cells #[.string ⟨#[78, 85, 76, 76]⟩, .string ⟨#[73, 78, 84]⟩, .string ⟨#[84, 69, 88, 84]⟩, .string ⟨#[66, 79, 79, 76]⟩] 9))
  replace Px := Lib.hid (Px.out.alloc (.cells #[.string ⟨#[78, 85, 76, 76]⟩, .string ⟨#[73, 78, 84]⟩, .string ⟨#[84, 69, 88, 84]⟩, .string ⟨#[66, 79, 79, 76]⟩] 9))
  replace Py := Lib.hid (Py.out.alloc (.cells #[.string ⟨#[78, 85, 76, 76]⟩, .string ⟨#[73, 78, 84]⟩, .string ⟨#[84, 69, 88, 84]⟩, .string ⟨#[66, 79, 79, 76]⟩] 9))
  replace HB := Lib.hid (below_step HB.out ((Below.refl _ _).alloc (Nat.le_refl _) (.cells #[.string ⟨#[78, 85, 76, 76]⟩, .string ⟨#[73, 78, 84]⟩, .string ⟨#[84, 69, 88, 84]⟩, .string ⟨#[66, 79, 79, 76]⟩] 9)))
  refine (M0.out _).mono ?_
  rintro e w5 ⟨rfl, hb5⟩
  replace Pa := Lib.hid (Pa.out.on hb5)
  replace Px := Lib.hid (Px.out.on hb5)
  replace Py := Lib.hid (Py.out.on hb5)
  replace HB := Lib.hid (below_step HB.out hb5)
  clear hb5
  obtain ⟨ca0, ca1, ca2, ca3⟩ := Pa.out
  obtain ⟨cx0, cx1, cx2, cx3⟩ := Px.out
  obtain ⟨cy0, cy1, cy2, cy3⟩ := Py.out
  go_wp2_with fail
  refine (M1.out _).mono ?_
  rintro e w6 ⟨rfl, hb6⟩
  clear ca0 ca1 ca2 ca3 cx0 cx1 cx2 cx3 cy0 cy1 cy2 cy3
  replace Pa := Lib.hid (Pa.out.on hb6)
  replace Px := Lib.hid (Px.out.on hb6)
  replace Py := Lib.hid (Py.out.on hb6)
  replace HB := Lib.hid (below_step HB.out hb6)
  clear hb6
  obtain ⟨ca0, ca1, ca2, ca3⟩ := Pa.out
  obtain ⟨cx0, cx1, cx2, cx3⟩ := Px.out
  obtain ⟨cy0, cy1, cy2, cy3⟩ := Py.out
  go_wp2_with fail
  refine (M2.out _).mono ?_
  rintro e w7 ⟨rfl, hb7⟩
  clear ca0 ca1 ca2 ca3 cx0 cx1 cx2 cx3 cy0 cy1 cy2 cy3
  replace Pa := Lib.hid (Pa.out.on hb7)
  replace Px := Lib.hid (Px.out.on hb7)
  replace Py := Lib.hid (Py.out.on hb7)
  replace HB := Lib.hid (below_step HB.out hb7)
  clear hb7
  obtain ⟨ca0, ca1, ca2, ca3⟩ := Pa.out
  obtain ⟨cx0, cx1, cx2, cx3⟩ := Px.out
  obtain ⟨cy0, cy1, cy2, cy3⟩ := Py.out
  go_wp2_with fail
  refine (M3.out _).mono ?_
  rintro e w8 ⟨rfl, hb8⟩
  clear ca0 ca1 ca2 ca3 cx0 cx1 cx2 cx3 cy0 cy1 cy2 cy3
  replace Pa := Lib.hid (Pa.out.on hb8)
  replace Px := Lib.hid (Px.out.on hb8)
  replace Py := Lib.hid (Py.out.on hb8)
  replace HB := Lib.hid (below_step HB.out hb8)
  clear hb8
  obtain ⟨ca0, ca1, ca2, ca3⟩ := Pa.out
  obtain ⟨cx0, cx1, cx2, cx3⟩ := Px.out
  obtain ⟨cy0, cy1, cy2, cy3⟩ := Py.out
  go_wp2_with fail
  refine (M4.out _).mono ?_
  rintro e w9 ⟨rfl, hb9⟩
  clear ca0 ca1 ca2 ca3 cx0 cx1 cx2 cx3 cy0 cy1 cy2 cy3
  replace Pa := Lib.hid (Pa.out.on hb9)
  replace Px := Lib.hid (Px.out.on hb9)
  replace Py := Lib.hid (Py.out.on hb9)
  replace HB := Lib.hid (below_step HB.out hb9)
  clear hb9
  obtain ⟨ca0, ca1, ca2, ca3⟩ := Pa.out
  obtain ⟨cx0, cx1, cx2, cx3⟩ := Px.out
  obtain ⟨cy0, cy1, cy2, cy3⟩ := Py.out
  go_wp2_with fail
  refine (M5.out _).mono ?_
  rintro e w10 ⟨rfl, hb10⟩
  clear ca0 ca1 ca2 ca3 cx0 cx1 cx2 cx3 cy0 cy1 cy2 cy3
  replace Pa := Lib.hid (Pa.out.on hb10)
  replace Px := Lib.hid (Px.out.on hb10)
  replace Py := Lib.hid (Py.out.on hb10)
  replace HB := Lib.hid (below_step HB.out hb10)
  clear hb10
  obtain ⟨ca0, ca1, ca2, ca3⟩ := Pa.out
  obtain ⟨cx0, cx1, cx2, cx3⟩ := Px.out
  obtain ⟨cy0, cy1, cy2, cy3⟩ := Py.out
  go_wp2_with fail
  refine (M6.out _).mono ?_
  rintro e w11 ⟨rfl, hb11⟩
  clear ca0 ca1 ca2 ca3 cx0 cx1 cx2 cx3 cy0 cy1 cy2 cy3
  replace Pa := Lib.hid (Pa.out.on hb11)
  replace Px := Lib.hid (Px.out.on hb11)
  replace Py := Lib.hid (Py.out.on hb11)
  replace HB := Lib.hid (below_step HB.out hb11)
  clear hb11
  obtain ⟨ca0, ca1, ca2, ca3⟩ := Pa.out
  obtain ⟨cx0, cx1, cx2, cx3⟩ := Px.out
  obtain ⟨cy0, cy1, cy2, cy3⟩ := Py.out
  go_wp2_with fail
  have HBq : Hid (Below w.heap.size w (w11)) := HB.out
  clear ca0 ca1 ca2 ca3 cx0 cx1 cx2 cx3 cy0 cy1 cy2 cy3
  obtain ⟨ca0, ca1, ca2, ca3⟩ := Pa.out
  obtain ⟨cx0, cx1, cx2, cx3⟩ := Px.out
  obtain ⟨cy0, cy1, cy2, cy3⟩ := Py.out
  replace ca0 := cell_regrown ca0
  replace ca1 := cell_regrown ca1
  replace ca2 := cell_regrown ca2
  replace ca3 := cell_regrown ca3
  replace cx0 := cell_regrown cx0
  replace cx1 := cell_regrown cx1
  replace cx2 := cell_regrown cx2
  replace cx3 := cell_regrown cx3
  replace cy0 := cell_regrown cy0
  replace cy1 := cell_regrown cy1
  replace cy2 := cell_regrown cy2
  replace cy3 := cell_regrown cy3
  have HEQ : Hid (∀ d os, Env (grow (redrawn (w11) d) os)) := fun d os => (HE.out.on HBq.out).on (below_regrown _ d os)
  have HTQ : Hid (∀ d os, ErrType (grow (redrawn (w11) d) os)) := fun d os => (HT.out.on HBq.out).on (below_regrown _ d os)
  refine wp_region_quiet_below (by kernel_rfl) (by kernel_rfl) ?_
  repeat (go_big_quiet_step (first | (go_at_call_of 16 (#[.agg #[.int .i64 k, .int .i64 n, .string t, .bool b]] : Array Value); exact Calls.regrown_of (H5.out _)) | (go_at_call_of 15 (#[E] : Array Value); exact Calls.regrown_of (HN.out _ (HTQ.out _ _))) | (go_at_call_of 17 (#[.agg #[.int .i64 k, .int .i64 n, .string t, .bool b]] : Array Value); exact Calls.regrown_of (H6.out _)) | (go_at_call_of 15 (#[G] : Array Value); exact Calls.regrown_of (HN2.out _ (HTQ.out _ _))) | (go_at_call_of 18 (#[.int .i64 3] : Array Value); exact Calls.regrown_of (HK.out _)) | (go_at_call_of 19 (#[] : Array Value); exact Calls.regrown_of (HS.out _ (HEQ.out _ _)))))
  refine wpQuiet_nil ?_
  intro _ hw'
  obtain ⟨⟨dq, osq⟩, hw''⟩ := hw'
  subst hw''
  have hbq := Lib.hid (below_step HBq.out (below_regrown (w11) dq osq))
  generalize grow (redrawn (w11) dq) osq = WL at *
  go_wp2_with fail
  go_ret
  exact ⟨rfl, hbq.out⟩
set_option maxHeartbeats 4000000 in
set_option maxRecDepth 100000 in
theorem makes_lo (k n : Int) (t : ByteArray) (b : Bool) (s : ByteArray) (q : Int) (w : World) (hq : q < 0) (hs : s.size ≤ 1048576) (hn : inI n) (hE : Env w) (hX : Errs2 w) (hT : ErrType w) :
    Calls Tryz.prog 3 #[.agg #[.int .i64 k, .int .i64 n, .string t, .bool b], .string s, .int .i64 q] w fun e w' => e = .returned (.bool true) ∧ Below w.heap.size w w' := by
  have H1 : Hid (∀ W, Env W → Calls Tryz.prog 4 #[.agg #[.int .i64 k, .int .i64 n, .string t, .bool b]] W fun e w' => e = .returned (.tuple #[.string ⟨(prS ⟨k, n, t, b⟩).toArray⟩, errV 47 (validN ⟨k, n, t, b⟩)]) ∧ Below W.heap.size W w') := fun W hW => print_ k n t b W hn hW
  have H2 : Hid (∀ W, Calls Tryz.prog 5 #[.agg #[.int .i64 k, .int .i64 n, .string t, .bool b]] W fun e w' => e = .returned (.tuple #[.string ⟨(prS ⟨k, n, t, b⟩).toArray⟩, .int .i64 (validN ⟨k, n, t, b⟩)]) ∧ Below W.heap.size W w') := fun W => rprint_ k n t b W hn
  have H3 : Hid (∀ W, Env W → Errs2 W → Calls Tryz.prog 6 #[.string s] W fun e w' => e = .returned (.tuple #[agV (paR s.data.toList), errV 47 (paE s.data.toList)]) ∧ Below W.heap.size W w') := fun W hW hY => parse_ s W (by omega) hW hY
  have H4 : Hid (∀ W, Calls Tryz.prog 7 #[.string s] W fun e w' => e = .returned (.tuple #[agV (paR s.data.toList), .int .i64 (paE s.data.toList)]) ∧ Below W.heap.size W w') := fun W => rparse_ s W hs
  have H5 : Hid (∀ W, Calls Tryz.prog 16 #[.agg #[.int .i64 k, .int .i64 n, .string t, .bool b]] W fun e w' => e = .returned (errV 47 (validN ⟨k, n, t, b⟩)) ∧ Below W.heap.size W w') := fun W => valid_ k n t b W
  have H6 : Hid (∀ W, Calls Tryz.prog 17 #[.agg #[.int .i64 k, .int .i64 n, .string t, .bool b]] W fun e w' => e = .returned (.int .i64 (validN ⟨k, n, t, b⟩)) ∧ Below W.heap.size W w') := fun W => rvalid_ k n t b W
  have HN : Hid (∀ W, ErrType W → Calls Tryz.prog 15 #[errV 47 (validN ⟨k, n, t, b⟩)] W fun e w' => e = .returned (.int .i64 (validN ⟨k, n, t, b⟩)) ∧ Below W.heap.size W w') := fun W hW => num_ _ W hW
  have HN2 : Hid (∀ W, ErrType W → Calls Tryz.prog 15 #[errV 47 (paE s.data.toList)] W fun e w' => e = .returned (.int .i64 (paE s.data.toList)) ∧ Below W.heap.size W w') := fun W hW => num_ _ W hW
  have HS : Hid (∀ W, Env W → Calls Tryz.prog 19 #[] W fun e w' => e = .returned (.bool true) ∧ Below W.heap.size W w') := fun W hW => sure_ W hW
  have M0 : Hid (∀ W, Calls Tryz.prog 8 #[] W fun e w' => e = .returned (.agg #[.int .i64 0, .int .i64 0, .string ⟨#[]⟩, .bool false]) ∧ Below W.heap.size W w') := fun W => null_ W
  have M1 : Hid (∀ W, Calls Tryz.prog 9 #[.int .i64 q] W fun e w' => e = .returned (.agg #[.int .i64 1, .int .i64 q, .string ⟨#[]⟩, .bool false]) ∧ Below W.heap.size W w') := fun W => int_ _ W
  have M2 : Hid (∀ W, Calls Tryz.prog 10 #[.int .i64 q] W fun e w' => e = .returned (.agg #[.int .i64 1, .int .i64 q, .string ⟨#[]⟩, .bool false]) ∧ Below W.heap.size W w') := fun W => rint_ _ W
  have M3 : Hid (∀ W, Calls Tryz.prog 11 #[.string s] W fun e w' => e = .returned (.agg #[.int .i64 2, .int .i64 0, .string s, .bool false]) ∧ Below W.heap.size W w') := fun W => text_ _ W
  have M4 : Hid (∀ W, Calls Tryz.prog 12 #[.string s] W fun e w' => e = .returned (.agg #[.int .i64 2, .int .i64 0, .string s, .bool false]) ∧ Below W.heap.size W w') := fun W => rtext_ _ W
  have M5 : Hid (∀ W, Calls Tryz.prog 13 #[.bool (decide (0 < q))] W fun e w' => e = .returned (.agg #[.int .i64 3, .int .i64 0, .string ⟨#[]⟩, .bool (decide (0 < q))]) ∧ Below W.heap.size W w') := fun W => bool_ _ W
  have M6 : Hid (∀ W, Calls Tryz.prog 14 #[.bool (decide (0 < q))] W fun e w' => e = .returned (.agg #[.int .i64 3, .int .i64 0, .string ⟨#[]⟩, .bool (decide (0 < q))]) ∧ Below W.heap.size W w') := fun W => rbool_ _ W
  have HK : Hid (∀ W, Calls Tryz.prog 18 #[.int .i64 q] W fun e w' => e = .returned (.string ⟨#[]⟩) ∧ Below W.heap.size W w') := fun W => by have := kind_ q W; rw [show kindS q = ⟨#[]⟩ by unfold kindS; rw [if_neg (by omega), if_neg (by omega), if_neg (by omega), if_neg (by omega)]] at this; exact this
  have HE := Lib.hid hE
  have HT := Lib.hid hT
  have HX := Lib.hid hX
  clear hE hT hX hn hs
  generalize paR s.data.toList = X at *
  generalize errV 47 (validN ⟨k, n, t, b⟩) = E at *
  generalize validN ⟨k, n, t, b⟩ = f at *
  generalize errV 47 (paE s.data.toList) = G at *
  generalize paE s.data.toList = h at *
  generalize (⟨(prS ⟨k, n, t, b⟩).toArray⟩ : ByteArray) = T at *
  obtain ⟨xk, xn, xt, xb⟩ := X
  simp only [agV] at *
  have hEQ : ∀ W, (Op.equalIn 10000 23 (.agg #[.int .i64 xk, .int .i64 xn, .string xt, .bool xb]) (.agg #[.int .i64 xk, .int .i64 xn, .string xt, .bool xb])).run Tryz.prog W = .ok true W := fun W => by rw [eqIn_, sameV_refl]
  have q0 : ∀ W, (Op.equalIn 10000 23 (.agg #[.int .i64 0, .int .i64 0, .string ⟨#[]⟩, .bool false]) (.agg #[.int .i64 0, .int .i64 0, .string ⟨#[]⟩, .bool false])).run Tryz.prog W = .ok true W := fun W => by rw [eqIn_, sameV_refl]
  have q1 : ∀ W, (Op.equalIn 10000 23 (.agg #[.int .i64 1, .int .i64 q, .string ⟨#[]⟩, .bool false]) (.agg #[.int .i64 1, .int .i64 q, .string ⟨#[]⟩, .bool false])).run Tryz.prog W = .ok true W := fun W => by rw [eqIn_, sameV_refl]
  have q2 : ∀ W, (Op.equalIn 10000 23 (.agg #[.int .i64 2, .int .i64 0, .string s, .bool false]) (.agg #[.int .i64 2, .int .i64 0, .string s, .bool false])).run Tryz.prog W = .ok true W := fun W => by rw [eqIn_, sameV_refl]
  have q3 : ∀ W, (Op.equalIn 10000 23 (.agg #[.int .i64 3, .int .i64 0, .string ⟨#[]⟩, .bool (decide (0 < q))]) (.agg #[.int .i64 3, .int .i64 0, .string ⟨#[]⟩, .bool (decide (0 < q))])).run Tryz.prog W = .ok true W := fun W => by rw [eqIn_, sameV_refl]
  have hTT : (T.toList == T.toList) = true := by simp
  have hGD := guardV
  have Pa : Hid (In4 (w.alloc (.cells #[.int .i64 k, .int .i64 n, .string t, .bool b] 23)) (w.heap.size) 0 k n t b) := Lib.hid (by have := in4_new w k n t b 23; simpa using this)
  have HB : Hid (Below w.heap.size w (w.alloc (.cells #[.int .i64 k, .int .i64 n, .string t, .bool b] 23))) := ((Below.refl _ _).alloc (by simp) _)
  go_enter Tryz.func3, Tryz.ntmps3
  go_wp2_with fail
  refine (H1.out _ (HE.out.on HB.out)).mono ?_
  rintro e w1 ⟨rfl, hb1⟩
  replace Pa := Lib.hid (Pa.out.on hb1)
  replace HB := Lib.hid (below_step HB.out hb1)
  clear hb1
  obtain ⟨ca0, ca1, ca2, ca3⟩ := Pa.out
  go_wp2_with fail
  refine (H2.out _).mono ?_
  rintro e w2 ⟨rfl, hb2⟩
  clear ca0 ca1 ca2 ca3
  replace Pa := Lib.hid (Pa.out.on hb2)
  replace HB := Lib.hid (below_step HB.out hb2)
  clear hb2
  obtain ⟨ca0, ca1, ca2, ca3⟩ := Pa.out
  go_wp2_with fail
  refine (H3.out _ (HE.out.on HB.out) (HX.out.on HB.out)).mono ?_
  rintro e w3 ⟨rfl, hb3⟩
  clear ca0 ca1 ca2 ca3
  replace Pa := Lib.hid (Pa.out.on hb3)
  replace HB := Lib.hid (below_step HB.out hb3)
  clear hb3
  replace Pa := Lib.hid (Pa.out.alloc (.cells #[.int .i64 xk, .int .i64 xn, .string xt, .bool xb] 23))
  have Px := Lib.hid (in4_new w3 xk xn xt xb 23)
  replace HB : Hid (Below w.heap.size w (w3.alloc (.cells #[.int .i64 xk, .int .i64 xn, .string xt, .bool xb] 23))) := below_step HB.out ((Below.refl _ _).alloc (Nat.le_refl _) _)
  obtain ⟨ca0, ca1, ca2, ca3⟩ := Pa.out
  obtain ⟨cx0, cx1, cx2, cx3⟩ := Px.out
  go_wp2_with fail
  refine (H4.out _).mono ?_
  rintro e w4 ⟨rfl, hb4⟩
  clear ca0 ca1 ca2 ca3 cx0 cx1 cx2 cx3
  replace Pa := Lib.hid (Pa.out.on hb4)
  replace Px := Lib.hid (Px.out.on hb4)
  replace HB := Lib.hid (below_step HB.out hb4)
  clear hb4
  replace Pa := Lib.hid (Pa.out.alloc (.cells #[.int .i64 xk, .int .i64 xn, .string xt, .bool xb] 23))
  replace Px := Lib.hid (Px.out.alloc (.cells #[.int .i64 xk, .int .i64 xn, .string xt, .bool xb] 23))
  have Py := Lib.hid (in4_new w4 xk xn xt xb 23)
  replace HB : Hid (Below w.heap.size w (w4.alloc (.cells #[.int .i64 xk, .int .i64 xn, .string xt, .bool xb] 23))) := below_step HB.out ((Below.refl _ _).alloc (Nat.le_refl _) _)
  obtain ⟨ca0, ca1, ca2, ca3⟩ := Pa.out
  obtain ⟨cx0, cx1, cx2, cx3⟩ := Px.out
  obtain ⟨cy0, cy1, cy2, cy3⟩ := Py.out
  go_wp2_with fail
  refine (M0.out _).mono ?_
  rintro e w5 ⟨rfl, hb5⟩
  clear ca0 ca1 ca2 ca3 cx0 cx1 cx2 cx3 cy0 cy1 cy2 cy3
  replace Pa := Lib.hid (Pa.out.on hb5)
  replace Px := Lib.hid (Px.out.on hb5)
  replace Py := Lib.hid (Py.out.on hb5)
  replace HB := Lib.hid (below_step HB.out hb5)
  clear hb5
  obtain ⟨ca0, ca1, ca2, ca3⟩ := Pa.out
  obtain ⟨cx0, cx1, cx2, cx3⟩ := Px.out
  obtain ⟨cy0, cy1, cy2, cy3⟩ := Py.out
  go_wp2_with fail
  refine (M1.out _).mono ?_
  rintro e w6 ⟨rfl, hb6⟩
  clear ca0 ca1 ca2 ca3 cx0 cx1 cx2 cx3 cy0 cy1 cy2 cy3
  replace Pa := Lib.hid (Pa.out.on hb6)
  replace Px := Lib.hid (Px.out.on hb6)
  replace Py := Lib.hid (Py.out.on hb6)
  replace HB := Lib.hid (below_step HB.out hb6)
  clear hb6
  obtain ⟨ca0, ca1, ca2, ca3⟩ := Pa.out
  obtain ⟨cx0, cx1, cx2, cx3⟩ := Px.out
  obtain ⟨cy0, cy1, cy2, cy3⟩ := Py.out
  go_wp2_with fail
  refine (M2.out _).mono ?_
  rintro e w7 ⟨rfl, hb7⟩
  clear ca0 ca1 ca2 ca3 cx0 cx1 cx2 cx3 cy0 cy1 cy2 cy3
  replace Pa := Lib.hid (Pa.out.on hb7)
  replace Px := Lib.hid (Px.out.on hb7)
  replace Py := Lib.hid (Py.out.on hb7)
  replace HB := Lib.hid (below_step HB.out hb7)
  clear hb7
  obtain ⟨ca0, ca1, ca2, ca3⟩ := Pa.out
  obtain ⟨cx0, cx1, cx2, cx3⟩ := Px.out
  obtain ⟨cy0, cy1, cy2, cy3⟩ := Py.out
  go_wp2_with fail
  refine (M3.out _).mono ?_
  rintro e w8 ⟨rfl, hb8⟩
  clear ca0 ca1 ca2 ca3 cx0 cx1 cx2 cx3 cy0 cy1 cy2 cy3
  replace Pa := Lib.hid (Pa.out.on hb8)
  replace Px := Lib.hid (Px.out.on hb8)
  replace Py := Lib.hid (Py.out.on hb8)
  replace HB := Lib.hid (below_step HB.out hb8)
  clear hb8
  obtain ⟨ca0, ca1, ca2, ca3⟩ := Pa.out
  obtain ⟨cx0, cx1, cx2, cx3⟩ := Px.out
  obtain ⟨cy0, cy1, cy2, cy3⟩ := Py.out
  go_wp2_with fail
  refine (M4.out _).mono ?_
  rintro e w9 ⟨rfl, hb9⟩
  clear ca0 ca1 ca2 ca3 cx0 cx1 cx2 cx3 cy0 cy1 cy2 cy3
  replace Pa := Lib.hid (Pa.out.on hb9)
  replace Px := Lib.hid (Px.out.on hb9)
  replace Py := Lib.hid (Py.out.on hb9)
  replace HB := Lib.hid (below_step HB.out hb9)
  clear hb9
  obtain ⟨ca0, ca1, ca2, ca3⟩ := Pa.out
  obtain ⟨cx0, cx1, cx2, cx3⟩ := Px.out
  obtain ⟨cy0, cy1, cy2, cy3⟩ := Py.out
  go_wp2_with fail
  refine (M5.out _).mono ?_
  rintro e w10 ⟨rfl, hb10⟩
  clear ca0 ca1 ca2 ca3 cx0 cx1 cx2 cx3 cy0 cy1 cy2 cy3
  replace Pa := Lib.hid (Pa.out.on hb10)
  replace Px := Lib.hid (Px.out.on hb10)
  replace Py := Lib.hid (Py.out.on hb10)
  replace HB := Lib.hid (below_step HB.out hb10)
  clear hb10
  obtain ⟨ca0, ca1, ca2, ca3⟩ := Pa.out
  obtain ⟨cx0, cx1, cx2, cx3⟩ := Px.out
  obtain ⟨cy0, cy1, cy2, cy3⟩ := Py.out
  go_wp2_with fail
  refine (M6.out _).mono ?_
  rintro e w11 ⟨rfl, hb11⟩
  clear ca0 ca1 ca2 ca3 cx0 cx1 cx2 cx3 cy0 cy1 cy2 cy3
  replace Pa := Lib.hid (Pa.out.on hb11)
  replace Px := Lib.hid (Px.out.on hb11)
  replace Py := Lib.hid (Py.out.on hb11)
  replace HB := Lib.hid (below_step HB.out hb11)
  clear hb11
  obtain ⟨ca0, ca1, ca2, ca3⟩ := Pa.out
  obtain ⟨cx0, cx1, cx2, cx3⟩ := Px.out
  obtain ⟨cy0, cy1, cy2, cy3⟩ := Py.out
  go_wp2_with fail
  have HBq : Hid (Below w.heap.size w (w11)) := HB.out
  clear ca0 ca1 ca2 ca3 cx0 cx1 cx2 cx3 cy0 cy1 cy2 cy3
  obtain ⟨ca0, ca1, ca2, ca3⟩ := Pa.out
  obtain ⟨cx0, cx1, cx2, cx3⟩ := Px.out
  obtain ⟨cy0, cy1, cy2, cy3⟩ := Py.out
  replace ca0 := cell_regrown ca0
  replace ca1 := cell_regrown ca1
  replace ca2 := cell_regrown ca2
  replace ca3 := cell_regrown ca3
  replace cx0 := cell_regrown cx0
  replace cx1 := cell_regrown cx1
  replace cx2 := cell_regrown cx2
  replace cx3 := cell_regrown cx3
  replace cy0 := cell_regrown cy0
  replace cy1 := cell_regrown cy1
  replace cy2 := cell_regrown cy2
  replace cy3 := cell_regrown cy3
  have HEQ : Hid (∀ d os, Env (grow (redrawn (w11) d) os)) := fun d os => (HE.out.on HBq.out).on (below_regrown _ d os)
  have HTQ : Hid (∀ d os, ErrType (grow (redrawn (w11) d) os)) := fun d os => (HT.out.on HBq.out).on (below_regrown _ d os)
  refine wp_region_quiet_below (by kernel_rfl) (by kernel_rfl) ?_
  repeat (go_big_quiet_step (first | (go_at_call_of 16 (#[.agg #[.int .i64 k, .int .i64 n, .string t, .bool b]] : Array Value); exact Calls.regrown_of (H5.out _)) | (go_at_call_of 15 (#[E] : Array Value); exact Calls.regrown_of (HN.out _ (HTQ.out _ _))) | (go_at_call_of 17 (#[.agg #[.int .i64 k, .int .i64 n, .string t, .bool b]] : Array Value); exact Calls.regrown_of (H6.out _)) | (go_at_call_of 15 (#[G] : Array Value); exact Calls.regrown_of (HN2.out _ (HTQ.out _ _))) | (go_at_call_of 18 (#[.int .i64 q] : Array Value); exact Calls.regrown_of (HK.out _)) | (go_at_call_of 19 (#[] : Array Value); exact Calls.regrown_of (HS.out _ (HEQ.out _ _)))))
  refine wpQuiet_nil ?_
  intro _ hw'
  obtain ⟨⟨dq, osq⟩, hw''⟩ := hw'
  subst hw''
  have hbq := Lib.hid (below_step HBq.out (below_regrown (w11) dq osq))
  generalize grow (redrawn (w11) dq) osq = WL at *
  go_wp2_with fail
  go_ret
  exact ⟨rfl, hbq.out⟩
set_option maxHeartbeats 4000000 in
set_option maxRecDepth 100000 in
theorem makes_hi (k n : Int) (t : ByteArray) (b : Bool) (s : ByteArray) (q : Int) (w : World) (hq : 4 ≤ q) (hs : s.size ≤ 1048576) (hn : inI n) (hE : Env w) (hX : Errs2 w) (hT : ErrType w) :
    Calls Tryz.prog 3 #[.agg #[.int .i64 k, .int .i64 n, .string t, .bool b], .string s, .int .i64 q] w fun e w' => e = .returned (.bool true) ∧ Below w.heap.size w w' := by
  have H1 : Hid (∀ W, Env W → Calls Tryz.prog 4 #[.agg #[.int .i64 k, .int .i64 n, .string t, .bool b]] W fun e w' => e = .returned (.tuple #[.string ⟨(prS ⟨k, n, t, b⟩).toArray⟩, errV 47 (validN ⟨k, n, t, b⟩)]) ∧ Below W.heap.size W w') := fun W hW => print_ k n t b W hn hW
  have H2 : Hid (∀ W, Calls Tryz.prog 5 #[.agg #[.int .i64 k, .int .i64 n, .string t, .bool b]] W fun e w' => e = .returned (.tuple #[.string ⟨(prS ⟨k, n, t, b⟩).toArray⟩, .int .i64 (validN ⟨k, n, t, b⟩)]) ∧ Below W.heap.size W w') := fun W => rprint_ k n t b W hn
  have H3 : Hid (∀ W, Env W → Errs2 W → Calls Tryz.prog 6 #[.string s] W fun e w' => e = .returned (.tuple #[agV (paR s.data.toList), errV 47 (paE s.data.toList)]) ∧ Below W.heap.size W w') := fun W hW hY => parse_ s W (by omega) hW hY
  have H4 : Hid (∀ W, Calls Tryz.prog 7 #[.string s] W fun e w' => e = .returned (.tuple #[agV (paR s.data.toList), .int .i64 (paE s.data.toList)]) ∧ Below W.heap.size W w') := fun W => rparse_ s W hs
  have H5 : Hid (∀ W, Calls Tryz.prog 16 #[.agg #[.int .i64 k, .int .i64 n, .string t, .bool b]] W fun e w' => e = .returned (errV 47 (validN ⟨k, n, t, b⟩)) ∧ Below W.heap.size W w') := fun W => valid_ k n t b W
  have H6 : Hid (∀ W, Calls Tryz.prog 17 #[.agg #[.int .i64 k, .int .i64 n, .string t, .bool b]] W fun e w' => e = .returned (.int .i64 (validN ⟨k, n, t, b⟩)) ∧ Below W.heap.size W w') := fun W => rvalid_ k n t b W
  have HN : Hid (∀ W, ErrType W → Calls Tryz.prog 15 #[errV 47 (validN ⟨k, n, t, b⟩)] W fun e w' => e = .returned (.int .i64 (validN ⟨k, n, t, b⟩)) ∧ Below W.heap.size W w') := fun W hW => num_ _ W hW
  have HN2 : Hid (∀ W, ErrType W → Calls Tryz.prog 15 #[errV 47 (paE s.data.toList)] W fun e w' => e = .returned (.int .i64 (paE s.data.toList)) ∧ Below W.heap.size W w') := fun W hW => num_ _ W hW
  have HS : Hid (∀ W, Env W → Calls Tryz.prog 19 #[] W fun e w' => e = .returned (.bool true) ∧ Below W.heap.size W w') := fun W hW => sure_ W hW
  have M0 : Hid (∀ W, Calls Tryz.prog 8 #[] W fun e w' => e = .returned (.agg #[.int .i64 0, .int .i64 0, .string ⟨#[]⟩, .bool false]) ∧ Below W.heap.size W w') := fun W => null_ W
  have M1 : Hid (∀ W, Calls Tryz.prog 9 #[.int .i64 q] W fun e w' => e = .returned (.agg #[.int .i64 1, .int .i64 q, .string ⟨#[]⟩, .bool false]) ∧ Below W.heap.size W w') := fun W => int_ _ W
  have M2 : Hid (∀ W, Calls Tryz.prog 10 #[.int .i64 q] W fun e w' => e = .returned (.agg #[.int .i64 1, .int .i64 q, .string ⟨#[]⟩, .bool false]) ∧ Below W.heap.size W w') := fun W => rint_ _ W
  have M3 : Hid (∀ W, Calls Tryz.prog 11 #[.string s] W fun e w' => e = .returned (.agg #[.int .i64 2, .int .i64 0, .string s, .bool false]) ∧ Below W.heap.size W w') := fun W => text_ _ W
  have M4 : Hid (∀ W, Calls Tryz.prog 12 #[.string s] W fun e w' => e = .returned (.agg #[.int .i64 2, .int .i64 0, .string s, .bool false]) ∧ Below W.heap.size W w') := fun W => rtext_ _ W
  have M5 : Hid (∀ W, Calls Tryz.prog 13 #[.bool (decide (0 < q))] W fun e w' => e = .returned (.agg #[.int .i64 3, .int .i64 0, .string ⟨#[]⟩, .bool (decide (0 < q))]) ∧ Below W.heap.size W w') := fun W => bool_ _ W
  have M6 : Hid (∀ W, Calls Tryz.prog 14 #[.bool (decide (0 < q))] W fun e w' => e = .returned (.agg #[.int .i64 3, .int .i64 0, .string ⟨#[]⟩, .bool (decide (0 < q))]) ∧ Below W.heap.size W w') := fun W => rbool_ _ W
  have HK : Hid (∀ W, Calls Tryz.prog 18 #[.int .i64 q] W fun e w' => e = .returned (.string ⟨#[]⟩) ∧ Below W.heap.size W w') := fun W => by have := kind_ q W; rw [show kindS q = ⟨#[]⟩ by unfold kindS; rw [if_neg (by omega), if_neg (by omega), if_neg (by omega), if_neg (by omega)]] at this; exact this
  have HE := Lib.hid hE
  have HT := Lib.hid hT
  have HX := Lib.hid hX
  clear hE hT hX hn hs
  generalize paR s.data.toList = X at *
  generalize errV 47 (validN ⟨k, n, t, b⟩) = E at *
  generalize validN ⟨k, n, t, b⟩ = f at *
  generalize errV 47 (paE s.data.toList) = G at *
  generalize paE s.data.toList = h at *
  generalize (⟨(prS ⟨k, n, t, b⟩).toArray⟩ : ByteArray) = T at *
  obtain ⟨xk, xn, xt, xb⟩ := X
  simp only [agV] at *
  have hEQ : ∀ W, (Op.equalIn 10000 23 (.agg #[.int .i64 xk, .int .i64 xn, .string xt, .bool xb]) (.agg #[.int .i64 xk, .int .i64 xn, .string xt, .bool xb])).run Tryz.prog W = .ok true W := fun W => by rw [eqIn_, sameV_refl]
  have q0 : ∀ W, (Op.equalIn 10000 23 (.agg #[.int .i64 0, .int .i64 0, .string ⟨#[]⟩, .bool false]) (.agg #[.int .i64 0, .int .i64 0, .string ⟨#[]⟩, .bool false])).run Tryz.prog W = .ok true W := fun W => by rw [eqIn_, sameV_refl]
  have q1 : ∀ W, (Op.equalIn 10000 23 (.agg #[.int .i64 1, .int .i64 q, .string ⟨#[]⟩, .bool false]) (.agg #[.int .i64 1, .int .i64 q, .string ⟨#[]⟩, .bool false])).run Tryz.prog W = .ok true W := fun W => by rw [eqIn_, sameV_refl]
  have q2 : ∀ W, (Op.equalIn 10000 23 (.agg #[.int .i64 2, .int .i64 0, .string s, .bool false]) (.agg #[.int .i64 2, .int .i64 0, .string s, .bool false])).run Tryz.prog W = .ok true W := fun W => by rw [eqIn_, sameV_refl]
  have q3 : ∀ W, (Op.equalIn 10000 23 (.agg #[.int .i64 3, .int .i64 0, .string ⟨#[]⟩, .bool (decide (0 < q))]) (.agg #[.int .i64 3, .int .i64 0, .string ⟨#[]⟩, .bool (decide (0 < q))])).run Tryz.prog W = .ok true W := fun W => by rw [eqIn_, sameV_refl]
  have hTT : (T.toList == T.toList) = true := by simp
  have hGD := guardV
  have Pa : Hid (In4 (w.alloc (.cells #[.int .i64 k, .int .i64 n, .string t, .bool b] 23)) (w.heap.size) 0 k n t b) := Lib.hid (by have := in4_new w k n t b 23; simpa using this)
  have HB : Hid (Below w.heap.size w (w.alloc (.cells #[.int .i64 k, .int .i64 n, .string t, .bool b] 23))) := ((Below.refl _ _).alloc (by simp) _)
  go_enter Tryz.func3, Tryz.ntmps3
  go_wp2_with fail
  refine (H1.out _ (HE.out.on HB.out)).mono ?_
  rintro e w1 ⟨rfl, hb1⟩
  replace Pa := Lib.hid (Pa.out.on hb1)
  replace HB := Lib.hid (below_step HB.out hb1)
  clear hb1
  obtain ⟨ca0, ca1, ca2, ca3⟩ := Pa.out
  go_wp2_with fail
  refine (H2.out _).mono ?_
  rintro e w2 ⟨rfl, hb2⟩
  clear ca0 ca1 ca2 ca3
  replace Pa := Lib.hid (Pa.out.on hb2)
  replace HB := Lib.hid (below_step HB.out hb2)
  clear hb2
  obtain ⟨ca0, ca1, ca2, ca3⟩ := Pa.out
  go_wp2_with fail
  refine (H3.out _ (HE.out.on HB.out) (HX.out.on HB.out)).mono ?_
  rintro e w3 ⟨rfl, hb3⟩
  clear ca0 ca1 ca2 ca3
  replace Pa := Lib.hid (Pa.out.on hb3)
  replace HB := Lib.hid (below_step HB.out hb3)
  clear hb3
  replace Pa := Lib.hid (Pa.out.alloc (.cells #[.int .i64 xk, .int .i64 xn, .string xt, .bool xb] 23))
  have Px := Lib.hid (in4_new w3 xk xn xt xb 23)
  replace HB : Hid (Below w.heap.size w (w3.alloc (.cells #[.int .i64 xk, .int .i64 xn, .string xt, .bool xb] 23))) := below_step HB.out ((Below.refl _ _).alloc (Nat.le_refl _) _)
  obtain ⟨ca0, ca1, ca2, ca3⟩ := Pa.out
  obtain ⟨cx0, cx1, cx2, cx3⟩ := Px.out
  go_wp2_with fail
  refine (H4.out _).mono ?_
  rintro e w4 ⟨rfl, hb4⟩
  clear ca0 ca1 ca2 ca3 cx0 cx1 cx2 cx3
  replace Pa := Lib.hid (Pa.out.on hb4)
  replace Px := Lib.hid (Px.out.on hb4)
  replace HB := Lib.hid (below_step HB.out hb4)
  clear hb4
  replace Pa := Lib.hid (Pa.out.alloc (.cells #[.int .i64 xk, .int .i64 xn, .string xt, .bool xb] 23))
  replace Px := Lib.hid (Px.out.alloc (.cells #[.int .i64 xk, .int .i64 xn, .string xt, .bool xb] 23))
  have Py := Lib.hid (in4_new w4 xk xn xt xb 23)
  replace HB : Hid (Below w.heap.size w (w4.alloc (.cells #[.int .i64 xk, .int .i64 xn, .string xt, .bool xb] 23))) := below_step HB.out ((Below.refl _ _).alloc (Nat.le_refl _) _)
  obtain ⟨ca0, ca1, ca2, ca3⟩ := Pa.out
  obtain ⟨cx0, cx1, cx2, cx3⟩ := Px.out
  obtain ⟨cy0, cy1, cy2, cy3⟩ := Py.out
  go_wp2_with fail
  refine (M0.out _).mono ?_
  rintro e w5 ⟨rfl, hb5⟩
  clear ca0 ca1 ca2 ca3 cx0 cx1 cx2 cx3 cy0 cy1 cy2 cy3
  replace Pa := Lib.hid (Pa.out.on hb5)
  replace Px := Lib.hid (Px.out.on hb5)
  replace Py := Lib.hid (Py.out.on hb5)
  replace HB := Lib.hid (below_step HB.out hb5)
  clear hb5
  obtain ⟨ca0, ca1, ca2, ca3⟩ := Pa.out
  obtain ⟨cx0, cx1, cx2, cx3⟩ := Px.out
  obtain ⟨cy0, cy1, cy2, cy3⟩ := Py.out
  go_wp2_with fail
  refine (M1.out _).mono ?_
  rintro e w6 ⟨rfl, hb6⟩
  clear ca0 ca1 ca2 ca3 cx0 cx1 cx2 cx3 cy0 cy1 cy2 cy3
  replace Pa := Lib.hid (Pa.out.on hb6)
  replace Px := Lib.hid (Px.out.on hb6)
  replace Py := Lib.hid (Py.out.on hb6)
  replace HB := Lib.hid (below_step HB.out hb6)
  clear hb6
  obtain ⟨ca0, ca1, ca2, ca3⟩ := Pa.out
  obtain ⟨cx0, cx1, cx2, cx3⟩ := Px.out
  obtain ⟨cy0, cy1, cy2, cy3⟩ := Py.out
  go_wp2_with fail
  refine (M2.out _).mono ?_
  rintro e w7 ⟨rfl, hb7⟩
  clear ca0 ca1 ca2 ca3 cx0 cx1 cx2 cx3 cy0 cy1 cy2 cy3
  replace Pa := Lib.hid (Pa.out.on hb7)
  replace Px := Lib.hid (Px.out.on hb7)
  replace Py := Lib.hid (Py.out.on hb7)
  replace HB := Lib.hid (below_step HB.out hb7)
  clear hb7
  obtain ⟨ca0, ca1, ca2, ca3⟩ := Pa.out
  obtain ⟨cx0, cx1, cx2, cx3⟩ := Px.out
  obtain ⟨cy0, cy1, cy2, cy3⟩ := Py.out
  go_wp2_with fail
  refine (M3.out _).mono ?_
  rintro e w8 ⟨rfl, hb8⟩
  clear ca0 ca1 ca2 ca3 cx0 cx1 cx2 cx3 cy0 cy1 cy2 cy3
  replace Pa := Lib.hid (Pa.out.on hb8)
  replace Px := Lib.hid (Px.out.on hb8)
  replace Py := Lib.hid (Py.out.on hb8)
  replace HB := Lib.hid (below_step HB.out hb8)
  clear hb8
  obtain ⟨ca0, ca1, ca2, ca3⟩ := Pa.out
  obtain ⟨cx0, cx1, cx2, cx3⟩ := Px.out
  obtain ⟨cy0, cy1, cy2, cy3⟩ := Py.out
  go_wp2_with fail
  refine (M4.out _).mono ?_
  rintro e w9 ⟨rfl, hb9⟩
  clear ca0 ca1 ca2 ca3 cx0 cx1 cx2 cx3 cy0 cy1 cy2 cy3
  replace Pa := Lib.hid (Pa.out.on hb9)
  replace Px := Lib.hid (Px.out.on hb9)
  replace Py := Lib.hid (Py.out.on hb9)
  replace HB := Lib.hid (below_step HB.out hb9)
  clear hb9
  obtain ⟨ca0, ca1, ca2, ca3⟩ := Pa.out
  obtain ⟨cx0, cx1, cx2, cx3⟩ := Px.out
  obtain ⟨cy0, cy1, cy2, cy3⟩ := Py.out
  go_wp2_with fail
  refine (M5.out _).mono ?_
  rintro e w10 ⟨rfl, hb10⟩
  clear ca0 ca1 ca2 ca3 cx0 cx1 cx2 cx3 cy0 cy1 cy2 cy3
  replace Pa := Lib.hid (Pa.out.on hb10)
  replace Px := Lib.hid (Px.out.on hb10)
  replace Py := Lib.hid (Py.out.on hb10)
  replace HB := Lib.hid (below_step HB.out hb10)
  clear hb10
  obtain ⟨ca0, ca1, ca2, ca3⟩ := Pa.out
  obtain ⟨cx0, cx1, cx2, cx3⟩ := Px.out
  obtain ⟨cy0, cy1, cy2, cy3⟩ := Py.out
  go_wp2_with fail
  refine (M6.out _).mono ?_
  rintro e w11 ⟨rfl, hb11⟩
  clear ca0 ca1 ca2 ca3 cx0 cx1 cx2 cx3 cy0 cy1 cy2 cy3
  replace Pa := Lib.hid (Pa.out.on hb11)
  replace Px := Lib.hid (Px.out.on hb11)
  replace Py := Lib.hid (Py.out.on hb11)
  replace HB := Lib.hid (below_step HB.out hb11)
  clear hb11
  obtain ⟨ca0, ca1, ca2, ca3⟩ := Pa.out
  obtain ⟨cx0, cx1, cx2, cx3⟩ := Px.out
  obtain ⟨cy0, cy1, cy2, cy3⟩ := Py.out
  go_wp2_with fail
  have HBq : Hid (Below w.heap.size w (w11)) := HB.out
  clear ca0 ca1 ca2 ca3 cx0 cx1 cx2 cx3 cy0 cy1 cy2 cy3
  obtain ⟨ca0, ca1, ca2, ca3⟩ := Pa.out
  obtain ⟨cx0, cx1, cx2, cx3⟩ := Px.out
  obtain ⟨cy0, cy1, cy2, cy3⟩ := Py.out
  replace ca0 := cell_regrown ca0
  replace ca1 := cell_regrown ca1
  replace ca2 := cell_regrown ca2
  replace ca3 := cell_regrown ca3
  replace cx0 := cell_regrown cx0
  replace cx1 := cell_regrown cx1
  replace cx2 := cell_regrown cx2
  replace cx3 := cell_regrown cx3
  replace cy0 := cell_regrown cy0
  replace cy1 := cell_regrown cy1
  replace cy2 := cell_regrown cy2
  replace cy3 := cell_regrown cy3
  have HEQ : Hid (∀ d os, Env (grow (redrawn (w11) d) os)) := fun d os => (HE.out.on HBq.out).on (below_regrown _ d os)
  have HTQ : Hid (∀ d os, ErrType (grow (redrawn (w11) d) os)) := fun d os => (HT.out.on HBq.out).on (below_regrown _ d os)
  refine wp_region_quiet_below (by kernel_rfl) (by kernel_rfl) ?_
  repeat (go_big_quiet_step (first | (go_at_call_of 16 (#[.agg #[.int .i64 k, .int .i64 n, .string t, .bool b]] : Array Value); exact Calls.regrown_of (H5.out _)) | (go_at_call_of 15 (#[E] : Array Value); exact Calls.regrown_of (HN.out _ (HTQ.out _ _))) | (go_at_call_of 17 (#[.agg #[.int .i64 k, .int .i64 n, .string t, .bool b]] : Array Value); exact Calls.regrown_of (H6.out _)) | (go_at_call_of 15 (#[G] : Array Value); exact Calls.regrown_of (HN2.out _ (HTQ.out _ _))) | (go_at_call_of 18 (#[.int .i64 q] : Array Value); exact Calls.regrown_of (HK.out _)) | (go_at_call_of 19 (#[] : Array Value); exact Calls.regrown_of (HS.out _ (HEQ.out _ _)))))
  refine wpQuiet_nil ?_
  intro _ hw'
  obtain ⟨⟨dq, osq⟩, hw''⟩ := hw'
  subst hw''
  have hbq := Lib.hid (below_step HBq.out (below_regrown (w11) dq osq))
  generalize grow (redrawn (w11) dq) osq = WL at *
  go_wp2_with fail
  go_ret
  exact ⟨rfl, hbq.out⟩
theorem makes_ (k n : Int) (t : ByteArray) (b : Bool) (s : ByteArray) (q : Int) (w : World) (hs : s.size ≤ 1048576) (hn : inI n) (hE : Env w) (hX : Errs2 w) (hT : ErrType w) :
    Calls Tryz.prog 3 #[.agg #[.int .i64 k, .int .i64 n, .string t, .bool b], .string s, .int .i64 q] w fun e w' => e = .returned (.bool true) ∧ Below w.heap.size w w' := by
  rcases (by omega : q < 0 ∨ q = 0 ∨ q = 1 ∨ q = 2 ∨ q = 3 ∨ 4 ≤ q) with h | rfl | rfl | rfl | rfl | h
  · exact makes_lo k n t b s q w h hs hn hE hX hT
  · exact makes_0 k n t b s w hs hn hE hX hT
  · exact makes_1 k n t b s w hs hn hE hX hT
  · exact makes_2 k n t b s w hs hn hE hX hT
  · exact makes_3 k n t b s w hs hn hE hX hT
  · exact makes_hi k n t b s q w h hs hn hE hX hT
end Go.Proofs.YtfplncbechidnaaGreatDoor
