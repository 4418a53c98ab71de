/- The walk of the law ValueOrder. -/
import Derived.Test.YtfplncbechidnaaDoorSure
namespace Go.Proofs.YtfplncbechidnaaDoor
open Go.RowKit Go.Sort

set_option maxHeartbeats 4000000 in
theorem order_mm (k n : Int) (t : ByteArray) (b : Bool) (k' n' : Int) (t' : ByteArray) (b' : Bool) (k2 n2 : Int) (t2 : ByteArray) (b2 : Bool) (w : World) (hE : Env w) (hx : cmpV ⟨k, n, t, b⟩ ⟨k', n', t', b'⟩ = (-1)) (hy : cmpV ⟨k', n', t', b'⟩ ⟨k2, n2, t2, b2⟩ = (-1)) (hz : cmpV ⟨k, n, t, b⟩ ⟨k2, n2, t2, b2⟩ = (-1)) :
    Calls Tryd.prog 6 #[.agg #[.int .i64 k, .int .i64 n, .string t, .bool b], .agg #[.int .i64 k', .int .i64 n', .string t', .bool b'], .agg #[.int .i64 k2, .int .i64 n2, .string t2, .bool b2]] w fun e w' => e = .returned (.bool true) ∧ Below w.heap.size w w' := by
  have haa : cmpV ⟨k, n, t, b⟩ ⟨k, n, t, b⟩ = 0 := ordered_val.refl _
  have hba : cmpV ⟨k', n', t', b'⟩ ⟨k, n, t, b⟩ = 1 := by have := ordered_val.anti ⟨k, n, t, b⟩ ⟨k', n', t', b'⟩; omega
  have HAB : Hid (∀ W, Calls Tryd.prog 11 #[.agg #[.int .i64 k, .int .i64 n, .string t, .bool b], .agg #[.int .i64 k', .int .i64 n', .string t', .bool b']] W fun e w' => e = .returned (.int .i64 (-1)) ∧ Below W.heap.size W w') := fun W => by rw [← hx]; exact comp_ k n t b k' n' t' b' W
  have HBC : Hid (∀ W, Calls Tryd.prog 11 #[.agg #[.int .i64 k', .int .i64 n', .string t', .bool b'], .agg #[.int .i64 k2, .int .i64 n2, .string t2, .bool b2]] W fun e w' => e = .returned (.int .i64 (-1)) ∧ Below W.heap.size W w') := fun W => by rw [← hy]; exact comp_ k' n' t' b' k2 n2 t2 b2 W
  have HAC : Hid (∀ W, Calls Tryd.prog 11 #[.agg #[.int .i64 k, .int .i64 n, .string t, .bool b], .agg #[.int .i64 k2, .int .i64 n2, .string t2, .bool b2]] W fun e w' => e = .returned (.int .i64 (-1)) ∧ Below W.heap.size W w') := fun W => by rw [← hz]; exact comp_ k n t b k2 n2 t2 b2 W
  have HAA : Hid (∀ W, Calls Tryd.prog 11 #[.agg #[.int .i64 k, .int .i64 n, .string t, .bool b], .agg #[.int .i64 k, .int .i64 n, .string t, .bool b]] W fun e w' => e = .returned (.int .i64 0) ∧ Below W.heap.size W w') := fun W => by rw [← haa]; exact comp_ k n t b k n t b W
  have HBA : Hid (∀ W, Calls Tryd.prog 11 #[.agg #[.int .i64 k', .int .i64 n', .string t', .bool b'], .agg #[.int .i64 k, .int .i64 n, .string t, .bool b]] W fun e w' => e = .returned (.int .i64 1) ∧ Below W.heap.size W w') := fun W => by rw [← hba]; exact comp_ k' n' t' b' k n t b W
  have HS : Hid (∀ W, Env W → Calls Tryd.prog 14 #[] W fun e w' => e = .returned (.bool true) ∧ Below W.heap.size W w') := fun W hW => sure_ W hW
  have HE := Lib.hid hE
  clear hE hx hy hz haa hba
  have Pa : Hid (In4 (((w.alloc (.cells #[.int .i64 k, .int .i64 n, .string t, .bool b] 23)).alloc (.cells #[.int .i64 k', .int .i64 n', .string t', .bool b'] 23)).alloc (.cells #[.int .i64 k2, .int .i64 n2, .string t2, .bool b2] 23)) (w.heap.size) 0 k n t b) := Lib.hid (by have := ((in4_new w k n t b 23).alloc (.cells #[.int .i64 k', .int .i64 n', .string t', .bool b'] 23)).alloc (.cells #[.int .i64 k2, .int .i64 n2, .string t2, .bool b2] 23); simpa using this)
  have Pb : Hid (In4 (((w.alloc (.cells #[.int .i64 k, .int .i64 n, .string t, .bool b] 23)).alloc (.cells #[.int .i64 k', .int .i64 n', .string t', .bool b'] 23)).alloc (.cells #[.int .i64 k2, .int .i64 n2, .string t2, .bool b2] 23)) (w.heap.size + 1) 0 k' n' t' b') := Lib.hid (by have := (in4_new (w.alloc (.cells #[.int .i64 k, .int .i64 n, .string t, .bool b] 23)) k' n' t' b' 23).alloc (.cells #[.int .i64 k2, .int .i64 n2, .string t2, .bool b2] 23); simpa using this)
  have Pc : Hid (In4 (((w.alloc (.cells #[.int .i64 k, .int .i64 n, .string t, .bool b] 23)).alloc (.cells #[.int .i64 k', .int .i64 n', .string t', .bool b'] 23)).alloc (.cells #[.int .i64 k2, .int .i64 n2, .string t2, .bool b2] 23)) (w.heap.size + 1 + 1) 0 k2 n2 t2 b2) := Lib.hid (by have := in4_new ((w.alloc (.cells #[.int .i64 k, .int .i64 n, .string t, .bool b] 23)).alloc (.cells #[.int .i64 k', .int .i64 n', .string t', .bool b'] 23)) k2 n2 t2 b2 23; simpa using this)
  have HB : Hid (Below w.heap.size w (((w.alloc (.cells #[.int .i64 k, .int .i64 n, .string t, .bool b] 23)).alloc (.cells #[.int .i64 k', .int .i64 n', .string t', .bool b'] 23)).alloc (.cells #[.int .i64 k2, .int .i64 n2, .string t2, .bool b2] 23))) := ((((Below.refl _ _).alloc (by simp) _).alloc (by simp) _).alloc (by simp; omega) _)
  go_enter Tryd.func6, Tryd.ntmps6
  go_wp2_with fail
  have HBq : Hid (Below w.heap.size w ((((w.alloc (.cells #[.int .i64 k, .int .i64 n, .string t, .bool b] 23)).alloc (.cells #[.int .i64 k', .int .i64 n', .string t', .bool b'] 23)).alloc (.cells #[.int .i64 k2, .int .i64 n2, .string t2, .bool b2] 23)))) := HB.out
  obtain ⟨ca0, ca1, ca2, ca3⟩ := Pa.out
  obtain ⟨cb0, cb1, cb2, cb3⟩ := Pb.out
  obtain ⟨cc0, cc1, cc2, cc3⟩ := Pc.out
  replace ca0 := cell_regrown ca0
  replace ca1 := cell_regrown ca1
  replace ca2 := cell_regrown ca2
  replace ca3 := cell_regrown ca3
  replace cb0 := cell_regrown cb0
  replace cb1 := cell_regrown cb1
  replace cb2 := cell_regrown cb2
  replace cb3 := cell_regrown cb3
  replace cc0 := cell_regrown cc0
  replace cc1 := cell_regrown cc1
  replace cc2 := cell_regrown cc2
  replace cc3 := cell_regrown cc3
  refine wp_region_quiet_below (by kernel_rfl) (by kernel_rfl) ?_
  repeat (go_big_quiet_step (first | (go_at_call_of 11 (#[.agg #[.int .i64 k, .int .i64 n, .string t, .bool b], .agg #[.int .i64 k', .int .i64 n', .string t', .bool b']] : Array Value); exact Calls.regrown_of (HAB.out _)) | (go_at_call_of 11 (#[.agg #[.int .i64 k', .int .i64 n', .string t', .bool b'], .agg #[.int .i64 k2, .int .i64 n2, .string t2, .bool b2]] : Array Value); exact Calls.regrown_of (HBC.out _))))
  refine wpQuiet_nil ?_
  intro _ hw'
  obtain ⟨⟨dq, osq⟩, hw''⟩ := hw'
  subst hw''
  have hbq := Lib.hid (below_step HBq.out (below_regrown ((((w.alloc (.cells #[.int .i64 k, .int .i64 n, .string t, .bool b] 23)).alloc (.cells #[.int .i64 k', .int .i64 n', .string t', .bool b'] 23)).alloc (.cells #[.int .i64 k2, .int .i64 n2, .string t2, .bool b2] 23))) dq osq))
  replace Pa := Lib.hid (Pa.out.on (below_regrown ((((w.alloc (.cells #[.int .i64 k, .int .i64 n, .string t, .bool b] 23)).alloc (.cells #[.int .i64 k', .int .i64 n', .string t', .bool b'] 23)).alloc (.cells #[.int .i64 k2, .int .i64 n2, .string t2, .bool b2] 23))) dq osq))
  replace Pb := Lib.hid (Pb.out.on (below_regrown ((((w.alloc (.cells #[.int .i64 k, .int .i64 n, .string t, .bool b] 23)).alloc (.cells #[.int .i64 k', .int .i64 n', .string t', .bool b'] 23)).alloc (.cells #[.int .i64 k2, .int .i64 n2, .string t2, .bool b2] 23))) dq osq))
  replace Pc := Lib.hid (Pc.out.on (below_regrown ((((w.alloc (.cells #[.int .i64 k, .int .i64 n, .string t, .bool b] 23)).alloc (.cells #[.int .i64 k', .int .i64 n', .string t', .bool b'] 23)).alloc (.cells #[.int .i64 k2, .int .i64 n2, .string t2, .bool b2] 23))) dq osq))
  clear HBq
  replace HB := hbq
  clear hbq
  clear ca0 ca1 ca2 ca3 cb0 cb1 cb2 cb3 cc0 cc1 cc2 cc3
  generalize grow (redrawn ((((w.alloc (.cells #[.int .i64 k, .int .i64 n, .string t, .bool b] 23)).alloc (.cells #[.int .i64 k', .int .i64 n', .string t', .bool b'] 23)).alloc (.cells #[.int .i64 k2, .int .i64 n2, .string t2, .bool b2] 23))) dq) osq = Q1 at *
  obtain ⟨ca0, ca1, ca2, ca3⟩ := Pa.out
  obtain ⟨cb0, cb1, cb2, cb3⟩ := Pb.out
  obtain ⟨cc0, cc1, cc2, cc3⟩ := Pc.out
  go_wp2_with fail
  refine (HAA.out _).mono ?_
  rintro e w1 ⟨rfl, hb1⟩
  clear ca0 ca1 ca2 ca3 cb0 cb1 cb2 cb3 cc0 cc1 cc2 cc3
  replace Pa := Lib.hid (Pa.out.on hb1)
  replace Pb := Lib.hid (Pb.out.on hb1)
  replace Pc := Lib.hid (Pc.out.on hb1)
  replace HB := Lib.hid (below_step HB.out hb1)
  clear hb1
  obtain ⟨ca0, ca1, ca2, ca3⟩ := Pa.out
  obtain ⟨cb0, cb1, cb2, cb3⟩ := Pb.out
  obtain ⟨cc0, cc1, cc2, cc3⟩ := Pc.out
  go_wp2_with fail
  refine (HBA.out _).mono ?_
  rintro e w2 ⟨rfl, hb2⟩
  clear ca0 ca1 ca2 ca3 cb0 cb1 cb2 cb3 cc0 cc1 cc2 cc3
  replace Pa := Lib.hid (Pa.out.on hb2)
  replace Pb := Lib.hid (Pb.out.on hb2)
  replace Pc := Lib.hid (Pc.out.on hb2)
  replace HB := Lib.hid (below_step HB.out hb2)
  clear hb2
  obtain ⟨ca0, ca1, ca2, ca3⟩ := Pa.out
  obtain ⟨cb0, cb1, cb2, cb3⟩ := Pb.out
  obtain ⟨cc0, cc1, cc2, cc3⟩ := Pc.out
  go_wp2_with fail
  refine (HAC.out _).mono ?_
  rintro e w3 ⟨rfl, hb3⟩
  clear ca0 ca1 ca2 ca3 cb0 cb1 cb2 cb3 cc0 cc1 cc2 cc3
  replace Pa := Lib.hid (Pa.out.on hb3)
  replace Pb := Lib.hid (Pb.out.on hb3)
  replace Pc := Lib.hid (Pc.out.on hb3)
  replace HB := Lib.hid (below_step HB.out hb3)
  clear hb3
  obtain ⟨ca0, ca1, ca2, ca3⟩ := Pa.out
  obtain ⟨cb0, cb1, cb2, cb3⟩ := Pb.out
  obtain ⟨cc0, cc1, cc2, cc3⟩ := Pc.out
  go_wp2_with fail
  refine (HAC.out _).mono ?_
  rintro e w4 ⟨rfl, hb4⟩
  clear ca0 ca1 ca2 ca3 cb0 cb1 cb2 cb3 cc0 cc1 cc2 cc3
  replace Pa := Lib.hid (Pa.out.on hb4)
  replace Pb := Lib.hid (Pb.out.on hb4)
  replace Pc := Lib.hid (Pc.out.on hb4)
  replace HB := Lib.hid (below_step HB.out hb4)
  clear hb4
  obtain ⟨ca0, ca1, ca2, ca3⟩ := Pa.out
  obtain ⟨cb0, cb1, cb2, cb3⟩ := Pb.out
  obtain ⟨cc0, cc1, cc2, cc3⟩ := Pc.out
  go_wp2_with fail
  refine (HS.out _ (HE.out.on HB.out)).mono ?_
  rintro e w5 ⟨rfl, hb5⟩
  clear ca0 ca1 ca2 ca3 cb0 cb1 cb2 cb3 cc0 cc1 cc2 cc3
  replace Pa := Lib.hid (Pa.out.on hb5)
  replace Pb := Lib.hid (Pb.out.on hb5)
  replace Pc := Lib.hid (Pc.out.on hb5)
  replace HB := Lib.hid (below_step HB.out hb5)
  clear hb5
  obtain ⟨ca0, ca1, ca2, ca3⟩ := Pa.out
  obtain ⟨cb0, cb1, cb2, cb3⟩ := Pb.out
  obtain ⟨cc0, cc1, cc2, cc3⟩ := Pc.out
  go_wp2_with fail
  go_ret
  exact ⟨rfl, HB.out⟩
set_option maxHeartbeats 4000000 in
theorem order_mz (k n : Int) (t : ByteArray) (b : Bool) (k' n' : Int) (t' : ByteArray) (b' : Bool) (k2 n2 : Int) (t2 : ByteArray) (b2 : Bool) (w : World) (hE : Env w) (hx : cmpV ⟨k, n, t, b⟩ ⟨k', n', t', b'⟩ = (-1)) (hy : cmpV ⟨k', n', t', b'⟩ ⟨k2, n2, t2, b2⟩ = 0) (hz : cmpV ⟨k, n, t, b⟩ ⟨k2, n2, t2, b2⟩ = (-1)) :
    Calls Tryd.prog 6 #[.agg #[.int .i64 k, .int .i64 n, .string t, .bool b], .agg #[.int .i64 k', .int .i64 n', .string t', .bool b'], .agg #[.int .i64 k2, .int .i64 n2, .string t2, .bool b2]] w fun e w' => e = .returned (.bool true) ∧ Below w.heap.size w w' := by
  have haa : cmpV ⟨k, n, t, b⟩ ⟨k, n, t, b⟩ = 0 := ordered_val.refl _
  have hba : cmpV ⟨k', n', t', b'⟩ ⟨k, n, t, b⟩ = 1 := by have := ordered_val.anti ⟨k, n, t, b⟩ ⟨k', n', t', b'⟩; omega
  have HAB : Hid (∀ W, Calls Tryd.prog 11 #[.agg #[.int .i64 k, .int .i64 n, .string t, .bool b], .agg #[.int .i64 k', .int .i64 n', .string t', .bool b']] W fun e w' => e = .returned (.int .i64 (-1)) ∧ Below W.heap.size W w') := fun W => by rw [← hx]; exact comp_ k n t b k' n' t' b' W
  have HBC : Hid (∀ W, Calls Tryd.prog 11 #[.agg #[.int .i64 k', .int .i64 n', .string t', .bool b'], .agg #[.int .i64 k2, .int .i64 n2, .string t2, .bool b2]] W fun e w' => e = .returned (.int .i64 0) ∧ Below W.heap.size W w') := fun W => by rw [← hy]; exact comp_ k' n' t' b' k2 n2 t2 b2 W
  have HAC : Hid (∀ W, Calls Tryd.prog 11 #[.agg #[.int .i64 k, .int .i64 n, .string t, .bool b], .agg #[.int .i64 k2, .int .i64 n2, .string t2, .bool b2]] W fun e w' => e = .returned (.int .i64 (-1)) ∧ Below W.heap.size W w') := fun W => by rw [← hz]; exact comp_ k n t b k2 n2 t2 b2 W
  have HAA : Hid (∀ W, Calls Tryd.prog 11 #[.agg #[.int .i64 k, .int .i64 n, .string t, .bool b], .agg #[.int .i64 k, .int .i64 n, .string t, .bool b]] W fun e w' => e = .returned (.int .i64 0) ∧ Below W.heap.size W w') := fun W => by rw [← haa]; exact comp_ k n t b k n t b W
  have HBA : Hid (∀ W, Calls Tryd.prog 11 #[.agg #[.int .i64 k', .int .i64 n', .string t', .bool b'], .agg #[.int .i64 k, .int .i64 n, .string t, .bool b]] W fun e w' => e = .returned (.int .i64 1) ∧ Below W.heap.size W w') := fun W => by rw [← hba]; exact comp_ k' n' t' b' k n t b W
  have HS : Hid (∀ W, Env W → Calls Tryd.prog 14 #[] W fun e w' => e = .returned (.bool true) ∧ Below W.heap.size W w') := fun W hW => sure_ W hW
  have HE := Lib.hid hE
  clear hE hx hy hz haa hba
  have Pa : Hid (In4 (((w.alloc (.cells #[.int .i64 k, .int .i64 n, .string t, .bool b] 23)).alloc (.cells #[.int .i64 k', .int .i64 n', .string t', .bool b'] 23)).alloc (.cells #[.int .i64 k2, .int .i64 n2, .string t2, .bool b2] 23)) (w.heap.size) 0 k n t b) := Lib.hid (by have := ((in4_new w k n t b 23).alloc (.cells #[.int .i64 k', .int .i64 n', .string t', .bool b'] 23)).alloc (.cells #[.int .i64 k2, .int .i64 n2, .string t2, .bool b2] 23); simpa using this)
  have Pb : Hid (In4 (((w.alloc (.cells #[.int .i64 k, .int .i64 n, .string t, .bool b] 23)).alloc (.cells #[.int .i64 k', .int .i64 n', .string t', .bool b'] 23)).alloc (.cells #[.int .i64 k2, .int .i64 n2, .string t2, .bool b2] 23)) (w.heap.size + 1) 0 k' n' t' b') := Lib.hid (by have := (in4_new (w.alloc (.cells #[.int .i64 k, .int .i64 n, .string t, .bool b] 23)) k' n' t' b' 23).alloc (.cells #[.int .i64 k2, .int .i64 n2, .string t2, .bool b2] 23); simpa using this)
  have Pc : Hid (In4 (((w.alloc (.cells #[.int .i64 k, .int .i64 n, .string t, .bool b] 23)).alloc (.cells #[.int .i64 k', .int .i64 n', .string t', .bool b'] 23)).alloc (.cells #[.int .i64 k2, .int .i64 n2, .string t2, .bool b2] 23)) (w.heap.size + 1 + 1) 0 k2 n2 t2 b2) := Lib.hid (by have := in4_new ((w.alloc (.cells #[.int .i64 k, .int .i64 n, .string t, .bool b] 23)).alloc (.cells #[.int .i64 k', .int .i64 n', .string t', .bool b'] 23)) k2 n2 t2 b2 23; simpa using this)
  have HB : Hid (Below w.heap.size w (((w.alloc (.cells #[.int .i64 k, .int .i64 n, .string t, .bool b] 23)).alloc (.cells #[.int .i64 k', .int .i64 n', .string t', .bool b'] 23)).alloc (.cells #[.int .i64 k2, .int .i64 n2, .string t2, .bool b2] 23))) := ((((Below.refl _ _).alloc (by simp) _).alloc (by simp) _).alloc (by simp; omega) _)
  go_enter Tryd.func6, Tryd.ntmps6
  go_wp2_with fail
  have HBq : Hid (Below w.heap.size w ((((w.alloc (.cells #[.int .i64 k, .int .i64 n, .string t, .bool b] 23)).alloc (.cells #[.int .i64 k', .int .i64 n', .string t', .bool b'] 23)).alloc (.cells #[.int .i64 k2, .int .i64 n2, .string t2, .bool b2] 23)))) := HB.out
  obtain ⟨ca0, ca1, ca2, ca3⟩ := Pa.out
  obtain ⟨cb0, cb1, cb2, cb3⟩ := Pb.out
  obtain ⟨cc0, cc1, cc2, cc3⟩ := Pc.out
  replace ca0 := cell_regrown ca0
  replace ca1 := cell_regrown ca1
  replace ca2 := cell_regrown ca2
  replace ca3 := cell_regrown ca3
  replace cb0 := cell_regrown cb0
  replace cb1 := cell_regrown cb1
  replace cb2 := cell_regrown cb2
  replace cb3 := cell_regrown cb3
  replace cc0 := cell_regrown cc0
  replace cc1 := cell_regrown cc1
  replace cc2 := cell_regrown cc2
  replace cc3 := cell_regrown cc3
  refine wp_region_quiet_below (by kernel_rfl) (by kernel_rfl) ?_
  repeat (go_big_quiet_step (first | (go_at_call_of 11 (#[.agg #[.int .i64 k, .int .i64 n, .string t, .bool b], .agg #[.int .i64 k', .int .i64 n', .string t', .bool b']] : Array Value); exact Calls.regrown_of (HAB.out _)) | (go_at_call_of 11 (#[.agg #[.int .i64 k', .int .i64 n', .string t', .bool b'], .agg #[.int .i64 k2, .int .i64 n2, .string t2, .bool b2]] : Array Value); exact Calls.regrown_of (HBC.out _))))
  refine wpQuiet_nil ?_
  intro _ hw'
  obtain ⟨⟨dq, osq⟩, hw''⟩ := hw'
  subst hw''
  have hbq := Lib.hid (below_step HBq.out (below_regrown ((((w.alloc (.cells #[.int .i64 k, .int .i64 n, .string t, .bool b] 23)).alloc (.cells #[.int .i64 k', .int .i64 n', .string t', .bool b'] 23)).alloc (.cells #[.int .i64 k2, .int .i64 n2, .string t2, .bool b2] 23))) dq osq))
  replace Pa := Lib.hid (Pa.out.on (below_regrown ((((w.alloc (.cells #[.int .i64 k, .int .i64 n, .string t, .bool b] 23)).alloc (.cells #[.int .i64 k', .int .i64 n', .string t', .bool b'] 23)).alloc (.cells #[.int .i64 k2, .int .i64 n2, .string t2, .bool b2] 23))) dq osq))
  replace Pb := Lib.hid (Pb.out.on (below_regrown ((((w.alloc (.cells #[.int .i64 k, .int .i64 n, .string t, .bool b] 23)).alloc (.cells #[.int .i64 k', .int .i64 n', .string t', .bool b'] 23)).alloc (.cells #[.int .i64 k2, .int .i64 n2, .string t2, .bool b2] 23))) dq osq))
  replace Pc := Lib.hid (Pc.out.on (below_regrown ((((w.alloc (.cells #[.int .i64 k, .int .i64 n, .string t, .bool b] 23)).alloc (.cells #[.int .i64 k', .int .i64 n', .string t', .bool b'] 23)).alloc (.cells #[.int .i64 k2, .int .i64 n2, .string t2, .bool b2] 23))) dq osq))
  clear HBq
  replace HB := hbq
  clear hbq
  clear ca0 ca1 ca2 ca3 cb0 cb1 cb2 cb3 cc0 cc1 cc2 cc3
  generalize grow (redrawn ((((w.alloc (.cells #[.int .i64 k, .int .i64 n, .string t, .bool b] 23)).alloc (.cells #[.int .i64 k', .int .i64 n', .string t', .bool b'] 23)).alloc (.cells #[.int .i64 k2, .int .i64 n2, .string t2, .bool b2] 23))) dq) osq = Q1 at *
  obtain ⟨ca0, ca1, ca2, ca3⟩ := Pa.out
  obtain ⟨cb0, cb1, cb2, cb3⟩ := Pb.out
  obtain ⟨cc0, cc1, cc2, cc3⟩ := Pc.out
  go_wp2_with fail
  refine (HAA.out _).mono ?_
  rintro e w1 ⟨rfl, hb1⟩
  clear ca0 ca1 ca2 ca3 cb0 cb1 cb2 cb3 cc0 cc1 cc2 cc3
  replace Pa := Lib.hid (Pa.out.on hb1)
  replace Pb := Lib.hid (Pb.out.on hb1)
  replace Pc := Lib.hid (Pc.out.on hb1)
  replace HB := Lib.hid (below_step HB.out hb1)
  clear hb1
  obtain ⟨ca0, ca1, ca2, ca3⟩ := Pa.out
  obtain ⟨cb0, cb1, cb2, cb3⟩ := Pb.out
  obtain ⟨cc0, cc1, cc2, cc3⟩ := Pc.out
  go_wp2_with fail
  refine (HBA.out _).mono ?_
  rintro e w2 ⟨rfl, hb2⟩
  clear ca0 ca1 ca2 ca3 cb0 cb1 cb2 cb3 cc0 cc1 cc2 cc3
  replace Pa := Lib.hid (Pa.out.on hb2)
  replace Pb := Lib.hid (Pb.out.on hb2)
  replace Pc := Lib.hid (Pc.out.on hb2)
  replace HB := Lib.hid (below_step HB.out hb2)
  clear hb2
  obtain ⟨ca0, ca1, ca2, ca3⟩ := Pa.out
  obtain ⟨cb0, cb1, cb2, cb3⟩ := Pb.out
  obtain ⟨cc0, cc1, cc2, cc3⟩ := Pc.out
  go_wp2_with fail
  refine (HAC.out _).mono ?_
  rintro e w3 ⟨rfl, hb3⟩
  clear ca0 ca1 ca2 ca3 cb0 cb1 cb2 cb3 cc0 cc1 cc2 cc3
  replace Pa := Lib.hid (Pa.out.on hb3)
  replace Pb := Lib.hid (Pb.out.on hb3)
  replace Pc := Lib.hid (Pc.out.on hb3)
  replace HB := Lib.hid (below_step HB.out hb3)
  clear hb3
  obtain ⟨ca0, ca1, ca2, ca3⟩ := Pa.out
  obtain ⟨cb0, cb1, cb2, cb3⟩ := Pb.out
  obtain ⟨cc0, cc1, cc2, cc3⟩ := Pc.out
  go_wp2_with fail
  refine (HS.out _ (HE.out.on HB.out)).mono ?_
  rintro e w4 ⟨rfl, hb4⟩
  clear ca0 ca1 ca2 ca3 cb0 cb1 cb2 cb3 cc0 cc1 cc2 cc3
  replace Pa := Lib.hid (Pa.out.on hb4)
  replace Pb := Lib.hid (Pb.out.on hb4)
  replace Pc := Lib.hid (Pc.out.on hb4)
  replace HB := Lib.hid (below_step HB.out hb4)
  clear hb4
  obtain ⟨ca0, ca1, ca2, ca3⟩ := Pa.out
  obtain ⟨cb0, cb1, cb2, cb3⟩ := Pb.out
  obtain ⟨cc0, cc1, cc2, cc3⟩ := Pc.out
  go_wp2_with fail
  go_ret
  exact ⟨rfl, HB.out⟩
set_option maxHeartbeats 4000000 in
theorem order_mp (k n : Int) (t : ByteArray) (b : Bool) (k' n' : Int) (t' : ByteArray) (b' : Bool) (k2 n2 : Int) (t2 : ByteArray) (b2 : Bool) (w : World) (hE : Env w) (hx : cmpV ⟨k, n, t, b⟩ ⟨k', n', t', b'⟩ = (-1)) (hy : cmpV ⟨k', n', t', b'⟩ ⟨k2, n2, t2, b2⟩ = 1) :
    Calls Tryd.prog 6 #[.agg #[.int .i64 k, .int .i64 n, .string t, .bool b], .agg #[.int .i64 k', .int .i64 n', .string t', .bool b'], .agg #[.int .i64 k2, .int .i64 n2, .string t2, .bool b2]] w fun e w' => e = .returned (.bool true) ∧ Below w.heap.size w w' := by
  have haa : cmpV ⟨k, n, t, b⟩ ⟨k, n, t, b⟩ = 0 := ordered_val.refl _
  have hba : cmpV ⟨k', n', t', b'⟩ ⟨k, n, t, b⟩ = 1 := by have := ordered_val.anti ⟨k, n, t, b⟩ ⟨k', n', t', b'⟩; omega
  have HAB : Hid (∀ W, Calls Tryd.prog 11 #[.agg #[.int .i64 k, .int .i64 n, .string t, .bool b], .agg #[.int .i64 k', .int .i64 n', .string t', .bool b']] W fun e w' => e = .returned (.int .i64 (-1)) ∧ Below W.heap.size W w') := fun W => by rw [← hx]; exact comp_ k n t b k' n' t' b' W
  have HBC : Hid (∀ W, Calls Tryd.prog 11 #[.agg #[.int .i64 k', .int .i64 n', .string t', .bool b'], .agg #[.int .i64 k2, .int .i64 n2, .string t2, .bool b2]] W fun e w' => e = .returned (.int .i64 1) ∧ Below W.heap.size W w') := fun W => by rw [← hy]; exact comp_ k' n' t' b' k2 n2 t2 b2 W
  have HAA : Hid (∀ W, Calls Tryd.prog 11 #[.agg #[.int .i64 k, .int .i64 n, .string t, .bool b], .agg #[.int .i64 k, .int .i64 n, .string t, .bool b]] W fun e w' => e = .returned (.int .i64 0) ∧ Below W.heap.size W w') := fun W => by rw [← haa]; exact comp_ k n t b k n t b W
  have HBA : Hid (∀ W, Calls Tryd.prog 11 #[.agg #[.int .i64 k', .int .i64 n', .string t', .bool b'], .agg #[.int .i64 k, .int .i64 n, .string t, .bool b]] W fun e w' => e = .returned (.int .i64 1) ∧ Below W.heap.size W w') := fun W => by rw [← hba]; exact comp_ k' n' t' b' k n t b W
  have HS : Hid (∀ W, Env W → Calls Tryd.prog 14 #[] W fun e w' => e = .returned (.bool true) ∧ Below W.heap.size W w') := fun W hW => sure_ W hW
  have HE := Lib.hid hE
  clear hE hx hy haa hba
  have Pa : Hid (In4 (((w.alloc (.cells #[.int .i64 k, .int .i64 n, .string t, .bool b] 23)).alloc (.cells #[.int .i64 k', .int .i64 n', .string t', .bool b'] 23)).alloc (.cells #[.int .i64 k2, .int .i64 n2, .string t2, .bool b2] 23)) (w.heap.size) 0 k n t b) := Lib.hid (by have := ((in4_new w k n t b 23).alloc (.cells #[.int .i64 k', .int .i64 n', .string t', .bool b'] 23)).alloc (.cells #[.int .i64 k2, .int .i64 n2, .string t2, .bool b2] 23); simpa using this)
  have Pb : Hid (In4 (((w.alloc (.cells #[.int .i64 k, .int .i64 n, .string t, .bool b] 23)).alloc (.cells #[.int .i64 k', .int .i64 n', .string t', .bool b'] 23)).alloc (.cells #[.int .i64 k2, .int .i64 n2, .string t2, .bool b2] 23)) (w.heap.size + 1) 0 k' n' t' b') := Lib.hid (by have := (in4_new (w.alloc (.cells #[.int .i64 k, .int .i64 n, .string t, .bool b] 23)) k' n' t' b' 23).alloc (.cells #[.int .i64 k2, .int .i64 n2, .string t2, .bool b2] 23); simpa using this)
  have Pc : Hid (In4 (((w.alloc (.cells #[.int .i64 k, .int .i64 n, .string t, .bool b] 23)).alloc (.cells #[.int .i64 k', .int .i64 n', .string t', .bool b'] 23)).alloc (.cells #[.int .i64 k2, .int .i64 n2, .string t2, .bool b2] 23)) (w.heap.size + 1 + 1) 0 k2 n2 t2 b2) := Lib.hid (by have := in4_new ((w.alloc (.cells #[.int .i64 k, .int .i64 n, .string t, .bool b] 23)).alloc (.cells #[.int .i64 k', .int .i64 n', .string t', .bool b'] 23)) k2 n2 t2 b2 23; simpa using this)
  have HB : Hid (Below w.heap.size w (((w.alloc (.cells #[.int .i64 k, .int .i64 n, .string t, .bool b] 23)).alloc (.cells #[.int .i64 k', .int .i64 n', .string t', .bool b'] 23)).alloc (.cells #[.int .i64 k2, .int .i64 n2, .string t2, .bool b2] 23))) := ((((Below.refl _ _).alloc (by simp) _).alloc (by simp) _).alloc (by simp; omega) _)
  go_enter Tryd.func6, Tryd.ntmps6
  go_wp2_with fail
  have HBq : Hid (Below w.heap.size w ((((w.alloc (.cells #[.int .i64 k, .int .i64 n, .string t, .bool b] 23)).alloc (.cells #[.int .i64 k', .int .i64 n', .string t', .bool b'] 23)).alloc (.cells #[.int .i64 k2, .int .i64 n2, .string t2, .bool b2] 23)))) := HB.out
  obtain ⟨ca0, ca1, ca2, ca3⟩ := Pa.out
  obtain ⟨cb0, cb1, cb2, cb3⟩ := Pb.out
  obtain ⟨cc0, cc1, cc2, cc3⟩ := Pc.out
  replace ca0 := cell_regrown ca0
  replace ca1 := cell_regrown ca1
  replace ca2 := cell_regrown ca2
  replace ca3 := cell_regrown ca3
  replace cb0 := cell_regrown cb0
  replace cb1 := cell_regrown cb1
  replace cb2 := cell_regrown cb2
  replace cb3 := cell_regrown cb3
  replace cc0 := cell_regrown cc0
  replace cc1 := cell_regrown cc1
  replace cc2 := cell_regrown cc2
  replace cc3 := cell_regrown cc3
  refine wp_region_quiet_below (by kernel_rfl) (by kernel_rfl) ?_
  repeat (go_big_quiet_step (first | (go_at_call_of 11 (#[.agg #[.int .i64 k, .int .i64 n, .string t, .bool b], .agg #[.int .i64 k', .int .i64 n', .string t', .bool b']] : Array Value); exact Calls.regrown_of (HAB.out _)) | (go_at_call_of 11 (#[.agg #[.int .i64 k', .int .i64 n', .string t', .bool b'], .agg #[.int .i64 k2, .int .i64 n2, .string t2, .bool b2]] : Array Value); exact Calls.regrown_of (HBC.out _))))
  refine wpQuiet_nil ?_
  intro _ hw'
  obtain ⟨⟨dq, osq⟩, hw''⟩ := hw'
  subst hw''
  have hbq := Lib.hid (below_step HBq.out (below_regrown ((((w.alloc (.cells #[.int .i64 k, .int .i64 n, .string t, .bool b] 23)).alloc (.cells #[.int .i64 k', .int .i64 n', .string t', .bool b'] 23)).alloc (.cells #[.int .i64 k2, .int .i64 n2, .string t2, .bool b2] 23))) dq osq))
  replace Pa := Lib.hid (Pa.out.on (below_regrown ((((w.alloc (.cells #[.int .i64 k, .int .i64 n, .string t, .bool b] 23)).alloc (.cells #[.int .i64 k', .int .i64 n', .string t', .bool b'] 23)).alloc (.cells #[.int .i64 k2, .int .i64 n2, .string t2, .bool b2] 23))) dq osq))
  replace Pb := Lib.hid (Pb.out.on (below_regrown ((((w.alloc (.cells #[.int .i64 k, .int .i64 n, .string t, .bool b] 23)).alloc (.cells #[.int .i64 k', .int .i64 n', .string t', .bool b'] 23)).alloc (.cells #[.int .i64 k2, .int .i64 n2, .string t2, .bool b2] 23))) dq osq))
  replace Pc := Lib.hid (Pc.out.on (below_regrown ((((w.alloc (.cells #[.int .i64 k, .int .i64 n, .string t, .bool b] 23)).alloc (.cells #[.int .i64 k', .int .i64 n', .string t', .bool b'] 23)).alloc (.cells #[.int .i64 k2, .int .i64 n2, .string t2, .bool b2] 23))) dq osq))
  clear HBq
  replace HB := hbq
  clear hbq
  clear ca0 ca1 ca2 ca3 cb0 cb1 cb2 cb3 cc0 cc1 cc2 cc3
  generalize grow (redrawn ((((w.alloc (.cells #[.int .i64 k, .int .i64 n, .string t, .bool b] 23)).alloc (.cells #[.int .i64 k', .int .i64 n', .string t', .bool b'] 23)).alloc (.cells #[.int .i64 k2, .int .i64 n2, .string t2, .bool b2] 23))) dq) osq = Q1 at *
  obtain ⟨ca0, ca1, ca2, ca3⟩ := Pa.out
  obtain ⟨cb0, cb1, cb2, cb3⟩ := Pb.out
  obtain ⟨cc0, cc1, cc2, cc3⟩ := Pc.out
  go_wp2_with fail
  refine (HAA.out _).mono ?_
  rintro e w1 ⟨rfl, hb1⟩
  clear ca0 ca1 ca2 ca3 cb0 cb1 cb2 cb3 cc0 cc1 cc2 cc3
  replace Pa := Lib.hid (Pa.out.on hb1)
  replace Pb := Lib.hid (Pb.out.on hb1)
  replace Pc := Lib.hid (Pc.out.on hb1)
  replace HB := Lib.hid (below_step HB.out hb1)
  clear hb1
  obtain ⟨ca0, ca1, ca2, ca3⟩ := Pa.out
  obtain ⟨cb0, cb1, cb2, cb3⟩ := Pb.out
  obtain ⟨cc0, cc1, cc2, cc3⟩ := Pc.out
  go_wp2_with fail
  refine (HBA.out _).mono ?_
  rintro e w2 ⟨rfl, hb2⟩
  clear ca0 ca1 ca2 ca3 cb0 cb1 cb2 cb3 cc0 cc1 cc2 cc3
  replace Pa := Lib.hid (Pa.out.on hb2)
  replace Pb := Lib.hid (Pb.out.on hb2)
  replace Pc := Lib.hid (Pc.out.on hb2)
  replace HB := Lib.hid (below_step HB.out hb2)
  clear hb2
  obtain ⟨ca0, ca1, ca2, ca3⟩ := Pa.out
  obtain ⟨cb0, cb1, cb2, cb3⟩ := Pb.out
  obtain ⟨cc0, cc1, cc2, cc3⟩ := Pc.out
  go_wp2_with fail
  refine (HS.out _ (HE.out.on HB.out)).mono ?_
  rintro e w3 ⟨rfl, hb3⟩
  clear ca0 ca1 ca2 ca3 cb0 cb1 cb2 cb3 cc0 cc1 cc2 cc3
  replace Pa := Lib.hid (Pa.out.on hb3)
  replace Pb := Lib.hid (Pb.out.on hb3)
  replace Pc := Lib.hid (Pc.out.on hb3)
  replace HB := Lib.hid (below_step HB.out hb3)
  clear hb3
  obtain ⟨ca0, ca1, ca2, ca3⟩ := Pa.out
  obtain ⟨cb0, cb1, cb2, cb3⟩ := Pb.out
  obtain ⟨cc0, cc1, cc2, cc3⟩ := Pc.out
  go_wp2_with fail
  go_ret
  exact ⟨rfl, HB.out⟩
set_option maxHeartbeats 4000000 in
theorem order_p (k n : Int) (t : ByteArray) (b : Bool) (k' n' : Int) (t' : ByteArray) (b' : Bool) (k2 n2 : Int) (t2 : ByteArray) (b2 : Bool) (w : World) (y : Int) (hE : Env w) (hx : cmpV ⟨k, n, t, b⟩ ⟨k', n', t', b'⟩ = 1) (hy : cmpV ⟨k', n', t', b'⟩ ⟨k2, n2, t2, b2⟩ = y) :
    Calls Tryd.prog 6 #[.agg #[.int .i64 k, .int .i64 n, .string t, .bool b], .agg #[.int .i64 k', .int .i64 n', .string t', .bool b'], .agg #[.int .i64 k2, .int .i64 n2, .string t2, .bool b2]] w fun e w' => e = .returned (.bool true) ∧ Below w.heap.size w w' := by
  have haa : cmpV ⟨k, n, t, b⟩ ⟨k, n, t, b⟩ = 0 := ordered_val.refl _
  have hba : cmpV ⟨k', n', t', b'⟩ ⟨k, n, t, b⟩ = (-1) := by have := ordered_val.anti ⟨k, n, t, b⟩ ⟨k', n', t', b'⟩; omega
  have HAB : Hid (∀ W, Calls Tryd.prog 11 #[.agg #[.int .i64 k, .int .i64 n, .string t, .bool b], .agg #[.int .i64 k', .int .i64 n', .string t', .bool b']] W fun e w' => e = .returned (.int .i64 1) ∧ Below W.heap.size W w') := fun W => by rw [← hx]; exact comp_ k n t b k' n' t' b' W
  have HBC : Hid (∀ W, Calls Tryd.prog 11 #[.agg #[.int .i64 k', .int .i64 n', .string t', .bool b'], .agg #[.int .i64 k2, .int .i64 n2, .string t2, .bool b2]] W fun e w' => e = .returned (.int .i64 y) ∧ Below W.heap.size W w') := fun W => by rw [← hy]; exact comp_ k' n' t' b' k2 n2 t2 b2 W
  have HAA : Hid (∀ W, Calls Tryd.prog 11 #[.agg #[.int .i64 k, .int .i64 n, .string t, .bool b], .agg #[.int .i64 k, .int .i64 n, .string t, .bool b]] W fun e w' => e = .returned (.int .i64 0) ∧ Below W.heap.size W w') := fun W => by rw [← haa]; exact comp_ k n t b k n t b W
  have HBA : Hid (∀ W, Calls Tryd.prog 11 #[.agg #[.int .i64 k', .int .i64 n', .string t', .bool b'], .agg #[.int .i64 k, .int .i64 n, .string t, .bool b]] W fun e w' => e = .returned (.int .i64 (-1)) ∧ Below W.heap.size W w') := fun W => by rw [← hba]; exact comp_ k' n' t' b' k n t b W
  have HS : Hid (∀ W, Env W → Calls Tryd.prog 14 #[] W fun e w' => e = .returned (.bool true) ∧ Below W.heap.size W w') := fun W hW => sure_ W hW
  have HE := Lib.hid hE
  clear hE hx hy haa hba
  have Pa : Hid (In4 (((w.alloc (.cells #[.int .i64 k, .int .i64 n, .string t, .bool b] 23)).alloc (.cells #[.int .i64 k', .int .i64 n', .string t', .bool b'] 23)).alloc (.cells #[.int .i64 k2, .int .i64 n2, .string t2, .bool b2] 23)) (w.heap.size) 0 k n t b) := Lib.hid (by have := ((in4_new w k n t b 23).alloc (.cells #[.int .i64 k', .int .i64 n', .string t', .bool b'] 23)).alloc (.cells #[.int .i64 k2, .int .i64 n2, .string t2, .bool b2] 23); simpa using this)
  have Pb : Hid (In4 (((w.alloc (.cells #[.int .i64 k, .int .i64 n, .string t, .bool b] 23)).alloc (.cells #[.int .i64 k', .int .i64 n', .string t', .bool b'] 23)).alloc (.cells #[.int .i64 k2, .int .i64 n2, .string t2, .bool b2] 23)) (w.heap.size + 1) 0 k' n' t' b') := Lib.hid (by have := (in4_new (w.alloc (.cells #[.int .i64 k, .int .i64 n, .string t, .bool b] 23)) k' n' t' b' 23).alloc (.cells #[.int .i64 k2, .int .i64 n2, .string t2, .bool b2] 23); simpa using this)
  have Pc : Hid (In4 (((w.alloc (.cells #[.int .i64 k, .int .i64 n, .string t, .bool b] 23)).alloc (.cells #[.int .i64 k', .int .i64 n', .string t', .bool b'] 23)).alloc (.cells #[.int .i64 k2, .int .i64 n2, .string t2, .bool b2] 23)) (w.heap.size + 1 + 1) 0 k2 n2 t2 b2) := Lib.hid (by have := in4_new ((w.alloc (.cells #[.int .i64 k, .int .i64 n, .string t, .bool b] 23)).alloc (.cells #[.int .i64 k', .int .i64 n', .string t', .bool b'] 23)) k2 n2 t2 b2 23; simpa using this)
  have HB : Hid (Below w.heap.size w (((w.alloc (.cells #[.int .i64 k, .int .i64 n, .string t, .bool b] 23)).alloc (.cells #[.int .i64 k', .int .i64 n', .string t', .bool b'] 23)).alloc (.cells #[.int .i64 k2, .int .i64 n2, .string t2, .bool b2] 23))) := ((((Below.refl _ _).alloc (by simp) _).alloc (by simp) _).alloc (by simp; omega) _)
  go_enter Tryd.func6, Tryd.ntmps6
  go_wp2_with fail
  have HBq : Hid (Below w.heap.size w ((((w.alloc (.cells #[.int .i64 k, .int .i64 n, .string t, .bool b] 23)).alloc (.cells #[.int .i64 k', .int .i64 n', .string t', .bool b'] 23)).alloc (.cells #[.int .i64 k2, .int .i64 n2, .string t2, .bool b2] 23)))) := HB.out
  obtain ⟨ca0, ca1, ca2, ca3⟩ := Pa.out
  obtain ⟨cb0, cb1, cb2, cb3⟩ := Pb.out
  obtain ⟨cc0, cc1, cc2, cc3⟩ := Pc.out
  replace ca0 := cell_regrown ca0
  replace ca1 := cell_regrown ca1
  replace ca2 := cell_regrown ca2
  replace ca3 := cell_regrown ca3
  replace cb0 := cell_regrown cb0
  replace cb1 := cell_regrown cb1
  replace cb2 := cell_regrown cb2
  replace cb3 := cell_regrown cb3
  replace cc0 := cell_regrown cc0
  replace cc1 := cell_regrown cc1
  replace cc2 := cell_regrown cc2
  replace cc3 := cell_regrown cc3
  refine wp_region_quiet_below (by kernel_rfl) (by kernel_rfl) ?_
  repeat (go_big_quiet_step (first | (go_at_call_of 11 (#[.agg #[.int .i64 k, .int .i64 n, .string t, .bool b], .agg #[.int .i64 k', .int .i64 n', .string t', .bool b']] : Array Value); exact Calls.regrown_of (HAB.out _)) | (go_at_call_of 11 (#[.agg #[.int .i64 k', .int .i64 n', .string t', .bool b'], .agg #[.int .i64 k2, .int .i64 n2, .string t2, .bool b2]] : Array Value); exact Calls.regrown_of (HBC.out _))))
  refine wpQuiet_nil ?_
  intro _ hw'
  obtain ⟨⟨dq, osq⟩, hw''⟩ := hw'
  subst hw''
  have hbq := Lib.hid (below_step HBq.out (below_regrown ((((w.alloc (.cells #[.int .i64 k, .int .i64 n, .string t, .bool b] 23)).alloc (.cells #[.int .i64 k', .int .i64 n', .string t', .bool b'] 23)).alloc (.cells #[.int .i64 k2, .int .i64 n2, .string t2, .bool b2] 23))) dq osq))
  replace Pa := Lib.hid (Pa.out.on (below_regrown ((((w.alloc (.cells #[.int .i64 k, .int .i64 n, .string t, .bool b] 23)).alloc (.cells #[.int .i64 k', .int .i64 n', .string t', .bool b'] 23)).alloc (.cells #[.int .i64 k2, .int .i64 n2, .string t2, .bool b2] 23))) dq osq))
  replace Pb := Lib.hid (Pb.out.on (below_regrown ((((w.alloc (.cells #[.int .i64 k, .int .i64 n, .string t, .bool b] 23)).alloc (.cells #[.int .i64 k', .int .i64 n', .string t', .bool b'] 23)).alloc (.cells #[.int .i64 k2, .int .i64 n2, .string t2, .bool b2] 23))) dq osq))
  replace Pc := Lib.hid (Pc.out.on (below_regrown ((((w.alloc (.cells #[.int .i64 k, .int .i64 n, .string t, .bool b] 23)).alloc (.cells #[.int .i64 k', .int .i64 n', .string t', .bool b'] 23)).alloc (.cells #[.int .i64 k2, .int .i64 n2, .string t2, .bool b2] 23))) dq osq))
  clear HBq
  replace HB := hbq
  clear hbq
  clear ca0 ca1 ca2 ca3 cb0 cb1 cb2 cb3 cc0 cc1 cc2 cc3
  generalize grow (redrawn ((((w.alloc (.cells #[.int .i64 k, .int .i64 n, .string t, .bool b] 23)).alloc (.cells #[.int .i64 k', .int .i64 n', .string t', .bool b'] 23)).alloc (.cells #[.int .i64 k2, .int .i64 n2, .string t2, .bool b2] 23))) dq) osq = Q1 at *
  obtain ⟨ca0, ca1, ca2, ca3⟩ := Pa.out
  obtain ⟨cb0, cb1, cb2, cb3⟩ := Pb.out
  obtain ⟨cc0, cc1, cc2, cc3⟩ := Pc.out
  go_wp2_with fail
  refine (HAA.out _).mono ?_
  rintro e w1 ⟨rfl, hb1⟩
  clear ca0 ca1 ca2 ca3 cb0 cb1 cb2 cb3 cc0 cc1 cc2 cc3
  replace Pa := Lib.hid (Pa.out.on hb1)
  replace Pb := Lib.hid (Pb.out.on hb1)
  replace Pc := Lib.hid (Pc.out.on hb1)
  replace HB := Lib.hid (below_step HB.out hb1)
  clear hb1
  obtain ⟨ca0, ca1, ca2, ca3⟩ := Pa.out
  obtain ⟨cb0, cb1, cb2, cb3⟩ := Pb.out
  obtain ⟨cc0, cc1, cc2, cc3⟩ := Pc.out
  go_wp2_with fail
  refine (HBA.out _).mono ?_
  rintro e w2 ⟨rfl, hb2⟩
  clear ca0 ca1 ca2 ca3 cb0 cb1 cb2 cb3 cc0 cc1 cc2 cc3
  replace Pa := Lib.hid (Pa.out.on hb2)
  replace Pb := Lib.hid (Pb.out.on hb2)
  replace Pc := Lib.hid (Pc.out.on hb2)
  replace HB := Lib.hid (below_step HB.out hb2)
  clear hb2
  obtain ⟨ca0, ca1, ca2, ca3⟩ := Pa.out
  obtain ⟨cb0, cb1, cb2, cb3⟩ := Pb.out
  obtain ⟨cc0, cc1, cc2, cc3⟩ := Pc.out
  go_wp2_with fail
  refine (HS.out _ (HE.out.on HB.out)).mono ?_
  rintro e w3 ⟨rfl, hb3⟩
  clear ca0 ca1 ca2 ca3 cb0 cb1 cb2 cb3 cc0 cc1 cc2 cc3
  replace Pa := Lib.hid (Pa.out.on hb3)
  replace Pb := Lib.hid (Pb.out.on hb3)
  replace Pc := Lib.hid (Pc.out.on hb3)
  replace HB := Lib.hid (below_step HB.out hb3)
  clear hb3
  obtain ⟨ca0, ca1, ca2, ca3⟩ := Pa.out
  obtain ⟨cb0, cb1, cb2, cb3⟩ := Pb.out
  obtain ⟨cc0, cc1, cc2, cc3⟩ := Pc.out
  go_wp2_with fail
  go_ret
  exact ⟨rfl, HB.out⟩
set_option maxHeartbeats 4000000 in
theorem order_zm_abad (k n : Int) (t : ByteArray) (b : Bool) (k' n' : Int) (t' : ByteArray) (b' : Bool) (k2 n2 : Int) (t2 : ByteArray) (b2 : Bool) (w : World) (hE : Env w) (hx : cmpV ⟨k, n, t, b⟩ ⟨k', n', t', b'⟩ = 0) (hy : cmpV ⟨k', n', t', b'⟩ ⟨k2, n2, t2, b2⟩ = (-1)) (hz : cmpV ⟨k, n, t, b⟩ ⟨k2, n2, t2, b2⟩ = (-1)) (ha : validN ⟨k, n, t, b⟩ ≠ 0) :
    Calls Tryd.prog 6 #[.agg #[.int .i64 k, .int .i64 n, .string t, .bool b], .agg #[.int .i64 k', .int .i64 n', .string t', .bool b'], .agg #[.int .i64 k2, .int .i64 n2, .string t2, .bool b2]] w fun e w' => e = .returned (.bool true) ∧ Below w.heap.size w w' := by
  have haa : cmpV ⟨k, n, t, b⟩ ⟨k, n, t, b⟩ = 0 := ordered_val.refl _
  have hba : cmpV ⟨k', n', t', b'⟩ ⟨k, n, t, b⟩ = 0 := by have := ordered_val.anti ⟨k, n, t, b⟩ ⟨k', n', t', b'⟩; omega
  have HAB : Hid (∀ W, Calls Tryd.prog 11 #[.agg #[.int .i64 k, .int .i64 n, .string t, .bool b], .agg #[.int .i64 k', .int .i64 n', .string t', .bool b']] W fun e w' => e = .returned (.int .i64 0) ∧ Below W.heap.size W w') := fun W => by rw [← hx]; exact comp_ k n t b k' n' t' b' W
  have HBC : Hid (∀ W, Calls Tryd.prog 11 #[.agg #[.int .i64 k', .int .i64 n', .string t', .bool b'], .agg #[.int .i64 k2, .int .i64 n2, .string t2, .bool b2]] W fun e w' => e = .returned (.int .i64 (-1)) ∧ Below W.heap.size W w') := fun W => by rw [← hy]; exact comp_ k' n' t' b' k2 n2 t2 b2 W
  have HAC : Hid (∀ W, Calls Tryd.prog 11 #[.agg #[.int .i64 k, .int .i64 n, .string t, .bool b], .agg #[.int .i64 k2, .int .i64 n2, .string t2, .bool b2]] W fun e w' => e = .returned (.int .i64 (-1)) ∧ Below W.heap.size W w') := fun W => by rw [← hz]; exact comp_ k n t b k2 n2 t2 b2 W
  have HAA : Hid (∀ W, Calls Tryd.prog 11 #[.agg #[.int .i64 k, .int .i64 n, .string t, .bool b], .agg #[.int .i64 k, .int .i64 n, .string t, .bool b]] W fun e w' => e = .returned (.int .i64 0) ∧ Below W.heap.size W w') := fun W => by rw [← haa]; exact comp_ k n t b k n t b W
  have HBA : Hid (∀ W, Calls Tryd.prog 11 #[.agg #[.int .i64 k', .int .i64 n', .string t', .bool b'], .agg #[.int .i64 k, .int .i64 n, .string t, .bool b]] W fun e w' => e = .returned (.int .i64 0) ∧ Below W.heap.size W w') := fun W => by rw [← hba]; exact comp_ k' n' t' b' k n t b W
  obtain ⟨EA, hEA⟩ : ∃ E, errV 45 (validN ⟨k, n, t, b⟩) = .iface 45 (.int .i64 E) := ⟨_, by rw [errV, if_neg ha]⟩
  have HVA : Hid (∀ W, Calls Tryd.prog 25 #[.agg #[.int .i64 k, .int .i64 n, .string t, .bool b]] W fun e w' => e = .returned (.iface 45 (.int .i64 EA)) ∧ Below W.heap.size W w') := fun W => by rw [← hEA]; exact valid_ k n t b W
  have HS : Hid (∀ W, Env W → Calls Tryd.prog 14 #[] W fun e w' => e = .returned (.bool true) ∧ Below W.heap.size W w') := fun W hW => sure_ W hW
  have HE := Lib.hid hE
  clear hE hx hy hz haa hba ha hEA
  have Pa : Hid (In4 (((w.alloc (.cells #[.int .i64 k, .int .i64 n, .string t, .bool b] 23)).alloc (.cells #[.int .i64 k', .int .i64 n', .string t', .bool b'] 23)).alloc (.cells #[.int .i64 k2, .int .i64 n2, .string t2, .bool b2] 23)) (w.heap.size) 0 k n t b) := Lib.hid (by have := ((in4_new w k n t b 23).alloc (.cells #[.int .i64 k', .int .i64 n', .string t', .bool b'] 23)).alloc (.cells #[.int .i64 k2, .int .i64 n2, .string t2, .bool b2] 23); simpa using this)
  have Pb : Hid (In4 (((w.alloc (.cells #[.int .i64 k, .int .i64 n, .string t, .bool b] 23)).alloc (.cells #[.int .i64 k', .int .i64 n', .string t', .bool b'] 23)).alloc (.cells #[.int .i64 k2, .int .i64 n2, .string t2, .bool b2] 23)) (w.heap.size + 1) 0 k' n' t' b') := Lib.hid (by have := (in4_new (w.alloc (.cells #[.int .i64 k, .int .i64 n, .string t, .bool b] 23)) k' n' t' b' 23).alloc (.cells #[.int .i64 k2, .int .i64 n2, .string t2, .bool b2] 23); simpa using this)
  have Pc : Hid (In4 (((w.alloc (.cells #[.int .i64 k, .int .i64 n, .string t, .bool b] 23)).alloc (.cells #[.int .i64 k', .int .i64 n', .string t', .bool b'] 23)).alloc (.cells #[.int .i64 k2, .int .i64 n2, .string t2, .bool b2] 23)) (w.heap.size + 1 + 1) 0 k2 n2 t2 b2) := Lib.hid (by have := in4_new ((w.alloc (.cells #[.int .i64 k, .int .i64 n, .string t, .bool b] 23)).alloc (.cells #[.int .i64 k', .int .i64 n', .string t', .bool b'] 23)) k2 n2 t2 b2 23; simpa using this)
  have HB : Hid (Below w.heap.size w (((w.alloc (.cells #[.int .i64 k, .int .i64 n, .string t, .bool b] 23)).alloc (.cells #[.int .i64 k', .int .i64 n', .string t', .bool b'] 23)).alloc (.cells #[.int .i64 k2, .int .i64 n2, .string t2, .bool b2] 23))) := ((((Below.refl _ _).alloc (by simp) _).alloc (by simp) _).alloc (by simp; omega) _)
  go_enter Tryd.func6, Tryd.ntmps6
  go_wp2_with fail
  have HBq : Hid (Below w.heap.size w ((((w.alloc (.cells #[.int .i64 k, .int .i64 n, .string t, .bool b] 23)).alloc (.cells #[.int .i64 k', .int .i64 n', .string t', .bool b'] 23)).alloc (.cells #[.int .i64 k2, .int .i64 n2, .string t2, .bool b2] 23)))) := HB.out
  obtain ⟨ca0, ca1, ca2, ca3⟩ := Pa.out
  obtain ⟨cb0, cb1, cb2, cb3⟩ := Pb.out
  obtain ⟨cc0, cc1, cc2, cc3⟩ := Pc.out
  replace ca0 := cell_regrown ca0
  replace ca1 := cell_regrown ca1
  replace ca2 := cell_regrown ca2
  replace ca3 := cell_regrown ca3
  replace cb0 := cell_regrown cb0
  replace cb1 := cell_regrown cb1
  replace cb2 := cell_regrown cb2
  replace cb3 := cell_regrown cb3
  replace cc0 := cell_regrown cc0
  replace cc1 := cell_regrown cc1
  replace cc2 := cell_regrown cc2
  replace cc3 := cell_regrown cc3
  refine wp_region_quiet_below (by kernel_rfl) (by kernel_rfl) ?_
  repeat (go_big_quiet_step (first | (go_at_call_of 11 (#[.agg #[.int .i64 k, .int .i64 n, .string t, .bool b], .agg #[.int .i64 k', .int .i64 n', .string t', .bool b']] : Array Value); exact Calls.regrown_of (HAB.out _)) | (go_at_call_of 11 (#[.agg #[.int .i64 k', .int .i64 n', .string t', .bool b'], .agg #[.int .i64 k2, .int .i64 n2, .string t2, .bool b2]] : Array Value); exact Calls.regrown_of (HBC.out _))))
  refine wpQuiet_nil ?_
  intro _ hw'
  obtain ⟨⟨dq, osq⟩, hw''⟩ := hw'
  subst hw''
  have hbq := Lib.hid (below_step HBq.out (below_regrown ((((w.alloc (.cells #[.int .i64 k, .int .i64 n, .string t, .bool b] 23)).alloc (.cells #[.int .i64 k', .int .i64 n', .string t', .bool b'] 23)).alloc (.cells #[.int .i64 k2, .int .i64 n2, .string t2, .bool b2] 23))) dq osq))
  replace Pa := Lib.hid (Pa.out.on (below_regrown ((((w.alloc (.cells #[.int .i64 k, .int .i64 n, .string t, .bool b] 23)).alloc (.cells #[.int .i64 k', .int .i64 n', .string t', .bool b'] 23)).alloc (.cells #[.int .i64 k2, .int .i64 n2, .string t2, .bool b2] 23))) dq osq))
  replace Pb := Lib.hid (Pb.out.on (below_regrown ((((w.alloc (.cells #[.int .i64 k, .int .i64 n, .string t, .bool b] 23)).alloc (.cells #[.int .i64 k', .int .i64 n', .string t', .bool b'] 23)).alloc (.cells #[.int .i64 k2, .int .i64 n2, .string t2, .bool b2] 23))) dq osq))
  replace Pc := Lib.hid (Pc.out.on (below_regrown ((((w.alloc (.cells #[.int .i64 k, .int .i64 n, .string t, .bool b] 23)).alloc (.cells #[.int .i64 k', .int .i64 n', .string t', .bool b'] 23)).alloc (.cells #[.int .i64 k2, .int .i64 n2, .string t2, .bool b2] 23))) dq osq))
  clear HBq
  replace HB := hbq
  clear hbq
  clear ca0 ca1 ca2 ca3 cb0 cb1 cb2 cb3 cc0 cc1 cc2 cc3
  generalize grow (redrawn ((((w.alloc (.cells #[.int .i64 k, .int .i64 n, .string t, .bool b] 23)).alloc (.cells #[.int .i64 k', .int .i64 n', .string t', .bool b'] 23)).alloc (.cells #[.int .i64 k2, .int .i64 n2, .string t2, .bool b2] 23))) dq) osq = Q1 at *
  obtain ⟨ca0, ca1, ca2, ca3⟩ := Pa.out
  obtain ⟨cb0, cb1, cb2, cb3⟩ := Pb.out
  obtain ⟨cc0, cc1, cc2, cc3⟩ := Pc.out
  go_wp2_with fail
  refine (HAA.out _).mono ?_
  rintro e w1 ⟨rfl, hb1⟩
  clear ca0 ca1 ca2 ca3 cb0 cb1 cb2 cb3 cc0 cc1 cc2 cc3
  replace Pa := Lib.hid (Pa.out.on hb1)
  replace Pb := Lib.hid (Pb.out.on hb1)
  replace Pc := Lib.hid (Pc.out.on hb1)
  replace HB := Lib.hid (below_step HB.out hb1)
  clear hb1
  obtain ⟨ca0, ca1, ca2, ca3⟩ := Pa.out
  obtain ⟨cb0, cb1, cb2, cb3⟩ := Pb.out
  obtain ⟨cc0, cc1, cc2, cc3⟩ := Pc.out
  go_wp2_with fail
  refine (HBA.out _).mono ?_
  rintro e w2 ⟨rfl, hb2⟩
  clear ca0 ca1 ca2 ca3 cb0 cb1 cb2 cb3 cc0 cc1 cc2 cc3
  replace Pa := Lib.hid (Pa.out.on hb2)
  replace Pb := Lib.hid (Pb.out.on hb2)
  replace Pc := Lib.hid (Pc.out.on hb2)
  replace HB := Lib.hid (below_step HB.out hb2)
  clear hb2
  obtain ⟨ca0, ca1, ca2, ca3⟩ := Pa.out
  obtain ⟨cb0, cb1, cb2, cb3⟩ := Pb.out
  obtain ⟨cc0, cc1, cc2, cc3⟩ := Pc.out
  go_wp2_with fail
  refine (HAC.out _).mono ?_
  rintro e w3 ⟨rfl, hb3⟩
  clear ca0 ca1 ca2 ca3 cb0 cb1 cb2 cb3 cc0 cc1 cc2 cc3
  replace Pa := Lib.hid (Pa.out.on hb3)
  replace Pb := Lib.hid (Pb.out.on hb3)
  replace Pc := Lib.hid (Pc.out.on hb3)
  replace HB := Lib.hid (below_step HB.out hb3)
  clear hb3
  obtain ⟨ca0, ca1, ca2, ca3⟩ := Pa.out
  obtain ⟨cb0, cb1, cb2, cb3⟩ := Pb.out
  obtain ⟨cc0, cc1, cc2, cc3⟩ := Pc.out
  go_wp2_with fail
  refine (HAC.out _).mono ?_
  rintro e w4 ⟨rfl, hb4⟩
  clear ca0 ca1 ca2 ca3 cb0 cb1 cb2 cb3 cc0 cc1 cc2 cc3
  replace Pa := Lib.hid (Pa.out.on hb4)
  replace Pb := Lib.hid (Pb.out.on hb4)
  replace Pc := Lib.hid (Pc.out.on hb4)
  replace HB := Lib.hid (below_step HB.out hb4)
  clear hb4
  obtain ⟨ca0, ca1, ca2, ca3⟩ := Pa.out
  obtain ⟨cb0, cb1, cb2, cb3⟩ := Pb.out
  obtain ⟨cc0, cc1, cc2, cc3⟩ := Pc.out
  go_wp2_with fail
  refine (HVA.out _).mono ?_
  rintro e w5 ⟨rfl, hb5⟩
  clear ca0 ca1 ca2 ca3 cb0 cb1 cb2 cb3 cc0 cc1 cc2 cc3
  replace Pa := Lib.hid (Pa.out.on hb5)
  replace Pb := Lib.hid (Pb.out.on hb5)
  replace Pc := Lib.hid (Pc.out.on hb5)
  replace HB := Lib.hid (below_step HB.out hb5)
  clear hb5
  obtain ⟨ca0, ca1, ca2, ca3⟩ := Pa.out
  obtain ⟨cb0, cb1, cb2, cb3⟩ := Pb.out
  obtain ⟨cc0, cc1, cc2, cc3⟩ := Pc.out
  go_wp2_with fail
  refine (HS.out _ (HE.out.on HB.out)).mono ?_
  rintro e w6 ⟨rfl, hb6⟩
  clear ca0 ca1 ca2 ca3 cb0 cb1 cb2 cb3 cc0 cc1 cc2 cc3
  replace Pa := Lib.hid (Pa.out.on hb6)
  replace Pb := Lib.hid (Pb.out.on hb6)
  replace Pc := Lib.hid (Pc.out.on hb6)
  replace HB := Lib.hid (below_step HB.out hb6)
  clear hb6
  obtain ⟨ca0, ca1, ca2, ca3⟩ := Pa.out
  obtain ⟨cb0, cb1, cb2, cb3⟩ := Pb.out
  obtain ⟨cc0, cc1, cc2, cc3⟩ := Pc.out
  go_wp2_with fail
  go_ret
  exact ⟨rfl, HB.out⟩
set_option maxHeartbeats 4000000 in
theorem order_zm_bbad (k n : Int) (t : ByteArray) (b : Bool) (k' n' : Int) (t' : ByteArray) (b' : Bool) (k2 n2 : Int) (t2 : ByteArray) (b2 : Bool) (w : World) (hE : Env w) (hx : cmpV ⟨k, n, t, b⟩ ⟨k', n', t', b'⟩ = 0) (hy : cmpV ⟨k', n', t', b'⟩ ⟨k2, n2, t2, b2⟩ = (-1)) (hz : cmpV ⟨k, n, t, b⟩ ⟨k2, n2, t2, b2⟩ = (-1)) (ha : validN ⟨k, n, t, b⟩ = 0) (hb : validN ⟨k', n', t', b'⟩ ≠ 0) :
    Calls Tryd.prog 6 #[.agg #[.int .i64 k, .int .i64 n, .string t, .bool b], .agg #[.int .i64 k', .int .i64 n', .string t', .bool b'], .agg #[.int .i64 k2, .int .i64 n2, .string t2, .bool b2]] w fun e w' => e = .returned (.bool true) ∧ Below w.heap.size w w' := by
  have haa : cmpV ⟨k, n, t, b⟩ ⟨k, n, t, b⟩ = 0 := ordered_val.refl _
  have hba : cmpV ⟨k', n', t', b'⟩ ⟨k, n, t, b⟩ = 0 := by have := ordered_val.anti ⟨k, n, t, b⟩ ⟨k', n', t', b'⟩; omega
  have HAB : Hid (∀ W, Calls Tryd.prog 11 #[.agg #[.int .i64 k, .int .i64 n, .string t, .bool b], .agg #[.int .i64 k', .int .i64 n', .string t', .bool b']] W fun e w' => e = .returned (.int .i64 0) ∧ Below W.heap.size W w') := fun W => by rw [← hx]; exact comp_ k n t b k' n' t' b' W
  have HBC : Hid (∀ W, Calls Tryd.prog 11 #[.agg #[.int .i64 k', .int .i64 n', .string t', .bool b'], .agg #[.int .i64 k2, .int .i64 n2, .string t2, .bool b2]] W fun e w' => e = .returned (.int .i64 (-1)) ∧ Below W.heap.size W w') := fun W => by rw [← hy]; exact comp_ k' n' t' b' k2 n2 t2 b2 W
  have HAC : Hid (∀ W, Calls Tryd.prog 11 #[.agg #[.int .i64 k, .int .i64 n, .string t, .bool b], .agg #[.int .i64 k2, .int .i64 n2, .string t2, .bool b2]] W fun e w' => e = .returned (.int .i64 (-1)) ∧ Below W.heap.size W w') := fun W => by rw [← hz]; exact comp_ k n t b k2 n2 t2 b2 W
  have HAA : Hid (∀ W, Calls Tryd.prog 11 #[.agg #[.int .i64 k, .int .i64 n, .string t, .bool b], .agg #[.int .i64 k, .int .i64 n, .string t, .bool b]] W fun e w' => e = .returned (.int .i64 0) ∧ Below W.heap.size W w') := fun W => by rw [← haa]; exact comp_ k n t b k n t b W
  have HBA : Hid (∀ W, Calls Tryd.prog 11 #[.agg #[.int .i64 k', .int .i64 n', .string t', .bool b'], .agg #[.int .i64 k, .int .i64 n, .string t, .bool b]] W fun e w' => e = .returned (.int .i64 0) ∧ Below W.heap.size W w') := fun W => by rw [← hba]; exact comp_ k' n' t' b' k n t b W
  have HVA : Hid (∀ W, Calls Tryd.prog 25 #[.agg #[.int .i64 k, .int .i64 n, .string t, .bool b]] W fun e w' => e = .returned (.nilIface) ∧ Below W.heap.size W w') := fun W => by have := valid_ k n t b W; rw [ha] at this; exact this
  obtain ⟨EB, hEB⟩ : ∃ E, errV 45 (validN ⟨k', n', t', b'⟩) = .iface 45 (.int .i64 E) := ⟨_, by rw [errV, if_neg hb]⟩
  have HVB : Hid (∀ W, Calls Tryd.prog 25 #[.agg #[.int .i64 k', .int .i64 n', .string t', .bool b']] W fun e w' => e = .returned (.iface 45 (.int .i64 EB)) ∧ Below W.heap.size W w') := fun W => by rw [← hEB]; exact valid_ k' n' t' b' W
  have HS : Hid (∀ W, Env W → Calls Tryd.prog 14 #[] W fun e w' => e = .returned (.bool true) ∧ Below W.heap.size W w') := fun W hW => sure_ W hW
  have HE := Lib.hid hE
  clear hE hx hy hz haa hba ha hb hEB
  have Pa : Hid (In4 (((w.alloc (.cells #[.int .i64 k, .int .i64 n, .string t, .bool b] 23)).alloc (.cells #[.int .i64 k', .int .i64 n', .string t', .bool b'] 23)).alloc (.cells #[.int .i64 k2, .int .i64 n2, .string t2, .bool b2] 23)) (w.heap.size) 0 k n t b) := Lib.hid (by have := ((in4_new w k n t b 23).alloc (.cells #[.int .i64 k', .int .i64 n', .string t', .bool b'] 23)).alloc (.cells #[.int .i64 k2, .int .i64 n2, .string t2, .bool b2] 23); simpa using this)
  have Pb : Hid (In4 (((w.alloc (.cells #[.int .i64 k, .int .i64 n, .string t, .bool b] 23)).alloc (.cells #[.int .i64 k', .int .i64 n', .string t', .bool b'] 23)).alloc (.cells #[.int .i64 k2, .int .i64 n2, .string t2, .bool b2] 23)) (w.heap.size + 1) 0 k' n' t' b') := Lib.hid (by have := (in4_new (w.alloc (.cells #[.int .i64 k, .int .i64 n, .string t, .bool b] 23)) k' n' t' b' 23).alloc (.cells #[.int .i64 k2, .int .i64 n2, .string t2, .bool b2] 23); simpa using this)
  have Pc : Hid (In4 (((w.alloc (.cells #[.int .i64 k, .int .i64 n, .string t, .bool b] 23)).alloc (.cells #[.int .i64 k', .int .i64 n', .string t', .bool b'] 23)).alloc (.cells #[.int .i64 k2, .int .i64 n2, .string t2, .bool b2] 23)) (w.heap.size + 1 + 1) 0 k2 n2 t2 b2) := Lib.hid (by have := in4_new ((w.alloc (.cells #[.int .i64 k, .int .i64 n, .string t, .bool b] 23)).alloc (.cells #[.int .i64 k', .int .i64 n', .string t', .bool b'] 23)) k2 n2 t2 b2 23; simpa using this)
  have HB : Hid (Below w.heap.size w (((w.alloc (.cells #[.int .i64 k, .int .i64 n, .string t, .bool b] 23)).alloc (.cells #[.int .i64 k', .int .i64 n', .string t', .bool b'] 23)).alloc (.cells #[.int .i64 k2, .int .i64 n2, .string t2, .bool b2] 23))) := ((((Below.refl _ _).alloc (by simp) _).alloc (by simp) _).alloc (by simp; omega) _)
  go_enter Tryd.func6, Tryd.ntmps6
  go_wp2_with fail
  have HBq : Hid (Below w.heap.size w ((((w.alloc (.cells #[.int .i64 k, .int .i64 n, .string t, .bool b] 23)).alloc (.cells #[.int .i64 k', .int .i64 n', .string t', .bool b'] 23)).alloc (.cells #[.int .i64 k2, .int .i64 n2, .string t2, .bool b2] 23)))) := HB.out
  obtain ⟨ca0, ca1, ca2, ca3⟩ := Pa.out
  obtain ⟨cb0, cb1, cb2, cb3⟩ := Pb.out
  obtain ⟨cc0, cc1, cc2, cc3⟩ := Pc.out
  replace ca0 := cell_regrown ca0
  replace ca1 := cell_regrown ca1
  replace ca2 := cell_regrown ca2
  replace ca3 := cell_regrown ca3
  replace cb0 := cell_regrown cb0
  replace cb1 := cell_regrown cb1
  replace cb2 := cell_regrown cb2
  replace cb3 := cell_regrown cb3
  replace cc0 := cell_regrown cc0
  replace cc1 := cell_regrown cc1
  replace cc2 := cell_regrown cc2
  replace cc3 := cell_regrown cc3
  refine wp_region_quiet_below (by kernel_rfl) (by kernel_rfl) ?_
  repeat (go_big_quiet_step (first | (go_at_call_of 11 (#[.agg #[.int .i64 k, .int .i64 n, .string t, .bool b], .agg #[.int .i64 k', .int .i64 n', .string t', .bool b']] : Array Value); exact Calls.regrown_of (HAB.out _)) | (go_at_call_of 11 (#[.agg #[.int .i64 k', .int .i64 n', .string t', .bool b'], .agg #[.int .i64 k2, .int .i64 n2, .string t2, .bool b2]] : Array Value); exact Calls.regrown_of (HBC.out _))))
  refine wpQuiet_nil ?_
  intro _ hw'
  obtain ⟨⟨dq, osq⟩, hw''⟩ := hw'
  subst hw''
  have hbq := Lib.hid (below_step HBq.out (below_regrown ((((w.alloc (.cells #[.int .i64 k, .int .i64 n, .string t, .bool b] 23)).alloc (.cells #[.int .i64 k', .int .i64 n', .string t', .bool b'] 23)).alloc (.cells #[.int .i64 k2, .int .i64 n2, .string t2, .bool b2] 23))) dq osq))
  replace Pa := Lib.hid (Pa.out.on (below_regrown ((((w.alloc (.cells #[.int .i64 k, .int .i64 n, .string t, .bool b] 23)).alloc (.cells #[.int .i64 k', .int .i64 n', .string t', .bool b'] 23)).alloc (.cells #[.int .i64 k2, .int .i64 n2, .string t2, .bool b2] 23))) dq osq))
  replace Pb := Lib.hid (Pb.out.on (below_regrown ((((w.alloc (.cells #[.int .i64 k, .int .i64 n, .string t, .bool b] 23)).alloc (.cells #[.int .i64 k', .int .i64 n', .string t', .bool b'] 23)).alloc (.cells #[.int .i64 k2, .int .i64 n2, .string t2, .bool b2] 23))) dq osq))
  replace Pc := Lib.hid (Pc.out.on (below_regrown ((((w.alloc (.cells #[.int .i64 k, .int .i64 n, .string t, .bool b] 23)).alloc (.cells #[.int .i64 k', .int .i64 n', .string t', .bool b'] 23)).alloc (.cells #[.int .i64 k2, .int .i64 n2, .string t2, .bool b2] 23))) dq osq))
  clear HBq
  replace HB := hbq
  clear hbq
  clear ca0 ca1 ca2 ca3 cb0 cb1 cb2 cb3 cc0 cc1 cc2 cc3
  generalize grow (redrawn ((((w.alloc (.cells #[.int .i64 k, .int .i64 n, .string t, .bool b] 23)).alloc (.cells #[.int .i64 k', .int .i64 n', .string t', .bool b'] 23)).alloc (.cells #[.int .i64 k2, .int .i64 n2, .string t2, .bool b2] 23))) dq) osq = Q1 at *
  obtain ⟨ca0, ca1, ca2, ca3⟩ := Pa.out
  obtain ⟨cb0, cb1, cb2, cb3⟩ := Pb.out
  obtain ⟨cc0, cc1, cc2, cc3⟩ := Pc.out
  go_wp2_with fail
  refine (HAA.out _).mono ?_
  rintro e w1 ⟨rfl, hb1⟩
  clear ca0 ca1 ca2 ca3 cb0 cb1 cb2 cb3 cc0 cc1 cc2 cc3
  replace Pa := Lib.hid (Pa.out.on hb1)
  replace Pb := Lib.hid (Pb.out.on hb1)
  replace Pc := Lib.hid (Pc.out.on hb1)
  replace HB := Lib.hid (below_step HB.out hb1)
  clear hb1
  obtain ⟨ca0, ca1, ca2, ca3⟩ := Pa.out
  obtain ⟨cb0, cb1, cb2, cb3⟩ := Pb.out
  obtain ⟨cc0, cc1, cc2, cc3⟩ := Pc.out
  go_wp2_with fail
  refine (HBA.out _).mono ?_
  rintro e w2 ⟨rfl, hb2⟩
  clear ca0 ca1 ca2 ca3 cb0 cb1 cb2 cb3 cc0 cc1 cc2 cc3
  replace Pa := Lib.hid (Pa.out.on hb2)
  replace Pb := Lib.hid (Pb.out.on hb2)
  replace Pc := Lib.hid (Pc.out.on hb2)
  replace HB := Lib.hid (below_step HB.out hb2)
  clear hb2
  obtain ⟨ca0, ca1, ca2, ca3⟩ := Pa.out
  obtain ⟨cb0, cb1, cb2, cb3⟩ := Pb.out
  obtain ⟨cc0, cc1, cc2, cc3⟩ := Pc.out
  go_wp2_with fail
  refine (HAC.out _).mono ?_
  rintro e w3 ⟨rfl, hb3⟩
  clear ca0 ca1 ca2 ca3 cb0 cb1 cb2 cb3 cc0 cc1 cc2 cc3
  replace Pa := Lib.hid (Pa.out.on hb3)
  replace Pb := Lib.hid (Pb.out.on hb3)
  replace Pc := Lib.hid (Pc.out.on hb3)
  replace HB := Lib.hid (below_step HB.out hb3)
  clear hb3
  obtain ⟨ca0, ca1, ca2, ca3⟩ := Pa.out
  obtain ⟨cb0, cb1, cb2, cb3⟩ := Pb.out
  obtain ⟨cc0, cc1, cc2, cc3⟩ := Pc.out
  go_wp2_with fail
  refine (HAC.out _).mono ?_
  rintro e w4 ⟨rfl, hb4⟩
  clear ca0 ca1 ca2 ca3 cb0 cb1 cb2 cb3 cc0 cc1 cc2 cc3
  replace Pa := Lib.hid (Pa.out.on hb4)
  replace Pb := Lib.hid (Pb.out.on hb4)
  replace Pc := Lib.hid (Pc.out.on hb4)
  replace HB := Lib.hid (below_step HB.out hb4)
  clear hb4
  obtain ⟨ca0, ca1, ca2, ca3⟩ := Pa.out
  obtain ⟨cb0, cb1, cb2, cb3⟩ := Pb.out
  obtain ⟨cc0, cc1, cc2, cc3⟩ := Pc.out
  go_wp2_with fail
  refine (HVA.out _).mono ?_
  rintro e w5 ⟨rfl, hb5⟩
  clear ca0 ca1 ca2 ca3 cb0 cb1 cb2 cb3 cc0 cc1 cc2 cc3
  replace Pa := Lib.hid (Pa.out.on hb5)
  replace Pb := Lib.hid (Pb.out.on hb5)
  replace Pc := Lib.hid (Pc.out.on hb5)
  replace HB := Lib.hid (below_step HB.out hb5)
  clear hb5
  obtain ⟨ca0, ca1, ca2, ca3⟩ := Pa.out
  obtain ⟨cb0, cb1, cb2, cb3⟩ := Pb.out
  obtain ⟨cc0, cc1, cc2, cc3⟩ := Pc.out
  go_wp2_with fail
  refine (HVB.out _).mono ?_
  rintro e w6 ⟨rfl, hb6⟩
  clear ca0 ca1 ca2 ca3 cb0 cb1 cb2 cb3 cc0 cc1 cc2 cc3
  replace Pa := Lib.hid (Pa.out.on hb6)
  replace Pb := Lib.hid (Pb.out.on hb6)
  replace Pc := Lib.hid (Pc.out.on hb6)
  replace HB := Lib.hid (below_step HB.out hb6)
  clear hb6
  obtain ⟨ca0, ca1, ca2, ca3⟩ := Pa.out
  obtain ⟨cb0, cb1, cb2, cb3⟩ := Pb.out
  obtain ⟨cc0, cc1, cc2, cc3⟩ := Pc.out
  go_wp2_with fail
  refine (HS.out _ (HE.out.on HB.out)).mono ?_
  rintro e w7 ⟨rfl, hb7⟩
  clear ca0 ca1 ca2 ca3 cb0 cb1 cb2 cb3 cc0 cc1 cc2 cc3
  replace Pa := Lib.hid (Pa.out.on hb7)
  replace Pb := Lib.hid (Pb.out.on hb7)
  replace Pc := Lib.hid (Pc.out.on hb7)
  replace HB := Lib.hid (below_step HB.out hb7)
  clear hb7
  obtain ⟨ca0, ca1, ca2, ca3⟩ := Pa.out
  obtain ⟨cb0, cb1, cb2, cb3⟩ := Pb.out
  obtain ⟨cc0, cc1, cc2, cc3⟩ := Pc.out
  go_wp2_with fail
  go_ret
  exact ⟨rfl, HB.out⟩
set_option maxHeartbeats 4000000 in
theorem order_zm_ok (k n : Int) (t : ByteArray) (b : Bool) (k' n' : Int) (t' : ByteArray) (b' : Bool) (k2 n2 : Int) (t2 : ByteArray) (b2 : Bool) (w : World) (hE : Env w) (hx : cmpV ⟨k, n, t, b⟩ ⟨k', n', t', b'⟩ = 0) (hy : cmpV ⟨k', n', t', b'⟩ ⟨k2, n2, t2, b2⟩ = (-1)) (hz : cmpV ⟨k, n, t, b⟩ ⟨k2, n2, t2, b2⟩ = (-1)) (ha : validN ⟨k, n, t, b⟩ = 0) (hb : validN ⟨k', n', t', b'⟩ = 0) :
    Calls Tryd.prog 6 #[.agg #[.int .i64 k, .int .i64 n, .string t, .bool b], .agg #[.int .i64 k', .int .i64 n', .string t', .bool b'], .agg #[.int .i64 k2, .int .i64 n2, .string t2, .bool b2]] w fun e w' => e = .returned (.bool true) ∧ Below w.heap.size w w' := by
  have haa : cmpV ⟨k, n, t, b⟩ ⟨k, n, t, b⟩ = 0 := ordered_val.refl _
  have hba : cmpV ⟨k', n', t', b'⟩ ⟨k, n, t, b⟩ = 0 := by have := ordered_val.anti ⟨k, n, t, b⟩ ⟨k', n', t', b'⟩; omega
  have HAB : Hid (∀ W, Calls Tryd.prog 11 #[.agg #[.int .i64 k, .int .i64 n, .string t, .bool b], .agg #[.int .i64 k', .int .i64 n', .string t', .bool b']] W fun e w' => e = .returned (.int .i64 0) ∧ Below W.heap.size W w') := fun W => by rw [← hx]; exact comp_ k n t b k' n' t' b' W
  have HBC : Hid (∀ W, Calls Tryd.prog 11 #[.agg #[.int .i64 k', .int .i64 n', .string t', .bool b'], .agg #[.int .i64 k2, .int .i64 n2, .string t2, .bool b2]] W fun e w' => e = .returned (.int .i64 (-1)) ∧ Below W.heap.size W w') := fun W => by rw [← hy]; exact comp_ k' n' t' b' k2 n2 t2 b2 W
  have HAC : Hid (∀ W, Calls Tryd.prog 11 #[.agg #[.int .i64 k, .int .i64 n, .string t, .bool b], .agg #[.int .i64 k2, .int .i64 n2, .string t2, .bool b2]] W fun e w' => e = .returned (.int .i64 (-1)) ∧ Below W.heap.size W w') := fun W => by rw [← hz]; exact comp_ k n t b k2 n2 t2 b2 W
  have HAA : Hid (∀ W, Calls Tryd.prog 11 #[.agg #[.int .i64 k, .int .i64 n, .string t, .bool b], .agg #[.int .i64 k, .int .i64 n, .string t, .bool b]] W fun e w' => e = .returned (.int .i64 0) ∧ Below W.heap.size W w') := fun W => by rw [← haa]; exact comp_ k n t b k n t b W
  have HBA : Hid (∀ W, Calls Tryd.prog 11 #[.agg #[.int .i64 k', .int .i64 n', .string t', .bool b'], .agg #[.int .i64 k, .int .i64 n, .string t, .bool b]] W fun e w' => e = .returned (.int .i64 0) ∧ Below W.heap.size W w') := fun W => by rw [← hba]; exact comp_ k' n' t' b' k n t b W
  have HVA : Hid (∀ W, Calls Tryd.prog 25 #[.agg #[.int .i64 k, .int .i64 n, .string t, .bool b]] W fun e w' => e = .returned (.nilIface) ∧ Below W.heap.size W w') := fun W => by have := valid_ k n t b W; rw [ha] at this; exact this
  have HVB : Hid (∀ W, Calls Tryd.prog 25 #[.agg #[.int .i64 k', .int .i64 n', .string t', .bool b']] W fun e w' => e = .returned (.nilIface) ∧ Below W.heap.size W w') := fun W => by have := valid_ k' n' t' b' W; rw [hb] at this; exact this
  have hEQ : ∀ W, (Op.equalIn 10000 23 (.agg #[.int .i64 k, .int .i64 n, .string t, .bool b]) (.agg #[.int .i64 k', .int .i64 n', .string t', .bool b'])).run Tryd.prog W = .ok true W := fun W => by rw [eqIn_, sameV_iff.2 (cmp_eq (fit_of_valid ha) (fit_of_valid hb) hx)]
  have hGD := guardV
  have HS : Hid (∀ W, Env W → Calls Tryd.prog 14 #[] W fun e w' => e = .returned (.bool true) ∧ Below W.heap.size W w') := fun W hW => sure_ W hW
  have HE := Lib.hid hE
  clear hE hx hy hz haa hba ha hb
  have Pa : Hid (In4 (((w.alloc (.cells #[.int .i64 k, .int .i64 n, .string t, .bool b] 23)).alloc (.cells #[.int .i64 k', .int .i64 n', .string t', .bool b'] 23)).alloc (.cells #[.int .i64 k2, .int .i64 n2, .string t2, .bool b2] 23)) (w.heap.size) 0 k n t b) := Lib.hid (by have := ((in4_new w k n t b 23).alloc (.cells #[.int .i64 k', .int .i64 n', .string t', .bool b'] 23)).alloc (.cells #[.int .i64 k2, .int .i64 n2, .string t2, .bool b2] 23); simpa using this)
  have Pb : Hid (In4 (((w.alloc (.cells #[.int .i64 k, .int .i64 n, .string t, .bool b] 23)).alloc (.cells #[.int .i64 k', .int .i64 n', .string t', .bool b'] 23)).alloc (.cells #[.int .i64 k2, .int .i64 n2, .string t2, .bool b2] 23)) (w.heap.size + 1) 0 k' n' t' b') := Lib.hid (by have := (in4_new (w.alloc (.cells #[.int .i64 k, .int .i64 n, .string t, .bool b] 23)) k' n' t' b' 23).alloc (.cells #[.int .i64 k2, .int .i64 n2, .string t2, .bool b2] 23); simpa using this)
  have Pc : Hid (In4 (((w.alloc (.cells #[.int .i64 k, .int .i64 n, .string t, .bool b] 23)).alloc (.cells #[.int .i64 k', .int .i64 n', .string t', .bool b'] 23)).alloc (.cells #[.int .i64 k2, .int .i64 n2, .string t2, .bool b2] 23)) (w.heap.size + 1 + 1) 0 k2 n2 t2 b2) := Lib.hid (by have := in4_new ((w.alloc (.cells #[.int .i64 k, .int .i64 n, .string t, .bool b] 23)).alloc (.cells #[.int .i64 k', .int .i64 n', .string t', .bool b'] 23)) k2 n2 t2 b2 23; simpa using this)
  have HB : Hid (Below w.heap.size w (((w.alloc (.cells #[.int .i64 k, .int .i64 n, .string t, .bool b] 23)).alloc (.cells #[.int .i64 k', .int .i64 n', .string t', .bool b'] 23)).alloc (.cells #[.int .i64 k2, .int .i64 n2, .string t2, .bool b2] 23))) := ((((Below.refl _ _).alloc (by simp) _).alloc (by simp) _).alloc (by simp; omega) _)
  go_enter Tryd.func6, Tryd.ntmps6
  go_wp2_with fail
  have HBq : Hid (Below w.heap.size w ((((w.alloc (.cells #[.int .i64 k, .int .i64 n, .string t, .bool b] 23)).alloc (.cells #[.int .i64 k', .int .i64 n', .string t', .bool b'] 23)).alloc (.cells #[.int .i64 k2, .int .i64 n2, .string t2, .bool b2] 23)))) := HB.out
  obtain ⟨ca0, ca1, ca2, ca3⟩ := Pa.out
  obtain ⟨cb0, cb1, cb2, cb3⟩ := Pb.out
  obtain ⟨cc0, cc1, cc2, cc3⟩ := Pc.out
  replace ca0 := cell_regrown ca0
  replace ca1 := cell_regrown ca1
  replace ca2 := cell_regrown ca2
  replace ca3 := cell_regrown ca3
  replace cb0 := cell_regrown cb0
  replace cb1 := cell_regrown cb1
  replace cb2 := cell_regrown cb2
  replace cb3 := cell_regrown cb3
  replace cc0 := cell_regrown cc0
  replace cc1 := cell_regrown cc1
  replace cc2 := cell_regrown cc2
  replace cc3 := cell_regrown cc3
  refine wp_region_quiet_below (by kernel_rfl) (by kernel_rfl) ?_
  repeat (go_big_quiet_step (first | (go_at_call_of 11 (#[.agg #[.int .i64 k, .int .i64 n, .string t, .bool b], .agg #[.int .i64 k', .int .i64 n', .string t', .bool b']] : Array Value); exact Calls.regrown_of (HAB.out _)) | (go_at_call_of 11 (#[.agg #[.int .i64 k', .int .i64 n', .string t', .bool b'], .agg #[.int .i64 k2, .int .i64 n2, .string t2, .bool b2]] : Array Value); exact Calls.regrown_of (HBC.out _))))
  refine wpQuiet_nil ?_
  intro _ hw'
  obtain ⟨⟨dq, osq⟩, hw''⟩ := hw'
  subst hw''
  have hbq := Lib.hid (below_step HBq.out (below_regrown ((((w.alloc (.cells #[.int .i64 k, .int .i64 n, .string t, .bool b] 23)).alloc (.cells #[.int .i64 k', .int .i64 n', .string t', .bool b'] 23)).alloc (.cells #[.int .i64 k2, .int .i64 n2, .string t2, .bool b2] 23))) dq osq))
  replace Pa := Lib.hid (Pa.out.on (below_regrown ((((w.alloc (.cells #[.int .i64 k, .int .i64 n, .string t, .bool b] 23)).alloc (.cells #[.int .i64 k', .int .i64 n', .string t', .bool b'] 23)).alloc (.cells #[.int .i64 k2, .int .i64 n2, .string t2, .bool b2] 23))) dq osq))
  replace Pb := Lib.hid (Pb.out.on (below_regrown ((((w.alloc (.cells #[.int .i64 k, .int .i64 n, .string t, .bool b] 23)).alloc (.cells #[.int .i64 k', .int .i64 n', .string t', .bool b'] 23)).alloc (.cells #[.int .i64 k2, .int .i64 n2, .string t2, .bool b2] 23))) dq osq))
  replace Pc := Lib.hid (Pc.out.on (below_regrown ((((w.alloc (.cells #[.int .i64 k, .int .i64 n, .string t, .bool b] 23)).alloc (.cells #[.int .i64 k', .int .i64 n', .string t', .bool b'] 23)).alloc (.cells #[.int .i64 k2, .int .i64 n2, .string t2, .bool b2] 23))) dq osq))
  clear HBq
  replace HB := hbq
  clear hbq
  clear ca0 ca1 ca2 ca3 cb0 cb1 cb2 cb3 cc0 cc1 cc2 cc3
  generalize grow (redrawn ((((w.alloc (.cells #[.int .i64 k, .int .i64 n, .string t, .bool b] 23)).alloc (.cells #[.int .i64 k', .int .i64 n', .string t', .bool b'] 23)).alloc (.cells #[.int .i64 k2, .int .i64 n2, .string t2, .bool b2] 23))) dq) osq = Q1 at *
  obtain ⟨ca0, ca1, ca2, ca3⟩ := Pa.out
  obtain ⟨cb0, cb1, cb2, cb3⟩ := Pb.out
  obtain ⟨cc0, cc1, cc2, cc3⟩ := Pc.out
  go_wp2_with fail
  refine (HAA.out _).mono ?_
  rintro e w1 ⟨rfl, hb1⟩
  clear ca0 ca1 ca2 ca3 cb0 cb1 cb2 cb3 cc0 cc1 cc2 cc3
  replace Pa := Lib.hid (Pa.out.on hb1)
  replace Pb := Lib.hid (Pb.out.on hb1)
  replace Pc := Lib.hid (Pc.out.on hb1)
  replace HB := Lib.hid (below_step HB.out hb1)
  clear hb1
  obtain ⟨ca0, ca1, ca2, ca3⟩ := Pa.out
  obtain ⟨cb0, cb1, cb2, cb3⟩ := Pb.out
  obtain ⟨cc0, cc1, cc2, cc3⟩ := Pc.out
  go_wp2_with fail
  refine (HBA.out _).mono ?_
  rintro e w2 ⟨rfl, hb2⟩
  clear ca0 ca1 ca2 ca3 cb0 cb1 cb2 cb3 cc0 cc1 cc2 cc3
  replace Pa := Lib.hid (Pa.out.on hb2)
  replace Pb := Lib.hid (Pb.out.on hb2)
  replace Pc := Lib.hid (Pc.out.on hb2)
  replace HB := Lib.hid (below_step HB.out hb2)
  clear hb2
  obtain ⟨ca0, ca1, ca2, ca3⟩ := Pa.out
  obtain ⟨cb0, cb1, cb2, cb3⟩ := Pb.out
  obtain ⟨cc0, cc1, cc2, cc3⟩ := Pc.out
  go_wp2_with fail
  refine (HAC.out _).mono ?_
  rintro e w3 ⟨rfl, hb3⟩
  clear ca0 ca1 ca2 ca3 cb0 cb1 cb2 cb3 cc0 cc1 cc2 cc3
  replace Pa := Lib.hid (Pa.out.on hb3)
  replace Pb := Lib.hid (Pb.out.on hb3)
  replace Pc := Lib.hid (Pc.out.on hb3)
  replace HB := Lib.hid (below_step HB.out hb3)
  clear hb3
  obtain ⟨ca0, ca1, ca2, ca3⟩ := Pa.out
  obtain ⟨cb0, cb1, cb2, cb3⟩ := Pb.out
  obtain ⟨cc0, cc1, cc2, cc3⟩ := Pc.out
  go_wp2_with fail
  refine (HAC.out _).mono ?_
  rintro e w4 ⟨rfl, hb4⟩
  clear ca0 ca1 ca2 ca3 cb0 cb1 cb2 cb3 cc0 cc1 cc2 cc3
  replace Pa := Lib.hid (Pa.out.on hb4)
  replace Pb := Lib.hid (Pb.out.on hb4)
  replace Pc := Lib.hid (Pc.out.on hb4)
  replace HB := Lib.hid (below_step HB.out hb4)
  clear hb4
  obtain ⟨ca0, ca1, ca2, ca3⟩ := Pa.out
  obtain ⟨cb0, cb1, cb2, cb3⟩ := Pb.out
  obtain ⟨cc0, cc1, cc2, cc3⟩ := Pc.out
  go_wp2_with fail
  refine (HVA.out _).mono ?_
  rintro e w5 ⟨rfl, hb5⟩
  clear ca0 ca1 ca2 ca3 cb0 cb1 cb2 cb3 cc0 cc1 cc2 cc3
  replace Pa := Lib.hid (Pa.out.on hb5)
  replace Pb := Lib.hid (Pb.out.on hb5)
  replace Pc := Lib.hid (Pc.out.on hb5)
  replace HB := Lib.hid (below_step HB.out hb5)
  clear hb5
  obtain ⟨ca0, ca1, ca2, ca3⟩ := Pa.out
  obtain ⟨cb0, cb1, cb2, cb3⟩ := Pb.out
  obtain ⟨cc0, cc1, cc2, cc3⟩ := Pc.out
  go_wp2_with fail
  refine (HVB.out _).mono ?_
  rintro e w6 ⟨rfl, hb6⟩
  clear ca0 ca1 ca2 ca3 cb0 cb1 cb2 cb3 cc0 cc1 cc2 cc3
  replace Pa := Lib.hid (Pa.out.on hb6)
  replace Pb := Lib.hid (Pb.out.on hb6)
  replace Pc := Lib.hid (Pc.out.on hb6)
  replace HB := Lib.hid (below_step HB.out hb6)
  clear hb6
  obtain ⟨ca0, ca1, ca2, ca3⟩ := Pa.out
  obtain ⟨cb0, cb1, cb2, cb3⟩ := Pb.out
  obtain ⟨cc0, cc1, cc2, cc3⟩ := Pc.out
  go_wp2_with fail
  refine (HS.out _ (HE.out.on HB.out)).mono ?_
  rintro e w7 ⟨rfl, hb7⟩
  clear ca0 ca1 ca2 ca3 cb0 cb1 cb2 cb3 cc0 cc1 cc2 cc3
  replace Pa := Lib.hid (Pa.out.on hb7)
  replace Pb := Lib.hid (Pb.out.on hb7)
  replace Pc := Lib.hid (Pc.out.on hb7)
  replace HB := Lib.hid (below_step HB.out hb7)
  clear hb7
  obtain ⟨ca0, ca1, ca2, ca3⟩ := Pa.out
  obtain ⟨cb0, cb1, cb2, cb3⟩ := Pb.out
  obtain ⟨cc0, cc1, cc2, cc3⟩ := Pc.out
  go_wp2_with fail
  go_ret
  exact ⟨rfl, HB.out⟩
set_option maxHeartbeats 4000000 in
theorem order_zz_abad (k n : Int) (t : ByteArray) (b : Bool) (k' n' : Int) (t' : ByteArray) (b' : Bool) (k2 n2 : Int) (t2 : ByteArray) (b2 : Bool) (w : World) (hE : Env w) (hx : cmpV ⟨k, n, t, b⟩ ⟨k', n', t', b'⟩ = 0) (hy : cmpV ⟨k', n', t', b'⟩ ⟨k2, n2, t2, b2⟩ = 0) (hz : cmpV ⟨k, n, t, b⟩ ⟨k2, n2, t2, b2⟩ = 0) (ha : validN ⟨k, n, t, b⟩ ≠ 0) :
    Calls Tryd.prog 6 #[.agg #[.int .i64 k, .int .i64 n, .string t, .bool b], .agg #[.int .i64 k', .int .i64 n', .string t', .bool b'], .agg #[.int .i64 k2, .int .i64 n2, .string t2, .bool b2]] w fun e w' => e = .returned (.bool true) ∧ Below w.heap.size w w' := by
  have haa : cmpV ⟨k, n, t, b⟩ ⟨k, n, t, b⟩ = 0 := ordered_val.refl _
  have hba : cmpV ⟨k', n', t', b'⟩ ⟨k, n, t, b⟩ = 0 := by have := ordered_val.anti ⟨k, n, t, b⟩ ⟨k', n', t', b'⟩; omega
  have HAB : Hid (∀ W, Calls Tryd.prog 11 #[.agg #[.int .i64 k, .int .i64 n, .string t, .bool b], .agg #[.int .i64 k', .int .i64 n', .string t', .bool b']] W fun e w' => e = .returned (.int .i64 0) ∧ Below W.heap.size W w') := fun W => by rw [← hx]; exact comp_ k n t b k' n' t' b' W
  have HBC : Hid (∀ W, Calls Tryd.prog 11 #[.agg #[.int .i64 k', .int .i64 n', .string t', .bool b'], .agg #[.int .i64 k2, .int .i64 n2, .string t2, .bool b2]] W fun e w' => e = .returned (.int .i64 0) ∧ Below W.heap.size W w') := fun W => by rw [← hy]; exact comp_ k' n' t' b' k2 n2 t2 b2 W
  have HAC : Hid (∀ W, Calls Tryd.prog 11 #[.agg #[.int .i64 k, .int .i64 n, .string t, .bool b], .agg #[.int .i64 k2, .int .i64 n2, .string t2, .bool b2]] W fun e w' => e = .returned (.int .i64 0) ∧ Below W.heap.size W w') := fun W => by rw [← hz]; exact comp_ k n t b k2 n2 t2 b2 W
  have HAA : Hid (∀ W, Calls Tryd.prog 11 #[.agg #[.int .i64 k, .int .i64 n, .string t, .bool b], .agg #[.int .i64 k, .int .i64 n, .string t, .bool b]] W fun e w' => e = .returned (.int .i64 0) ∧ Below W.heap.size W w') := fun W => by rw [← haa]; exact comp_ k n t b k n t b W
  have HBA : Hid (∀ W, Calls Tryd.prog 11 #[.agg #[.int .i64 k', .int .i64 n', .string t', .bool b'], .agg #[.int .i64 k, .int .i64 n, .string t, .bool b]] W fun e w' => e = .returned (.int .i64 0) ∧ Below W.heap.size W w') := fun W => by rw [← hba]; exact comp_ k' n' t' b' k n t b W
  obtain ⟨EA, hEA⟩ : ∃ E, errV 45 (validN ⟨k, n, t, b⟩) = .iface 45 (.int .i64 E) := ⟨_, by rw [errV, if_neg ha]⟩
  have HVA : Hid (∀ W, Calls Tryd.prog 25 #[.agg #[.int .i64 k, .int .i64 n, .string t, .bool b]] W fun e w' => e = .returned (.iface 45 (.int .i64 EA)) ∧ Below W.heap.size W w') := fun W => by rw [← hEA]; exact valid_ k n t b W
  have HS : Hid (∀ W, Env W → Calls Tryd.prog 14 #[] W fun e w' => e = .returned (.bool true) ∧ Below W.heap.size W w') := fun W hW => sure_ W hW
  have HE := Lib.hid hE
  clear hE hx hy hz haa hba ha hEA
  have Pa : Hid (In4 (((w.alloc (.cells #[.int .i64 k, .int .i64 n, .string t, .bool b] 23)).alloc (.cells #[.int .i64 k', .int .i64 n', .string t', .bool b'] 23)).alloc (.cells #[.int .i64 k2, .int .i64 n2, .string t2, .bool b2] 23)) (w.heap.size) 0 k n t b) := Lib.hid (by have := ((in4_new w k n t b 23).alloc (.cells #[.int .i64 k', .int .i64 n', .string t', .bool b'] 23)).alloc (.cells #[.int .i64 k2, .int .i64 n2, .string t2, .bool b2] 23); simpa using this)
  have Pb : Hid (In4 (((w.alloc (.cells #[.int .i64 k, .int .i64 n, .string t, .bool b] 23)).alloc (.cells #[.int .i64 k', .int .i64 n', .string t', .bool b'] 23)).alloc (.cells #[.int .i64 k2, .int .i64 n2, .string t2, .bool b2] 23)) (w.heap.size + 1) 0 k' n' t' b') := Lib.hid (by have := (in4_new (w.alloc (.cells #[.int .i64 k, .int .i64 n, .string t, .bool b] 23)) k' n' t' b' 23).alloc (.cells #[.int .i64 k2, .int .i64 n2, .string t2, .bool b2] 23); simpa using this)
  have Pc : Hid (In4 (((w.alloc (.cells #[.int .i64 k, .int .i64 n, .string t, .bool b] 23)).alloc (.cells #[.int .i64 k', .int .i64 n', .string t', .bool b'] 23)).alloc (.cells #[.int .i64 k2, .int .i64 n2, .string t2, .bool b2] 23)) (w.heap.size + 1 + 1) 0 k2 n2 t2 b2) := Lib.hid (by have := in4_new ((w.alloc (.cells #[.int .i64 k, .int .i64 n, .string t, .bool b] 23)).alloc (.cells #[.int .i64 k', .int .i64 n', .string t', .bool b'] 23)) k2 n2 t2 b2 23; simpa using this)
  have HB : Hid (Below w.heap.size w (((w.alloc (.cells #[.int .i64 k, .int .i64 n, .string t, .bool b] 23)).alloc (.cells #[.int .i64 k', .int .i64 n', .string t', .bool b'] 23)).alloc (.cells #[.int .i64 k2, .int .i64 n2, .string t2, .bool b2] 23))) := ((((Below.refl _ _).alloc (by simp) _).alloc (by simp) _).alloc (by simp; omega) _)
  go_enter Tryd.func6, Tryd.ntmps6
  go_wp2_with fail
  have HBq : Hid (Below w.heap.size w ((((w.alloc (.cells #[.int .i64 k, .int .i64 n, .string t, .bool b] 23)).alloc (.cells #[.int .i64 k', .int .i64 n', .string t', .bool b'] 23)).alloc (.cells #[.int .i64 k2, .int .i64 n2, .string t2, .bool b2] 23)))) := HB.out
  obtain ⟨ca0, ca1, ca2, ca3⟩ := Pa.out
  obtain ⟨cb0, cb1, cb2, cb3⟩ := Pb.out
  obtain ⟨cc0, cc1, cc2, cc3⟩ := Pc.out
  replace ca0 := cell_regrown ca0
  replace ca1 := cell_regrown ca1
  replace ca2 := cell_regrown ca2
  replace ca3 := cell_regrown ca3
  replace cb0 := cell_regrown cb0
  replace cb1 := cell_regrown cb1
  replace cb2 := cell_regrown cb2
  replace cb3 := cell_regrown cb3
  replace cc0 := cell_regrown cc0
  replace cc1 := cell_regrown cc1
  replace cc2 := cell_regrown cc2
  replace cc3 := cell_regrown cc3
  refine wp_region_quiet_below (by kernel_rfl) (by kernel_rfl) ?_
  repeat (go_big_quiet_step (first | (go_at_call_of 11 (#[.agg #[.int .i64 k, .int .i64 n, .string t, .bool b], .agg #[.int .i64 k', .int .i64 n', .string t', .bool b']] : Array Value); exact Calls.regrown_of (HAB.out _)) | (go_at_call_of 11 (#[.agg #[.int .i64 k', .int .i64 n', .string t', .bool b'], .agg #[.int .i64 k2, .int .i64 n2, .string t2, .bool b2]] : Array Value); exact Calls.regrown_of (HBC.out _))))
  refine wpQuiet_nil ?_
  intro _ hw'
  obtain ⟨⟨dq, osq⟩, hw''⟩ := hw'
  subst hw''
  have hbq := Lib.hid (below_step HBq.out (below_regrown ((((w.alloc (.cells #[.int .i64 k, .int .i64 n, .string t, .bool b] 23)).alloc (.cells #[.int .i64 k', .int .i64 n', .string t', .bool b'] 23)).alloc (.cells #[.int .i64 k2, .int .i64 n2, .string t2, .bool b2] 23))) dq osq))
  replace Pa := Lib.hid (Pa.out.on (below_regrown ((((w.alloc (.cells #[.int .i64 k, .int .i64 n, .string t, .bool b] 23)).alloc (.cells #[.int .i64 k', .int .i64 n', .string t', .bool b'] 23)).alloc (.cells #[.int .i64 k2, .int .i64 n2, .string t2, .bool b2] 23))) dq osq))
  replace Pb := Lib.hid (Pb.out.on (below_regrown ((((w.alloc (.cells #[.int .i64 k, .int .i64 n, .string t, .bool b] 23)).alloc (.cells #[.int .i64 k', .int .i64 n', .string t', .bool b'] 23)).alloc (.cells #[.int .i64 k2, .int .i64 n2, .string t2, .bool b2] 23))) dq osq))
  replace Pc := Lib.hid (Pc.out.on (below_regrown ((((w.alloc (.cells #[.int .i64 k, .int .i64 n, .string t, .bool b] 23)).alloc (.cells #[.int .i64 k', .int .i64 n', .string t', .bool b'] 23)).alloc (.cells #[.int .i64 k2, .int .i64 n2, .string t2, .bool b2] 23))) dq osq))
  clear HBq
  replace HB := hbq
  clear hbq
  clear ca0 ca1 ca2 ca3 cb0 cb1 cb2 cb3 cc0 cc1 cc2 cc3
  generalize grow (redrawn ((((w.alloc (.cells #[.int .i64 k, .int .i64 n, .string t, .bool b] 23)).alloc (.cells #[.int .i64 k', .int .i64 n', .string t', .bool b'] 23)).alloc (.cells #[.int .i64 k2, .int .i64 n2, .string t2, .bool b2] 23))) dq) osq = Q1 at *
  obtain ⟨ca0, ca1, ca2, ca3⟩ := Pa.out
  obtain ⟨cb0, cb1, cb2, cb3⟩ := Pb.out
  obtain ⟨cc0, cc1, cc2, cc3⟩ := Pc.out
  go_wp2_with fail
  refine (HAA.out _).mono ?_
  rintro e w1 ⟨rfl, hb1⟩
  clear ca0 ca1 ca2 ca3 cb0 cb1 cb2 cb3 cc0 cc1 cc2 cc3
  replace Pa := Lib.hid (Pa.out.on hb1)
  replace Pb := Lib.hid (Pb.out.on hb1)
  replace Pc := Lib.hid (Pc.out.on hb1)
  replace HB := Lib.hid (below_step HB.out hb1)
  clear hb1
  obtain ⟨ca0, ca1, ca2, ca3⟩ := Pa.out
  obtain ⟨cb0, cb1, cb2, cb3⟩ := Pb.out
  obtain ⟨cc0, cc1, cc2, cc3⟩ := Pc.out
  go_wp2_with fail
  refine (HBA.out _).mono ?_
  rintro e w2 ⟨rfl, hb2⟩
  clear ca0 ca1 ca2 ca3 cb0 cb1 cb2 cb3 cc0 cc1 cc2 cc3
  replace Pa := Lib.hid (Pa.out.on hb2)
  replace Pb := Lib.hid (Pb.out.on hb2)
  replace Pc := Lib.hid (Pc.out.on hb2)
  replace HB := Lib.hid (below_step HB.out hb2)
  clear hb2
  obtain ⟨ca0, ca1, ca2, ca3⟩ := Pa.out
  obtain ⟨cb0, cb1, cb2, cb3⟩ := Pb.out
  obtain ⟨cc0, cc1, cc2, cc3⟩ := Pc.out
  go_wp2_with fail
  refine (HAC.out _).mono ?_
  rintro e w3 ⟨rfl, hb3⟩
  clear ca0 ca1 ca2 ca3 cb0 cb1 cb2 cb3 cc0 cc1 cc2 cc3
  replace Pa := Lib.hid (Pa.out.on hb3)
  replace Pb := Lib.hid (Pb.out.on hb3)
  replace Pc := Lib.hid (Pc.out.on hb3)
  replace HB := Lib.hid (below_step HB.out hb3)
  clear hb3
  obtain ⟨ca0, ca1, ca2, ca3⟩ := Pa.out
  obtain ⟨cb0, cb1, cb2, cb3⟩ := Pb.out
  obtain ⟨cc0, cc1, cc2, cc3⟩ := Pc.out
  go_wp2_with fail
  refine (HVA.out _).mono ?_
  rintro e w4 ⟨rfl, hb4⟩
  clear ca0 ca1 ca2 ca3 cb0 cb1 cb2 cb3 cc0 cc1 cc2 cc3
  replace Pa := Lib.hid (Pa.out.on hb4)
  replace Pb := Lib.hid (Pb.out.on hb4)
  replace Pc := Lib.hid (Pc.out.on hb4)
  replace HB := Lib.hid (below_step HB.out hb4)
  clear hb4
  obtain ⟨ca0, ca1, ca2, ca3⟩ := Pa.out
  obtain ⟨cb0, cb1, cb2, cb3⟩ := Pb.out
  obtain ⟨cc0, cc1, cc2, cc3⟩ := Pc.out
  go_wp2_with fail
  refine (HS.out _ (HE.out.on HB.out)).mono ?_
  rintro e w5 ⟨rfl, hb5⟩
  clear ca0 ca1 ca2 ca3 cb0 cb1 cb2 cb3 cc0 cc1 cc2 cc3
  replace Pa := Lib.hid (Pa.out.on hb5)
  replace Pb := Lib.hid (Pb.out.on hb5)
  replace Pc := Lib.hid (Pc.out.on hb5)
  replace HB := Lib.hid (below_step HB.out hb5)
  clear hb5
  obtain ⟨ca0, ca1, ca2, ca3⟩ := Pa.out
  obtain ⟨cb0, cb1, cb2, cb3⟩ := Pb.out
  obtain ⟨cc0, cc1, cc2, cc3⟩ := Pc.out
  go_wp2_with fail
  go_ret
  exact ⟨rfl, HB.out⟩
set_option maxHeartbeats 4000000 in
theorem order_zz_bbad (k n : Int) (t : ByteArray) (b : Bool) (k' n' : Int) (t' : ByteArray) (b' : Bool) (k2 n2 : Int) (t2 : ByteArray) (b2 : Bool) (w : World) (hE : Env w) (hx : cmpV ⟨k, n, t, b⟩ ⟨k', n', t', b'⟩ = 0) (hy : cmpV ⟨k', n', t', b'⟩ ⟨k2, n2, t2, b2⟩ = 0) (hz : cmpV ⟨k, n, t, b⟩ ⟨k2, n2, t2, b2⟩ = 0) (ha : validN ⟨k, n, t, b⟩ = 0) (hb : validN ⟨k', n', t', b'⟩ ≠ 0) :
    Calls Tryd.prog 6 #[.agg #[.int .i64 k, .int .i64 n, .string t, .bool b], .agg #[.int .i64 k', .int .i64 n', .string t', .bool b'], .agg #[.int .i64 k2, .int .i64 n2, .string t2, .bool b2]] w fun e w' => e = .returned (.bool true) ∧ Below w.heap.size w w' := by
  have haa : cmpV ⟨k, n, t, b⟩ ⟨k, n, t, b⟩ = 0 := ordered_val.refl _
  have hba : cmpV ⟨k', n', t', b'⟩ ⟨k, n, t, b⟩ = 0 := by have := ordered_val.anti ⟨k, n, t, b⟩ ⟨k', n', t', b'⟩; omega
  have HAB : Hid (∀ W, Calls Tryd.prog 11 #[.agg #[.int .i64 k, .int .i64 n, .string t, .bool b], .agg #[.int .i64 k', .int .i64 n', .string t', .bool b']] W fun e w' => e = .returned (.int .i64 0) ∧ Below W.heap.size W w') := fun W => by rw [← hx]; exact comp_ k n t b k' n' t' b' W
  have HBC : Hid (∀ W, Calls Tryd.prog 11 #[.agg #[.int .i64 k', .int .i64 n', .string t', .bool b'], .agg #[.int .i64 k2, .int .i64 n2, .string t2, .bool b2]] W fun e w' => e = .returned (.int .i64 0) ∧ Below W.heap.size W w') := fun W => by rw [← hy]; exact comp_ k' n' t' b' k2 n2 t2 b2 W
  have HAC : Hid (∀ W, Calls Tryd.prog 11 #[.agg #[.int .i64 k, .int .i64 n, .string t, .bool b], .agg #[.int .i64 k2, .int .i64 n2, .string t2, .bool b2]] W fun e w' => e = .returned (.int .i64 0) ∧ Below W.heap.size W w') := fun W => by rw [← hz]; exact comp_ k n t b k2 n2 t2 b2 W
  have HAA : Hid (∀ W, Calls Tryd.prog 11 #[.agg #[.int .i64 k, .int .i64 n, .string t, .bool b], .agg #[.int .i64 k, .int .i64 n, .string t, .bool b]] W fun e w' => e = .returned (.int .i64 0) ∧ Below W.heap.size W w') := fun W => by rw [← haa]; exact comp_ k n t b k n t b W
  have HBA : Hid (∀ W, Calls Tryd.prog 11 #[.agg #[.int .i64 k', .int .i64 n', .string t', .bool b'], .agg #[.int .i64 k, .int .i64 n, .string t, .bool b]] W fun e w' => e = .returned (.int .i64 0) ∧ Below W.heap.size W w') := fun W => by rw [← hba]; exact comp_ k' n' t' b' k n t b W
  have HVA : Hid (∀ W, Calls Tryd.prog 25 #[.agg #[.int .i64 k, .int .i64 n, .string t, .bool b]] W fun e w' => e = .returned (.nilIface) ∧ Below W.heap.size W w') := fun W => by have := valid_ k n t b W; rw [ha] at this; exact this
  obtain ⟨EB, hEB⟩ : ∃ E, errV 45 (validN ⟨k', n', t', b'⟩) = .iface 45 (.int .i64 E) := ⟨_, by rw [errV, if_neg hb]⟩
  have HVB : Hid (∀ W, Calls Tryd.prog 25 #[.agg #[.int .i64 k', .int .i64 n', .string t', .bool b']] W fun e w' => e = .returned (.iface 45 (.int .i64 EB)) ∧ Below W.heap.size W w') := fun W => by rw [← hEB]; exact valid_ k' n' t' b' W
  have HS : Hid (∀ W, Env W → Calls Tryd.prog 14 #[] W fun e w' => e = .returned (.bool true) ∧ Below W.heap.size W w') := fun W hW => sure_ W hW
  have HE := Lib.hid hE
  clear hE hx hy hz haa hba ha hb hEB
  have Pa : Hid (In4 (((w.alloc (.cells #[.int .i64 k, .int .i64 n, .string t, .bool b] 23)).alloc (.cells #[.int .i64 k', .int .i64 n', .string t', .bool b'] 23)).alloc (.cells #[.int .i64 k2, .int .i64 n2, .string t2, .bool b2] 23)) (w.heap.size) 0 k n t b) := Lib.hid (by have := ((in4_new w k n t b 23).alloc (.cells #[.int .i64 k', .int .i64 n', .string t', .bool b'] 23)).alloc (.cells #[.int .i64 k2, .int .i64 n2, .string t2, .bool b2] 23); simpa using this)
  have Pb : Hid (In4 (((w.alloc (.cells #[.int .i64 k, .int .i64 n, .string t, .bool b] 23)).alloc (.cells #[.int .i64 k', .int .i64 n', .string t', .bool b'] 23)).alloc (.cells #[.int .i64 k2, .int .i64 n2, .string t2, .bool b2] 23)) (w.heap.size + 1) 0 k' n' t' b') := Lib.hid (by have := (in4_new (w.alloc (.cells #[.int .i64 k, .int .i64 n, .string t, .bool b] 23)) k' n' t' b' 23).alloc (.cells #[.int .i64 k2, .int .i64 n2, .string t2, .bool b2] 23); simpa using this)
  have Pc : Hid (In4 (((w.alloc (.cells #[.int .i64 k, .int .i64 n, .string t, .bool b] 23)).alloc (.cells #[.int .i64 k', .int .i64 n', .string t', .bool b'] 23)).alloc (.cells #[.int .i64 k2, .int .i64 n2, .string t2, .bool b2] 23)) (w.heap.size + 1 + 1) 0 k2 n2 t2 b2) := Lib.hid (by have := in4_new ((w.alloc (.cells #[.int .i64 k, .int .i64 n, .string t, .bool b] 23)).alloc (.cells #[.int .i64 k', .int .i64 n', .string t', .bool b'] 23)) k2 n2 t2 b2 23; simpa using this)
  have HB : Hid (Below w.heap.size w (((w.alloc (.cells #[.int .i64 k, .int .i64 n, .string t, .bool b] 23)).alloc (.cells #[.int .i64 k', .int .i64 n', .string t', .bool b'] 23)).alloc (.cells #[.int .i64 k2, .int .i64 n2, .string t2, .bool b2] 23))) := ((((Below.refl _ _).alloc (by simp) _).alloc (by simp) _).alloc (by simp; omega) _)
  go_enter Tryd.func6, Tryd.ntmps6
  go_wp2_with fail
  have HBq : Hid (Below w.heap.size w ((((w.alloc (.cells #[.int .i64 k, .int .i64 n, .string t, .bool b] 23)).alloc (.cells #[.int .i64 k', .int .i64 n', .string t', .bool b'] 23)).alloc (.cells #[.int .i64 k2, .int .i64 n2, .string t2, .bool b2] 23)))) := HB.out
  obtain ⟨ca0, ca1, ca2, ca3⟩ := Pa.out
  obtain ⟨cb0, cb1, cb2, cb3⟩ := Pb.out
  obtain ⟨cc0, cc1, cc2, cc3⟩ := Pc.out
  replace ca0 := cell_regrown ca0
  replace ca1 := cell_regrown ca1
  replace ca2 := cell_regrown ca2
  replace ca3 := cell_regrown ca3
  replace cb0 := cell_regrown cb0
  replace cb1 := cell_regrown cb1
  replace cb2 := cell_regrown cb2
  replace cb3 := cell_regrown cb3
  replace cc0 := cell_regrown cc0
  replace cc1 := cell_regrown cc1
  replace cc2 := cell_regrown cc2
  replace cc3 := cell_regrown cc3
  refine wp_region_quiet_below (by kernel_rfl) (by kernel_rfl) ?_
  repeat (go_big_quiet_step (first | (go_at_call_of 11 (#[.agg #[.int .i64 k, .int .i64 n, .string t, .bool b], .agg #[.int .i64 k', .int .i64 n', .string t', .bool b']] : Array Value); exact Calls.regrown_of (HAB.out _)) | (go_at_call_of 11 (#[.agg #[.int .i64 k', .int .i64 n', .string t', .bool b'], .agg #[.int .i64 k2, .int .i64 n2, .string t2, .bool b2]] : Array Value); exact Calls.regrown_of (HBC.out _))))
  refine wpQuiet_nil ?_
  intro _ hw'
  obtain ⟨⟨dq, osq⟩, hw''⟩ := hw'
  subst hw''
  have hbq := Lib.hid (below_step HBq.out (below_regrown ((((w.alloc (.cells #[.int .i64 k, .int .i64 n, .string t, .bool b] 23)).alloc (.cells #[.int .i64 k', .int .i64 n', .string t', .bool b'] 23)).alloc (.cells #[.int .i64 k2, .int .i64 n2, .string t2, .bool b2] 23))) dq osq))
  replace Pa := Lib.hid (Pa.out.on (below_regrown ((((w.alloc (.cells #[.int .i64 k, .int .i64 n, .string t, .bool b] 23)).alloc (.cells #[.int .i64 k', .int .i64 n', .string t', .bool b'] 23)).alloc (.cells #[.int .i64 k2, .int .i64 n2, .string t2, .bool b2] 23))) dq osq))
  replace Pb := Lib.hid (Pb.out.on (below_regrown ((((w.alloc (.cells #[.int .i64 k, .int .i64 n, .string t, .bool b] 23)).alloc (.cells #[.int .i64 k', .int .i64 n', .string t', .bool b'] 23)).alloc (.cells #[.int .i64 k2, .int .i64 n2, .string t2, .bool b2] 23))) dq osq))
  replace Pc := Lib.hid (Pc.out.on (below_regrown ((((w.alloc (.cells #[.int .i64 k, .int .i64 n, .string t, .bool b] 23)).alloc (.cells #[.int .i64 k', .int .i64 n', .string t', .bool b'] 23)).alloc (.cells #[.int .i64 k2, .int .i64 n2, .string t2, .bool b2] 23))) dq osq))
  clear HBq
  replace HB := hbq
  clear hbq
  clear ca0 ca1 ca2 ca3 cb0 cb1 cb2 cb3 cc0 cc1 cc2 cc3
  generalize grow (redrawn ((((w.alloc (.cells #[.int .i64 k, .int .i64 n, .string t, .bool b] 23)).alloc (.cells #[.int .i64 k', .int .i64 n', .string t', .bool b'] 23)).alloc (.cells #[.int .i64 k2, .int .i64 n2, .string t2, .bool b2] 23))) dq) osq = Q1 at *
  obtain ⟨ca0, ca1, ca2, ca3⟩ := Pa.out
  obtain ⟨cb0, cb1, cb2, cb3⟩ := Pb.out
  obtain ⟨cc0, cc1, cc2, cc3⟩ := Pc.out
  go_wp2_with fail
  refine (HAA.out _).mono ?_
  rintro e w1 ⟨rfl, hb1⟩
  clear ca0 ca1 ca2 ca3 cb0 cb1 cb2 cb3 cc0 cc1 cc2 cc3
  replace Pa := Lib.hid (Pa.out.on hb1)
  replace Pb := Lib.hid (Pb.out.on hb1)
  replace Pc := Lib.hid (Pc.out.on hb1)
  replace HB := Lib.hid (below_step HB.out hb1)
  clear hb1
  obtain ⟨ca0, ca1, ca2, ca3⟩ := Pa.out
  obtain ⟨cb0, cb1, cb2, cb3⟩ := Pb.out
  obtain ⟨cc0, cc1, cc2, cc3⟩ := Pc.out
  go_wp2_with fail
  refine (HBA.out _).mono ?_
  rintro e w2 ⟨rfl, hb2⟩
  clear ca0 ca1 ca2 ca3 cb0 cb1 cb2 cb3 cc0 cc1 cc2 cc3
  replace Pa := Lib.hid (Pa.out.on hb2)
  replace Pb := Lib.hid (Pb.out.on hb2)
  replace Pc := Lib.hid (Pc.out.on hb2)
  replace HB := Lib.hid (below_step HB.out hb2)
  clear hb2
  obtain ⟨ca0, ca1, ca2, ca3⟩ := Pa.out
  obtain ⟨cb0, cb1, cb2, cb3⟩ := Pb.out
  obtain ⟨cc0, cc1, cc2, cc3⟩ := Pc.out
  go_wp2_with fail
  refine (HAC.out _).mono ?_
  rintro e w3 ⟨rfl, hb3⟩
  clear ca0 ca1 ca2 ca3 cb0 cb1 cb2 cb3 cc0 cc1 cc2 cc3
  replace Pa := Lib.hid (Pa.out.on hb3)
  replace Pb := Lib.hid (Pb.out.on hb3)
  replace Pc := Lib.hid (Pc.out.on hb3)
  replace HB := Lib.hid (below_step HB.out hb3)
  clear hb3
  obtain ⟨ca0, ca1, ca2, ca3⟩ := Pa.out
  obtain ⟨cb0, cb1, cb2, cb3⟩ := Pb.out
  obtain ⟨cc0, cc1, cc2, cc3⟩ := Pc.out
  go_wp2_with fail
  refine (HVA.out _).mono ?_
  rintro e w4 ⟨rfl, hb4⟩
  clear ca0 ca1 ca2 ca3 cb0 cb1 cb2 cb3 cc0 cc1 cc2 cc3
  replace Pa := Lib.hid (Pa.out.on hb4)
  replace Pb := Lib.hid (Pb.out.on hb4)
  replace Pc := Lib.hid (Pc.out.on hb4)
  replace HB := Lib.hid (below_step HB.out hb4)
  clear hb4
  obtain ⟨ca0, ca1, ca2, ca3⟩ := Pa.out
  obtain ⟨cb0, cb1, cb2, cb3⟩ := Pb.out
  obtain ⟨cc0, cc1, cc2, cc3⟩ := Pc.out
  go_wp2_with fail
  refine (HVB.out _).mono ?_
  rintro e w5 ⟨rfl, hb5⟩
  clear ca0 ca1 ca2 ca3 cb0 cb1 cb2 cb3 cc0 cc1 cc2 cc3
  replace Pa := Lib.hid (Pa.out.on hb5)
  replace Pb := Lib.hid (Pb.out.on hb5)
  replace Pc := Lib.hid (Pc.out.on hb5)
  replace HB := Lib.hid (below_step HB.out hb5)
  clear hb5
  obtain ⟨ca0, ca1, ca2, ca3⟩ := Pa.out
  obtain ⟨cb0, cb1, cb2, cb3⟩ := Pb.out
  obtain ⟨cc0, cc1, cc2, cc3⟩ := Pc.out
  go_wp2_with fail
  refine (HS.out _ (HE.out.on HB.out)).mono ?_
  rintro e w6 ⟨rfl, hb6⟩
  clear ca0 ca1 ca2 ca3 cb0 cb1 cb2 cb3 cc0 cc1 cc2 cc3
  replace Pa := Lib.hid (Pa.out.on hb6)
  replace Pb := Lib.hid (Pb.out.on hb6)
  replace Pc := Lib.hid (Pc.out.on hb6)
  replace HB := Lib.hid (below_step HB.out hb6)
  clear hb6
  obtain ⟨ca0, ca1, ca2, ca3⟩ := Pa.out
  obtain ⟨cb0, cb1, cb2, cb3⟩ := Pb.out
  obtain ⟨cc0, cc1, cc2, cc3⟩ := Pc.out
  go_wp2_with fail
  go_ret
  exact ⟨rfl, HB.out⟩
set_option maxHeartbeats 4000000 in
theorem order_zz_ok (k n : Int) (t : ByteArray) (b : Bool) (k' n' : Int) (t' : ByteArray) (b' : Bool) (k2 n2 : Int) (t2 : ByteArray) (b2 : Bool) (w : World) (hE : Env w) (hx : cmpV ⟨k, n, t, b⟩ ⟨k', n', t', b'⟩ = 0) (hy : cmpV ⟨k', n', t', b'⟩ ⟨k2, n2, t2, b2⟩ = 0) (hz : cmpV ⟨k, n, t, b⟩ ⟨k2, n2, t2, b2⟩ = 0) (ha : validN ⟨k, n, t, b⟩ = 0) (hb : validN ⟨k', n', t', b'⟩ = 0) :
    Calls Tryd.prog 6 #[.agg #[.int .i64 k, .int .i64 n, .string t, .bool b], .agg #[.int .i64 k', .int .i64 n', .string t', .bool b'], .agg #[.int .i64 k2, .int .i64 n2, .string t2, .bool b2]] w fun e w' => e = .returned (.bool true) ∧ Below w.heap.size w w' := by
  have haa : cmpV ⟨k, n, t, b⟩ ⟨k, n, t, b⟩ = 0 := ordered_val.refl _
  have hba : cmpV ⟨k', n', t', b'⟩ ⟨k, n, t, b⟩ = 0 := by have := ordered_val.anti ⟨k, n, t, b⟩ ⟨k', n', t', b'⟩; omega
  have HAB : Hid (∀ W, Calls Tryd.prog 11 #[.agg #[.int .i64 k, .int .i64 n, .string t, .bool b], .agg #[.int .i64 k', .int .i64 n', .string t', .bool b']] W fun e w' => e = .returned (.int .i64 0) ∧ Below W.heap.size W w') := fun W => by rw [← hx]; exact comp_ k n t b k' n' t' b' W
  have HBC : Hid (∀ W, Calls Tryd.prog 11 #[.agg #[.int .i64 k', .int .i64 n', .string t', .bool b'], .agg #[.int .i64 k2, .int .i64 n2, .string t2, .bool b2]] W fun e w' => e = .returned (.int .i64 0) ∧ Below W.heap.size W w') := fun W => by rw [← hy]; exact comp_ k' n' t' b' k2 n2 t2 b2 W
  have HAC : Hid (∀ W, Calls Tryd.prog 11 #[.agg #[.int .i64 k, .int .i64 n, .string t, .bool b], .agg #[.int .i64 k2, .int .i64 n2, .string t2, .bool b2]] W fun e w' => e = .returned (.int .i64 0) ∧ Below W.heap.size W w') := fun W => by rw [← hz]; exact comp_ k n t b k2 n2 t2 b2 W
  have HAA : Hid (∀ W, Calls Tryd.prog 11 #[.agg #[.int .i64 k, .int .i64 n, .string t, .bool b], .agg #[.int .i64 k, .int .i64 n, .string t, .bool b]] W fun e w' => e = .returned (.int .i64 0) ∧ Below W.heap.size W w') := fun W => by rw [← haa]; exact comp_ k n t b k n t b W
  have HBA : Hid (∀ W, Calls Tryd.prog 11 #[.agg #[.int .i64 k', .int .i64 n', .string t', .bool b'], .agg #[.int .i64 k, .int .i64 n, .string t, .bool b]] W fun e w' => e = .returned (.int .i64 0) ∧ Below W.heap.size W w') := fun W => by rw [← hba]; exact comp_ k' n' t' b' k n t b W
  have HVA : Hid (∀ W, Calls Tryd.prog 25 #[.agg #[.int .i64 k, .int .i64 n, .string t, .bool b]] W fun e w' => e = .returned (.nilIface) ∧ Below W.heap.size W w') := fun W => by have := valid_ k n t b W; rw [ha] at this; exact this
  have HVB : Hid (∀ W, Calls Tryd.prog 25 #[.agg #[.int .i64 k', .int .i64 n', .string t', .bool b']] W fun e w' => e = .returned (.nilIface) ∧ Below W.heap.size W w') := fun W => by have := valid_ k' n' t' b' W; rw [hb] at this; exact this
  have hEQ : ∀ W, (Op.equalIn 10000 23 (.agg #[.int .i64 k, .int .i64 n, .string t, .bool b]) (.agg #[.int .i64 k', .int .i64 n', .string t', .bool b'])).run Tryd.prog W = .ok true W := fun W => by rw [eqIn_, sameV_iff.2 (cmp_eq (fit_of_valid ha) (fit_of_valid hb) hx)]
  have hGD := guardV
  have HS : Hid (∀ W, Env W → Calls Tryd.prog 14 #[] W fun e w' => e = .returned (.bool true) ∧ Below W.heap.size W w') := fun W hW => sure_ W hW
  have HE := Lib.hid hE
  clear hE hx hy hz haa hba ha hb
  have Pa : Hid (In4 (((w.alloc (.cells #[.int .i64 k, .int .i64 n, .string t, .bool b] 23)).alloc (.cells #[.int .i64 k', .int .i64 n', .string t', .bool b'] 23)).alloc (.cells #[.int .i64 k2, .int .i64 n2, .string t2, .bool b2] 23)) (w.heap.size) 0 k n t b) := Lib.hid (by have := ((in4_new w k n t b 23).alloc (.cells #[.int .i64 k', .int .i64 n', .string t', .bool b'] 23)).alloc (.cells #[.int .i64 k2, .int .i64 n2, .string t2, .bool b2] 23); simpa using this)
  have Pb : Hid (In4 (((w.alloc (.cells #[.int .i64 k, .int .i64 n, .string t, .bool b] 23)).alloc (.cells #[.int .i64 k', .int .i64 n', .string t', .bool b'] 23)).alloc (.cells #[.int .i64 k2, .int .i64 n2, .string t2, .bool b2] 23)) (w.heap.size + 1) 0 k' n' t' b') := Lib.hid (by have := (in4_new (w.alloc (.cells #[.int .i64 k, .int .i64 n, .string t, .bool b] 23)) k' n' t' b' 23).alloc (.cells #[.int .i64 k2, .int .i64 n2, .string t2, .bool b2] 23); simpa using this)
  have Pc : Hid (In4 (((w.alloc (.cells #[.int .i64 k, .int .i64 n, .string t, .bool b] 23)).alloc (.cells #[.int .i64 k', .int .i64 n', .string t', .bool b'] 23)).alloc (.cells #[.int .i64 k2, .int .i64 n2, .string t2, .bool b2] 23)) (w.heap.size + 1 + 1) 0 k2 n2 t2 b2) := Lib.hid (by have := in4_new ((w.alloc (.cells #[.int .i64 k, .int .i64 n, .string t, .bool b] 23)).alloc (.cells #[.int .i64 k', .int .i64 n', .string t', .bool b'] 23)) k2 n2 t2 b2 23; simpa using this)
  have HB : Hid (Below w.heap.size w (((w.alloc (.cells #[.int .i64 k, .int .i64 n, .string t, .bool b] 23)).alloc (.cells #[.int .i64 k', .int .i64 n', .string t', .bool b'] 23)).alloc (.cells #[.int .i64 k2, .int .i64 n2, .string t2, .bool b2] 23))) := ((((Below.refl _ _).alloc (by simp) _).alloc (by simp) _).alloc (by simp; omega) _)
  go_enter Tryd.func6, Tryd.ntmps6
  go_wp2_with fail
  have HBq : Hid (Below w.heap.size w ((((w.alloc (.cells #[.int .i64 k, .int .i64 n, .string t, .bool b] 23)).alloc (.cells #[.int .i64 k', .int .i64 n', .string t', .bool b'] 23)).alloc (.cells #[.int .i64 k2, .int .i64 n2, .string t2, .bool b2] 23)))) := HB.out
  obtain ⟨ca0, ca1, ca2, ca3⟩ := Pa.out
  obtain ⟨cb0, cb1, cb2, cb3⟩ := Pb.out
  obtain ⟨cc0, cc1, cc2, cc3⟩ := Pc.out
  replace ca0 := cell_regrown ca0
  replace ca1 := cell_regrown ca1
  replace ca2 := cell_regrown ca2
  replace ca3 := cell_regrown ca3
  replace cb0 := cell_regrown cb0
  replace cb1 := cell_regrown cb1
  replace cb2 := cell_regrown cb2
  replace cb3 := cell_regrown cb3
  replace cc0 := cell_regrown cc0
  replace cc1 := cell_regrown cc1
  replace cc2 := cell_regrown cc2
  replace cc3 := cell_regrown cc3
  refine wp_region_quiet_below (by kernel_rfl) (by kernel_rfl) ?_
  repeat (go_big_quiet_step (first | (go_at_call_of 11 (#[.agg #[.int .i64 k, .int .i64 n, .string t, .bool b], .agg #[.int .i64 k', .int .i64 n', .string t', .bool b']] : Array Value); exact Calls.regrown_of (HAB.out _)) | (go_at_call_of 11 (#[.agg #[.int .i64 k', .int .i64 n', .string t', .bool b'], .agg #[.int .i64 k2, .int .i64 n2, .string t2, .bool b2]] : Array Value); exact Calls.regrown_of (HBC.out _))))
  refine wpQuiet_nil ?_
  intro _ hw'
  obtain ⟨⟨dq, osq⟩, hw''⟩ := hw'
  subst hw''
  have hbq := Lib.hid (below_step HBq.out (below_regrown ((((w.alloc (.cells #[.int .i64 k, .int .i64 n, .string t, .bool b] 23)).alloc (.cells #[.int .i64 k', .int .i64 n', .string t', .bool b'] 23)).alloc (.cells #[.int .i64 k2, .int .i64 n2, .string t2, .bool b2] 23))) dq osq))
  replace Pa := Lib.hid (Pa.out.on (below_regrown ((((w.alloc (.cells #[.int .i64 k, .int .i64 n, .string t, .bool b] 23)).alloc (.cells #[.int .i64 k', .int .i64 n', .string t', .bool b'] 23)).alloc (.cells #[.int .i64 k2, .int .i64 n2, .string t2, .bool b2] 23))) dq osq))
  replace Pb := Lib.hid (Pb.out.on (below_regrown ((((w.alloc (.cells #[.int .i64 k, .int .i64 n, .string t, .bool b] 23)).alloc (.cells #[.int .i64 k', .int .i64 n', .string t', .bool b'] 23)).alloc (.cells #[.int .i64 k2, .int .i64 n2, .string t2, .bool b2] 23))) dq osq))
  replace Pc := Lib.hid (Pc.out.on (below_regrown ((((w.alloc (.cells #[.int .i64 k, .int .i64 n, .string t, .bool b] 23)).alloc (.cells #[.int .i64 k', .int .i64 n', .string t', .bool b'] 23)).alloc (.cells #[.int .i64 k2, .int .i64 n2, .string t2, .bool b2] 23))) dq osq))
  clear HBq
  replace HB := hbq
  clear hbq
  clear ca0 ca1 ca2 ca3 cb0 cb1 cb2 cb3 cc0 cc1 cc2 cc3
  generalize grow (redrawn ((((w.alloc (.cells #[.int .i64 k, .int .i64 n, .string t, .bool b] 23)).alloc (.cells #[.int .i64 k', .int .i64 n', .string t', .bool b'] 23)).alloc (.cells #[.int .i64 k2, .int .i64 n2, .string t2, .bool b2] 23))) dq) osq = Q1 at *
  obtain ⟨ca0, ca1, ca2, ca3⟩ := Pa.out
  obtain ⟨cb0, cb1, cb2, cb3⟩ := Pb.out
  obtain ⟨cc0, cc1, cc2, cc3⟩ := Pc.out
  go_wp2_with fail
  refine (HAA.out _).mono ?_
  rintro e w1 ⟨rfl, hb1⟩
  clear ca0 ca1 ca2 ca3 cb0 cb1 cb2 cb3 cc0 cc1 cc2 cc3
  replace Pa := Lib.hid (Pa.out.on hb1)
  replace Pb := Lib.hid (Pb.out.on hb1)
  replace Pc := Lib.hid (Pc.out.on hb1)
  replace HB := Lib.hid (below_step HB.out hb1)
  clear hb1
  obtain ⟨ca0, ca1, ca2, ca3⟩ := Pa.out
  obtain ⟨cb0, cb1, cb2, cb3⟩ := Pb.out
  obtain ⟨cc0, cc1, cc2, cc3⟩ := Pc.out
  go_wp2_with fail
  refine (HBA.out _).mono ?_
  rintro e w2 ⟨rfl, hb2⟩
  clear ca0 ca1 ca2 ca3 cb0 cb1 cb2 cb3 cc0 cc1 cc2 cc3
  replace Pa := Lib.hid (Pa.out.on hb2)
  replace Pb := Lib.hid (Pb.out.on hb2)
  replace Pc := Lib.hid (Pc.out.on hb2)
  replace HB := Lib.hid (below_step HB.out hb2)
  clear hb2
  obtain ⟨ca0, ca1, ca2, ca3⟩ := Pa.out
  obtain ⟨cb0, cb1, cb2, cb3⟩ := Pb.out
  obtain ⟨cc0, cc1, cc2, cc3⟩ := Pc.out
  go_wp2_with fail
  refine (HAC.out _).mono ?_
  rintro e w3 ⟨rfl, hb3⟩
  clear ca0 ca1 ca2 ca3 cb0 cb1 cb2 cb3 cc0 cc1 cc2 cc3
  replace Pa := Lib.hid (Pa.out.on hb3)
  replace Pb := Lib.hid (Pb.out.on hb3)
  replace Pc := Lib.hid (Pc.out.on hb3)
  replace HB := Lib.hid (below_step HB.out hb3)
  clear hb3
  obtain ⟨ca0, ca1, ca2, ca3⟩ := Pa.out
  obtain ⟨cb0, cb1, cb2, cb3⟩ := Pb.out
  obtain ⟨cc0, cc1, cc2, cc3⟩ := Pc.out
  go_wp2_with fail
  refine (HVA.out _).mono ?_
  rintro e w4 ⟨rfl, hb4⟩
  clear ca0 ca1 ca2 ca3 cb0 cb1 cb2 cb3 cc0 cc1 cc2 cc3
  replace Pa := Lib.hid (Pa.out.on hb4)
  replace Pb := Lib.hid (Pb.out.on hb4)
  replace Pc := Lib.hid (Pc.out.on hb4)
  replace HB := Lib.hid (below_step HB.out hb4)
  clear hb4
  obtain ⟨ca0, ca1, ca2, ca3⟩ := Pa.out
  obtain ⟨cb0, cb1, cb2, cb3⟩ := Pb.out
  obtain ⟨cc0, cc1, cc2, cc3⟩ := Pc.out
  go_wp2_with fail
  refine (HVB.out _).mono ?_
  rintro e w5 ⟨rfl, hb5⟩
  clear ca0 ca1 ca2 ca3 cb0 cb1 cb2 cb3 cc0 cc1 cc2 cc3
  replace Pa := Lib.hid (Pa.out.on hb5)
  replace Pb := Lib.hid (Pb.out.on hb5)
  replace Pc := Lib.hid (Pc.out.on hb5)
  replace HB := Lib.hid (below_step HB.out hb5)
  clear hb5
  obtain ⟨ca0, ca1, ca2, ca3⟩ := Pa.out
  obtain ⟨cb0, cb1, cb2, cb3⟩ := Pb.out
  obtain ⟨cc0, cc1, cc2, cc3⟩ := Pc.out
  go_wp2_with fail
  refine (HS.out _ (HE.out.on HB.out)).mono ?_
  rintro e w6 ⟨rfl, hb6⟩
  clear ca0 ca1 ca2 ca3 cb0 cb1 cb2 cb3 cc0 cc1 cc2 cc3
  replace Pa := Lib.hid (Pa.out.on hb6)
  replace Pb := Lib.hid (Pb.out.on hb6)
  replace Pc := Lib.hid (Pc.out.on hb6)
  replace HB := Lib.hid (below_step HB.out hb6)
  clear hb6
  obtain ⟨ca0, ca1, ca2, ca3⟩ := Pa.out
  obtain ⟨cb0, cb1, cb2, cb3⟩ := Pb.out
  obtain ⟨cc0, cc1, cc2, cc3⟩ := Pc.out
  go_wp2_with fail
  go_ret
  exact ⟨rfl, HB.out⟩
set_option maxHeartbeats 4000000 in
theorem order_zp_abad (k n : Int) (t : ByteArray) (b : Bool) (k' n' : Int) (t' : ByteArray) (b' : Bool) (k2 n2 : Int) (t2 : ByteArray) (b2 : Bool) (w : World) (hE : Env w) (hx : cmpV ⟨k, n, t, b⟩ ⟨k', n', t', b'⟩ = 0) (hy : cmpV ⟨k', n', t', b'⟩ ⟨k2, n2, t2, b2⟩ = 1) (ha : validN ⟨k, n, t, b⟩ ≠ 0) :
    Calls Tryd.prog 6 #[.agg #[.int .i64 k, .int .i64 n, .string t, .bool b], .agg #[.int .i64 k', .int .i64 n', .string t', .bool b'], .agg #[.int .i64 k2, .int .i64 n2, .string t2, .bool b2]] w fun e w' => e = .returned (.bool true) ∧ Below w.heap.size w w' := by
  have haa : cmpV ⟨k, n, t, b⟩ ⟨k, n, t, b⟩ = 0 := ordered_val.refl _
  have hba : cmpV ⟨k', n', t', b'⟩ ⟨k, n, t, b⟩ = 0 := by have := ordered_val.anti ⟨k, n, t, b⟩ ⟨k', n', t', b'⟩; omega
  have HAB : Hid (∀ W, Calls Tryd.prog 11 #[.agg #[.int .i64 k, .int .i64 n, .string t, .bool b], .agg #[.int .i64 k', .int .i64 n', .string t', .bool b']] W fun e w' => e = .returned (.int .i64 0) ∧ Below W.heap.size W w') := fun W => by rw [← hx]; exact comp_ k n t b k' n' t' b' W
  have HBC : Hid (∀ W, Calls Tryd.prog 11 #[.agg #[.int .i64 k', .int .i64 n', .string t', .bool b'], .agg #[.int .i64 k2, .int .i64 n2, .string t2, .bool b2]] W fun e w' => e = .returned (.int .i64 1) ∧ Below W.heap.size W w') := fun W => by rw [← hy]; exact comp_ k' n' t' b' k2 n2 t2 b2 W
  have HAA : Hid (∀ W, Calls Tryd.prog 11 #[.agg #[.int .i64 k, .int .i64 n, .string t, .bool b], .agg #[.int .i64 k, .int .i64 n, .string t, .bool b]] W fun e w' => e = .returned (.int .i64 0) ∧ Below W.heap.size W w') := fun W => by rw [← haa]; exact comp_ k n t b k n t b W
  have HBA : Hid (∀ W, Calls Tryd.prog 11 #[.agg #[.int .i64 k', .int .i64 n', .string t', .bool b'], .agg #[.int .i64 k, .int .i64 n, .string t, .bool b]] W fun e w' => e = .returned (.int .i64 0) ∧ Below W.heap.size W w') := fun W => by rw [← hba]; exact comp_ k' n' t' b' k n t b W
  obtain ⟨EA, hEA⟩ : ∃ E, errV 45 (validN ⟨k, n, t, b⟩) = .iface 45 (.int .i64 E) := ⟨_, by rw [errV, if_neg ha]⟩
  have HVA : Hid (∀ W, Calls Tryd.prog 25 #[.agg #[.int .i64 k, .int .i64 n, .string t, .bool b]] W fun e w' => e = .returned (.iface 45 (.int .i64 EA)) ∧ Below W.heap.size W w') := fun W => by rw [← hEA]; exact valid_ k n t b W
  have HS : Hid (∀ W, Env W → Calls Tryd.prog 14 #[] W fun e w' => e = .returned (.bool true) ∧ Below W.heap.size W w') := fun W hW => sure_ W hW
  have HE := Lib.hid hE
  clear hE hx hy haa hba ha hEA
  have Pa : Hid (In4 (((w.alloc (.cells #[.int .i64 k, .int .i64 n, .string t, .bool b] 23)).alloc (.cells #[.int .i64 k', .int .i64 n', .string t', .bool b'] 23)).alloc (.cells #[.int .i64 k2, .int .i64 n2, .string t2, .bool b2] 23)) (w.heap.size) 0 k n t b) := Lib.hid (by have := ((in4_new w k n t b 23).alloc (.cells #[.int .i64 k', .int .i64 n', .string t', .bool b'] 23)).alloc (.cells #[.int .i64 k2, .int .i64 n2, .string t2, .bool b2] 23); simpa using this)
  have Pb : Hid (In4 (((w.alloc (.cells #[.int .i64 k, .int .i64 n, .string t, .bool b] 23)).alloc (.cells #[.int .i64 k', .int .i64 n', .string t', .bool b'] 23)).alloc (.cells #[.int .i64 k2, .int .i64 n2, .string t2, .bool b2] 23)) (w.heap.size + 1) 0 k' n' t' b') := Lib.hid (by have := (in4_new (w.alloc (.cells #[.int .i64 k, .int .i64 n, .string t, .bool b] 23)) k' n' t' b' 23).alloc (.cells #[.int .i64 k2, .int .i64 n2, .string t2, .bool b2] 23); simpa using this)
  have Pc : Hid (In4 (((w.alloc (.cells #[.int .i64 k, .int .i64 n, .string t, .bool b] 23)).alloc (.cells #[.int .i64 k', .int .i64 n', .string t', .bool b'] 23)).alloc (.cells #[.int .i64 k2, .int .i64 n2, .string t2, .bool b2] 23)) (w.heap.size + 1 + 1) 0 k2 n2 t2 b2) := Lib.hid (by have := in4_new ((w.alloc (.cells #[.int .i64 k, .int .i64 n, .string t, .bool b] 23)).alloc (.cells #[.int .i64 k', .int .i64 n', .string t', .bool b'] 23)) k2 n2 t2 b2 23; simpa using this)
  have HB : Hid (Below w.heap.size w (((w.alloc (.cells #[.int .i64 k, .int .i64 n, .string t, .bool b] 23)).alloc (.cells #[.int .i64 k', .int .i64 n', .string t', .bool b'] 23)).alloc (.cells #[.int .i64 k2, .int .i64 n2, .string t2, .bool b2] 23))) := ((((Below.refl _ _).alloc (by simp) _).alloc (by simp) _).alloc (by simp; omega) _)
  go_enter Tryd.func6, Tryd.ntmps6
  go_wp2_with fail
  have HBq : Hid (Below w.heap.size w ((((w.alloc (.cells #[.int .i64 k, .int .i64 n, .string t, .bool b] 23)).alloc (.cells #[.int .i64 k', .int .i64 n', .string t', .bool b'] 23)).alloc (.cells #[.int .i64 k2, .int .i64 n2, .string t2, .bool b2] 23)))) := HB.out
  obtain ⟨ca0, ca1, ca2, ca3⟩ := Pa.out
  obtain ⟨cb0, cb1, cb2, cb3⟩ := Pb.out
  obtain ⟨cc0, cc1, cc2, cc3⟩ := Pc.out
  replace ca0 := cell_regrown ca0
  replace ca1 := cell_regrown ca1
  replace ca2 := cell_regrown ca2
  replace ca3 := cell_regrown ca3
  replace cb0 := cell_regrown cb0
  replace cb1 := cell_regrown cb1
  replace cb2 := cell_regrown cb2
  replace cb3 := cell_regrown cb3
  replace cc0 := cell_regrown cc0
  replace cc1 := cell_regrown cc1
  replace cc2 := cell_regrown cc2
  replace cc3 := cell_regrown cc3
  refine wp_region_quiet_below (by kernel_rfl) (by kernel_rfl) ?_
  repeat (go_big_quiet_step (first | (go_at_call_of 11 (#[.agg #[.int .i64 k, .int .i64 n, .string t, .bool b], .agg #[.int .i64 k', .int .i64 n', .string t', .bool b']] : Array Value); exact Calls.regrown_of (HAB.out _)) | (go_at_call_of 11 (#[.agg #[.int .i64 k', .int .i64 n', .string t', .bool b'], .agg #[.int .i64 k2, .int .i64 n2, .string t2, .bool b2]] : Array Value); exact Calls.regrown_of (HBC.out _))))
  refine wpQuiet_nil ?_
  intro _ hw'
  obtain ⟨⟨dq, osq⟩, hw''⟩ := hw'
  subst hw''
  have hbq := Lib.hid (below_step HBq.out (below_regrown ((((w.alloc (.cells #[.int .i64 k, .int .i64 n, .string t, .bool b] 23)).alloc (.cells #[.int .i64 k', .int .i64 n', .string t', .bool b'] 23)).alloc (.cells #[.int .i64 k2, .int .i64 n2, .string t2, .bool b2] 23))) dq osq))
  replace Pa := Lib.hid (Pa.out.on (below_regrown ((((w.alloc (.cells #[.int .i64 k, .int .i64 n, .string t, .bool b] 23)).alloc (.cells #[.int .i64 k', .int .i64 n', .string t', .bool b'] 23)).alloc (.cells #[.int .i64 k2, .int .i64 n2, .string t2, .bool b2] 23))) dq osq))
  replace Pb := Lib.hid (Pb.out.on (below_regrown ((((w.alloc (.cells #[.int .i64 k, .int .i64 n, .string t, .bool b] 23)).alloc (.cells #[.int .i64 k', .int .i64 n', .string t', .bool b'] 23)).alloc (.cells #[.int .i64 k2, .int .i64 n2, .string t2, .bool b2] 23))) dq osq))
  replace Pc := Lib.hid (Pc.out.on (below_regrown ((((w.alloc (.cells #[.int .i64 k, .int .i64 n, .string t, .bool b] 23)).alloc (.cells #[.int .i64 k', .int .i64 n', .string t', .bool b'] 23)).alloc (.cells #[.int .i64 k2, .int .i64 n2, .string t2, .bool b2] 23))) dq osq))
  clear HBq
  replace HB := hbq
  clear hbq
  clear ca0 ca1 ca2 ca3 cb0 cb1 cb2 cb3 cc0 cc1 cc2 cc3
  generalize grow (redrawn ((((w.alloc (.cells #[.int .i64 k, .int .i64 n, .string t, .bool b] 23)).alloc (.cells #[.int .i64 k', .int .i64 n', .string t', .bool b'] 23)).alloc (.cells #[.int .i64 k2, .int .i64 n2, .string t2, .bool b2] 23))) dq) osq = Q1 at *
  obtain ⟨ca0, ca1, ca2, ca3⟩ := Pa.out
  obtain ⟨cb0, cb1, cb2, cb3⟩ := Pb.out
  obtain ⟨cc0, cc1, cc2, cc3⟩ := Pc.out
  go_wp2_with fail
  refine (HAA.out _).mono ?_
  rintro e w1 ⟨rfl, hb1⟩
  clear ca0 ca1 ca2 ca3 cb0 cb1 cb2 cb3 cc0 cc1 cc2 cc3
  replace Pa := Lib.hid (Pa.out.on hb1)
  replace Pb := Lib.hid (Pb.out.on hb1)
  replace Pc := Lib.hid (Pc.out.on hb1)
  replace HB := Lib.hid (below_step HB.out hb1)
  clear hb1
  obtain ⟨ca0, ca1, ca2, ca3⟩ := Pa.out
  obtain ⟨cb0, cb1, cb2, cb3⟩ := Pb.out
  obtain ⟨cc0, cc1, cc2, cc3⟩ := Pc.out
  go_wp2_with fail
  refine (HBA.out _).mono ?_
  rintro e w2 ⟨rfl, hb2⟩
  clear ca0 ca1 ca2 ca3 cb0 cb1 cb2 cb3 cc0 cc1 cc2 cc3
  replace Pa := Lib.hid (Pa.out.on hb2)
  replace Pb := Lib.hid (Pb.out.on hb2)
  replace Pc := Lib.hid (Pc.out.on hb2)
  replace HB := Lib.hid (below_step HB.out hb2)
  clear hb2
  obtain ⟨ca0, ca1, ca2, ca3⟩ := Pa.out
  obtain ⟨cb0, cb1, cb2, cb3⟩ := Pb.out
  obtain ⟨cc0, cc1, cc2, cc3⟩ := Pc.out
  go_wp2_with fail
  refine (HVA.out _).mono ?_
  rintro e w3 ⟨rfl, hb3⟩
  clear ca0 ca1 ca2 ca3 cb0 cb1 cb2 cb3 cc0 cc1 cc2 cc3
  replace Pa := Lib.hid (Pa.out.on hb3)
  replace Pb := Lib.hid (Pb.out.on hb3)
  replace Pc := Lib.hid (Pc.out.on hb3)
  replace HB := Lib.hid (below_step HB.out hb3)
  clear hb3
  obtain ⟨ca0, ca1, ca2, ca3⟩ := Pa.out
  obtain ⟨cb0, cb1, cb2, cb3⟩ := Pb.out
  obtain ⟨cc0, cc1, cc2, cc3⟩ := Pc.out
  go_wp2_with fail
  refine (HS.out _ (HE.out.on HB.out)).mono ?_
  rintro e w4 ⟨rfl, hb4⟩
  clear ca0 ca1 ca2 ca3 cb0 cb1 cb2 cb3 cc0 cc1 cc2 cc3
  replace Pa := Lib.hid (Pa.out.on hb4)
  replace Pb := Lib.hid (Pb.out.on hb4)
  replace Pc := Lib.hid (Pc.out.on hb4)
  replace HB := Lib.hid (below_step HB.out hb4)
  clear hb4
  obtain ⟨ca0, ca1, ca2, ca3⟩ := Pa.out
  obtain ⟨cb0, cb1, cb2, cb3⟩ := Pb.out
  obtain ⟨cc0, cc1, cc2, cc3⟩ := Pc.out
  go_wp2_with fail
  go_ret
  exact ⟨rfl, HB.out⟩
set_option maxHeartbeats 4000000 in
theorem order_zp_bbad (k n : Int) (t : ByteArray) (b : Bool) (k' n' : Int) (t' : ByteArray) (b' : Bool) (k2 n2 : Int) (t2 : ByteArray) (b2 : Bool) (w : World) (hE : Env w) (hx : cmpV ⟨k, n, t, b⟩ ⟨k', n', t', b'⟩ = 0) (hy : cmpV ⟨k', n', t', b'⟩ ⟨k2, n2, t2, b2⟩ = 1) (ha : validN ⟨k, n, t, b⟩ = 0) (hb : validN ⟨k', n', t', b'⟩ ≠ 0) :
    Calls Tryd.prog 6 #[.agg #[.int .i64 k, .int .i64 n, .string t, .bool b], .agg #[.int .i64 k', .int .i64 n', .string t', .bool b'], .agg #[.int .i64 k2, .int .i64 n2, .string t2, .bool b2]] w fun e w' => e = .returned (.bool true) ∧ Below w.heap.size w w' := by
  have haa : cmpV ⟨k, n, t, b⟩ ⟨k, n, t, b⟩ = 0 := ordered_val.refl _
  have hba : cmpV ⟨k', n', t', b'⟩ ⟨k, n, t, b⟩ = 0 := by have := ordered_val.anti ⟨k, n, t, b⟩ ⟨k', n', t', b'⟩; omega
  have HAB : Hid (∀ W, Calls Tryd.prog 11 #[.agg #[.int .i64 k, .int .i64 n, .string t, .bool b], .agg #[.int .i64 k', .int .i64 n', .string t', .bool b']] W fun e w' => e = .returned (.int .i64 0) ∧ Below W.heap.size W w') := fun W => by rw [← hx]; exact comp_ k n t b k' n' t' b' W
  have HBC : Hid (∀ W, Calls Tryd.prog 11 #[.agg #[.int .i64 k', .int .i64 n', .string t', .bool b'], .agg #[.int .i64 k2, .int .i64 n2, .string t2, .bool b2]] W fun e w' => e = .returned (.int .i64 1) ∧ Below W.heap.size W w') := fun W => by rw [← hy]; exact comp_ k' n' t' b' k2 n2 t2 b2 W
  have HAA : Hid (∀ W, Calls Tryd.prog 11 #[.agg #[.int .i64 k, .int .i64 n, .string t, .bool b], .agg #[.int .i64 k, .int .i64 n, .string t, .bool b]] W fun e w' => e = .returned (.int .i64 0) ∧ Below W.heap.size W w') := fun W => by rw [← haa]; exact comp_ k n t b k n t b W
  have HBA : Hid (∀ W, Calls Tryd.prog 11 #[.agg #[.int .i64 k', .int .i64 n', .string t', .bool b'], .agg #[.int .i64 k, .int .i64 n, .string t, .bool b]] W fun e w' => e = .returned (.int .i64 0) ∧ Below W.heap.size W w') := fun W => by rw [← hba]; exact comp_ k' n' t' b' k n t b W
  have HVA : Hid (∀ W, Calls Tryd.prog 25 #[.agg #[.int .i64 k, .int .i64 n, .string t, .bool b]] W fun e w' => e = .returned (.nilIface) ∧ Below W.heap.size W w') := fun W => by have := valid_ k n t b W; rw [ha] at this; exact this
  obtain ⟨EB, hEB⟩ : ∃ E, errV 45 (validN ⟨k', n', t', b'⟩) = .iface 45 (.int .i64 E) := ⟨_, by rw [errV, if_neg hb]⟩
  have HVB : Hid (∀ W, Calls Tryd.prog 25 #[.agg #[.int .i64 k', .int .i64 n', .string t', .bool b']] W fun e w' => e = .returned (.iface 45 (.int .i64 EB)) ∧ Below W.heap.size W w') := fun W => by rw [← hEB]; exact valid_ k' n' t' b' W
  have HS : Hid (∀ W, Env W → Calls Tryd.prog 14 #[] W fun e w' => e = .returned (.bool true) ∧ Below W.heap.size W w') := fun W hW => sure_ W hW
  have HE := Lib.hid hE
  clear hE hx hy haa hba ha hb hEB
  have Pa : Hid (In4 (((w.alloc (.cells #[.int .i64 k, .int .i64 n, .string t, .bool b] 23)).alloc (.cells #[.int .i64 k', .int .i64 n', .string t', .bool b'] 23)).alloc (.cells #[.int .i64 k2, .int .i64 n2, .string t2, .bool b2] 23)) (w.heap.size) 0 k n t b) := Lib.hid (by have := ((in4_new w k n t b 23).alloc (.cells #[.int .i64 k', .int .i64 n', .string t', .bool b'] 23)).alloc (.cells #[.int .i64 k2, .int .i64 n2, .string t2, .bool b2] 23); simpa using this)
  have Pb : Hid (In4 (((w.alloc (.cells #[.int .i64 k, .int .i64 n, .string t, .bool b] 23)).alloc (.cells #[.int .i64 k', .int .i64 n', .string t', .bool b'] 23)).alloc (.cells #[.int .i64 k2, .int .i64 n2, .string t2, .bool b2] 23)) (w.heap.size + 1) 0 k' n' t' b') := Lib.hid (by have := (in4_new (w.alloc (.cells #[.int .i64 k, .int .i64 n, .string t, .bool b] 23)) k' n' t' b' 23).alloc (.cells #[.int .i64 k2, .int .i64 n2, .string t2, .bool b2] 23); simpa using this)
  have Pc : Hid (In4 (((w.alloc (.cells #[.int .i64 k, .int .i64 n, .string t, .bool b] 23)).alloc (.cells #[.int .i64 k', .int .i64 n', .string t', .bool b'] 23)).alloc (.cells #[.int .i64 k2, .int .i64 n2, .string t2, .bool b2] 23)) (w.heap.size + 1 + 1) 0 k2 n2 t2 b2) := Lib.hid (by have := in4_new ((w.alloc (.cells #[.int .i64 k, .int .i64 n, .string t, .bool b] 23)).alloc (.cells #[.int .i64 k', .int .i64 n', .string t', .bool b'] 23)) k2 n2 t2 b2 23; simpa using this)
  have HB : Hid (Below w.heap.size w (((w.alloc (.cells #[.int .i64 k, .int .i64 n, .string t, .bool b] 23)).alloc (.cells #[.int .i64 k', .int .i64 n', .string t', .bool b'] 23)).alloc (.cells #[.int .i64 k2, .int .i64 n2, .string t2, .bool b2] 23))) := ((((Below.refl _ _).alloc (by simp) _).alloc (by simp) _).alloc (by simp; omega) _)
  go_enter Tryd.func6, Tryd.ntmps6
  go_wp2_with fail
  have HBq : Hid (Below w.heap.size w ((((w.alloc (.cells #[.int .i64 k, .int .i64 n, .string t, .bool b] 23)).alloc (.cells #[.int .i64 k', .int .i64 n', .string t', .bool b'] 23)).alloc (.cells #[.int .i64 k2, .int .i64 n2, .string t2, .bool b2] 23)))) := HB.out
  obtain ⟨ca0, ca1, ca2, ca3⟩ := Pa.out
  obtain ⟨cb0, cb1, cb2, cb3⟩ := Pb.out
  obtain ⟨cc0, cc1, cc2, cc3⟩ := Pc.out
  replace ca0 := cell_regrown ca0
  replace ca1 := cell_regrown ca1
  replace ca2 := cell_regrown ca2
  replace ca3 := cell_regrown ca3
  replace cb0 := cell_regrown cb0
  replace cb1 := cell_regrown cb1
  replace cb2 := cell_regrown cb2
  replace cb3 := cell_regrown cb3
  replace cc0 := cell_regrown cc0
  replace cc1 := cell_regrown cc1
  replace cc2 := cell_regrown cc2
  replace cc3 := cell_regrown cc3
  refine wp_region_quiet_below (by kernel_rfl) (by kernel_rfl) ?_
  repeat (go_big_quiet_step (first | (go_at_call_of 11 (#[.agg #[.int .i64 k, .int .i64 n, .string t, .bool b], .agg #[.int .i64 k', .int .i64 n', .string t', .bool b']] : Array Value); exact Calls.regrown_of (HAB.out _)) | (go_at_call_of 11 (#[.agg #[.int .i64 k', .int .i64 n', .string t', .bool b'], .agg #[.int .i64 k2, .int .i64 n2, .string t2, .bool b2]] : Array Value); exact Calls.regrown_of (HBC.out _))))
  refine wpQuiet_nil ?_
  intro _ hw'
  obtain ⟨⟨dq, osq⟩, hw''⟩ := hw'
  subst hw''
  have hbq := Lib.hid (below_step HBq.out (below_regrown ((((w.alloc (.cells #[.int .i64 k, .int .i64 n, .string t, .bool b] 23)).alloc (.cells #[.int .i64 k', .int .i64 n', .string t', .bool b'] 23)).alloc (.cells #[.int .i64 k2, .int .i64 n2, .string t2, .bool b2] 23))) dq osq))
  replace Pa := Lib.hid (Pa.out.on (below_regrown ((((w.alloc (.cells #[.int .i64 k, .int .i64 n, .string t, .bool b] 23)).alloc (.cells #[.int .i64 k', .int .i64 n', .string t', .bool b'] 23)).alloc (.cells #[.int .i64 k2, .int .i64 n2, .string t2, .bool b2] 23))) dq osq))
  replace Pb := Lib.hid (Pb.out.on (below_regrown ((((w.alloc (.cells #[.int .i64 k, .int .i64 n, .string t, .bool b] 23)).alloc (.cells #[.int .i64 k', .int .i64 n', .string t', .bool b'] 23)).alloc (.cells #[.int .i64 k2, .int .i64 n2, .string t2, .bool b2] 23))) dq osq))
  replace Pc := Lib.hid (Pc.out.on (below_regrown ((((w.alloc (.cells #[.int .i64 k, .int .i64 n, .string t, .bool b] 23)).alloc (.cells #[.int .i64 k', .int .i64 n', .string t', .bool b'] 23)).alloc (.cells #[.int .i64 k2, .int .i64 n2, .string t2, .bool b2] 23))) dq osq))
  clear HBq
  replace HB := hbq
  clear hbq
  clear ca0 ca1 ca2 ca3 cb0 cb1 cb2 cb3 cc0 cc1 cc2 cc3
  generalize grow (redrawn ((((w.alloc (.cells #[.int .i64 k, .int .i64 n, .string t, .bool b] 23)).alloc (.cells #[.int .i64 k', .int .i64 n', .string t', .bool b'] 23)).alloc (.cells #[.int .i64 k2, .int .i64 n2, .string t2, .bool b2] 23))) dq) osq = Q1 at *
  obtain ⟨ca0, ca1, ca2, ca3⟩ := Pa.out
  obtain ⟨cb0, cb1, cb2, cb3⟩ := Pb.out
  obtain ⟨cc0, cc1, cc2, cc3⟩ := Pc.out
  go_wp2_with fail
  refine (HAA.out _).mono ?_
  rintro e w1 ⟨rfl, hb1⟩
  clear ca0 ca1 ca2 ca3 cb0 cb1 cb2 cb3 cc0 cc1 cc2 cc3
  replace Pa := Lib.hid (Pa.out.on hb1)
  replace Pb := Lib.hid (Pb.out.on hb1)
  replace Pc := Lib.hid (Pc.out.on hb1)
  replace HB := Lib.hid (below_step HB.out hb1)
  clear hb1
  obtain ⟨ca0, ca1, ca2, ca3⟩ := Pa.out
  obtain ⟨cb0, cb1, cb2, cb3⟩ := Pb.out
  obtain ⟨cc0, cc1, cc2, cc3⟩ := Pc.out
  go_wp2_with fail
  refine (HBA.out _).mono ?_
  rintro e w2 ⟨rfl, hb2⟩
  clear ca0 ca1 ca2 ca3 cb0 cb1 cb2 cb3 cc0 cc1 cc2 cc3
  replace Pa := Lib.hid (Pa.out.on hb2)
  replace Pb := Lib.hid (Pb.out.on hb2)
  replace Pc := Lib.hid (Pc.out.on hb2)
  replace HB := Lib.hid (below_step HB.out hb2)
  clear hb2
  obtain ⟨ca0, ca1, ca2, ca3⟩ := Pa.out
  obtain ⟨cb0, cb1, cb2, cb3⟩ := Pb.out
  obtain ⟨cc0, cc1, cc2, cc3⟩ := Pc.out
  go_wp2_with fail
  refine (HVA.out _).mono ?_
  rintro e w3 ⟨rfl, hb3⟩
  clear ca0 ca1 ca2 ca3 cb0 cb1 cb2 cb3 cc0 cc1 cc2 cc3
  replace Pa := Lib.hid (Pa.out.on hb3)
  replace Pb := Lib.hid (Pb.out.on hb3)
  replace Pc := Lib.hid (Pc.out.on hb3)
  replace HB := Lib.hid (below_step HB.out hb3)
  clear hb3
  obtain ⟨ca0, ca1, ca2, ca3⟩ := Pa.out
  obtain ⟨cb0, cb1, cb2, cb3⟩ := Pb.out
  obtain ⟨cc0, cc1, cc2, cc3⟩ := Pc.out
  go_wp2_with fail
  refine (HVB.out _).mono ?_
  rintro e w4 ⟨rfl, hb4⟩
  clear ca0 ca1 ca2 ca3 cb0 cb1 cb2 cb3 cc0 cc1 cc2 cc3
  replace Pa := Lib.hid (Pa.out.on hb4)
  replace Pb := Lib.hid (Pb.out.on hb4)
  replace Pc := Lib.hid (Pc.out.on hb4)
  replace HB := Lib.hid (below_step HB.out hb4)
  clear hb4
  obtain ⟨ca0, ca1, ca2, ca3⟩ := Pa.out
  obtain ⟨cb0, cb1, cb2, cb3⟩ := Pb.out
  obtain ⟨cc0, cc1, cc2, cc3⟩ := Pc.out
  go_wp2_with fail
  refine (HS.out _ (HE.out.on HB.out)).mono ?_
  rintro e w5 ⟨rfl, hb5⟩
  clear ca0 ca1 ca2 ca3 cb0 cb1 cb2 cb3 cc0 cc1 cc2 cc3
  replace Pa := Lib.hid (Pa.out.on hb5)
  replace Pb := Lib.hid (Pb.out.on hb5)
  replace Pc := Lib.hid (Pc.out.on hb5)
  replace HB := Lib.hid (below_step HB.out hb5)
  clear hb5
  obtain ⟨ca0, ca1, ca2, ca3⟩ := Pa.out
  obtain ⟨cb0, cb1, cb2, cb3⟩ := Pb.out
  obtain ⟨cc0, cc1, cc2, cc3⟩ := Pc.out
  go_wp2_with fail
  go_ret
  exact ⟨rfl, HB.out⟩
set_option maxHeartbeats 4000000 in
theorem order_zp_ok (k n : Int) (t : ByteArray) (b : Bool) (k' n' : Int) (t' : ByteArray) (b' : Bool) (k2 n2 : Int) (t2 : ByteArray) (b2 : Bool) (w : World) (hE : Env w) (hx : cmpV ⟨k, n, t, b⟩ ⟨k', n', t', b'⟩ = 0) (hy : cmpV ⟨k', n', t', b'⟩ ⟨k2, n2, t2, b2⟩ = 1) (ha : validN ⟨k, n, t, b⟩ = 0) (hb : validN ⟨k', n', t', b'⟩ = 0) :
    Calls Tryd.prog 6 #[.agg #[.int .i64 k, .int .i64 n, .string t, .bool b], .agg #[.int .i64 k', .int .i64 n', .string t', .bool b'], .agg #[.int .i64 k2, .int .i64 n2, .string t2, .bool b2]] w fun e w' => e = .returned (.bool true) ∧ Below w.heap.size w w' := by
  have haa : cmpV ⟨k, n, t, b⟩ ⟨k, n, t, b⟩ = 0 := ordered_val.refl _
  have hba : cmpV ⟨k', n', t', b'⟩ ⟨k, n, t, b⟩ = 0 := by have := ordered_val.anti ⟨k, n, t, b⟩ ⟨k', n', t', b'⟩; omega
  have HAB : Hid (∀ W, Calls Tryd.prog 11 #[.agg #[.int .i64 k, .int .i64 n, .string t, .bool b], .agg #[.int .i64 k', .int .i64 n', .string t', .bool b']] W fun e w' => e = .returned (.int .i64 0) ∧ Below W.heap.size W w') := fun W => by rw [← hx]; exact comp_ k n t b k' n' t' b' W
  have HBC : Hid (∀ W, Calls Tryd.prog 11 #[.agg #[.int .i64 k', .int .i64 n', .string t', .bool b'], .agg #[.int .i64 k2, .int .i64 n2, .string t2, .bool b2]] W fun e w' => e = .returned (.int .i64 1) ∧ Below W.heap.size W w') := fun W => by rw [← hy]; exact comp_ k' n' t' b' k2 n2 t2 b2 W
  have HAA : Hid (∀ W, Calls Tryd.prog 11 #[.agg #[.int .i64 k, .int .i64 n, .string t, .bool b], .agg #[.int .i64 k, .int .i64 n, .string t, .bool b]] W fun e w' => e = .returned (.int .i64 0) ∧ Below W.heap.size W w') := fun W => by rw [← haa]; exact comp_ k n t b k n t b W
  have HBA : Hid (∀ W, Calls Tryd.prog 11 #[.agg #[.int .i64 k', .int .i64 n', .string t', .bool b'], .agg #[.int .i64 k, .int .i64 n, .string t, .bool b]] W fun e w' => e = .returned (.int .i64 0) ∧ Below W.heap.size W w') := fun W => by rw [← hba]; exact comp_ k' n' t' b' k n t b W
  have HVA : Hid (∀ W, Calls Tryd.prog 25 #[.agg #[.int .i64 k, .int .i64 n, .string t, .bool b]] W fun e w' => e = .returned (.nilIface) ∧ Below W.heap.size W w') := fun W => by have := valid_ k n t b W; rw [ha] at this; exact this
  have HVB : Hid (∀ W, Calls Tryd.prog 25 #[.agg #[.int .i64 k', .int .i64 n', .string t', .bool b']] W fun e w' => e = .returned (.nilIface) ∧ Below W.heap.size W w') := fun W => by have := valid_ k' n' t' b' W; rw [hb] at this; exact this
  have hEQ : ∀ W, (Op.equalIn 10000 23 (.agg #[.int .i64 k, .int .i64 n, .string t, .bool b]) (.agg #[.int .i64 k', .int .i64 n', .string t', .bool b'])).run Tryd.prog W = .ok true W := fun W => by rw [eqIn_, sameV_iff.2 (cmp_eq (fit_of_valid ha) (fit_of_valid hb) hx)]
  have hGD := guardV
  have HS : Hid (∀ W, Env W → Calls Tryd.prog 14 #[] W fun e w' => e = .returned (.bool true) ∧ Below W.heap.size W w') := fun W hW => sure_ W hW
  have HE := Lib.hid hE
  clear hE hx hy haa hba ha hb
  have Pa : Hid (In4 (((w.alloc (.cells #[.int .i64 k, .int .i64 n, .string t, .bool b] 23)).alloc (.cells #[.int .i64 k', .int .i64 n', .string t', .bool b'] 23)).alloc (.cells #[.int .i64 k2, .int .i64 n2, .string t2, .bool b2] 23)) (w.heap.size) 0 k n t b) := Lib.hid (by have := ((in4_new w k n t b 23).alloc (.cells #[.int .i64 k', .int .i64 n', .string t', .bool b'] 23)).alloc (.cells #[.int .i64 k2, .int .i64 n2, .string t2, .bool b2] 23); simpa using this)
  have Pb : Hid (In4 (((w.alloc (.cells #[.int .i64 k, .int .i64 n, .string t, .bool b] 23)).alloc (.cells #[.int .i64 k', .int .i64 n', .string t', .bool b'] 23)).alloc (.cells #[.int .i64 k2, .int .i64 n2, .string t2, .bool b2] 23)) (w.heap.size + 1) 0 k' n' t' b') := Lib.hid (by have := (in4_new (w.alloc (.cells #[.int .i64 k, .int .i64 n, .string t, .bool b] 23)) k' n' t' b' 23).alloc (.cells #[.int .i64 k2, .int .i64 n2, .string t2, .bool b2] 23); simpa using this)
  have Pc : Hid (In4 (((w.alloc (.cells #[.int .i64 k, .int .i64 n, .string t, .bool b] 23)).alloc (.cells #[.int .i64 k', .int .i64 n', .string t', .bool b'] 23)).alloc (.cells #[.int .i64 k2, .int .i64 n2, .string t2, .bool b2] 23)) (w.heap.size + 1 + 1) 0 k2 n2 t2 b2) := Lib.hid (by have := in4_new ((w.alloc (.cells #[.int .i64 k, .int .i64 n, .string t, .bool b] 23)).alloc (.cells #[.int .i64 k', .int .i64 n', .string t', .bool b'] 23)) k2 n2 t2 b2 23; simpa using this)
  have HB : Hid (Below w.heap.size w (((w.alloc (.cells #[.int .i64 k, .int .i64 n, .string t, .bool b] 23)).alloc (.cells #[.int .i64 k', .int .i64 n', .string t', .bool b'] 23)).alloc (.cells #[.int .i64 k2, .int .i64 n2, .string t2, .bool b2] 23))) := ((((Below.refl _ _).alloc (by simp) _).alloc (by simp) _).alloc (by simp; omega) _)
  go_enter Tryd.func6, Tryd.ntmps6
  go_wp2_with fail
  have HBq : Hid (Below w.heap.size w ((((w.alloc (.cells #[.int .i64 k, .int .i64 n, .string t, .bool b] 23)).alloc (.cells #[.int .i64 k', .int .i64 n', .string t', .bool b'] 23)).alloc (.cells #[.int .i64 k2, .int .i64 n2, .string t2, .bool b2] 23)))) := HB.out
  obtain ⟨ca0, ca1, ca2, ca3⟩ := Pa.out
  obtain ⟨cb0, cb1, cb2, cb3⟩ := Pb.out
  obtain ⟨cc0, cc1, cc2, cc3⟩ := Pc.out
  replace ca0 := cell_regrown ca0
  replace ca1 := cell_regrown ca1
  replace ca2 := cell_regrown ca2
  replace ca3 := cell_regrown ca3
  replace cb0 := cell_regrown cb0
  replace cb1 := cell_regrown cb1
  replace cb2 := cell_regrown cb2
  replace cb3 := cell_regrown cb3
  replace cc0 := cell_regrown cc0
  replace cc1 := cell_regrown cc1
  replace cc2 := cell_regrown cc2
  replace cc3 := cell_regrown cc3
  refine wp_region_quiet_below (by kernel_rfl) (by kernel_rfl) ?_
  repeat (go_big_quiet_step (first | (go_at_call_of 11 (#[.agg #[.int .i64 k, .int .i64 n, .string t, .bool b], .agg #[.int .i64 k', .int .i64 n', .string t', .bool b']] : Array Value); exact Calls.regrown_of (HAB.out _)) | (go_at_call_of 11 (#[.agg #[.int .i64 k', .int .i64 n', .string t', .bool b'], .agg #[.int .i64 k2, .int .i64 n2, .string t2, .bool b2]] : Array Value); exact Calls.regrown_of (HBC.out _))))
  refine wpQuiet_nil ?_
  intro _ hw'
  obtain ⟨⟨dq, osq⟩, hw''⟩ := hw'
  subst hw''
  have hbq := Lib.hid (below_step HBq.out (below_regrown ((((w.alloc (.cells #[.int .i64 k, .int .i64 n, .string t, .bool b] 23)).alloc (.cells #[.int .i64 k', .int .i64 n', .string t', .bool b'] 23)).alloc (.cells #[.int .i64 k2, .int .i64 n2, .string t2, .bool b2] 23))) dq osq))
  replace Pa := Lib.hid (Pa.out.on (below_regrown ((((w.alloc (.cells #[.int .i64 k, .int .i64 n, .string t, .bool b] 23)).alloc (.cells #[.int .i64 k', .int .i64 n', .string t', .bool b'] 23)).alloc (.cells #[.int .i64 k2, .int .i64 n2, .string t2, .bool b2] 23))) dq osq))
  replace Pb := Lib.hid (Pb.out.on (below_regrown ((((w.alloc (.cells #[.int .i64 k, .int .i64 n, .string t, .bool b] 23)).alloc (.cells #[.int .i64 k', .int .i64 n', .string t', .bool b'] 23)).alloc (.cells #[.int .i64 k2, .int .i64 n2, .string t2, .bool b2] 23))) dq osq))
  replace Pc := Lib.hid (Pc.out.on (below_regrown ((((w.alloc (.cells #[.int .i64 k, .int .i64 n, .string t, .bool b] 23)).alloc (.cells #[.int .i64 k', .int .i64 n', .string t', .bool b'] 23)).alloc (.cells #[.int .i64 k2, .int .i64 n2, .string t2, .bool b2] 23))) dq osq))
  clear HBq
  replace HB := hbq
  clear hbq
  clear ca0 ca1 ca2 ca3 cb0 cb1 cb2 cb3 cc0 cc1 cc2 cc3
  generalize grow (redrawn ((((w.alloc (.cells #[.int .i64 k, .int .i64 n, .string t, .bool b] 23)).alloc (.cells #[.int .i64 k', .int .i64 n', .string t', .bool b'] 23)).alloc (.cells #[.int .i64 k2, .int .i64 n2, .string t2, .bool b2] 23))) dq) osq = Q1 at *
  obtain ⟨ca0, ca1, ca2, ca3⟩ := Pa.out
  obtain ⟨cb0, cb1, cb2, cb3⟩ := Pb.out
  obtain ⟨cc0, cc1, cc2, cc3⟩ := Pc.out
  go_wp2_with fail
  refine (HAA.out _).mono ?_
  rintro e w1 ⟨rfl, hb1⟩
  clear ca0 ca1 ca2 ca3 cb0 cb1 cb2 cb3 cc0 cc1 cc2 cc3
  replace Pa := Lib.hid (Pa.out.on hb1)
  replace Pb := Lib.hid (Pb.out.on hb1)
  replace Pc := Lib.hid (Pc.out.on hb1)
  replace HB := Lib.hid (below_step HB.out hb1)
  clear hb1
  obtain ⟨ca0, ca1, ca2, ca3⟩ := Pa.out
  obtain ⟨cb0, cb1, cb2, cb3⟩ := Pb.out
  obtain ⟨cc0, cc1, cc2, cc3⟩ := Pc.out
  go_wp2_with fail
  refine (HBA.out _).mono ?_
  rintro e w2 ⟨rfl, hb2⟩
  clear ca0 ca1 ca2 ca3 cb0 cb1 cb2 cb3 cc0 cc1 cc2 cc3
  replace Pa := Lib.hid (Pa.out.on hb2)
  replace Pb := Lib.hid (Pb.out.on hb2)
  replace Pc := Lib.hid (Pc.out.on hb2)
  replace HB := Lib.hid (below_step HB.out hb2)
  clear hb2
  obtain ⟨ca0, ca1, ca2, ca3⟩ := Pa.out
  obtain ⟨cb0, cb1, cb2, cb3⟩ := Pb.out
  obtain ⟨cc0, cc1, cc2, cc3⟩ := Pc.out
  go_wp2_with fail
  refine (HVA.out _).mono ?_
  rintro e w3 ⟨rfl, hb3⟩
  clear ca0 ca1 ca2 ca3 cb0 cb1 cb2 cb3 cc0 cc1 cc2 cc3
  replace Pa := Lib.hid (Pa.out.on hb3)
  replace Pb := Lib.hid (Pb.out.on hb3)
  replace Pc := Lib.hid (Pc.out.on hb3)
  replace HB := Lib.hid (below_step HB.out hb3)
  clear hb3
  obtain ⟨ca0, ca1, ca2, ca3⟩ := Pa.out
  obtain ⟨cb0, cb1, cb2, cb3⟩ := Pb.out
  obtain ⟨cc0, cc1, cc2, cc3⟩ := Pc.out
  go_wp2_with fail
  refine (HVB.out _).mono ?_
  rintro e w4 ⟨rfl, hb4⟩
  clear ca0 ca1 ca2 ca3 cb0 cb1 cb2 cb3 cc0 cc1 cc2 cc3
  replace Pa := Lib.hid (Pa.out.on hb4)
  replace Pb := Lib.hid (Pb.out.on hb4)
  replace Pc := Lib.hid (Pc.out.on hb4)
  replace HB := Lib.hid (below_step HB.out hb4)
  clear hb4
  obtain ⟨ca0, ca1, ca2, ca3⟩ := Pa.out
  obtain ⟨cb0, cb1, cb2, cb3⟩ := Pb.out
  obtain ⟨cc0, cc1, cc2, cc3⟩ := Pc.out
  go_wp2_with fail
  refine (HS.out _ (HE.out.on HB.out)).mono ?_
  rintro e w5 ⟨rfl, hb5⟩
  clear ca0 ca1 ca2 ca3 cb0 cb1 cb2 cb3 cc0 cc1 cc2 cc3
  replace Pa := Lib.hid (Pa.out.on hb5)
  replace Pb := Lib.hid (Pb.out.on hb5)
  replace Pc := Lib.hid (Pc.out.on hb5)
  replace HB := Lib.hid (below_step HB.out hb5)
  clear hb5
  obtain ⟨ca0, ca1, ca2, ca3⟩ := Pa.out
  obtain ⟨cb0, cb1, cb2, cb3⟩ := Pb.out
  obtain ⟨cc0, cc1, cc2, cc3⟩ := Pc.out
  go_wp2_with fail
  go_ret
  exact ⟨rfl, HB.out⟩
theorem three (x : Int) (h0 : -1 ≤ x) (h1 : x ≤ 1) : x = -1 ∨ x = 0 ∨ x = 1 := by omega
theorem order_ (k n : Int) (t : ByteArray) (b : Bool) (k' n' : Int) (t' : ByteArray) (b' : Bool) (k2 n2 : Int) (t2 : ByteArray) (b2 : Bool) (w : World) (hE : Env w) :
    Calls Tryd.prog 6 #[.agg #[.int .i64 k, .int .i64 n, .string t, .bool b], .agg #[.int .i64 k', .int .i64 n', .string t', .bool b'], .agg #[.int .i64 k2, .int .i64 n2, .string t2, .bool b2]] w fun e w' => e = .returned (.bool true) ∧ Below w.heap.size w w' := by
  have o := ordered_val
  rcases three _ (o.low ⟨k, n, t, b⟩ ⟨k', n', t', b'⟩) (o.high ⟨k, n, t, b⟩ ⟨k', n', t', b'⟩) with hx | hx | hx
  · rcases three _ (o.low ⟨k', n', t', b'⟩ ⟨k2, n2, t2, b2⟩) (o.high ⟨k', n', t', b'⟩ ⟨k2, n2, t2, b2⟩) with hy | hy | hy
    · have hz : cmpV ⟨k, n, t, b⟩ ⟨k2, n2, t2, b2⟩ = -1 := by have := o.le_lt ⟨k, n, t, b⟩ ⟨k', n', t', b'⟩ ⟨k2, n2, t2, b2⟩ (by omega) (by omega); have := o.low ⟨k, n, t, b⟩ ⟨k2, n2, t2, b2⟩; omega
      exact order_mm k n t b k' n' t' b' k2 n2 t2 b2 w hE hx hy hz
    · have hz : cmpV ⟨k, n, t, b⟩ ⟨k2, n2, t2, b2⟩ = -1 := by
        have h1 := o.le_le ⟨k, n, t, b⟩ ⟨k', n', t', b'⟩ ⟨k2, n2, t2, b2⟩ (by omega) (by omega)
        have h2 := o.low ⟨k, n, t, b⟩ ⟨k2, n2, t2, b2⟩
        have h3 : cmpV ⟨k, n, t, b⟩ ⟨k2, n2, t2, b2⟩ ≠ 0 := fun e => by
          have g1 := o.anti ⟨k, n, t, b⟩ ⟨k2, n2, t2, b2⟩
          have g2 := o.le_le ⟨k', n', t', b'⟩ ⟨k2, n2, t2, b2⟩ ⟨k, n, t, b⟩ (by omega) (by omega)
          have g3 := o.anti ⟨k, n, t, b⟩ ⟨k', n', t', b'⟩
          omega
        omega
      exact order_mz k n t b k' n' t' b' k2 n2 t2 b2 w hE hx hy hz
    · exact order_mp k n t b k' n' t' b' k2 n2 t2 b2 w hE hx hy
  · rcases three _ (o.low ⟨k', n', t', b'⟩ ⟨k2, n2, t2, b2⟩) (o.high ⟨k', n', t', b'⟩ ⟨k2, n2, t2, b2⟩) with hy | hy | hy
    · have hz : cmpV ⟨k, n, t, b⟩ ⟨k2, n2, t2, b2⟩ = -1 := by have := o.le_lt ⟨k, n, t, b⟩ ⟨k', n', t', b'⟩ ⟨k2, n2, t2, b2⟩ (by omega) (by omega); have := o.low ⟨k, n, t, b⟩ ⟨k2, n2, t2, b2⟩; omega
      by_cases ha : validN ⟨k, n, t, b⟩ = 0
      · by_cases hb : validN ⟨k', n', t', b'⟩ = 0
        · exact order_zm_ok k n t b k' n' t' b' k2 n2 t2 b2 w hE hx hy hz ha hb
        · exact order_zm_bbad k n t b k' n' t' b' k2 n2 t2 b2 w hE hx hy hz ha hb
      · exact order_zm_abad k n t b k' n' t' b' k2 n2 t2 b2 w hE hx hy hz ha
    · have hz : cmpV ⟨k, n, t, b⟩ ⟨k2, n2, t2, b2⟩ = 0 := by
        have h1 := o.le_le ⟨k, n, t, b⟩ ⟨k', n', t', b'⟩ ⟨k2, n2, t2, b2⟩ (by omega) (by omega)
        have g1 := o.anti ⟨k, n, t, b⟩ ⟨k', n', t', b'⟩
        have g2 := o.anti ⟨k', n', t', b'⟩ ⟨k2, n2, t2, b2⟩
        have h2 := o.le_le ⟨k2, n2, t2, b2⟩ ⟨k', n', t', b'⟩ ⟨k, n, t, b⟩ (by omega) (by omega)
        have g3 := o.anti ⟨k, n, t, b⟩ ⟨k2, n2, t2, b2⟩
        omega
      by_cases ha : validN ⟨k, n, t, b⟩ = 0
      · by_cases hb : validN ⟨k', n', t', b'⟩ = 0
        · exact order_zz_ok k n t b k' n' t' b' k2 n2 t2 b2 w hE hx hy hz ha hb
        · exact order_zz_bbad k n t b k' n' t' b' k2 n2 t2 b2 w hE hx hy hz ha hb
      · exact order_zz_abad k n t b k' n' t' b' k2 n2 t2 b2 w hE hx hy hz ha
    · by_cases ha : validN ⟨k, n, t, b⟩ = 0
      · by_cases hb : validN ⟨k', n', t', b'⟩ = 0
        · exact order_zp_ok k n t b k' n' t' b' k2 n2 t2 b2 w hE hx hy ha hb
        · exact order_zp_bbad k n t b k' n' t' b' k2 n2 t2 b2 w hE hx hy ha hb
      · exact order_zp_abad k n t b k' n' t' b' k2 n2 t2 b2 w hE hx hy ha
  · exact order_p k n t b k' n' t' b' k2 n2 t2 b2 w _ hE hx rfl
end Go.Proofs.YtfplncbechidnaaDoor
