/- The walk of the law ValueNulls. -/
import Derived.Test.YtfplncbechidnabDoorW7
import Derived.Test.YtfplncbechidnabDoorSure
namespace Go.Proofs.YtfplncbechidnabDoor
open Go.RowKit Go.Sort

set_option maxHeartbeats 4000000 in
set_option maxRecDepth 100000 in
theorem nulls_bad (k n : Int) (t : ByteArray) (b : Bool) (op : Int) (w : World) (hv : validN ⟨k, n, t, b⟩ ≠ 0) (hE : Env w) :
    Calls Tryd.prog 4 #[.agg #[.int .i64 k, .int .i64 n, .string t, .bool b], .int .u8 op] w fun e w' => e = .returned (.bool true) ∧ Below w.heap.size w w' := by
  obtain ⟨E, hE'⟩ : ∃ E, errV 37 (validN ⟨k, n, t, b⟩) = .iface 37 (.int .i64 E) := ⟨_, by rw [errV, if_neg hv]⟩
  have HV : Hid (∀ W, Calls Tryd.prog 9 #[.agg #[.int .i64 k, .int .i64 n, .string t, .bool b]] W fun e w' => e = .returned (.iface 37 (.int .i64 E)) ∧ Below W.heap.size W w') := fun W => by rw [← hE']; exact valid_ k n t b W
  clear hE'
  have HS : Hid (∀ W, Env W → Calls Tryd.prog 8 #[] W fun e w' => e = .returned (.bool true) ∧ Below W.heap.size W w') := fun W hW => sure_ W hW
  have HE := Lib.hid hE
  clear hE hv
  have Pa : Hid (In4 (w.alloc (.cells #[.int .i64 k, .int .i64 n, .string t, .bool b] 23)) (w.heap.size) 0 k n t b) := Lib.hid (by have := in4_new w k n t b 23; simpa using this)
  have HB : Hid (Below w.heap.size w (w.alloc (.cells #[.int .i64 k, .int .i64 n, .string t, .bool b] 23))) := ((Below.refl _ _).alloc (by simp) _)
  go_enter Tryd.func4, Tryd.ntmps4
  go_wp2_with fail
  refine (HV.out _).mono ?_
  rintro e w1 ⟨rfl, hb1⟩
  replace Pa := Lib.hid (Pa.out.on hb1)
  replace HB := Lib.hid (below_step HB.out hb1)
  clear hb1
  obtain ⟨ca0, ca1, ca2, ca3⟩ := Pa.out
  go_wp2_with fail
  refine (HS.out _ (HE.out.on HB.out)).mono ?_
  rintro e w2 ⟨rfl, hb2⟩
  clear ca0 ca1 ca2 ca3
  replace Pa := Lib.hid (Pa.out.on hb2)
  replace HB := Lib.hid (below_step HB.out hb2)
  clear hb2
  obtain ⟨ca0, ca1, ca2, ca3⟩ := Pa.out
  go_wp2_with fail
  go_ret
  exact ⟨rfl, HB.out⟩
set_option maxHeartbeats 4000000 in
set_option maxRecDepth 100000 in
theorem nulls_k0 (n : Int) (t : ByteArray) (b : Bool) (op : Int) (w : World) (hv : validN ⟨0, n, t, b⟩ = 0) (hE : Env w) :
    Calls Tryd.prog 4 #[.agg #[.int .i64 0, .int .i64 n, .string t, .bool b], .int .u8 op] w fun e w' => e = .returned (.bool true) ∧ Below w.heap.size w w' := by
  have HV : Hid (∀ W, Calls Tryd.prog 9 #[.agg #[.int .i64 0, .int .i64 n, .string t, .bool b]] W fun e w' => e = .returned (.nilIface) ∧ Below W.heap.size W w') := fun W => by have := valid_ 0 n t b W; rw [hv] at this; exact this
  have HNU : Hid (∀ W, Calls Tryd.prog 10 #[] W fun e w' => e = .returned (.agg #[.int .i64 0, .int .i64 0, .string ⟨#[]⟩, .bool false]) ∧ Below W.heap.size W w') := fun W => null_ W
  have HEq : Hid (∀ W, Calls Tryd.prog 11 #[.agg #[.int .i64 0, .int .i64 n, .string t, .bool b], .agg #[.int .i64 0, .int .i64 0, .string ⟨#[]⟩, .bool false]] W fun e w' => e = .returned (.tuple #[.agg #[.int .i64 0, .int .i64 0, .string ⟨#[]⟩, .bool false], .nilIface]) ∧ Below W.heap.size W w') := fun W => equal_null 0 n t b 0 0 ⟨#[]⟩ false W (by decide) (by decide)
  have HLe : Hid (∀ W, Calls Tryd.prog 12 #[.agg #[.int .i64 0, .int .i64 0, .string ⟨#[]⟩, .bool false], .agg #[.int .i64 0, .int .i64 n, .string t, .bool b]] W fun e w' => e = .returned (.tuple #[.agg #[.int .i64 0, .int .i64 0, .string ⟨#[]⟩, .bool false], .nilIface]) ∧ Below W.heap.size W w') := fun W => less_null 0 0 ⟨#[]⟩ false 0 n t b W (by decide) (by decide)
  have hEQx : ∀ W, (Op.equalIn 10000 23 (.agg #[.int .i64 0, .int .i64 0, .string ⟨#[]⟩, .bool false]) (.agg #[.int .i64 0, .int .i64 0, .string ⟨#[]⟩, .bool false])).run Tryd.prog W = .ok true W := fun W => by rw [eqIn_, sameV_refl]
  have hGD := guardV
  have HS : Hid (∀ W, Env W → Calls Tryd.prog 8 #[] W fun e w' => e = .returned (.bool true) ∧ Below W.heap.size W w') := fun W hW => sure_ W hW
  have HE := Lib.hid hE
  clear hE hv
  have Pa : Hid (In4 (w.alloc (.cells #[.int .i64 0, .int .i64 n, .string t, .bool b] 23)) (w.heap.size) 0 0 n t b) := Lib.hid (by have := in4_new w 0 n t b 23; simpa using this)
  have HB : Hid (Below w.heap.size w (w.alloc (.cells #[.int .i64 0, .int .i64 n, .string t, .bool b] 23))) := ((Below.refl _ _).alloc (by simp) _)
  go_enter Tryd.func4, Tryd.ntmps4
  go_wp2_with fail
  refine (HV.out _).mono ?_
  rintro e w1 ⟨rfl, hb1⟩
  replace Pa := Lib.hid (Pa.out.on hb1)
  replace HB := Lib.hid (below_step HB.out hb1)
  clear hb1
  obtain ⟨ca0, ca1, ca2, ca3⟩ := Pa.out
  go_wp2_with fail
  refine (HNU.out _).mono ?_
  rintro e w2 ⟨rfl, hb2⟩
  clear ca0 ca1 ca2 ca3
  replace Pa := Lib.hid (Pa.out.on hb2)
  replace HB := Lib.hid (below_step HB.out hb2)
  clear hb2
  replace Pa := Lib.hid (Pa.out.alloc (.cells #[.int .i64 0, .int .i64 0, .string ⟨#[]⟩, .bool false] 23))
  have Pu := Lib.hid (in4_new w2 0 0 ⟨#[]⟩ false 23)
  replace HB : Hid (Below w.heap.size w (w2.alloc (.cells #[.int .i64 0, .int .i64 0, .string ⟨#[]⟩, .bool false] 23))) := below_step HB.out ((Below.refl _ _).alloc (Nat.le_refl _) _)
  obtain ⟨ca0, ca1, ca2, ca3⟩ := Pa.out
  obtain ⟨cu0, cu1, cu2, cu3⟩ := Pu.out
  go_wp2_with fail
  refine (HEq.out _).mono ?_
  rintro e w3 ⟨rfl, hb3⟩
  clear ca0 ca1 ca2 ca3 cu0 cu1 cu2 cu3
  replace Pa := Lib.hid (Pa.out.on hb3)
  replace Pu := Lib.hid (Pu.out.on hb3)
  replace HB := Lib.hid (below_step HB.out hb3)
  clear hb3
  replace Pa := Lib.hid (Pa.out.alloc (.cells #[.int .i64 0, .int .i64 0, .string ⟨#[]⟩, .bool false] 23))
  replace Pu := Lib.hid (Pu.out.alloc (.cells #[.int .i64 0, .int .i64 0, .string ⟨#[]⟩, .bool false] 23))
  have Px := Lib.hid (in4_new w3 0 0 ⟨#[]⟩ false 23)
  replace HB : Hid (Below w.heap.size w (w3.alloc (.cells #[.int .i64 0, .int .i64 0, .string ⟨#[]⟩, .bool false] 23))) := below_step HB.out ((Below.refl _ _).alloc (Nat.le_refl _) _)
  obtain ⟨ca0, ca1, ca2, ca3⟩ := Pa.out
  obtain ⟨cu0, cu1, cu2, cu3⟩ := Pu.out
  obtain ⟨cx0, cx1, cx2, cx3⟩ := Px.out
  go_wp2_with fail
  refine (HLe.out _).mono ?_
  rintro e w4 ⟨rfl, hb4⟩
  clear ca0 ca1 ca2 ca3 cu0 cu1 cu2 cu3 cx0 cx1 cx2 cx3
  replace Pa := Lib.hid (Pa.out.on hb4)
  replace Pu := Lib.hid (Pu.out.on hb4)
  replace Px := Lib.hid (Px.out.on hb4)
  replace HB := Lib.hid (below_step HB.out hb4)
  clear hb4
  replace Pa := Lib.hid (Pa.out.alloc (.cells #[.int .i64 0, .int .i64 0, .string ⟨#[]⟩, .bool false] 23))
  replace Pu := Lib.hid (Pu.out.alloc (.cells #[.int .i64 0, .int .i64 0, .string ⟨#[]⟩, .bool false] 23))
  replace Px := Lib.hid (Px.out.alloc (.cells #[.int .i64 0, .int .i64 0, .string ⟨#[]⟩, .bool false] 23))
  have Py := Lib.hid (in4_new w4 0 0 ⟨#[]⟩ false 23)
  replace HB : Hid (Below w.heap.size w (w4.alloc (.cells #[.int .i64 0, .int .i64 0, .string ⟨#[]⟩, .bool false] 23))) := below_step HB.out ((Below.refl _ _).alloc (Nat.le_refl _) _)
  obtain ⟨ca0, ca1, ca2, ca3⟩ := Pa.out
  obtain ⟨cu0, cu1, cu2, cu3⟩ := Pu.out
  obtain ⟨cx0, cx1, cx2, cx3⟩ := Px.out
  obtain ⟨cy0, cy1, cy2, cy3⟩ := Py.out
  go_wp2_with fail
  refine (HS.out _ (HE.out.on HB.out)).mono ?_
  rintro e w5 ⟨rfl, hb5⟩
  clear ca0 ca1 ca2 ca3 cu0 cu1 cu2 cu3 cx0 cx1 cx2 cx3 cy0 cy1 cy2 cy3
  replace Pa := Lib.hid (Pa.out.on hb5)
  replace Pu := Lib.hid (Pu.out.on hb5)
  replace Px := Lib.hid (Px.out.on hb5)
  replace Py := Lib.hid (Py.out.on hb5)
  replace HB := Lib.hid (below_step HB.out hb5)
  clear hb5
  obtain ⟨ca0, ca1, ca2, ca3⟩ := Pa.out
  obtain ⟨cu0, cu1, cu2, cu3⟩ := Pu.out
  obtain ⟨cx0, cx1, cx2, cx3⟩ := Px.out
  obtain ⟨cy0, cy1, cy2, cy3⟩ := Py.out
  go_wp2_with fail
  go_ret
  exact ⟨rfl, HB.out⟩
set_option maxHeartbeats 4000000 in
set_option maxRecDepth 100000 in
theorem nulls_k3 (n : Int) (t : ByteArray) (b : Bool) (op : Int) (w : World) (hv : validN ⟨3, n, t, b⟩ = 0) (hE : Env w) :
    Calls Tryd.prog 4 #[.agg #[.int .i64 3, .int .i64 n, .string t, .bool b], .int .u8 op] w fun e w' => e = .returned (.bool true) ∧ Below w.heap.size w w' := by
  have HV : Hid (∀ W, Calls Tryd.prog 9 #[.agg #[.int .i64 3, .int .i64 n, .string t, .bool b]] W fun e w' => e = .returned (.nilIface) ∧ Below W.heap.size W w') := fun W => by have := valid_ 3 n t b W; rw [hv] at this; exact this
  have HNU : Hid (∀ W, Calls Tryd.prog 10 #[] W fun e w' => e = .returned (.agg #[.int .i64 0, .int .i64 0, .string ⟨#[]⟩, .bool false]) ∧ Below W.heap.size W w') := fun W => null_ W
  have HEq : Hid (∀ W, Calls Tryd.prog 11 #[.agg #[.int .i64 3, .int .i64 n, .string t, .bool b], .agg #[.int .i64 0, .int .i64 0, .string ⟨#[]⟩, .bool false]] W fun e w' => e = .returned (.tuple #[.agg #[.int .i64 0, .int .i64 0, .string ⟨#[]⟩, .bool false], .nilIface]) ∧ Below W.heap.size W w') := fun W => equal_null 3 n t b 0 0 ⟨#[]⟩ false W (by decide) (by decide)
  have HLe : Hid (∀ W, Calls Tryd.prog 12 #[.agg #[.int .i64 0, .int .i64 0, .string ⟨#[]⟩, .bool false], .agg #[.int .i64 3, .int .i64 n, .string t, .bool b]] W fun e w' => e = .returned (.tuple #[.agg #[.int .i64 0, .int .i64 0, .string ⟨#[]⟩, .bool false], .nilIface]) ∧ Below W.heap.size W w') := fun W => less_null 0 0 ⟨#[]⟩ false 3 n t b W (by decide) (by decide)
  have hEQx : ∀ W, (Op.equalIn 10000 23 (.agg #[.int .i64 0, .int .i64 0, .string ⟨#[]⟩, .bool false]) (.agg #[.int .i64 0, .int .i64 0, .string ⟨#[]⟩, .bool false])).run Tryd.prog W = .ok true W := fun W => by rw [eqIn_, sameV_refl]
  have hGD := guardV
  have HS : Hid (∀ W, Env W → Calls Tryd.prog 8 #[] W fun e w' => e = .returned (.bool true) ∧ Below W.heap.size W w') := fun W hW => sure_ W hW
  have HE := Lib.hid hE
  clear hE hv
  have Pa : Hid (In4 (w.alloc (.cells #[.int .i64 3, .int .i64 n, .string t, .bool b] 23)) (w.heap.size) 0 3 n t b) := Lib.hid (by have := in4_new w 3 n t b 23; simpa using this)
  have HB : Hid (Below w.heap.size w (w.alloc (.cells #[.int .i64 3, .int .i64 n, .string t, .bool b] 23))) := ((Below.refl _ _).alloc (by simp) _)
  go_enter Tryd.func4, Tryd.ntmps4
  go_wp2_with fail
  refine (HV.out _).mono ?_
  rintro e w1 ⟨rfl, hb1⟩
  replace Pa := Lib.hid (Pa.out.on hb1)
  replace HB := Lib.hid (below_step HB.out hb1)
  clear hb1
  obtain ⟨ca0, ca1, ca2, ca3⟩ := Pa.out
  go_wp2_with fail
  refine (HNU.out _).mono ?_
  rintro e w2 ⟨rfl, hb2⟩
  clear ca0 ca1 ca2 ca3
  replace Pa := Lib.hid (Pa.out.on hb2)
  replace HB := Lib.hid (below_step HB.out hb2)
  clear hb2
  replace Pa := Lib.hid (Pa.out.alloc (.cells #[.int .i64 0, .int .i64 0, .string ⟨#[]⟩, .bool false] 23))
  have Pu := Lib.hid (in4_new w2 0 0 ⟨#[]⟩ false 23)
  replace HB : Hid (Below w.heap.size w (w2.alloc (.cells #[.int .i64 0, .int .i64 0, .string ⟨#[]⟩, .bool false] 23))) := below_step HB.out ((Below.refl _ _).alloc (Nat.le_refl _) _)
  obtain ⟨ca0, ca1, ca2, ca3⟩ := Pa.out
  obtain ⟨cu0, cu1, cu2, cu3⟩ := Pu.out
  go_wp2_with fail
  refine (HEq.out _).mono ?_
  rintro e w3 ⟨rfl, hb3⟩
  clear ca0 ca1 ca2 ca3 cu0 cu1 cu2 cu3
  replace Pa := Lib.hid (Pa.out.on hb3)
  replace Pu := Lib.hid (Pu.out.on hb3)
  replace HB := Lib.hid (below_step HB.out hb3)
  clear hb3
  replace Pa := Lib.hid (Pa.out.alloc (.cells #[.int .i64 0, .int .i64 0, .string ⟨#[]⟩, .bool false] 23))
  replace Pu := Lib.hid (Pu.out.alloc (.cells #[.int .i64 0, .int .i64 0, .string ⟨#[]⟩, .bool false] 23))
  have Px := Lib.hid (in4_new w3 0 0 ⟨#[]⟩ false 23)
  replace HB : Hid (Below w.heap.size w (w3.alloc (.cells #[.int .i64 0, .int .i64 0, .string ⟨#[]⟩, .bool false] 23))) := below_step HB.out ((Below.refl _ _).alloc (Nat.le_refl _) _)
  obtain ⟨ca0, ca1, ca2, ca3⟩ := Pa.out
  obtain ⟨cu0, cu1, cu2, cu3⟩ := Pu.out
  obtain ⟨cx0, cx1, cx2, cx3⟩ := Px.out
  go_wp2_with fail
  refine (HLe.out _).mono ?_
  rintro e w4 ⟨rfl, hb4⟩
  clear ca0 ca1 ca2 ca3 cu0 cu1 cu2 cu3 cx0 cx1 cx2 cx3
  replace Pa := Lib.hid (Pa.out.on hb4)
  replace Pu := Lib.hid (Pu.out.on hb4)
  replace Px := Lib.hid (Px.out.on hb4)
  replace HB := Lib.hid (below_step HB.out hb4)
  clear hb4
  replace Pa := Lib.hid (Pa.out.alloc (.cells #[.int .i64 0, .int .i64 0, .string ⟨#[]⟩, .bool false] 23))
  replace Pu := Lib.hid (Pu.out.alloc (.cells #[.int .i64 0, .int .i64 0, .string ⟨#[]⟩, .bool false] 23))
  replace Px := Lib.hid (Px.out.alloc (.cells #[.int .i64 0, .int .i64 0, .string ⟨#[]⟩, .bool false] 23))
  have Py := Lib.hid (in4_new w4 0 0 ⟨#[]⟩ false 23)
  replace HB : Hid (Below w.heap.size w (w4.alloc (.cells #[.int .i64 0, .int .i64 0, .string ⟨#[]⟩, .bool false] 23))) := below_step HB.out ((Below.refl _ _).alloc (Nat.le_refl _) _)
  obtain ⟨ca0, ca1, ca2, ca3⟩ := Pa.out
  obtain ⟨cu0, cu1, cu2, cu3⟩ := Pu.out
  obtain ⟨cx0, cx1, cx2, cx3⟩ := Px.out
  obtain ⟨cy0, cy1, cy2, cy3⟩ := Py.out
  go_wp2_with fail
  refine (HS.out _ (HE.out.on HB.out)).mono ?_
  rintro e w5 ⟨rfl, hb5⟩
  clear ca0 ca1 ca2 ca3 cu0 cu1 cu2 cu3 cx0 cx1 cx2 cx3 cy0 cy1 cy2 cy3
  replace Pa := Lib.hid (Pa.out.on hb5)
  replace Pu := Lib.hid (Pu.out.on hb5)
  replace Px := Lib.hid (Px.out.on hb5)
  replace Py := Lib.hid (Py.out.on hb5)
  replace HB := Lib.hid (below_step HB.out hb5)
  clear hb5
  obtain ⟨ca0, ca1, ca2, ca3⟩ := Pa.out
  obtain ⟨cu0, cu1, cu2, cu3⟩ := Pu.out
  obtain ⟨cx0, cx1, cx2, cx3⟩ := Px.out
  obtain ⟨cy0, cy1, cy2, cy3⟩ := Py.out
  go_wp2_with fail
  go_ret
  exact ⟨rfl, HB.out⟩
set_option maxHeartbeats 4000000 in
set_option maxRecDepth 100000 in
theorem nulls_k2 (n : Int) (t : ByteArray) (b : Bool) (op : Int) (w : World) (hv : validN ⟨2, n, t, b⟩ = 0) (hE : Env w) :
    Calls Tryd.prog 4 #[.agg #[.int .i64 2, .int .i64 n, .string t, .bool b], .int .u8 op] w fun e w' => e = .returned (.bool true) ∧ Below w.heap.size w w' := by
  have HV : Hid (∀ W, Calls Tryd.prog 9 #[.agg #[.int .i64 2, .int .i64 n, .string t, .bool b]] W fun e w' => e = .returned (.nilIface) ∧ Below W.heap.size W w') := fun W => by have := valid_ 2 n t b W; rw [hv] at this; exact this
  have HNU : Hid (∀ W, Calls Tryd.prog 10 #[] W fun e w' => e = .returned (.agg #[.int .i64 0, .int .i64 0, .string ⟨#[]⟩, .bool false]) ∧ Below W.heap.size W w') := fun W => null_ W
  have HEq : Hid (∀ W, Calls Tryd.prog 11 #[.agg #[.int .i64 2, .int .i64 n, .string t, .bool b], .agg #[.int .i64 0, .int .i64 0, .string ⟨#[]⟩, .bool false]] W fun e w' => e = .returned (.tuple #[.agg #[.int .i64 0, .int .i64 0, .string ⟨#[]⟩, .bool false], .nilIface]) ∧ Below W.heap.size W w') := fun W => equal_null 2 n t b 0 0 ⟨#[]⟩ false W (by decide) (by decide)
  have HLe : Hid (∀ W, Calls Tryd.prog 12 #[.agg #[.int .i64 0, .int .i64 0, .string ⟨#[]⟩, .bool false], .agg #[.int .i64 2, .int .i64 n, .string t, .bool b]] W fun e w' => e = .returned (.tuple #[.agg #[.int .i64 0, .int .i64 0, .string ⟨#[]⟩, .bool false], .nilIface]) ∧ Below W.heap.size W w') := fun W => less_null 0 0 ⟨#[]⟩ false 2 n t b W (by decide) (by decide)
  have hEQx : ∀ W, (Op.equalIn 10000 23 (.agg #[.int .i64 0, .int .i64 0, .string ⟨#[]⟩, .bool false]) (.agg #[.int .i64 0, .int .i64 0, .string ⟨#[]⟩, .bool false])).run Tryd.prog W = .ok true W := fun W => by rw [eqIn_, sameV_refl]
  have hGD := guardV
  have HR1 : Hid (∀ W, Calls Tryd.prog 13 #[.agg #[.int .i64 2, .int .i64 n, .string t, .bool b], .agg #[.int .i64 0, .int .i64 0, .string ⟨#[]⟩, .bool false]] W fun e w' => e = .returned (.tuple #[.agg #[.int .i64 0, .int .i64 0, .string ⟨#[]⟩, .bool false], .nilIface]) ∧ Below W.heap.size W w') := fun W => join_null 2 n t b 0 0 ⟨#[]⟩ false W (by decide) (by decide)
  have HR2 : Hid (∀ W, Calls Tryd.prog 13 #[.agg #[.int .i64 0, .int .i64 0, .string ⟨#[]⟩, .bool false], .agg #[.int .i64 2, .int .i64 n, .string t, .bool b]] W fun e w' => e = .returned (.tuple #[.agg #[.int .i64 0, .int .i64 0, .string ⟨#[]⟩, .bool false], .nilIface]) ∧ Below W.heap.size W w') := fun W => join_null 0 0 ⟨#[]⟩ false 2 n t b W (by decide) (by decide)
  have HS : Hid (∀ W, Env W → Calls Tryd.prog 8 #[] W fun e w' => e = .returned (.bool true) ∧ Below W.heap.size W w') := fun W hW => sure_ W hW
  have HE := Lib.hid hE
  clear hE hv
  have Pa : Hid (In4 (w.alloc (.cells #[.int .i64 2, .int .i64 n, .string t, .bool b] 23)) (w.heap.size) 0 2 n t b) := Lib.hid (by have := in4_new w 2 n t b 23; simpa using this)
  have HB : Hid (Below w.heap.size w (w.alloc (.cells #[.int .i64 2, .int .i64 n, .string t, .bool b] 23))) := ((Below.refl _ _).alloc (by simp) _)
  go_enter Tryd.func4, Tryd.ntmps4
  go_wp2_with fail
  refine (HV.out _).mono ?_
  rintro e w1 ⟨rfl, hb1⟩
  replace Pa := Lib.hid (Pa.out.on hb1)
  replace HB := Lib.hid (below_step HB.out hb1)
  clear hb1
  obtain ⟨ca0, ca1, ca2, ca3⟩ := Pa.out
  go_wp2_with fail
  refine (HNU.out _).mono ?_
  rintro e w2 ⟨rfl, hb2⟩
  clear ca0 ca1 ca2 ca3
  replace Pa := Lib.hid (Pa.out.on hb2)
  replace HB := Lib.hid (below_step HB.out hb2)
  clear hb2
  replace Pa := Lib.hid (Pa.out.alloc (.cells #[.int .i64 0, .int .i64 0, .string ⟨#[]⟩, .bool false] 23))
  have Pu := Lib.hid (in4_new w2 0 0 ⟨#[]⟩ false 23)
  replace HB : Hid (Below w.heap.size w (w2.alloc (.cells #[.int .i64 0, .int .i64 0, .string ⟨#[]⟩, .bool false] 23))) := below_step HB.out ((Below.refl _ _).alloc (Nat.le_refl _) _)
  obtain ⟨ca0, ca1, ca2, ca3⟩ := Pa.out
  obtain ⟨cu0, cu1, cu2, cu3⟩ := Pu.out
  go_wp2_with fail
  refine (HEq.out _).mono ?_
  rintro e w3 ⟨rfl, hb3⟩
  clear ca0 ca1 ca2 ca3 cu0 cu1 cu2 cu3
  replace Pa := Lib.hid (Pa.out.on hb3)
  replace Pu := Lib.hid (Pu.out.on hb3)
  replace HB := Lib.hid (below_step HB.out hb3)
  clear hb3
  replace Pa := Lib.hid (Pa.out.alloc (.cells #[.int .i64 0, .int .i64 0, .string ⟨#[]⟩, .bool false] 23))
  replace Pu := Lib.hid (Pu.out.alloc (.cells #[.int .i64 0, .int .i64 0, .string ⟨#[]⟩, .bool false] 23))
  have Px := Lib.hid (in4_new w3 0 0 ⟨#[]⟩ false 23)
  replace HB : Hid (Below w.heap.size w (w3.alloc (.cells #[.int .i64 0, .int .i64 0, .string ⟨#[]⟩, .bool false] 23))) := below_step HB.out ((Below.refl _ _).alloc (Nat.le_refl _) _)
  obtain ⟨ca0, ca1, ca2, ca3⟩ := Pa.out
  obtain ⟨cu0, cu1, cu2, cu3⟩ := Pu.out
  obtain ⟨cx0, cx1, cx2, cx3⟩ := Px.out
  go_wp2_with fail
  refine (HLe.out _).mono ?_
  rintro e w4 ⟨rfl, hb4⟩
  clear ca0 ca1 ca2 ca3 cu0 cu1 cu2 cu3 cx0 cx1 cx2 cx3
  replace Pa := Lib.hid (Pa.out.on hb4)
  replace Pu := Lib.hid (Pu.out.on hb4)
  replace Px := Lib.hid (Px.out.on hb4)
  replace HB := Lib.hid (below_step HB.out hb4)
  clear hb4
  replace Pa := Lib.hid (Pa.out.alloc (.cells #[.int .i64 0, .int .i64 0, .string ⟨#[]⟩, .bool false] 23))
  replace Pu := Lib.hid (Pu.out.alloc (.cells #[.int .i64 0, .int .i64 0, .string ⟨#[]⟩, .bool false] 23))
  replace Px := Lib.hid (Px.out.alloc (.cells #[.int .i64 0, .int .i64 0, .string ⟨#[]⟩, .bool false] 23))
  have Py := Lib.hid (in4_new w4 0 0 ⟨#[]⟩ false 23)
  replace HB : Hid (Below w.heap.size w (w4.alloc (.cells #[.int .i64 0, .int .i64 0, .string ⟨#[]⟩, .bool false] 23))) := below_step HB.out ((Below.refl _ _).alloc (Nat.le_refl _) _)
  obtain ⟨ca0, ca1, ca2, ca3⟩ := Pa.out
  obtain ⟨cu0, cu1, cu2, cu3⟩ := Pu.out
  obtain ⟨cx0, cx1, cx2, cx3⟩ := Px.out
  obtain ⟨cy0, cy1, cy2, cy3⟩ := Py.out
  go_wp2_with fail
  refine (HR1.out _).mono ?_
  rintro e w5 ⟨rfl, hb5⟩
  clear ca0 ca1 ca2 ca3 cu0 cu1 cu2 cu3 cx0 cx1 cx2 cx3 cy0 cy1 cy2 cy3
  replace Pa := Lib.hid (Pa.out.on hb5)
  replace Pu := Lib.hid (Pu.out.on hb5)
  replace Px := Lib.hid (Px.out.on hb5)
  replace Py := Lib.hid (Py.out.on hb5)
  replace HB := Lib.hid (below_step HB.out hb5)
  clear hb5
  replace Pa := Lib.hid (Pa.out.alloc (.cells #[.int .i64 0, .int .i64 0, .string ⟨#[]⟩, .bool false] 23))
  replace Pu := Lib.hid (Pu.out.alloc (.cells #[.int .i64 0, .int .i64 0, .string ⟨#[]⟩, .bool false] 23))
  replace Px := Lib.hid (Px.out.alloc (.cells #[.int .i64 0, .int .i64 0, .string ⟨#[]⟩, .bool false] 23))
  replace Py := Lib.hid (Py.out.alloc (.cells #[.int .i64 0, .int .i64 0, .string ⟨#[]⟩, .bool false] 23))
  have Pc := Lib.hid (in4_new w5 0 0 ⟨#[]⟩ false 23)
  replace HB : Hid (Below w.heap.size w (w5.alloc (.cells #[.int .i64 0, .int .i64 0, .string ⟨#[]⟩, .bool false] 23))) := below_step HB.out ((Below.refl _ _).alloc (Nat.le_refl _) _)
  obtain ⟨ca0, ca1, ca2, ca3⟩ := Pa.out
  obtain ⟨cu0, cu1, cu2, cu3⟩ := Pu.out
  obtain ⟨cx0, cx1, cx2, cx3⟩ := Px.out
  obtain ⟨cy0, cy1, cy2, cy3⟩ := Py.out
  obtain ⟨cc0, cc1, cc2, cc3⟩ := Pc.out
  go_wp2_with fail
  refine (HR2.out _).mono ?_
  rintro e w6 ⟨rfl, hb6⟩
  clear ca0 ca1 ca2 ca3 cu0 cu1 cu2 cu3 cx0 cx1 cx2 cx3 cy0 cy1 cy2 cy3 cc0 cc1 cc2 cc3
  replace Pa := Lib.hid (Pa.out.on hb6)
  replace Pu := Lib.hid (Pu.out.on hb6)
  replace Px := Lib.hid (Px.out.on hb6)
  replace Py := Lib.hid (Py.out.on hb6)
  replace Pc := Lib.hid (Pc.out.on hb6)
  replace HB := Lib.hid (below_step HB.out hb6)
  clear hb6
  replace Pa := Lib.hid (Pa.out.alloc (.cells #[.int .i64 0, .int .i64 0, .string ⟨#[]⟩, .bool false] 23))
  replace Pu := Lib.hid (Pu.out.alloc (.cells #[.int .i64 0, .int .i64 0, .string ⟨#[]⟩, .bool false] 23))
  replace Px := Lib.hid (Px.out.alloc (.cells #[.int .i64 0, .int .i64 0, .string ⟨#[]⟩, .bool false] 23))
  replace Py := Lib.hid (Py.out.alloc (.cells #[.int .i64 0, .int .i64 0, .string ⟨#[]⟩, .bool false] 23))
  replace Pc := Lib.hid (Pc.out.alloc (.cells #[.int .i64 0, .int .i64 0, .string ⟨#[]⟩, .bool false] 23))
  have Pd := Lib.hid (in4_new w6 0 0 ⟨#[]⟩ false 23)
  replace HB : Hid (Below w.heap.size w (w6.alloc (.cells #[.int .i64 0, .int .i64 0, .string ⟨#[]⟩, .bool false] 23))) := below_step HB.out ((Below.refl _ _).alloc (Nat.le_refl _) _)
  obtain ⟨ca0, ca1, ca2, ca3⟩ := Pa.out
  obtain ⟨cu0, cu1, cu2, cu3⟩ := Pu.out
  obtain ⟨cx0, cx1, cx2, cx3⟩ := Px.out
  obtain ⟨cy0, cy1, cy2, cy3⟩ := Py.out
  obtain ⟨cc0, cc1, cc2, cc3⟩ := Pc.out
  obtain ⟨cd0, cd1, cd2, cd3⟩ := Pd.out
  go_wp2_with fail
  refine (HS.out _ (HE.out.on HB.out)).mono ?_
  rintro e w7 ⟨rfl, hb7⟩
  clear ca0 ca1 ca2 ca3 cu0 cu1 cu2 cu3 cx0 cx1 cx2 cx3 cy0 cy1 cy2 cy3 cc0 cc1 cc2 cc3 cd0 cd1 cd2 cd3
  replace Pa := Lib.hid (Pa.out.on hb7)
  replace Pu := Lib.hid (Pu.out.on hb7)
  replace Px := Lib.hid (Px.out.on hb7)
  replace Py := Lib.hid (Py.out.on hb7)
  replace Pc := Lib.hid (Pc.out.on hb7)
  replace Pd := Lib.hid (Pd.out.on hb7)
  replace HB := Lib.hid (below_step HB.out hb7)
  clear hb7
  obtain ⟨ca0, ca1, ca2, ca3⟩ := Pa.out
  obtain ⟨cu0, cu1, cu2, cu3⟩ := Pu.out
  obtain ⟨cx0, cx1, cx2, cx3⟩ := Px.out
  obtain ⟨cy0, cy1, cy2, cy3⟩ := Py.out
  obtain ⟨cc0, cc1, cc2, cc3⟩ := Pc.out
  obtain ⟨cd0, cd1, cd2, cd3⟩ := Pd.out
  go_wp2_with fail
  go_ret
  exact ⟨rfl, HB.out⟩
set_option maxHeartbeats 4000000 in
set_option maxRecDepth 100000 in
theorem nulls_k1_0 (n : Int) (t : ByteArray) (b : Bool) (op : Int) (w : World) (hv : validN ⟨1, n, t, b⟩ = 0) (hw : wrap64 op = op) (hj : op.tmod 5 = 0) (hE : Env w) :
    Calls Tryd.prog 4 #[.agg #[.int .i64 1, .int .i64 n, .string t, .bool b], .int .u8 op] w fun e w' => e = .returned (.bool true) ∧ Below w.heap.size w w' := by
  have HV : Hid (∀ W, Calls Tryd.prog 9 #[.agg #[.int .i64 1, .int .i64 n, .string t, .bool b]] W fun e w' => e = .returned (.nilIface) ∧ Below W.heap.size W w') := fun W => by have := valid_ 1 n t b W; rw [hv] at this; exact this
  have HNU : Hid (∀ W, Calls Tryd.prog 10 #[] W fun e w' => e = .returned (.agg #[.int .i64 0, .int .i64 0, .string ⟨#[]⟩, .bool false]) ∧ Below W.heap.size W w') := fun W => null_ W
  have HEq : Hid (∀ W, Calls Tryd.prog 11 #[.agg #[.int .i64 1, .int .i64 n, .string t, .bool b], .agg #[.int .i64 0, .int .i64 0, .string ⟨#[]⟩, .bool false]] W fun e w' => e = .returned (.tuple #[.agg #[.int .i64 0, .int .i64 0, .string ⟨#[]⟩, .bool false], .nilIface]) ∧ Below W.heap.size W w') := fun W => equal_null 1 n t b 0 0 ⟨#[]⟩ false W (by decide) (by decide)
  have HLe : Hid (∀ W, Calls Tryd.prog 12 #[.agg #[.int .i64 0, .int .i64 0, .string ⟨#[]⟩, .bool false], .agg #[.int .i64 1, .int .i64 n, .string t, .bool b]] W fun e w' => e = .returned (.tuple #[.agg #[.int .i64 0, .int .i64 0, .string ⟨#[]⟩, .bool false], .nilIface]) ∧ Below W.heap.size W w') := fun W => less_null 0 0 ⟨#[]⟩ false 1 n t b W (by decide) (by decide)
  have hEQx : ∀ W, (Op.equalIn 10000 23 (.agg #[.int .i64 0, .int .i64 0, .string ⟨#[]⟩, .bool false]) (.agg #[.int .i64 0, .int .i64 0, .string ⟨#[]⟩, .bool false])).run Tryd.prog W = .ok true W := fun W => by rw [eqIn_, sameV_refl]
  have hGD := guardV
  have HR1 : Hid (∀ W, Calls Tryd.prog 6 #[.int .u8 43, .agg #[.int .i64 1, .int .i64 n, .string t, .bool b], .agg #[.int .i64 0, .int .i64 0, .string ⟨#[]⟩, .bool false]] W fun e w' => e = .returned (.tuple #[.agg #[.int .i64 0, .int .i64 0, .string ⟨#[]⟩, .bool false], .nilIface]) ∧ Below W.heap.size W w') := fun W => reckon_null 43 1 n t b 0 0 ⟨#[]⟩ false W (by decide) (by decide) (by decide)
  have HR2 : Hid (∀ W, Calls Tryd.prog 6 #[.int .u8 43, .agg #[.int .i64 0, .int .i64 0, .string ⟨#[]⟩, .bool false], .agg #[.int .i64 1, .int .i64 n, .string t, .bool b]] W fun e w' => e = .returned (.tuple #[.agg #[.int .i64 0, .int .i64 0, .string ⟨#[]⟩, .bool false], .nilIface]) ∧ Below W.heap.size W w') := fun W => reckon_null 43 0 0 ⟨#[]⟩ false 1 n t b W (by decide) (by decide) (by decide)
  have hby : (({ data := #[43, 45, 42, 47, 37] } : ByteArray)[0]'(by decide)).toNat = 43 := by decide
  have HS : Hid (∀ W, Env W → Calls Tryd.prog 8 #[] W fun e w' => e = .returned (.bool true) ∧ Below W.heap.size W w') := fun W hW => sure_ W hW
  have HE := Lib.hid hE
  clear hE hv
  have Pa : Hid (In4 (w.alloc (.cells #[.int .i64 1, .int .i64 n, .string t, .bool b] 23)) (w.heap.size) 0 1 n t b) := Lib.hid (by have := in4_new w 1 n t b 23; simpa using this)
  have HB : Hid (Below w.heap.size w (w.alloc (.cells #[.int .i64 1, .int .i64 n, .string t, .bool b] 23))) := ((Below.refl _ _).alloc (by simp) _)
  go_enter Tryd.func4, Tryd.ntmps4
  go_wp2_with fail
  refine (HV.out _).mono ?_
  rintro e w1 ⟨rfl, hb1⟩
  replace Pa := Lib.hid (Pa.out.on hb1)
  replace HB := Lib.hid (below_step HB.out hb1)
  clear hb1
  obtain ⟨ca0, ca1, ca2, ca3⟩ := Pa.out
  go_wp2_with fail
  refine (HNU.out _).mono ?_
  rintro e w2 ⟨rfl, hb2⟩
  clear ca0 ca1 ca2 ca3
  replace Pa := Lib.hid (Pa.out.on hb2)
  replace HB := Lib.hid (below_step HB.out hb2)
  clear hb2
  replace Pa := Lib.hid (Pa.out.alloc (.cells #[.int .i64 0, .int .i64 0, .string ⟨#[]⟩, .bool false] 23))
  have Pu := Lib.hid (in4_new w2 0 0 ⟨#[]⟩ false 23)
  replace HB : Hid (Below w.heap.size w (w2.alloc (.cells #[.int .i64 0, .int .i64 0, .string ⟨#[]⟩, .bool false] 23))) := below_step HB.out ((Below.refl _ _).alloc (Nat.le_refl _) _)
  obtain ⟨ca0, ca1, ca2, ca3⟩ := Pa.out
  obtain ⟨cu0, cu1, cu2, cu3⟩ := Pu.out
  go_wp2_with fail
  refine (HEq.out _).mono ?_
  rintro e w3 ⟨rfl, hb3⟩
  clear ca0 ca1 ca2 ca3 cu0 cu1 cu2 cu3
  replace Pa := Lib.hid (Pa.out.on hb3)
  replace Pu := Lib.hid (Pu.out.on hb3)
  replace HB := Lib.hid (below_step HB.out hb3)
  clear hb3
  replace Pa := Lib.hid (Pa.out.alloc (.cells #[.int .i64 0, .int .i64 0, .string ⟨#[]⟩, .bool false] 23))
  replace Pu := Lib.hid (Pu.out.alloc (.cells #[.int .i64 0, .int .i64 0, .string ⟨#[]⟩, .bool false] 23))
  have Px := Lib.hid (in4_new w3 0 0 ⟨#[]⟩ false 23)
  replace HB : Hid (Below w.heap.size w (w3.alloc (.cells #[.int .i64 0, .int .i64 0, .string ⟨#[]⟩, .bool false] 23))) := below_step HB.out ((Below.refl _ _).alloc (Nat.le_refl _) _)
  obtain ⟨ca0, ca1, ca2, ca3⟩ := Pa.out
  obtain ⟨cu0, cu1, cu2, cu3⟩ := Pu.out
  obtain ⟨cx0, cx1, cx2, cx3⟩ := Px.out
  go_wp2_with fail
  refine (HLe.out _).mono ?_
  rintro e w4 ⟨rfl, hb4⟩
  clear ca0 ca1 ca2 ca3 cu0 cu1 cu2 cu3 cx0 cx1 cx2 cx3
  replace Pa := Lib.hid (Pa.out.on hb4)
  replace Pu := Lib.hid (Pu.out.on hb4)
  replace Px := Lib.hid (Px.out.on hb4)
  replace HB := Lib.hid (below_step HB.out hb4)
  clear hb4
  replace Pa := Lib.hid (Pa.out.alloc (.cells #[.int .i64 0, .int .i64 0, .string ⟨#[]⟩, .bool false] 23))
  replace Pu := Lib.hid (Pu.out.alloc (.cells #[.int .i64 0, .int .i64 0, .string ⟨#[]⟩, .bool false] 23))
  replace Px := Lib.hid (Px.out.alloc (.cells #[.int .i64 0, .int .i64 0, .string ⟨#[]⟩, .bool false] 23))
  have Py := Lib.hid (in4_new w4 0 0 ⟨#[]⟩ false 23)
  replace HB : Hid (Below w.heap.size w (w4.alloc (.cells #[.int .i64 0, .int .i64 0, .string ⟨#[]⟩, .bool false] 23))) := below_step HB.out ((Below.refl _ _).alloc (Nat.le_refl _) _)
  obtain ⟨ca0, ca1, ca2, ca3⟩ := Pa.out
  obtain ⟨cu0, cu1, cu2, cu3⟩ := Pu.out
  obtain ⟨cx0, cx1, cx2, cx3⟩ := Px.out
  obtain ⟨cy0, cy1, cy2, cy3⟩ := Py.out
  go_wp2_with fail
  refine (HR1.out _).mono ?_
  rintro e w5 ⟨rfl, hb5⟩
  clear ca0 ca1 ca2 ca3 cu0 cu1 cu2 cu3 cx0 cx1 cx2 cx3 cy0 cy1 cy2 cy3
  replace Pa := Lib.hid (Pa.out.on hb5)
  replace Pu := Lib.hid (Pu.out.on hb5)
  replace Px := Lib.hid (Px.out.on hb5)
  replace Py := Lib.hid (Py.out.on hb5)
  replace HB := Lib.hid (below_step HB.out hb5)
  clear hb5
  replace Pa := Lib.hid (Pa.out.alloc (.cells #[.int .i64 0, .int .i64 0, .string ⟨#[]⟩, .bool false] 23))
  replace Pu := Lib.hid (Pu.out.alloc (.cells #[.int .i64 0, .int .i64 0, .string ⟨#[]⟩, .bool false] 23))
  replace Px := Lib.hid (Px.out.alloc (.cells #[.int .i64 0, .int .i64 0, .string ⟨#[]⟩, .bool false] 23))
  replace Py := Lib.hid (Py.out.alloc (.cells #[.int .i64 0, .int .i64 0, .string ⟨#[]⟩, .bool false] 23))
  have Pc := Lib.hid (in4_new w5 0 0 ⟨#[]⟩ false 23)
  replace HB : Hid (Below w.heap.size w (w5.alloc (.cells #[.int .i64 0, .int .i64 0, .string ⟨#[]⟩, .bool false] 23))) := below_step HB.out ((Below.refl _ _).alloc (Nat.le_refl _) _)
  obtain ⟨ca0, ca1, ca2, ca3⟩ := Pa.out
  obtain ⟨cu0, cu1, cu2, cu3⟩ := Pu.out
  obtain ⟨cx0, cx1, cx2, cx3⟩ := Px.out
  obtain ⟨cy0, cy1, cy2, cy3⟩ := Py.out
  obtain ⟨cc0, cc1, cc2, cc3⟩ := Pc.out
  go_wp2_with fail
  refine (HR2.out _).mono ?_
  rintro e w6 ⟨rfl, hb6⟩
  clear ca0 ca1 ca2 ca3 cu0 cu1 cu2 cu3 cx0 cx1 cx2 cx3 cy0 cy1 cy2 cy3 cc0 cc1 cc2 cc3
  replace Pa := Lib.hid (Pa.out.on hb6)
  replace Pu := Lib.hid (Pu.out.on hb6)
  replace Px := Lib.hid (Px.out.on hb6)
  replace Py := Lib.hid (Py.out.on hb6)
  replace Pc := Lib.hid (Pc.out.on hb6)
  replace HB := Lib.hid (below_step HB.out hb6)
  clear hb6
  replace Pa := Lib.hid (Pa.out.alloc (.cells #[.int .i64 0, .int .i64 0, .string ⟨#[]⟩, .bool false] 23))
  replace Pu := Lib.hid (Pu.out.alloc (.cells #[.int .i64 0, .int .i64 0, .string ⟨#[]⟩, .bool false] 23))
  replace Px := Lib.hid (Px.out.alloc (.cells #[.int .i64 0, .int .i64 0, .string ⟨#[]⟩, .bool false] 23))
  replace Py := Lib.hid (Py.out.alloc (.cells #[.int .i64 0, .int .i64 0, .string ⟨#[]⟩, .bool false] 23))
  replace Pc := Lib.hid (Pc.out.alloc (.cells #[.int .i64 0, .int .i64 0, .string ⟨#[]⟩, .bool false] 23))
  have Pd := Lib.hid (in4_new w6 0 0 ⟨#[]⟩ false 23)
  replace HB : Hid (Below w.heap.size w (w6.alloc (.cells #[.int .i64 0, .int .i64 0, .string ⟨#[]⟩, .bool false] 23))) := below_step HB.out ((Below.refl _ _).alloc (Nat.le_refl _) _)
  obtain ⟨ca0, ca1, ca2, ca3⟩ := Pa.out
  obtain ⟨cu0, cu1, cu2, cu3⟩ := Pu.out
  obtain ⟨cx0, cx1, cx2, cx3⟩ := Px.out
  obtain ⟨cy0, cy1, cy2, cy3⟩ := Py.out
  obtain ⟨cc0, cc1, cc2, cc3⟩ := Pc.out
  obtain ⟨cd0, cd1, cd2, cd3⟩ := Pd.out
  go_wp2_with fail
  refine (HS.out _ (HE.out.on HB.out)).mono ?_
  rintro e w7 ⟨rfl, hb7⟩
  clear ca0 ca1 ca2 ca3 cu0 cu1 cu2 cu3 cx0 cx1 cx2 cx3 cy0 cy1 cy2 cy3 cc0 cc1 cc2 cc3 cd0 cd1 cd2 cd3
  replace Pa := Lib.hid (Pa.out.on hb7)
  replace Pu := Lib.hid (Pu.out.on hb7)
  replace Px := Lib.hid (Px.out.on hb7)
  replace Py := Lib.hid (Py.out.on hb7)
  replace Pc := Lib.hid (Pc.out.on hb7)
  replace Pd := Lib.hid (Pd.out.on hb7)
  replace HB := Lib.hid (below_step HB.out hb7)
  clear hb7
  obtain ⟨ca0, ca1, ca2, ca3⟩ := Pa.out
  obtain ⟨cu0, cu1, cu2, cu3⟩ := Pu.out
  obtain ⟨cx0, cx1, cx2, cx3⟩ := Px.out
  obtain ⟨cy0, cy1, cy2, cy3⟩ := Py.out
  obtain ⟨cc0, cc1, cc2, cc3⟩ := Pc.out
  obtain ⟨cd0, cd1, cd2, cd3⟩ := Pd.out
  go_wp2_with fail
  go_ret
  exact ⟨rfl, HB.out⟩
set_option maxHeartbeats 4000000 in
set_option maxRecDepth 100000 in
theorem nulls_k1_1 (n : Int) (t : ByteArray) (b : Bool) (op : Int) (w : World) (hv : validN ⟨1, n, t, b⟩ = 0) (hw : wrap64 op = op) (hj : op.tmod 5 = 1) (hE : Env w) :
    Calls Tryd.prog 4 #[.agg #[.int .i64 1, .int .i64 n, .string t, .bool b], .int .u8 op] w fun e w' => e = .returned (.bool true) ∧ Below w.heap.size w w' := by
  have HV : Hid (∀ W, Calls Tryd.prog 9 #[.agg #[.int .i64 1, .int .i64 n, .string t, .bool b]] W fun e w' => e = .returned (.nilIface) ∧ Below W.heap.size W w') := fun W => by have := valid_ 1 n t b W; rw [hv] at this; exact this
  have HNU : Hid (∀ W, Calls Tryd.prog 10 #[] W fun e w' => e = .returned (.agg #[.int .i64 0, .int .i64 0, .string ⟨#[]⟩, .bool false]) ∧ Below W.heap.size W w') := fun W => null_ W
  have HEq : Hid (∀ W, Calls Tryd.prog 11 #[.agg #[.int .i64 1, .int .i64 n, .string t, .bool b], .agg #[.int .i64 0, .int .i64 0, .string ⟨#[]⟩, .bool false]] W fun e w' => e = .returned (.tuple #[.agg #[.int .i64 0, .int .i64 0, .string ⟨#[]⟩, .bool false], .nilIface]) ∧ Below W.heap.size W w') := fun W => equal_null 1 n t b 0 0 ⟨#[]⟩ false W (by decide) (by decide)
  have HLe : Hid (∀ W, Calls Tryd.prog 12 #[.agg #[.int .i64 0, .int .i64 0, .string ⟨#[]⟩, .bool false], .agg #[.int .i64 1, .int .i64 n, .string t, .bool b]] W fun e w' => e = .returned (.tuple #[.agg #[.int .i64 0, .int .i64 0, .string ⟨#[]⟩, .bool false], .nilIface]) ∧ Below W.heap.size W w') := fun W => less_null 0 0 ⟨#[]⟩ false 1 n t b W (by decide) (by decide)
  have hEQx : ∀ W, (Op.equalIn 10000 23 (.agg #[.int .i64 0, .int .i64 0, .string ⟨#[]⟩, .bool false]) (.agg #[.int .i64 0, .int .i64 0, .string ⟨#[]⟩, .bool false])).run Tryd.prog W = .ok true W := fun W => by rw [eqIn_, sameV_refl]
  have hGD := guardV
  have HR1 : Hid (∀ W, Calls Tryd.prog 6 #[.int .u8 45, .agg #[.int .i64 1, .int .i64 n, .string t, .bool b], .agg #[.int .i64 0, .int .i64 0, .string ⟨#[]⟩, .bool false]] W fun e w' => e = .returned (.tuple #[.agg #[.int .i64 0, .int .i64 0, .string ⟨#[]⟩, .bool false], .nilIface]) ∧ Below W.heap.size W w') := fun W => reckon_null 45 1 n t b 0 0 ⟨#[]⟩ false W (by decide) (by decide) (by decide)
  have HR2 : Hid (∀ W, Calls Tryd.prog 6 #[.int .u8 45, .agg #[.int .i64 0, .int .i64 0, .string ⟨#[]⟩, .bool false], .agg #[.int .i64 1, .int .i64 n, .string t, .bool b]] W fun e w' => e = .returned (.tuple #[.agg #[.int .i64 0, .int .i64 0, .string ⟨#[]⟩, .bool false], .nilIface]) ∧ Below W.heap.size W w') := fun W => reckon_null 45 0 0 ⟨#[]⟩ false 1 n t b W (by decide) (by decide) (by decide)
  have hby : (({ data := #[43, 45, 42, 47, 37] } : ByteArray)[1]'(by decide)).toNat = 45 := by decide
  have HS : Hid (∀ W, Env W → Calls Tryd.prog 8 #[] W fun e w' => e = .returned (.bool true) ∧ Below W.heap.size W w') := fun W hW => sure_ W hW
  have HE := Lib.hid hE
  clear hE hv
  have Pa : Hid (In4 (w.alloc (.cells #[.int .i64 1, .int .i64 n, .string t, .bool b] 23)) (w.heap.size) 0 1 n t b) := Lib.hid (by have := in4_new w 1 n t b 23; simpa using this)
  have HB : Hid (Below w.heap.size w (w.alloc (.cells #[.int .i64 1, .int .i64 n, .string t, .bool b] 23))) := ((Below.refl _ _).alloc (by simp) _)
  go_enter Tryd.func4, Tryd.ntmps4
  go_wp2_with fail
  refine (HV.out _).mono ?_
  rintro e w1 ⟨rfl, hb1⟩
  replace Pa := Lib.hid (Pa.out.on hb1)
  replace HB := Lib.hid (below_step HB.out hb1)
  clear hb1
  obtain ⟨ca0, ca1, ca2, ca3⟩ := Pa.out
  go_wp2_with fail
  refine (HNU.out _).mono ?_
  rintro e w2 ⟨rfl, hb2⟩
  clear ca0 ca1 ca2 ca3
  replace Pa := Lib.hid (Pa.out.on hb2)
  replace HB := Lib.hid (below_step HB.out hb2)
  clear hb2
  replace Pa := Lib.hid (Pa.out.alloc (.cells #[.int .i64 0, .int .i64 0, .string ⟨#[]⟩, .bool false] 23))
  have Pu := Lib.hid (in4_new w2 0 0 ⟨#[]⟩ false 23)
  replace HB : Hid (Below w.heap.size w (w2.alloc (.cells #[.int .i64 0, .int .i64 0, .string ⟨#[]⟩, .bool false] 23))) := below_step HB.out ((Below.refl _ _).alloc (Nat.le_refl _) _)
  obtain ⟨ca0, ca1, ca2, ca3⟩ := Pa.out
  obtain ⟨cu0, cu1, cu2, cu3⟩ := Pu.out
  go_wp2_with fail
  refine (HEq.out _).mono ?_
  rintro e w3 ⟨rfl, hb3⟩
  clear ca0 ca1 ca2 ca3 cu0 cu1 cu2 cu3
  replace Pa := Lib.hid (Pa.out.on hb3)
  replace Pu := Lib.hid (Pu.out.on hb3)
  replace HB := Lib.hid (below_step HB.out hb3)
  clear hb3
  replace Pa := Lib.hid (Pa.out.alloc (.cells #[.int .i64 0, .int .i64 0, .string ⟨#[]⟩, .bool false] 23))
  replace Pu := Lib.hid (Pu.out.alloc (.cells #[.int .i64 0, .int .i64 0, .string ⟨#[]⟩, .bool false] 23))
  have Px := Lib.hid (in4_new w3 0 0 ⟨#[]⟩ false 23)
  replace HB : Hid (Below w.heap.size w (w3.alloc (.cells #[.int .i64 0, .int .i64 0, .string ⟨#[]⟩, .bool false] 23))) := below_step HB.out ((Below.refl _ _).alloc (Nat.le_refl _) _)
  obtain ⟨ca0, ca1, ca2, ca3⟩ := Pa.out
  obtain ⟨cu0, cu1, cu2, cu3⟩ := Pu.out
  obtain ⟨cx0, cx1, cx2, cx3⟩ := Px.out
  go_wp2_with fail
  refine (HLe.out _).mono ?_
  rintro e w4 ⟨rfl, hb4⟩
  clear ca0 ca1 ca2 ca3 cu0 cu1 cu2 cu3 cx0 cx1 cx2 cx3
  replace Pa := Lib.hid (Pa.out.on hb4)
  replace Pu := Lib.hid (Pu.out.on hb4)
  replace Px := Lib.hid (Px.out.on hb4)
  replace HB := Lib.hid (below_step HB.out hb4)
  clear hb4
  replace Pa := Lib.hid (Pa.out.alloc (.cells #[.int .i64 0, .int .i64 0, .string ⟨#[]⟩, .bool false] 23))
  replace Pu := Lib.hid (Pu.out.alloc (.cells #[.int .i64 0, .int .i64 0, .string ⟨#[]⟩, .bool false] 23))
  replace Px := Lib.hid (Px.out.alloc (.cells #[.int .i64 0, .int .i64 0, .string ⟨#[]⟩, .bool false] 23))
  have Py := Lib.hid (in4_new w4 0 0 ⟨#[]⟩ false 23)
  replace HB : Hid (Below w.heap.size w (w4.alloc (.cells #[.int .i64 0, .int .i64 0, .string ⟨#[]⟩, .bool false] 23))) := below_step HB.out ((Below.refl _ _).alloc (Nat.le_refl _) _)
  obtain ⟨ca0, ca1, ca2, ca3⟩ := Pa.out
  obtain ⟨cu0, cu1, cu2, cu3⟩ := Pu.out
  obtain ⟨cx0, cx1, cx2, cx3⟩ := Px.out
  obtain ⟨cy0, cy1, cy2, cy3⟩ := Py.out
  go_wp2_with fail
  refine (HR1.out _).mono ?_
  rintro e w5 ⟨rfl, hb5⟩
  clear ca0 ca1 ca2 ca3 cu0 cu1 cu2 cu3 cx0 cx1 cx2 cx3 cy0 cy1 cy2 cy3
  replace Pa := Lib.hid (Pa.out.on hb5)
  replace Pu := Lib.hid (Pu.out.on hb5)
  replace Px := Lib.hid (Px.out.on hb5)
  replace Py := Lib.hid (Py.out.on hb5)
  replace HB := Lib.hid (below_step HB.out hb5)
  clear hb5
  replace Pa := Lib.hid (Pa.out.alloc (.cells #[.int .i64 0, .int .i64 0, .string ⟨#[]⟩, .bool false] 23))
  replace Pu := Lib.hid (Pu.out.alloc (.cells #[.int .i64 0, .int .i64 0, .string ⟨#[]⟩, .bool false] 23))
  replace Px := Lib.hid (Px.out.alloc (.cells #[.int .i64 0, .int .i64 0, .string ⟨#[]⟩, .bool false] 23))
  replace Py := Lib.hid (Py.out.alloc (.cells #[.int .i64 0, .int .i64 0, .string ⟨#[]⟩, .bool false] 23))
  have Pc := Lib.hid (in4_new w5 0 0 ⟨#[]⟩ false 23)
  replace HB : Hid (Below w.heap.size w (w5.alloc (.cells #[.int .i64 0, .int .i64 0, .string ⟨#[]⟩, .bool false] 23))) := below_step HB.out ((Below.refl _ _).alloc (Nat.le_refl _) _)
  obtain ⟨ca0, ca1, ca2, ca3⟩ := Pa.out
  obtain ⟨cu0, cu1, cu2, cu3⟩ := Pu.out
  obtain ⟨cx0, cx1, cx2, cx3⟩ := Px.out
  obtain ⟨cy0, cy1, cy2, cy3⟩ := Py.out
  obtain ⟨cc0, cc1, cc2, cc3⟩ := Pc.out
  go_wp2_with fail
  refine (HR2.out _).mono ?_
  rintro e w6 ⟨rfl, hb6⟩
  clear ca0 ca1 ca2 ca3 cu0 cu1 cu2 cu3 cx0 cx1 cx2 cx3 cy0 cy1 cy2 cy3 cc0 cc1 cc2 cc3
  replace Pa := Lib.hid (Pa.out.on hb6)
  replace Pu := Lib.hid (Pu.out.on hb6)
  replace Px := Lib.hid (Px.out.on hb6)
  replace Py := Lib.hid (Py.out.on hb6)
  replace Pc := Lib.hid (Pc.out.on hb6)
  replace HB := Lib.hid (below_step HB.out hb6)
  clear hb6
  replace Pa := Lib.hid (Pa.out.alloc (.cells #[.int .i64 0, .int .i64 0, .string ⟨#[]⟩, .bool false] 23))
  replace Pu := Lib.hid (Pu.out.alloc (.cells #[.int .i64 0, .int .i64 0, .string ⟨#[]⟩, .bool false] 23))
  replace Px := Lib.hid (Px.out.alloc (.cells #[.int .i64 0, .int .i64 0, .string ⟨#[]⟩, .bool false] 23))
  replace Py := Lib.hid (Py.out.alloc (.cells #[.int .i64 0, .int .i64 0, .string ⟨#[]⟩, .bool false] 23))
  replace Pc := Lib.hid (Pc.out.alloc (.cells #[.int .i64 0, .int .i64 0, .string ⟨#[]⟩, .bool false] 23))
  have Pd := Lib.hid (in4_new w6 0 0 ⟨#[]⟩ false 23)
  replace HB : Hid (Below w.heap.size w (w6.alloc (.cells #[.int .i64 0, .int .i64 0, .string ⟨#[]⟩, .bool false] 23))) := below_step HB.out ((Below.refl _ _).alloc (Nat.le_refl _) _)
  obtain ⟨ca0, ca1, ca2, ca3⟩ := Pa.out
  obtain ⟨cu0, cu1, cu2, cu3⟩ := Pu.out
  obtain ⟨cx0, cx1, cx2, cx3⟩ := Px.out
  obtain ⟨cy0, cy1, cy2, cy3⟩ := Py.out
  obtain ⟨cc0, cc1, cc2, cc3⟩ := Pc.out
  obtain ⟨cd0, cd1, cd2, cd3⟩ := Pd.out
  go_wp2_with fail
  refine (HS.out _ (HE.out.on HB.out)).mono ?_
  rintro e w7 ⟨rfl, hb7⟩
  clear ca0 ca1 ca2 ca3 cu0 cu1 cu2 cu3 cx0 cx1 cx2 cx3 cy0 cy1 cy2 cy3 cc0 cc1 cc2 cc3 cd0 cd1 cd2 cd3
  replace Pa := Lib.hid (Pa.out.on hb7)
  replace Pu := Lib.hid (Pu.out.on hb7)
  replace Px := Lib.hid (Px.out.on hb7)
  replace Py := Lib.hid (Py.out.on hb7)
  replace Pc := Lib.hid (Pc.out.on hb7)
  replace Pd := Lib.hid (Pd.out.on hb7)
  replace HB := Lib.hid (below_step HB.out hb7)
  clear hb7
  obtain ⟨ca0, ca1, ca2, ca3⟩ := Pa.out
  obtain ⟨cu0, cu1, cu2, cu3⟩ := Pu.out
  obtain ⟨cx0, cx1, cx2, cx3⟩ := Px.out
  obtain ⟨cy0, cy1, cy2, cy3⟩ := Py.out
  obtain ⟨cc0, cc1, cc2, cc3⟩ := Pc.out
  obtain ⟨cd0, cd1, cd2, cd3⟩ := Pd.out
  go_wp2_with fail
  go_ret
  exact ⟨rfl, HB.out⟩
set_option maxHeartbeats 4000000 in
set_option maxRecDepth 100000 in
theorem nulls_k1_2 (n : Int) (t : ByteArray) (b : Bool) (op : Int) (w : World) (hv : validN ⟨1, n, t, b⟩ = 0) (hw : wrap64 op = op) (hj : op.tmod 5 = 2) (hE : Env w) :
    Calls Tryd.prog 4 #[.agg #[.int .i64 1, .int .i64 n, .string t, .bool b], .int .u8 op] w fun e w' => e = .returned (.bool true) ∧ Below w.heap.size w w' := by
  have HV : Hid (∀ W, Calls Tryd.prog 9 #[.agg #[.int .i64 1, .int .i64 n, .string t, .bool b]] W fun e w' => e = .returned (.nilIface) ∧ Below W.heap.size W w') := fun W => by have := valid_ 1 n t b W; rw [hv] at this; exact this
  have HNU : Hid (∀ W, Calls Tryd.prog 10 #[] W fun e w' => e = .returned (.agg #[.int .i64 0, .int .i64 0, .string ⟨#[]⟩, .bool false]) ∧ Below W.heap.size W w') := fun W => null_ W
  have HEq : Hid (∀ W, Calls Tryd.prog 11 #[.agg #[.int .i64 1, .int .i64 n, .string t, .bool b], .agg #[.int .i64 0, .int .i64 0, .string ⟨#[]⟩, .bool false]] W fun e w' => e = .returned (.tuple #[.agg #[.int .i64 0, .int .i64 0, .string ⟨#[]⟩, .bool false], .nilIface]) ∧ Below W.heap.size W w') := fun W => equal_null 1 n t b 0 0 ⟨#[]⟩ false W (by decide) (by decide)
  have HLe : Hid (∀ W, Calls Tryd.prog 12 #[.agg #[.int .i64 0, .int .i64 0, .string ⟨#[]⟩, .bool false], .agg #[.int .i64 1, .int .i64 n, .string t, .bool b]] W fun e w' => e = .returned (.tuple #[.agg #[.int .i64 0, .int .i64 0, .string ⟨#[]⟩, .bool false], .nilIface]) ∧ Below W.heap.size W w') := fun W => less_null 0 0 ⟨#[]⟩ false 1 n t b W (by decide) (by decide)
  have hEQx : ∀ W, (Op.equalIn 10000 23 (.agg #[.int .i64 0, .int .i64 0, .string ⟨#[]⟩, .bool false]) (.agg #[.int .i64 0, .int .i64 0, .string ⟨#[]⟩, .bool false])).run Tryd.prog W = .ok true W := fun W => by rw [eqIn_, sameV_refl]
  have hGD := guardV
  have HR1 : Hid (∀ W, Calls Tryd.prog 6 #[.int .u8 42, .agg #[.int .i64 1, .int .i64 n, .string t, .bool b], .agg #[.int .i64 0, .int .i64 0, .string ⟨#[]⟩, .bool false]] W fun e w' => e = .returned (.tuple #[.agg #[.int .i64 0, .int .i64 0, .string ⟨#[]⟩, .bool false], .nilIface]) ∧ Below W.heap.size W w') := fun W => reckon_null 42 1 n t b 0 0 ⟨#[]⟩ false W (by decide) (by decide) (by decide)
  have HR2 : Hid (∀ W, Calls Tryd.prog 6 #[.int .u8 42, .agg #[.int .i64 0, .int .i64 0, .string ⟨#[]⟩, .bool false], .agg #[.int .i64 1, .int .i64 n, .string t, .bool b]] W fun e w' => e = .returned (.tuple #[.agg #[.int .i64 0, .int .i64 0, .string ⟨#[]⟩, .bool false], .nilIface]) ∧ Below W.heap.size W w') := fun W => reckon_null 42 0 0 ⟨#[]⟩ false 1 n t b W (by decide) (by decide) (by decide)
  have hby : (({ data := #[43, 45, 42, 47, 37] } : ByteArray)[2]'(by decide)).toNat = 42 := by decide
  have HS : Hid (∀ W, Env W → Calls Tryd.prog 8 #[] W fun e w' => e = .returned (.bool true) ∧ Below W.heap.size W w') := fun W hW => sure_ W hW
  have HE := Lib.hid hE
  clear hE hv
  have Pa : Hid (In4 (w.alloc (.cells #[.int .i64 1, .int .i64 n, .string t, .bool b] 23)) (w.heap.size) 0 1 n t b) := Lib.hid (by have := in4_new w 1 n t b 23; simpa using this)
  have HB : Hid (Below w.heap.size w (w.alloc (.cells #[.int .i64 1, .int .i64 n, .string t, .bool b] 23))) := ((Below.refl _ _).alloc (by simp) _)
  go_enter Tryd.func4, Tryd.ntmps4
  go_wp2_with fail
  refine (HV.out _).mono ?_
  rintro e w1 ⟨rfl, hb1⟩
  replace Pa := Lib.hid (Pa.out.on hb1)
  replace HB := Lib.hid (below_step HB.out hb1)
  clear hb1
  obtain ⟨ca0, ca1, ca2, ca3⟩ := Pa.out
  go_wp2_with fail
  refine (HNU.out _).mono ?_
  rintro e w2 ⟨rfl, hb2⟩
  clear ca0 ca1 ca2 ca3
  replace Pa := Lib.hid (Pa.out.on hb2)
  replace HB := Lib.hid (below_step HB.out hb2)
  clear hb2
  replace Pa := Lib.hid (Pa.out.alloc (.cells #[.int .i64 0, .int .i64 0, .string ⟨#[]⟩, .bool false] 23))
  have Pu := Lib.hid (in4_new w2 0 0 ⟨#[]⟩ false 23)
  replace HB : Hid (Below w.heap.size w (w2.alloc (.cells #[.int .i64 0, .int .i64 0, .string ⟨#[]⟩, .bool false] 23))) := below_step HB.out ((Below.refl _ _).alloc (Nat.le_refl _) _)
  obtain ⟨ca0, ca1, ca2, ca3⟩ := Pa.out
  obtain ⟨cu0, cu1, cu2, cu3⟩ := Pu.out
  go_wp2_with fail
  refine (HEq.out _).mono ?_
  rintro e w3 ⟨rfl, hb3⟩
  clear ca0 ca1 ca2 ca3 cu0 cu1 cu2 cu3
  replace Pa := Lib.hid (Pa.out.on hb3)
  replace Pu := Lib.hid (Pu.out.on hb3)
  replace HB := Lib.hid (below_step HB.out hb3)
  clear hb3
  replace Pa := Lib.hid (Pa.out.alloc (.cells #[.int .i64 0, .int .i64 0, .string ⟨#[]⟩, .bool false] 23))
  replace Pu := Lib.hid (Pu.out.alloc (.cells #[.int .i64 0, .int .i64 0, .string ⟨#[]⟩, .bool false] 23))
  have Px := Lib.hid (in4_new w3 0 0 ⟨#[]⟩ false 23)
  replace HB : Hid (Below w.heap.size w (w3.alloc (.cells #[.int .i64 0, .int .i64 0, .string ⟨#[]⟩, .bool false] 23))) := below_step HB.out ((Below.refl _ _).alloc (Nat.le_refl _) _)
  obtain ⟨ca0, ca1, ca2, ca3⟩ := Pa.out
  obtain ⟨cu0, cu1, cu2, cu3⟩ := Pu.out
  obtain ⟨cx0, cx1, cx2, cx3⟩ := Px.out
  go_wp2_with fail
  refine (HLe.out _).mono ?_
  rintro e w4 ⟨rfl, hb4⟩
  clear ca0 ca1 ca2 ca3 cu0 cu1 cu2 cu3 cx0 cx1 cx2 cx3
  replace Pa := Lib.hid (Pa.out.on hb4)
  replace Pu := Lib.hid (Pu.out.on hb4)
  replace Px := Lib.hid (Px.out.on hb4)
  replace HB := Lib.hid (below_step HB.out hb4)
  clear hb4
  replace Pa := Lib.hid (Pa.out.alloc (.cells #[.int .i64 0, .int .i64 0, .string ⟨#[]⟩, .bool false] 23))
  replace Pu := Lib.hid (Pu.out.alloc (.cells #[.int .i64 0, .int .i64 0, .string ⟨#[]⟩, .bool false] 23))
  replace Px := Lib.hid (Px.out.alloc (.cells #[.int .i64 0, .int .i64 0, .string ⟨#[]⟩, .bool false] 23))
  have Py := Lib.hid (in4_new w4 0 0 ⟨#[]⟩ false 23)
  replace HB : Hid (Below w.heap.size w (w4.alloc (.cells #[.int .i64 0, .int .i64 0, .string ⟨#[]⟩, .bool false] 23))) := below_step HB.out ((Below.refl _ _).alloc (Nat.le_refl _) _)
  obtain ⟨ca0, ca1, ca2, ca3⟩ := Pa.out
  obtain ⟨cu0, cu1, cu2, cu3⟩ := Pu.out
  obtain ⟨cx0, cx1, cx2, cx3⟩ := Px.out
  obtain ⟨cy0, cy1, cy2, cy3⟩ := Py.out
  go_wp2_with fail
  refine (HR1.out _).mono ?_
  rintro e w5 ⟨rfl, hb5⟩
  clear ca0 ca1 ca2 ca3 cu0 cu1 cu2 cu3 cx0 cx1 cx2 cx3 cy0 cy1 cy2 cy3
  replace Pa := Lib.hid (Pa.out.on hb5)
  replace Pu := Lib.hid (Pu.out.on hb5)
  replace Px := Lib.hid (Px.out.on hb5)
  replace Py := Lib.hid (Py.out.on hb5)
  replace HB := Lib.hid (below_step HB.out hb5)
  clear hb5
  replace Pa := Lib.hid (Pa.out.alloc (.cells #[.int .i64 0, .int .i64 0, .string ⟨#[]⟩, .bool false] 23))
  replace Pu := Lib.hid (Pu.out.alloc (.cells #[.int .i64 0, .int .i64 0, .string ⟨#[]⟩, .bool false] 23))
  replace Px := Lib.hid (Px.out.alloc (.cells #[.int .i64 0, .int .i64 0, .string ⟨#[]⟩, .bool false] 23))
  replace Py := Lib.hid (Py.out.alloc (.cells #[.int .i64 0, .int .i64 0, .string ⟨#[]⟩, .bool false] 23))
  have Pc := Lib.hid (in4_new w5 0 0 ⟨#[]⟩ false 23)
  replace HB : Hid (Below w.heap.size w (w5.alloc (.cells #[.int .i64 0, .int .i64 0, .string ⟨#[]⟩, .bool false] 23))) := below_step HB.out ((Below.refl _ _).alloc (Nat.le_refl _) _)
  obtain ⟨ca0, ca1, ca2, ca3⟩ := Pa.out
  obtain ⟨cu0, cu1, cu2, cu3⟩ := Pu.out
  obtain ⟨cx0, cx1, cx2, cx3⟩ := Px.out
  obtain ⟨cy0, cy1, cy2, cy3⟩ := Py.out
  obtain ⟨cc0, cc1, cc2, cc3⟩ := Pc.out
  go_wp2_with fail
  refine (HR2.out _).mono ?_
  rintro e w6 ⟨rfl, hb6⟩
  clear ca0 ca1 ca2 ca3 cu0 cu1 cu2 cu3 cx0 cx1 cx2 cx3 cy0 cy1 cy2 cy3 cc0 cc1 cc2 cc3
  replace Pa := Lib.hid (Pa.out.on hb6)
  replace Pu := Lib.hid (Pu.out.on hb6)
  replace Px := Lib.hid (Px.out.on hb6)
  replace Py := Lib.hid (Py.out.on hb6)
  replace Pc := Lib.hid (Pc.out.on hb6)
  replace HB := Lib.hid (below_step HB.out hb6)
  clear hb6
  replace Pa := Lib.hid (Pa.out.alloc (.cells #[.int .i64 0, .int .i64 0, .string ⟨#[]⟩, .bool false] 23))
  replace Pu := Lib.hid (Pu.out.alloc (.cells #[.int .i64 0, .int .i64 0, .string ⟨#[]⟩, .bool false] 23))
  replace Px := Lib.hid (Px.out.alloc (.cells #[.int .i64 0, .int .i64 0, .string ⟨#[]⟩, .bool false] 23))
  replace Py := Lib.hid (Py.out.alloc (.cells #[.int .i64 0, .int .i64 0, .string ⟨#[]⟩, .bool false] 23))
  replace Pc := Lib.hid (Pc.out.alloc (.cells #[.int .i64 0, .int .i64 0, .string ⟨#[]⟩, .bool false] 23))
  have Pd := Lib.hid (in4_new w6 0 0 ⟨#[]⟩ false 23)
  replace HB : Hid (Below w.heap.size w (w6.alloc (.cells #[.int .i64 0, .int .i64 0, .string ⟨#[]⟩, .bool false] 23))) := below_step HB.out ((Below.refl _ _).alloc (Nat.le_refl _) _)
  obtain ⟨ca0, ca1, ca2, ca3⟩ := Pa.out
  obtain ⟨cu0, cu1, cu2, cu3⟩ := Pu.out
  obtain ⟨cx0, cx1, cx2, cx3⟩ := Px.out
  obtain ⟨cy0, cy1, cy2, cy3⟩ := Py.out
  obtain ⟨cc0, cc1, cc2, cc3⟩ := Pc.out
  obtain ⟨cd0, cd1, cd2, cd3⟩ := Pd.out
  go_wp2_with fail
  refine (HS.out _ (HE.out.on HB.out)).mono ?_
  rintro e w7 ⟨rfl, hb7⟩
  clear ca0 ca1 ca2 ca3 cu0 cu1 cu2 cu3 cx0 cx1 cx2 cx3 cy0 cy1 cy2 cy3 cc0 cc1 cc2 cc3 cd0 cd1 cd2 cd3
  replace Pa := Lib.hid (Pa.out.on hb7)
  replace Pu := Lib.hid (Pu.out.on hb7)
  replace Px := Lib.hid (Px.out.on hb7)
  replace Py := Lib.hid (Py.out.on hb7)
  replace Pc := Lib.hid (Pc.out.on hb7)
  replace Pd := Lib.hid (Pd.out.on hb7)
  replace HB := Lib.hid (below_step HB.out hb7)
  clear hb7
  obtain ⟨ca0, ca1, ca2, ca3⟩ := Pa.out
  obtain ⟨cu0, cu1, cu2, cu3⟩ := Pu.out
  obtain ⟨cx0, cx1, cx2, cx3⟩ := Px.out
  obtain ⟨cy0, cy1, cy2, cy3⟩ := Py.out
  obtain ⟨cc0, cc1, cc2, cc3⟩ := Pc.out
  obtain ⟨cd0, cd1, cd2, cd3⟩ := Pd.out
  go_wp2_with fail
  go_ret
  exact ⟨rfl, HB.out⟩
set_option maxHeartbeats 4000000 in
set_option maxRecDepth 100000 in
theorem nulls_k1_3 (n : Int) (t : ByteArray) (b : Bool) (op : Int) (w : World) (hv : validN ⟨1, n, t, b⟩ = 0) (hw : wrap64 op = op) (hj : op.tmod 5 = 3) (hE : Env w) :
    Calls Tryd.prog 4 #[.agg #[.int .i64 1, .int .i64 n, .string t, .bool b], .int .u8 op] w fun e w' => e = .returned (.bool true) ∧ Below w.heap.size w w' := by
  have HV : Hid (∀ W, Calls Tryd.prog 9 #[.agg #[.int .i64 1, .int .i64 n, .string t, .bool b]] W fun e w' => e = .returned (.nilIface) ∧ Below W.heap.size W w') := fun W => by have := valid_ 1 n t b W; rw [hv] at this; exact this
  have HNU : Hid (∀ W, Calls Tryd.prog 10 #[] W fun e w' => e = .returned (.agg #[.int .i64 0, .int .i64 0, .string ⟨#[]⟩, .bool false]) ∧ Below W.heap.size W w') := fun W => null_ W
  have HEq : Hid (∀ W, Calls Tryd.prog 11 #[.agg #[.int .i64 1, .int .i64 n, .string t, .bool b], .agg #[.int .i64 0, .int .i64 0, .string ⟨#[]⟩, .bool false]] W fun e w' => e = .returned (.tuple #[.agg #[.int .i64 0, .int .i64 0, .string ⟨#[]⟩, .bool false], .nilIface]) ∧ Below W.heap.size W w') := fun W => equal_null 1 n t b 0 0 ⟨#[]⟩ false W (by decide) (by decide)
  have HLe : Hid (∀ W, Calls Tryd.prog 12 #[.agg #[.int .i64 0, .int .i64 0, .string ⟨#[]⟩, .bool false], .agg #[.int .i64 1, .int .i64 n, .string t, .bool b]] W fun e w' => e = .returned (.tuple #[.agg #[.int .i64 0, .int .i64 0, .string ⟨#[]⟩, .bool false], .nilIface]) ∧ Below W.heap.size W w') := fun W => less_null 0 0 ⟨#[]⟩ false 1 n t b W (by decide) (by decide)
  have hEQx : ∀ W, (Op.equalIn 10000 23 (.agg #[.int .i64 0, .int .i64 0, .string ⟨#[]⟩, .bool false]) (.agg #[.int .i64 0, .int .i64 0, .string ⟨#[]⟩, .bool false])).run Tryd.prog W = .ok true W := fun W => by rw [eqIn_, sameV_refl]
  have hGD := guardV
  have HR1 : Hid (∀ W, Calls Tryd.prog 6 #[.int .u8 47, .agg #[.int .i64 1, .int .i64 n, .string t, .bool b], .agg #[.int .i64 0, .int .i64 0, .string ⟨#[]⟩, .bool false]] W fun e w' => e = .returned (.tuple #[.agg #[.int .i64 0, .int .i64 0, .string ⟨#[]⟩, .bool false], .nilIface]) ∧ Below W.heap.size W w') := fun W => reckon_null 47 1 n t b 0 0 ⟨#[]⟩ false W (by decide) (by decide) (by decide)
  have HR2 : Hid (∀ W, Calls Tryd.prog 6 #[.int .u8 47, .agg #[.int .i64 0, .int .i64 0, .string ⟨#[]⟩, .bool false], .agg #[.int .i64 1, .int .i64 n, .string t, .bool b]] W fun e w' => e = .returned (.tuple #[.agg #[.int .i64 0, .int .i64 0, .string ⟨#[]⟩, .bool false], .nilIface]) ∧ Below W.heap.size W w') := fun W => reckon_null 47 0 0 ⟨#[]⟩ false 1 n t b W (by decide) (by decide) (by decide)
  have hby : (({ data := #[43, 45, 42, 47, 37] } : ByteArray)[3]'(by decide)).toNat = 47 := by decide
  have HS : Hid (∀ W, Env W → Calls Tryd.prog 8 #[] W fun e w' => e = .returned (.bool true) ∧ Below W.heap.size W w') := fun W hW => sure_ W hW
  have HE := Lib.hid hE
  clear hE hv
  have Pa : Hid (In4 (w.alloc (.cells #[.int .i64 1, .int .i64 n, .string t, .bool b] 23)) (w.heap.size) 0 1 n t b) := Lib.hid (by have := in4_new w 1 n t b 23; simpa using this)
  have HB : Hid (Below w.heap.size w (w.alloc (.cells #[.int .i64 1, .int .i64 n, .string t, .bool b] 23))) := ((Below.refl _ _).alloc (by simp) _)
  go_enter Tryd.func4, Tryd.ntmps4
  go_wp2_with fail
  refine (HV.out _).mono ?_
  rintro e w1 ⟨rfl, hb1⟩
  replace Pa := Lib.hid (Pa.out.on hb1)
  replace HB := Lib.hid (below_step HB.out hb1)
  clear hb1
  obtain ⟨ca0, ca1, ca2, ca3⟩ := Pa.out
  go_wp2_with fail
  refine (HNU.out _).mono ?_
  rintro e w2 ⟨rfl, hb2⟩
  clear ca0 ca1 ca2 ca3
  replace Pa := Lib.hid (Pa.out.on hb2)
  replace HB := Lib.hid (below_step HB.out hb2)
  clear hb2
  replace Pa := Lib.hid (Pa.out.alloc (.cells #[.int .i64 0, .int .i64 0, .string ⟨#[]⟩, .bool false] 23))
  have Pu := Lib.hid (in4_new w2 0 0 ⟨#[]⟩ false 23)
  replace HB : Hid (Below w.heap.size w (w2.alloc (.cells #[.int .i64 0, .int .i64 0, .string ⟨#[]⟩, .bool false] 23))) := below_step HB.out ((Below.refl _ _).alloc (Nat.le_refl _) _)
  obtain ⟨ca0, ca1, ca2, ca3⟩ := Pa.out
  obtain ⟨cu0, cu1, cu2, cu3⟩ := Pu.out
  go_wp2_with fail
  refine (HEq.out _).mono ?_
  rintro e w3 ⟨rfl, hb3⟩
  clear ca0 ca1 ca2 ca3 cu0 cu1 cu2 cu3
  replace Pa := Lib.hid (Pa.out.on hb3)
  replace Pu := Lib.hid (Pu.out.on hb3)
  replace HB := Lib.hid (below_step HB.out hb3)
  clear hb3
  replace Pa := Lib.hid (Pa.out.alloc (.cells #[.int .i64 0, .int .i64 0, .string ⟨#[]⟩, .bool false] 23))
  replace Pu := Lib.hid (Pu.out.alloc (.cells #[.int .i64 0, .int .i64 0, .string ⟨#[]⟩, .bool false] 23))
  have Px := Lib.hid (in4_new w3 0 0 ⟨#[]⟩ false 23)
  replace HB : Hid (Below w.heap.size w (w3.alloc (.cells #[.int .i64 0, .int .i64 0, .string ⟨#[]⟩, .bool false] 23))) := below_step HB.out ((Below.refl _ _).alloc (Nat.le_refl _) _)
  obtain ⟨ca0, ca1, ca2, ca3⟩ := Pa.out
  obtain ⟨cu0, cu1, cu2, cu3⟩ := Pu.out
  obtain ⟨cx0, cx1, cx2, cx3⟩ := Px.out
  go_wp2_with fail
  refine (HLe.out _).mono ?_
  rintro e w4 ⟨rfl, hb4⟩
  clear ca0 ca1 ca2 ca3 cu0 cu1 cu2 cu3 cx0 cx1 cx2 cx3
  replace Pa := Lib.hid (Pa.out.on hb4)
  replace Pu := Lib.hid (Pu.out.on hb4)
  replace Px := Lib.hid (Px.out.on hb4)
  replace HB := Lib.hid (below_step HB.out hb4)
  clear hb4
  replace Pa := Lib.hid (Pa.out.alloc (.cells #[.int .i64 0, .int .i64 0, .string ⟨#[]⟩, .bool false] 23))
  replace Pu := Lib.hid (Pu.out.alloc (.cells #[.int .i64 0, .int .i64 0, .string ⟨#[]⟩, .bool false] 23))
  replace Px := Lib.hid (Px.out.alloc (.cells #[.int .i64 0, .int .i64 0, .string ⟨#[]⟩, .bool false] 23))
  have Py := Lib.hid (in4_new w4 0 0 ⟨#[]⟩ false 23)
  replace HB : Hid (Below w.heap.size w (w4.alloc (.cells #[.int .i64 0, .int .i64 0, .string ⟨#[]⟩, .bool false] 23))) := below_step HB.out ((Below.refl _ _).alloc (Nat.le_refl _) _)
  obtain ⟨ca0, ca1, ca2, ca3⟩ := Pa.out
  obtain ⟨cu0, cu1, cu2, cu3⟩ := Pu.out
  obtain ⟨cx0, cx1, cx2, cx3⟩ := Px.out
  obtain ⟨cy0, cy1, cy2, cy3⟩ := Py.out
  go_wp2_with fail
  refine (HR1.out _).mono ?_
  rintro e w5 ⟨rfl, hb5⟩
  clear ca0 ca1 ca2 ca3 cu0 cu1 cu2 cu3 cx0 cx1 cx2 cx3 cy0 cy1 cy2 cy3
  replace Pa := Lib.hid (Pa.out.on hb5)
  replace Pu := Lib.hid (Pu.out.on hb5)
  replace Px := Lib.hid (Px.out.on hb5)
  replace Py := Lib.hid (Py.out.on hb5)
  replace HB := Lib.hid (below_step HB.out hb5)
  clear hb5
  replace Pa := Lib.hid (Pa.out.alloc (.cells #[.int .i64 0, .int .i64 0, .string ⟨#[]⟩, .bool false] 23))
  replace Pu := Lib.hid (Pu.out.alloc (.cells #[.int .i64 0, .int .i64 0, .string ⟨#[]⟩, .bool false] 23))
  replace Px := Lib.hid (Px.out.alloc (.cells #[.int .i64 0, .int .i64 0, .string ⟨#[]⟩, .bool false] 23))
  replace Py := Lib.hid (Py.out.alloc (.cells #[.int .i64 0, .int .i64 0, .string ⟨#[]⟩, .bool false] 23))
  have Pc := Lib.hid (in4_new w5 0 0 ⟨#[]⟩ false 23)
  replace HB : Hid (Below w.heap.size w (w5.alloc (.cells #[.int .i64 0, .int .i64 0, .string ⟨#[]⟩, .bool false] 23))) := below_step HB.out ((Below.refl _ _).alloc (Nat.le_refl _) _)
  obtain ⟨ca0, ca1, ca2, ca3⟩ := Pa.out
  obtain ⟨cu0, cu1, cu2, cu3⟩ := Pu.out
  obtain ⟨cx0, cx1, cx2, cx3⟩ := Px.out
  obtain ⟨cy0, cy1, cy2, cy3⟩ := Py.out
  obtain ⟨cc0, cc1, cc2, cc3⟩ := Pc.out
  go_wp2_with fail
  refine (HR2.out _).mono ?_
  rintro e w6 ⟨rfl, hb6⟩
  clear ca0 ca1 ca2 ca3 cu0 cu1 cu2 cu3 cx0 cx1 cx2 cx3 cy0 cy1 cy2 cy3 cc0 cc1 cc2 cc3
  replace Pa := Lib.hid (Pa.out.on hb6)
  replace Pu := Lib.hid (Pu.out.on hb6)
  replace Px := Lib.hid (Px.out.on hb6)
  replace Py := Lib.hid (Py.out.on hb6)
  replace Pc := Lib.hid (Pc.out.on hb6)
  replace HB := Lib.hid (below_step HB.out hb6)
  clear hb6
  replace Pa := Lib.hid (Pa.out.alloc (.cells #[.int .i64 0, .int .i64 0, .string ⟨#[]⟩, .bool false] 23))
  replace Pu := Lib.hid (Pu.out.alloc (.cells #[.int .i64 0, .int .i64 0, .string ⟨#[]⟩, .bool false] 23))
  replace Px := Lib.hid (Px.out.alloc (.cells #[.int .i64 0, .int .i64 0, .string ⟨#[]⟩, .bool false] 23))
  replace Py := Lib.hid (Py.out.alloc (.cells #[.int .i64 0, .int .i64 0, .string ⟨#[]⟩, .bool false] 23))
  replace Pc := Lib.hid (Pc.out.alloc (.cells #[.int .i64 0, .int .i64 0, .string ⟨#[]⟩, .bool false] 23))
  have Pd := Lib.hid (in4_new w6 0 0 ⟨#[]⟩ false 23)
  replace HB : Hid (Below w.heap.size w (w6.alloc (.cells #[.int .i64 0, .int .i64 0, .string ⟨#[]⟩, .bool false] 23))) := below_step HB.out ((Below.refl _ _).alloc (Nat.le_refl _) _)
  obtain ⟨ca0, ca1, ca2, ca3⟩ := Pa.out
  obtain ⟨cu0, cu1, cu2, cu3⟩ := Pu.out
  obtain ⟨cx0, cx1, cx2, cx3⟩ := Px.out
  obtain ⟨cy0, cy1, cy2, cy3⟩ := Py.out
  obtain ⟨cc0, cc1, cc2, cc3⟩ := Pc.out
  obtain ⟨cd0, cd1, cd2, cd3⟩ := Pd.out
  go_wp2_with fail
  refine (HS.out _ (HE.out.on HB.out)).mono ?_
  rintro e w7 ⟨rfl, hb7⟩
  clear ca0 ca1 ca2 ca3 cu0 cu1 cu2 cu3 cx0 cx1 cx2 cx3 cy0 cy1 cy2 cy3 cc0 cc1 cc2 cc3 cd0 cd1 cd2 cd3
  replace Pa := Lib.hid (Pa.out.on hb7)
  replace Pu := Lib.hid (Pu.out.on hb7)
  replace Px := Lib.hid (Px.out.on hb7)
  replace Py := Lib.hid (Py.out.on hb7)
  replace Pc := Lib.hid (Pc.out.on hb7)
  replace Pd := Lib.hid (Pd.out.on hb7)
  replace HB := Lib.hid (below_step HB.out hb7)
  clear hb7
  obtain ⟨ca0, ca1, ca2, ca3⟩ := Pa.out
  obtain ⟨cu0, cu1, cu2, cu3⟩ := Pu.out
  obtain ⟨cx0, cx1, cx2, cx3⟩ := Px.out
  obtain ⟨cy0, cy1, cy2, cy3⟩ := Py.out
  obtain ⟨cc0, cc1, cc2, cc3⟩ := Pc.out
  obtain ⟨cd0, cd1, cd2, cd3⟩ := Pd.out
  go_wp2_with fail
  go_ret
  exact ⟨rfl, HB.out⟩
set_option maxHeartbeats 4000000 in
set_option maxRecDepth 100000 in
theorem nulls_k1_4 (n : Int) (t : ByteArray) (b : Bool) (op : Int) (w : World) (hv : validN ⟨1, n, t, b⟩ = 0) (hw : wrap64 op = op) (hj : op.tmod 5 = 4) (hE : Env w) :
    Calls Tryd.prog 4 #[.agg #[.int .i64 1, .int .i64 n, .string t, .bool b], .int .u8 op] w fun e w' => e = .returned (.bool true) ∧ Below w.heap.size w w' := by
  have HV : Hid (∀ W, Calls Tryd.prog 9 #[.agg #[.int .i64 1, .int .i64 n, .string t, .bool b]] W fun e w' => e = .returned (.nilIface) ∧ Below W.heap.size W w') := fun W => by have := valid_ 1 n t b W; rw [hv] at this; exact this
  have HNU : Hid (∀ W, Calls Tryd.prog 10 #[] W fun e w' => e = .returned (.agg #[.int .i64 0, .int .i64 0, .string ⟨#[]⟩, .bool false]) ∧ Below W.heap.size W w') := fun W => null_ W
  have HEq : Hid (∀ W, Calls Tryd.prog 11 #[.agg #[.int .i64 1, .int .i64 n, .string t, .bool b], .agg #[.int .i64 0, .int .i64 0, .string ⟨#[]⟩, .bool false]] W fun e w' => e = .returned (.tuple #[.agg #[.int .i64 0, .int .i64 0, .string ⟨#[]⟩, .bool false], .nilIface]) ∧ Below W.heap.size W w') := fun W => equal_null 1 n t b 0 0 ⟨#[]⟩ false W (by decide) (by decide)
  have HLe : Hid (∀ W, Calls Tryd.prog 12 #[.agg #[.int .i64 0, .int .i64 0, .string ⟨#[]⟩, .bool false], .agg #[.int .i64 1, .int .i64 n, .string t, .bool b]] W fun e w' => e = .returned (.tuple #[.agg #[.int .i64 0, .int .i64 0, .string ⟨#[]⟩, .bool false], .nilIface]) ∧ Below W.heap.size W w') := fun W => less_null 0 0 ⟨#[]⟩ false 1 n t b W (by decide) (by decide)
  have hEQx : ∀ W, (Op.equalIn 10000 23 (.agg #[.int .i64 0, .int .i64 0, .string ⟨#[]⟩, .bool false]) (.agg #[.int .i64 0, .int .i64 0, .string ⟨#[]⟩, .bool false])).run Tryd.prog W = .ok true W := fun W => by rw [eqIn_, sameV_refl]
  have hGD := guardV
  have HR1 : Hid (∀ W, Calls Tryd.prog 6 #[.int .u8 37, .agg #[.int .i64 1, .int .i64 n, .string t, .bool b], .agg #[.int .i64 0, .int .i64 0, .string ⟨#[]⟩, .bool false]] W fun e w' => e = .returned (.tuple #[.agg #[.int .i64 0, .int .i64 0, .string ⟨#[]⟩, .bool false], .nilIface]) ∧ Below W.heap.size W w') := fun W => reckon_null 37 1 n t b 0 0 ⟨#[]⟩ false W (by decide) (by decide) (by decide)
  have HR2 : Hid (∀ W, Calls Tryd.prog 6 #[.int .u8 37, .agg #[.int .i64 0, .int .i64 0, .string ⟨#[]⟩, .bool false], .agg #[.int .i64 1, .int .i64 n, .string t, .bool b]] W fun e w' => e = .returned (.tuple #[.agg #[.int .i64 0, .int .i64 0, .string ⟨#[]⟩, .bool false], .nilIface]) ∧ Below W.heap.size W w') := fun W => reckon_null 37 0 0 ⟨#[]⟩ false 1 n t b W (by decide) (by decide) (by decide)
  have hby : (({ data := #[43, 45, 42, 47, 37] } : ByteArray)[4]'(by decide)).toNat = 37 := by decide
  have HS : Hid (∀ W, Env W → Calls Tryd.prog 8 #[] W fun e w' => e = .returned (.bool true) ∧ Below W.heap.size W w') := fun W hW => sure_ W hW
  have HE := Lib.hid hE
  clear hE hv
  have Pa : Hid (In4 (w.alloc (.cells #[.int .i64 1, .int .i64 n, .string t, .bool b] 23)) (w.heap.size) 0 1 n t b) := Lib.hid (by have := in4_new w 1 n t b 23; simpa using this)
  have HB : Hid (Below w.heap.size w (w.alloc (.cells #[.int .i64 1, .int .i64 n, .string t, .bool b] 23))) := ((Below.refl _ _).alloc (by simp) _)
  go_enter Tryd.func4, Tryd.ntmps4
  go_wp2_with fail
  refine (HV.out _).mono ?_
  rintro e w1 ⟨rfl, hb1⟩
  replace Pa := Lib.hid (Pa.out.on hb1)
  replace HB := Lib.hid (below_step HB.out hb1)
  clear hb1
  obtain ⟨ca0, ca1, ca2, ca3⟩ := Pa.out
  go_wp2_with fail
  refine (HNU.out _).mono ?_
  rintro e w2 ⟨rfl, hb2⟩
  clear ca0 ca1 ca2 ca3
  replace Pa := Lib.hid (Pa.out.on hb2)
  replace HB := Lib.hid (below_step HB.out hb2)
  clear hb2
  replace Pa := Lib.hid (Pa.out.alloc (.cells #[.int .i64 0, .int .i64 0, .string ⟨#[]⟩, .bool false] 23))
  have Pu := Lib.hid (in4_new w2 0 0 ⟨#[]⟩ false 23)
  replace HB : Hid (Below w.heap.size w (w2.alloc (.cells #[.int .i64 0, .int .i64 0, .string ⟨#[]⟩, .bool false] 23))) := below_step HB.out ((Below.refl _ _).alloc (Nat.le_refl _) _)
  obtain ⟨ca0, ca1, ca2, ca3⟩ := Pa.out
  obtain ⟨cu0, cu1, cu2, cu3⟩ := Pu.out
  go_wp2_with fail
  refine (HEq.out _).mono ?_
  rintro e w3 ⟨rfl, hb3⟩
  clear ca0 ca1 ca2 ca3 cu0 cu1 cu2 cu3
  replace Pa := Lib.hid (Pa.out.on hb3)
  replace Pu := Lib.hid (Pu.out.on hb3)
  replace HB := Lib.hid (below_step HB.out hb3)
  clear hb3
  replace Pa := Lib.hid (Pa.out.alloc (.cells #[.int .i64 0, .int .i64 0, .string ⟨#[]⟩, .bool false] 23))
  replace Pu := Lib.hid (Pu.out.alloc (.cells #[.int .i64 0, .int .i64 0, .string ⟨#[]⟩, .bool false] 23))
  have Px := Lib.hid (in4_new w3 0 0 ⟨#[]⟩ false 23)
  replace HB : Hid (Below w.heap.size w (w3.alloc (.cells #[.int .i64 0, .int .i64 0, .string ⟨#[]⟩, .bool false] 23))) := below_step HB.out ((Below.refl _ _).alloc (Nat.le_refl _) _)
  obtain ⟨ca0, ca1, ca2, ca3⟩ := Pa.out
  obtain ⟨cu0, cu1, cu2, cu3⟩ := Pu.out
  obtain ⟨cx0, cx1, cx2, cx3⟩ := Px.out
  go_wp2_with fail
  refine (HLe.out _).mono ?_
  rintro e w4 ⟨rfl, hb4⟩
  clear ca0 ca1 ca2 ca3 cu0 cu1 cu2 cu3 cx0 cx1 cx2 cx3
  replace Pa := Lib.hid (Pa.out.on hb4)
  replace Pu := Lib.hid (Pu.out.on hb4)
  replace Px := Lib.hid (Px.out.on hb4)
  replace HB := Lib.hid (below_step HB.out hb4)
  clear hb4
  replace Pa := Lib.hid (Pa.out.alloc (.cells #[.int .i64 0, .int .i64 0, .string ⟨#[]⟩, .bool false] 23))
  replace Pu := Lib.hid (Pu.out.alloc (.cells #[.int .i64 0, .int .i64 0, .string ⟨#[]⟩, .bool false] 23))
  replace Px := Lib.hid (Px.out.alloc (.cells #[.int .i64 0, .int .i64 0, .string ⟨#[]⟩, .bool false] 23))
  have Py := Lib.hid (in4_new w4 0 0 ⟨#[]⟩ false 23)
  replace HB : Hid (Below w.heap.size w (w4.alloc (.cells #[.int .i64 0, .int .i64 0, .string ⟨#[]⟩, .bool false] 23))) := below_step HB.out ((Below.refl _ _).alloc (Nat.le_refl _) _)
  obtain ⟨ca0, ca1, ca2, ca3⟩ := Pa.out
  obtain ⟨cu0, cu1, cu2, cu3⟩ := Pu.out
  obtain ⟨cx0, cx1, cx2, cx3⟩ := Px.out
  obtain ⟨cy0, cy1, cy2, cy3⟩ := Py.out
  go_wp2_with fail
  refine (HR1.out _).mono ?_
  rintro e w5 ⟨rfl, hb5⟩
  clear ca0 ca1 ca2 ca3 cu0 cu1 cu2 cu3 cx0 cx1 cx2 cx3 cy0 cy1 cy2 cy3
  replace Pa := Lib.hid (Pa.out.on hb5)
  replace Pu := Lib.hid (Pu.out.on hb5)
  replace Px := Lib.hid (Px.out.on hb5)
  replace Py := Lib.hid (Py.out.on hb5)
  replace HB := Lib.hid (below_step HB.out hb5)
  clear hb5
  replace Pa := Lib.hid (Pa.out.alloc (.cells #[.int .i64 0, .int .i64 0, .string ⟨#[]⟩, .bool false] 23))
  replace Pu := Lib.hid (Pu.out.alloc (.cells #[.int .i64 0, .int .i64 0, .string ⟨#[]⟩, .bool false] 23))
  replace Px := Lib.hid (Px.out.alloc (.cells #[.int .i64 0, .int .i64 0, .string ⟨#[]⟩, .bool false] 23))
  replace Py := Lib.hid (Py.out.alloc (.cells #[.int .i64 0, .int .i64 0, .string ⟨#[]⟩, .bool false] 23))
  have Pc := Lib.hid (in4_new w5 0 0 ⟨#[]⟩ false 23)
  replace HB : Hid (Below w.heap.size w (w5.alloc (.cells #[.int .i64 0, .int .i64 0, .string ⟨#[]⟩, .bool false] 23))) := below_step HB.out ((Below.refl _ _).alloc (Nat.le_refl _) _)
  obtain ⟨ca0, ca1, ca2, ca3⟩ := Pa.out
  obtain ⟨cu0, cu1, cu2, cu3⟩ := Pu.out
  obtain ⟨cx0, cx1, cx2, cx3⟩ := Px.out
  obtain ⟨cy0, cy1, cy2, cy3⟩ := Py.out
  obtain ⟨cc0, cc1, cc2, cc3⟩ := Pc.out
  go_wp2_with fail
  refine (HR2.out _).mono ?_
  rintro e w6 ⟨rfl, hb6⟩
  clear ca0 ca1 ca2 ca3 cu0 cu1 cu2 cu3 cx0 cx1 cx2 cx3 cy0 cy1 cy2 cy3 cc0 cc1 cc2 cc3
  replace Pa := Lib.hid (Pa.out.on hb6)
  replace Pu := Lib.hid (Pu.out.on hb6)
  replace Px := Lib.hid (Px.out.on hb6)
  replace Py := Lib.hid (Py.out.on hb6)
  replace Pc := Lib.hid (Pc.out.on hb6)
  replace HB := Lib.hid (below_step HB.out hb6)
  clear hb6
  replace Pa := Lib.hid (Pa.out.alloc (.cells #[.int .i64 0, .int .i64 0, .string ⟨#[]⟩, .bool false] 23))
  replace Pu := Lib.hid (Pu.out.alloc (.cells #[.int .i64 0, .int .i64 0, .string ⟨#[]⟩, .bool false] 23))
  replace Px := Lib.hid (Px.out.alloc (.cells #[.int .i64 0, .int .i64 0, .string ⟨#[]⟩, .bool false] 23))
  replace Py := Lib.hid (Py.out.alloc (.cells #[.int .i64 0, .int .i64 0, .string ⟨#[]⟩, .bool false] 23))
  replace Pc := Lib.hid (Pc.out.alloc (.cells #[.int .i64 0, .int .i64 0, .string ⟨#[]⟩, .bool false] 23))
  have Pd := Lib.hid (in4_new w6 0 0 ⟨#[]⟩ false 23)
  replace HB : Hid (Below w.heap.size w (w6.alloc (.cells #[.int .i64 0, .int .i64 0, .string ⟨#[]⟩, .bool false] 23))) := below_step HB.out ((Below.refl _ _).alloc (Nat.le_refl _) _)
  obtain ⟨ca0, ca1, ca2, ca3⟩ := Pa.out
  obtain ⟨cu0, cu1, cu2, cu3⟩ := Pu.out
  obtain ⟨cx0, cx1, cx2, cx3⟩ := Px.out
  obtain ⟨cy0, cy1, cy2, cy3⟩ := Py.out
  obtain ⟨cc0, cc1, cc2, cc3⟩ := Pc.out
  obtain ⟨cd0, cd1, cd2, cd3⟩ := Pd.out
  go_wp2_with fail
  refine (HS.out _ (HE.out.on HB.out)).mono ?_
  rintro e w7 ⟨rfl, hb7⟩
  clear ca0 ca1 ca2 ca3 cu0 cu1 cu2 cu3 cx0 cx1 cx2 cx3 cy0 cy1 cy2 cy3 cc0 cc1 cc2 cc3 cd0 cd1 cd2 cd3
  replace Pa := Lib.hid (Pa.out.on hb7)
  replace Pu := Lib.hid (Pu.out.on hb7)
  replace Px := Lib.hid (Px.out.on hb7)
  replace Py := Lib.hid (Py.out.on hb7)
  replace Pc := Lib.hid (Pc.out.on hb7)
  replace Pd := Lib.hid (Pd.out.on hb7)
  replace HB := Lib.hid (below_step HB.out hb7)
  clear hb7
  obtain ⟨ca0, ca1, ca2, ca3⟩ := Pa.out
  obtain ⟨cu0, cu1, cu2, cu3⟩ := Pu.out
  obtain ⟨cx0, cx1, cx2, cx3⟩ := Px.out
  obtain ⟨cy0, cy1, cy2, cy3⟩ := Py.out
  obtain ⟨cc0, cc1, cc2, cc3⟩ := Pc.out
  obtain ⟨cd0, cd1, cd2, cd3⟩ := Pd.out
  go_wp2_with fail
  go_ret
  exact ⟨rfl, HB.out⟩
theorem nulls_ (k n : Int) (t : ByteArray) (b : Bool) (op : Int) (w : World) (hop : 0 ≤ op ∧ op ≤ 255) (hE : Env w) :
    Calls Tryd.prog 4 #[.agg #[.int .i64 k, .int .i64 n, .string t, .bool b], .int .u8 op] w fun e w' => e = .returned (.bool true) ∧ Below w.heap.size w w' := by
  by_cases hv : validN ⟨k, n, t, b⟩ = 0
  · rcases valid_kind (fit_of_valid hv) with h | h | h | h
    · obtain rfl : k = 0 := h
      exact nulls_k0 n t b op w hv hE
    · obtain rfl : k = 1 := h
      have h1 := tmod_small op (b := 5) (by decide)
      have h2 := mod_nonneg (a := op) (b := 5) hop.1
      have h3 : (op.tmod 5).natAbs < 5 := h1
      rcases (by omega : op.tmod 5 = 0 ∨ op.tmod 5 = 1 ∨ op.tmod 5 = 2 ∨ op.tmod 5 = 3 ∨ op.tmod 5 = 4) with hj | hj | hj | hj | hj
      · exact nulls_k1_0 n t b op w hv (wrap_in (by unfold inI; omega)) hj hE
      · exact nulls_k1_1 n t b op w hv (wrap_in (by unfold inI; omega)) hj hE
      · exact nulls_k1_2 n t b op w hv (wrap_in (by unfold inI; omega)) hj hE
      · exact nulls_k1_3 n t b op w hv (wrap_in (by unfold inI; omega)) hj hE
      · exact nulls_k1_4 n t b op w hv (wrap_in (by unfold inI; omega)) hj hE
    · obtain rfl : k = 2 := h
      exact nulls_k2 n t b op w hv hE
    · obtain rfl : k = 3 := h
      exact nulls_k3 n t b op w hv hE
  · exact nulls_bad k n t b op w hv hE
end Go.Proofs.YtfplncbechidnabDoor
