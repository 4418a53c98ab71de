/- The walk of the law ValueDivides. -/
import Derived.Test.YtfplncbechidnabDoorW7
import Derived.Test.YtfplncbechidnabDoorAs
import Derived.Test.YtfplncbechidnabDoorSure
namespace Go.Proofs.YtfplncbechidnabDoor
open Go.RowKit Go.Sort

theorem rkn_ok (op a b N : Int) (w : World) (h0 : 0 ≤ op) (h1 : op ≤ 255) (ho : ¬ opIx op < 0) (ha : inI a) (hb : inI b) (h : reck op a b = .ok N) :
    Calls Tryd.prog 6 #[.int .u8 op, .agg #[.int .i64 1, .int .i64 a, .string ⟨#[]⟩, .bool false], .agg #[.int .i64 1, .int .i64 b, .string ⟨#[]⟩, .bool false]] w fun e w' => e = .returned (.tuple #[.agg #[.int .i64 1, .int .i64 N, .string ⟨#[]⟩, .bool false], .nilIface]) ∧ Below w.heap.size w w' := by
  refine (reckon_ op 1 a ⟨#[]⟩ false 1 b ⟨#[]⟩ false w h0 h1 ha hb).mono fun e w' ⟨he, hbb⟩ => ⟨he.trans ?_, hbb⟩
  simp [rkR, rkE, ho, isK, one0, h, ansE, agV, vInt, errV]
theorem rkn_err (op a b x : Int) (w : World) (h0 : 0 ≤ op) (h1 : op ≤ 255) (ho : ¬ opIx op < 0) (hx : x ≠ 0) (ha : inI a) (hb : inI b) (h : reck op a b = .error x) :
    Calls Tryd.prog 6 #[.int .u8 op, .agg #[.int .i64 1, .int .i64 a, .string ⟨#[]⟩, .bool false], .agg #[.int .i64 1, .int .i64 b, .string ⟨#[]⟩, .bool false]] w fun e w' => e = .returned (.tuple #[.agg #[.int .i64 0, .int .i64 0, .string ⟨#[]⟩, .bool false], .iface 37 (.int .i64 x)]) ∧ Below w.heap.size w w' := by
  refine (reckon_ op 1 a ⟨#[]⟩ false 1 b ⟨#[]⟩ false w h0 h1 ha hb).mono fun e w' ⟨he, hbb⟩ => ⟨he.trans ?_, hbb⟩
  simp [rkR, rkE, ho, isK, one0, h, ansE, agV, vNull, errV, hx]
set_option maxHeartbeats 8000000 in
set_option maxRecDepth 100000 in
theorem divides_zero (a : Int) (w : World) (iA : inI a) (iB : inI 0) (hQ : reck 47 a 0 = .error 6) (hR : reck 37 a 0 = .error 6) (hE : Env w) (hT : ErrType w) :
    Calls Tryd.prog 3 #[.int .i64 a, .int .i64 0] w fun e w' => e = .returned (.bool true) ∧ Below w.heap.size w w' := by
  have HXi : Hid (∀ W, Calls Tryd.prog 5 #[.int .i64 a] W fun e w' => e = .returned (.agg #[.int .i64 1, .int .i64 a, .string ⟨#[]⟩, .bool false]) ∧ Below W.heap.size W w') := fun W => int_ _ W
  have HYi : Hid (∀ W, Calls Tryd.prog 5 #[.int .i64 0] W fun e w' => e = .returned (.agg #[.int .i64 1, .int .i64 0, .string ⟨#[]⟩, .bool false]) ∧ Below W.heap.size W w') := fun W => int_ _ W
  have HQ : Hid (∀ W, Calls Tryd.prog 6 #[.int .u8 47, .agg #[.int .i64 1, .int .i64 a, .string ⟨#[]⟩, .bool false], .agg #[.int .i64 1, .int .i64 0, .string ⟨#[]⟩, .bool false]] W fun e w' => e = .returned (.tuple #[.agg #[.int .i64 0, .int .i64 0, .string ⟨#[]⟩, .bool false], .iface 37 (.int .i64 6)]) ∧ Below W.heap.size W w') := fun W => rkn_err 47 _ _ _ W (by decide) (by decide) (by decide) (by decide) iA iB hQ
  have HR : Hid (∀ W, Calls Tryd.prog 6 #[.int .u8 37, .agg #[.int .i64 1, .int .i64 a, .string ⟨#[]⟩, .bool false], .agg #[.int .i64 1, .int .i64 0, .string ⟨#[]⟩, .bool false]] W fun e w' => e = .returned (.tuple #[.agg #[.int .i64 0, .int .i64 0, .string ⟨#[]⟩, .bool false], .iface 37 (.int .i64 6)]) ∧ Below W.heap.size W w') := fun W => rkn_err 37 _ _ _ W (by decide) (by decide) (by decide) (by decide) iA iB hR
  have HNM : Hid (∀ W, ErrType W → Calls Tryd.prog 7 #[.iface 37 (.int .i64 6)] W fun e w' => e = .returned (.int .i64 6) ∧ Below W.heap.size W w') := fun W hW => num11 6 W hW
  have HS : Hid (∀ W, Env W → Calls Tryd.prog 8 #[] W fun e w' => e = .returned (.bool true) ∧ Below W.heap.size W w') := fun W hW => sure_ W hW
  have HE := Lib.hid hE
  have HT := Lib.hid hT
  clear hE hT iA iB hQ hR
  have HB : Hid (Below w.heap.size w w) := Below.refl _ _
  go_enter Tryd.func3, Tryd.ntmps3
  go_wp2_with fail
  refine (HXi.out _).mono ?_
  rintro e w1 ⟨rfl, hb1⟩
  replace HB := Lib.hid (below_step HB.out hb1)
  clear hb1
  go_wp2_with fail
  refine (HYi.out _).mono ?_
  rintro e w2 ⟨rfl, hb2⟩
  replace HB := Lib.hid (below_step HB.out hb2)
  clear hb2
  have Px : Hid (In4 ((w2.alloc (.cells #[.int .i64 1, .int .i64 a, .string ⟨#[]⟩, .bool false] 23)).alloc (.cells #[.int .i64 1, .int .i64 0, .string ⟨#[]⟩, .bool false] 23)) (w2.heap.size) 0 1 a ⟨#[]⟩ false) := Lib.hid (by have := (in4_new w2 1 a ⟨#[]⟩ false 23).alloc (.cells #[.int .i64 1, .int .i64 0, .string ⟨#[]⟩, .bool false] 23); simpa using this)
  have Py : Hid (In4 ((w2.alloc (.cells #[.int .i64 1, .int .i64 a, .string ⟨#[]⟩, .bool false] 23)).alloc (.cells #[.int .i64 1, .int .i64 0, .string ⟨#[]⟩, .bool false] 23)) (w2.heap.size + 1) 0 1 0 ⟨#[]⟩ false) := Lib.hid (by have := in4_new (w2.alloc (.cells #[.int .i64 1, .int .i64 a, .string ⟨#[]⟩, .bool false] 23)) 1 0 ⟨#[]⟩ false 23; simpa using this)
  replace HB : Hid (Below w.heap.size w ((w2.alloc (.cells #[.int .i64 1, .int .i64 a, .string ⟨#[]⟩, .bool false] 23)).alloc (.cells #[.int .i64 1, .int .i64 0, .string ⟨#[]⟩, .bool false] 23))) := (below_step (below_step HB.out ((Below.refl _ _).alloc (Nat.le_refl _) _)) ((Below.refl _ _).alloc (Nat.le_refl _) _))
  obtain ⟨cx0, cx1, cx2, cx3⟩ := Px.out
  obtain ⟨cy0, cy1, cy2, cy3⟩ := Py.out
  go_wp2_with fail
  refine (HQ.out _).mono ?_
  rintro e w3 ⟨rfl, hb3⟩
  clear cx0 cx1 cx2 cx3 cy0 cy1 cy2 cy3
  replace Px := Lib.hid (Px.out.on hb3)
  replace Py := Lib.hid (Py.out.on hb3)
  replace HB := Lib.hid (below_step HB.out hb3)
  clear hb3
  replace Px := Lib.hid (Px.out.alloc (.cells #[.int .i64 0, .int .i64 0, .string ⟨#[]⟩, .bool false] 23))
  replace Py := Lib.hid (Py.out.alloc (.cells #[.int .i64 0, .int .i64 0, .string ⟨#[]⟩, .bool false] 23))
  have Pq := Lib.hid (in4_new w3 0 0 ⟨#[]⟩ false 23)
  replace HB : Hid (Below w.heap.size w (w3.alloc (.cells #[.int .i64 0, .int .i64 0, .string ⟨#[]⟩, .bool false] 23))) := below_step HB.out ((Below.refl _ _).alloc (Nat.le_refl _) _)
  obtain ⟨cx0, cx1, cx2, cx3⟩ := Px.out
  obtain ⟨cy0, cy1, cy2, cy3⟩ := Py.out
  obtain ⟨cq0, cq1, cq2, cq3⟩ := Pq.out
  go_wp2_with fail
  refine (HR.out _).mono ?_
  rintro e w4 ⟨rfl, hb4⟩
  clear cx0 cx1 cx2 cx3 cy0 cy1 cy2 cy3 cq0 cq1 cq2 cq3
  replace Px := Lib.hid (Px.out.on hb4)
  replace Py := Lib.hid (Py.out.on hb4)
  replace Pq := Lib.hid (Pq.out.on hb4)
  replace HB := Lib.hid (below_step HB.out hb4)
  clear hb4
  replace Px := Lib.hid (Px.out.alloc (.cells #[.int .i64 0, .int .i64 0, .string ⟨#[]⟩, .bool false] 23))
  replace Py := Lib.hid (Py.out.alloc (.cells #[.int .i64 0, .int .i64 0, .string ⟨#[]⟩, .bool false] 23))
  replace Pq := Lib.hid (Pq.out.alloc (.cells #[.int .i64 0, .int .i64 0, .string ⟨#[]⟩, .bool false] 23))
  have Pr := Lib.hid (in4_new w4 0 0 ⟨#[]⟩ false 23)
  replace HB : Hid (Below w.heap.size w (w4.alloc (.cells #[.int .i64 0, .int .i64 0, .string ⟨#[]⟩, .bool false] 23))) := below_step HB.out ((Below.refl _ _).alloc (Nat.le_refl _) _)
  obtain ⟨cx0, cx1, cx2, cx3⟩ := Px.out
  obtain ⟨cy0, cy1, cy2, cy3⟩ := Py.out
  obtain ⟨cq0, cq1, cq2, cq3⟩ := Pq.out
  obtain ⟨cr0, cr1, cr2, cr3⟩ := Pr.out
  go_wp2_with fail
  refine (HNM.out _ (HT.out.on HB.out)).mono ?_
  rintro e w5 ⟨rfl, hb5⟩
  clear cx0 cx1 cx2 cx3 cy0 cy1 cy2 cy3 cq0 cq1 cq2 cq3 cr0 cr1 cr2 cr3
  replace Px := Lib.hid (Px.out.on hb5)
  replace Py := Lib.hid (Py.out.on hb5)
  replace Pq := Lib.hid (Pq.out.on hb5)
  replace Pr := Lib.hid (Pr.out.on hb5)
  replace HB := Lib.hid (below_step HB.out hb5)
  clear hb5
  obtain ⟨cx0, cx1, cx2, cx3⟩ := Px.out
  obtain ⟨cy0, cy1, cy2, cy3⟩ := Py.out
  obtain ⟨cq0, cq1, cq2, cq3⟩ := Pq.out
  obtain ⟨cr0, cr1, cr2, cr3⟩ := Pr.out
  go_wp2_with fail
  refine (HNM.out _ (HT.out.on HB.out)).mono ?_
  rintro e w6 ⟨rfl, hb6⟩
  clear cx0 cx1 cx2 cx3 cy0 cy1 cy2 cy3 cq0 cq1 cq2 cq3 cr0 cr1 cr2 cr3
  replace Px := Lib.hid (Px.out.on hb6)
  replace Py := Lib.hid (Py.out.on hb6)
  replace Pq := Lib.hid (Pq.out.on hb6)
  replace Pr := Lib.hid (Pr.out.on hb6)
  replace HB := Lib.hid (below_step HB.out hb6)
  clear hb6
  obtain ⟨cx0, cx1, cx2, cx3⟩ := Px.out
  obtain ⟨cy0, cy1, cy2, cy3⟩ := Py.out
  obtain ⟨cq0, cq1, cq2, cq3⟩ := Pq.out
  obtain ⟨cr0, cr1, cr2, cr3⟩ := Pr.out
  go_wp2_with fail
  refine (HS.out _ (HE.out.on HB.out)).mono ?_
  rintro e w7 ⟨rfl, hb7⟩
  clear cx0 cx1 cx2 cx3 cy0 cy1 cy2 cy3 cq0 cq1 cq2 cq3 cr0 cr1 cr2 cr3
  replace Px := Lib.hid (Px.out.on hb7)
  replace Py := Lib.hid (Py.out.on hb7)
  replace Pq := Lib.hid (Pq.out.on hb7)
  replace Pr := Lib.hid (Pr.out.on hb7)
  replace HB := Lib.hid (below_step HB.out hb7)
  clear hb7
  obtain ⟨cx0, cx1, cx2, cx3⟩ := Px.out
  obtain ⟨cy0, cy1, cy2, cy3⟩ := Py.out
  obtain ⟨cq0, cq1, cq2, cq3⟩ := Pq.out
  obtain ⟨cr0, cr1, cr2, cr3⟩ := Pr.out
  go_wp2_with fail
  go_ret
  exact ⟨rfl, HB.out⟩
set_option maxHeartbeats 8000000 in
set_option maxRecDepth 100000 in
theorem divides_over (w : World) (iA : inI (-9223372036854775808)) (iB : inI (-1)) (hQ : reck 47 (-9223372036854775808) (-1) = .error 5) (hR : reck 37 (-9223372036854775808) (-1) = .ok 0) (hT1 : reck 43 (-9223372036854775808) (-1) = .error 5) (hE : Env w) (hT : ErrType w) :
    Calls Tryd.prog 3 #[.int .i64 (-9223372036854775808), .int .i64 (-1)] w fun e w' => e = .returned (.bool true) ∧ Below w.heap.size w w' := by
  have HXi : Hid (∀ W, Calls Tryd.prog 5 #[.int .i64 (-9223372036854775808)] W fun e w' => e = .returned (.agg #[.int .i64 1, .int .i64 (-9223372036854775808), .string ⟨#[]⟩, .bool false]) ∧ Below W.heap.size W w') := fun W => int_ _ W
  have HYi : Hid (∀ W, Calls Tryd.prog 5 #[.int .i64 (-1)] W fun e w' => e = .returned (.agg #[.int .i64 1, .int .i64 (-1), .string ⟨#[]⟩, .bool false]) ∧ Below W.heap.size W w') := fun W => int_ _ W
  have HQ : Hid (∀ W, Calls Tryd.prog 6 #[.int .u8 47, .agg #[.int .i64 1, .int .i64 (-9223372036854775808), .string ⟨#[]⟩, .bool false], .agg #[.int .i64 1, .int .i64 (-1), .string ⟨#[]⟩, .bool false]] W fun e w' => e = .returned (.tuple #[.agg #[.int .i64 0, .int .i64 0, .string ⟨#[]⟩, .bool false], .iface 37 (.int .i64 5)]) ∧ Below W.heap.size W w') := fun W => rkn_err 47 _ _ _ W (by decide) (by decide) (by decide) (by decide) iA iB hQ
  have HR : Hid (∀ W, Calls Tryd.prog 6 #[.int .u8 37, .agg #[.int .i64 1, .int .i64 (-9223372036854775808), .string ⟨#[]⟩, .bool false], .agg #[.int .i64 1, .int .i64 (-1), .string ⟨#[]⟩, .bool false]] W fun e w' => e = .returned (.tuple #[.agg #[.int .i64 1, .int .i64 0, .string ⟨#[]⟩, .bool false], .nilIface]) ∧ Below W.heap.size W w') := fun W => rkn_ok 37 _ _ _ W (by decide) (by decide) (by decide) iA iB hR
  have HNM : Hid (∀ W, ErrType W → Calls Tryd.prog 7 #[.iface 37 (.int .i64 5)] W fun e w' => e = .returned (.int .i64 5) ∧ Below W.heap.size W w') := fun W hW => num11 5 W hW
  have HTo : Hid (∀ W, Calls Tryd.prog 6 #[.int .u8 43, .agg #[.int .i64 1, .int .i64 (-9223372036854775808), .string ⟨#[]⟩, .bool false], .agg #[.int .i64 1, .int .i64 (-1), .string ⟨#[]⟩, .bool false]] W fun e w' => e = .returned (.tuple #[.agg #[.int .i64 0, .int .i64 0, .string ⟨#[]⟩, .bool false], .iface 37 (.int .i64 5)]) ∧ Below W.heap.size W w') := fun W => rkn_err 43 _ _ _ W (by decide) (by decide) (by decide) (by decide) iA iB hT1
  have HS : Hid (∀ W, Env W → Calls Tryd.prog 8 #[] W fun e w' => e = .returned (.bool true) ∧ Below W.heap.size W w') := fun W hW => sure_ W hW
  have HE := Lib.hid hE
  have HT := Lib.hid hT
  clear hE hT iA iB hQ hR hT1
  have HB : Hid (Below w.heap.size w w) := Below.refl _ _
  go_enter Tryd.func3, Tryd.ntmps3
  go_wp2_with fail
  refine (HXi.out _).mono ?_
  rintro e w1 ⟨rfl, hb1⟩
  replace HB := Lib.hid (below_step HB.out hb1)
  clear hb1
  go_wp2_with fail
  refine (HYi.out _).mono ?_
  rintro e w2 ⟨rfl, hb2⟩
  replace HB := Lib.hid (below_step HB.out hb2)
  clear hb2
  have Px : Hid (In4 ((w2.alloc (.cells #[.int .i64 1, .int .i64 (-9223372036854775808), .string ⟨#[]⟩, .bool false] 23)).alloc (.cells #[.int .i64 1, .int .i64 (-1), .string ⟨#[]⟩, .bool false] 23)) (w2.heap.size) 0 1 (-9223372036854775808) ⟨#[]⟩ false) := Lib.hid (by have := (in4_new w2 1 (-9223372036854775808) ⟨#[]⟩ false 23).alloc (.cells #[.int .i64 1, .int .i64 (-1), .string ⟨#[]⟩, .bool false] 23); simpa using this)
  have Py : Hid (In4 ((w2.alloc (.cells #[.int .i64 1, .int .i64 (-9223372036854775808), .string ⟨#[]⟩, .bool false] 23)).alloc (.cells #[.int .i64 1, .int .i64 (-1), .string ⟨#[]⟩, .bool false] 23)) (w2.heap.size + 1) 0 1 (-1) ⟨#[]⟩ false) := Lib.hid (by have := in4_new (w2.alloc (.cells #[.int .i64 1, .int .i64 (-9223372036854775808), .string ⟨#[]⟩, .bool false] 23)) 1 (-1) ⟨#[]⟩ false 23; simpa using this)
  replace HB : Hid (Below w.heap.size w ((w2.alloc (.cells #[.int .i64 1, .int .i64 (-9223372036854775808), .string ⟨#[]⟩, .bool false] 23)).alloc (.cells #[.int .i64 1, .int .i64 (-1), .string ⟨#[]⟩, .bool false] 23))) := (below_step (below_step HB.out ((Below.refl _ _).alloc (Nat.le_refl _) _)) ((Below.refl _ _).alloc (Nat.le_refl _) _))
  obtain ⟨cx0, cx1, cx2, cx3⟩ := Px.out
  obtain ⟨cy0, cy1, cy2, cy3⟩ := Py.out
  go_wp2_with fail
  refine (HQ.out _).mono ?_
  rintro e w3 ⟨rfl, hb3⟩
  clear cx0 cx1 cx2 cx3 cy0 cy1 cy2 cy3
  replace Px := Lib.hid (Px.out.on hb3)
  replace Py := Lib.hid (Py.out.on hb3)
  replace HB := Lib.hid (below_step HB.out hb3)
  clear hb3
  replace Px := Lib.hid (Px.out.alloc (.cells #[.int .i64 0, .int .i64 0, .string ⟨#[]⟩, .bool false] 23))
  replace Py := Lib.hid (Py.out.alloc (.cells #[.int .i64 0, .int .i64 0, .string ⟨#[]⟩, .bool false] 23))
  have Pq := Lib.hid (in4_new w3 0 0 ⟨#[]⟩ false 23)
  replace HB : Hid (Below w.heap.size w (w3.alloc (.cells #[.int .i64 0, .int .i64 0, .string ⟨#[]⟩, .bool false] 23))) := below_step HB.out ((Below.refl _ _).alloc (Nat.le_refl _) _)
  obtain ⟨cx0, cx1, cx2, cx3⟩ := Px.out
  obtain ⟨cy0, cy1, cy2, cy3⟩ := Py.out
  obtain ⟨cq0, cq1, cq2, cq3⟩ := Pq.out
  go_wp2_with fail
  refine (HR.out _).mono ?_
  rintro e w4 ⟨rfl, hb4⟩
  clear cx0 cx1 cx2 cx3 cy0 cy1 cy2 cy3 cq0 cq1 cq2 cq3
  replace Px := Lib.hid (Px.out.on hb4)
  replace Py := Lib.hid (Py.out.on hb4)
  replace Pq := Lib.hid (Pq.out.on hb4)
  replace HB := Lib.hid (below_step HB.out hb4)
  clear hb4
  replace Px := Lib.hid (Px.out.alloc (.cells #[.int .i64 1, .int .i64 0, .string ⟨#[]⟩, .bool false] 23))
  replace Py := Lib.hid (Py.out.alloc (.cells #[.int .i64 1, .int .i64 0, .string ⟨#[]⟩, .bool false] 23))
  replace Pq := Lib.hid (Pq.out.alloc (.cells #[.int .i64 1, .int .i64 0, .string ⟨#[]⟩, .bool false] 23))
  have Pr := Lib.hid (in4_new w4 1 0 ⟨#[]⟩ false 23)
  replace HB : Hid (Below w.heap.size w (w4.alloc (.cells #[.int .i64 1, .int .i64 0, .string ⟨#[]⟩, .bool false] 23))) := below_step HB.out ((Below.refl _ _).alloc (Nat.le_refl _) _)
  obtain ⟨cx0, cx1, cx2, cx3⟩ := Px.out
  obtain ⟨cy0, cy1, cy2, cy3⟩ := Py.out
  obtain ⟨cq0, cq1, cq2, cq3⟩ := Pq.out
  obtain ⟨cr0, cr1, cr2, cr3⟩ := Pr.out
  go_wp2_with fail
  refine (HNM.out _ (HT.out.on HB.out)).mono ?_
  rintro e w5 ⟨rfl, hb5⟩
  clear cx0 cx1 cx2 cx3 cy0 cy1 cy2 cy3 cq0 cq1 cq2 cq3 cr0 cr1 cr2 cr3
  replace Px := Lib.hid (Px.out.on hb5)
  replace Py := Lib.hid (Py.out.on hb5)
  replace Pq := Lib.hid (Pq.out.on hb5)
  replace Pr := Lib.hid (Pr.out.on hb5)
  replace HB := Lib.hid (below_step HB.out hb5)
  clear hb5
  obtain ⟨cx0, cx1, cx2, cx3⟩ := Px.out
  obtain ⟨cy0, cy1, cy2, cy3⟩ := Py.out
  obtain ⟨cq0, cq1, cq2, cq3⟩ := Pq.out
  obtain ⟨cr0, cr1, cr2, cr3⟩ := Pr.out
  go_wp2_with fail
  refine (HTo.out _).mono ?_
  rintro e w6 ⟨rfl, hb6⟩
  clear cx0 cx1 cx2 cx3 cy0 cy1 cy2 cy3 cq0 cq1 cq2 cq3 cr0 cr1 cr2 cr3
  replace Px := Lib.hid (Px.out.on hb6)
  replace Py := Lib.hid (Py.out.on hb6)
  replace Pq := Lib.hid (Pq.out.on hb6)
  replace Pr := Lib.hid (Pr.out.on hb6)
  replace HB := Lib.hid (below_step HB.out hb6)
  clear hb6
  replace Px := Lib.hid (Px.out.alloc (.cells #[.int .i64 0, .int .i64 0, .string ⟨#[]⟩, .bool false] 23))
  replace Py := Lib.hid (Py.out.alloc (.cells #[.int .i64 0, .int .i64 0, .string ⟨#[]⟩, .bool false] 23))
  replace Pq := Lib.hid (Pq.out.alloc (.cells #[.int .i64 0, .int .i64 0, .string ⟨#[]⟩, .bool false] 23))
  replace Pr := Lib.hid (Pr.out.alloc (.cells #[.int .i64 0, .int .i64 0, .string ⟨#[]⟩, .bool false] 23))
  have Ps2 := Lib.hid (in4_new w6 0 0 ⟨#[]⟩ false 23)
  replace HB : Hid (Below w.heap.size w (w6.alloc (.cells #[.int .i64 0, .int .i64 0, .string ⟨#[]⟩, .bool false] 23))) := below_step HB.out ((Below.refl _ _).alloc (Nat.le_refl _) _)
  obtain ⟨cx0, cx1, cx2, cx3⟩ := Px.out
  obtain ⟨cy0, cy1, cy2, cy3⟩ := Py.out
  obtain ⟨cq0, cq1, cq2, cq3⟩ := Pq.out
  obtain ⟨cr0, cr1, cr2, cr3⟩ := Pr.out
  obtain ⟨cs20, cs21, cs22, cs23⟩ := Ps2.out
  go_wp2_with fail
  refine (HNM.out _ (HT.out.on HB.out)).mono ?_
  rintro e w7 ⟨rfl, hb7⟩
  clear cx0 cx1 cx2 cx3 cy0 cy1 cy2 cy3 cq0 cq1 cq2 cq3 cr0 cr1 cr2 cr3 cs20 cs21 cs22 cs23
  replace Px := Lib.hid (Px.out.on hb7)
  replace Py := Lib.hid (Py.out.on hb7)
  replace Pq := Lib.hid (Pq.out.on hb7)
  replace Pr := Lib.hid (Pr.out.on hb7)
  replace Ps2 := Lib.hid (Ps2.out.on hb7)
  replace HB := Lib.hid (below_step HB.out hb7)
  clear hb7
  obtain ⟨cx0, cx1, cx2, cx3⟩ := Px.out
  obtain ⟨cy0, cy1, cy2, cy3⟩ := Py.out
  obtain ⟨cq0, cq1, cq2, cq3⟩ := Pq.out
  obtain ⟨cr0, cr1, cr2, cr3⟩ := Pr.out
  obtain ⟨cs20, cs21, cs22, cs23⟩ := Ps2.out
  go_wp2_with fail
  refine (HS.out _ (HE.out.on HB.out)).mono ?_
  rintro e w8 ⟨rfl, hb8⟩
  clear cx0 cx1 cx2 cx3 cy0 cy1 cy2 cy3 cq0 cq1 cq2 cq3 cr0 cr1 cr2 cr3 cs20 cs21 cs22 cs23
  replace Px := Lib.hid (Px.out.on hb8)
  replace Py := Lib.hid (Py.out.on hb8)
  replace Pq := Lib.hid (Pq.out.on hb8)
  replace Pr := Lib.hid (Pr.out.on hb8)
  replace Ps2 := Lib.hid (Ps2.out.on hb8)
  replace HB := Lib.hid (below_step HB.out hb8)
  clear hb8
  obtain ⟨cx0, cx1, cx2, cx3⟩ := Px.out
  obtain ⟨cy0, cy1, cy2, cy3⟩ := Py.out
  obtain ⟨cq0, cq1, cq2, cq3⟩ := Pq.out
  obtain ⟨cr0, cr1, cr2, cr3⟩ := Pr.out
  obtain ⟨cs20, cs21, cs22, cs23⟩ := Ps2.out
  go_wp2_with fail
  go_ret
  exact ⟨rfl, HB.out⟩
set_option maxHeartbeats 8000000 in
set_option maxRecDepth 100000 in
theorem divides_nn_ok (a b Q R P D : Int) (w : World) (iA : inI a) (iB : inI b) (hb0 : (b == 0) = false) (hQ : reck 47 a b = .ok Q) (hR : reck 37 a b = .ok R) (iQ : inI Q) (iR : inI R) (hP : reck 42 Q b = .ok P) (iP : inI P) (hS : reck 43 P R = .ok a) (s1 : R < 0) (s2 : b < 0) (s3 : b < R) (s4 : a < 0) (hT1 : reck 43 a b = .ok D) (iT : inI D) (hD : reck 45 D b = .ok a) (hE : Env w) (hT : ErrType w) :
    Calls Tryd.prog 3 #[.int .i64 a, .int .i64 b] w fun e w' => e = .returned (.bool true) ∧ Below w.heap.size w w' := by
  have HXi : Hid (∀ W, Calls Tryd.prog 5 #[.int .i64 a] W fun e w' => e = .returned (.agg #[.int .i64 1, .int .i64 a, .string ⟨#[]⟩, .bool false]) ∧ Below W.heap.size W w') := fun W => int_ _ W
  have HYi : Hid (∀ W, Calls Tryd.prog 5 #[.int .i64 b] W fun e w' => e = .returned (.agg #[.int .i64 1, .int .i64 b, .string ⟨#[]⟩, .bool false]) ∧ Below W.heap.size W w') := fun W => int_ _ W
  have HQ : Hid (∀ W, Calls Tryd.prog 6 #[.int .u8 47, .agg #[.int .i64 1, .int .i64 a, .string ⟨#[]⟩, .bool false], .agg #[.int .i64 1, .int .i64 b, .string ⟨#[]⟩, .bool false]] W fun e w' => e = .returned (.tuple #[.agg #[.int .i64 1, .int .i64 Q, .string ⟨#[]⟩, .bool false], .nilIface]) ∧ Below W.heap.size W w') := fun W => rkn_ok 47 _ _ _ W (by decide) (by decide) (by decide) iA iB hQ
  have HR : Hid (∀ W, Calls Tryd.prog 6 #[.int .u8 37, .agg #[.int .i64 1, .int .i64 a, .string ⟨#[]⟩, .bool false], .agg #[.int .i64 1, .int .i64 b, .string ⟨#[]⟩, .bool false]] W fun e w' => e = .returned (.tuple #[.agg #[.int .i64 1, .int .i64 R, .string ⟨#[]⟩, .bool false], .nilIface]) ∧ Below W.heap.size W w') := fun W => rkn_ok 37 _ _ _ W (by decide) (by decide) (by decide) iA iB hR
  have HP : Hid (∀ W, Calls Tryd.prog 6 #[.int .u8 42, .agg #[.int .i64 1, .int .i64 Q, .string ⟨#[]⟩, .bool false], .agg #[.int .i64 1, .int .i64 b, .string ⟨#[]⟩, .bool false]] W fun e w' => e = .returned (.tuple #[.agg #[.int .i64 1, .int .i64 P, .string ⟨#[]⟩, .bool false], .nilIface]) ∧ Below W.heap.size W w') := fun W => rkn_ok 42 _ _ _ W (by decide) (by decide) (by decide) iQ iB hP
  have HSu : Hid (∀ W, Calls Tryd.prog 6 #[.int .u8 43, .agg #[.int .i64 1, .int .i64 P, .string ⟨#[]⟩, .bool false], .agg #[.int .i64 1, .int .i64 R, .string ⟨#[]⟩, .bool false]] W fun e w' => e = .returned (.tuple #[.agg #[.int .i64 1, .int .i64 a, .string ⟨#[]⟩, .bool false], .nilIface]) ∧ Below W.heap.size W w') := fun W => rkn_ok 43 _ _ _ W (by decide) (by decide) (by decide) iP iR hS
  have hEQx : ∀ W, (Op.equalIn 10000 23 (.agg #[.int .i64 1, .int .i64 a, .string ⟨#[]⟩, .bool false]) (.agg #[.int .i64 1, .int .i64 a, .string ⟨#[]⟩, .bool false])).run Tryd.prog W = .ok true W := fun W => by rw [eqIn_, sameV_refl]
  have hGD := guardV
  have HTo : Hid (∀ W, Calls Tryd.prog 6 #[.int .u8 43, .agg #[.int .i64 1, .int .i64 a, .string ⟨#[]⟩, .bool false], .agg #[.int .i64 1, .int .i64 b, .string ⟨#[]⟩, .bool false]] W fun e w' => e = .returned (.tuple #[.agg #[.int .i64 1, .int .i64 D, .string ⟨#[]⟩, .bool false], .nilIface]) ∧ Below W.heap.size W w') := fun W => rkn_ok 43 _ _ _ W (by decide) (by decide) (by decide) iA iB hT1
  have HDi : Hid (∀ W, Calls Tryd.prog 6 #[.int .u8 45, .agg #[.int .i64 1, .int .i64 D, .string ⟨#[]⟩, .bool false], .agg #[.int .i64 1, .int .i64 b, .string ⟨#[]⟩, .bool false]] W fun e w' => e = .returned (.tuple #[.agg #[.int .i64 1, .int .i64 a, .string ⟨#[]⟩, .bool false], .nilIface]) ∧ Below W.heap.size W w') := fun W => rkn_ok 45 _ _ _ W (by decide) (by decide) (by decide) iT iB hD
  have HS : Hid (∀ W, Env W → Calls Tryd.prog 8 #[] W fun e w' => e = .returned (.bool true) ∧ Below W.heap.size W w') := fun W hW => sure_ W hW
  have HE := Lib.hid hE
  have HT := Lib.hid hT
  clear hE hT iA iB hQ hR iQ hP iP iR hS hT1 iT hD
  have HB : Hid (Below w.heap.size w w) := Below.refl _ _
  go_enter Tryd.func3, Tryd.ntmps3
  go_wp2_with fail
  refine (HXi.out _).mono ?_
  rintro e w1 ⟨rfl, hb1⟩
  replace HB := Lib.hid (below_step HB.out hb1)
  clear hb1
  go_wp2_with fail
  refine (HYi.out _).mono ?_
  rintro e w2 ⟨rfl, hb2⟩
  replace HB := Lib.hid (below_step HB.out hb2)
  clear hb2
  have Px : Hid (In4 ((w2.alloc (.cells #[.int .i64 1, .int .i64 a, .string ⟨#[]⟩, .bool false] 23)).alloc (.cells #[.int .i64 1, .int .i64 b, .string ⟨#[]⟩, .bool false] 23)) (w2.heap.size) 0 1 a ⟨#[]⟩ false) := Lib.hid (by have := (in4_new w2 1 a ⟨#[]⟩ false 23).alloc (.cells #[.int .i64 1, .int .i64 b, .string ⟨#[]⟩, .bool false] 23); simpa using this)
  have Py : Hid (In4 ((w2.alloc (.cells #[.int .i64 1, .int .i64 a, .string ⟨#[]⟩, .bool false] 23)).alloc (.cells #[.int .i64 1, .int .i64 b, .string ⟨#[]⟩, .bool false] 23)) (w2.heap.size + 1) 0 1 b ⟨#[]⟩ false) := Lib.hid (by have := in4_new (w2.alloc (.cells #[.int .i64 1, .int .i64 a, .string ⟨#[]⟩, .bool false] 23)) 1 b ⟨#[]⟩ false 23; simpa using this)
  replace HB : Hid (Below w.heap.size w ((w2.alloc (.cells #[.int .i64 1, .int .i64 a, .string ⟨#[]⟩, .bool false] 23)).alloc (.cells #[.int .i64 1, .int .i64 b, .string ⟨#[]⟩, .bool false] 23))) := (below_step (below_step HB.out ((Below.refl _ _).alloc (Nat.le_refl _) _)) ((Below.refl _ _).alloc (Nat.le_refl _) _))
  obtain ⟨cx0, cx1, cx2, cx3⟩ := Px.out
  obtain ⟨cy0, cy1, cy2, cy3⟩ := Py.out
  go_wp2_with fail
  refine (HQ.out _).mono ?_
  rintro e w3 ⟨rfl, hb3⟩
  clear cx0 cx1 cx2 cx3 cy0 cy1 cy2 cy3
  replace Px := Lib.hid (Px.out.on hb3)
  replace Py := Lib.hid (Py.out.on hb3)
  replace HB := Lib.hid (below_step HB.out hb3)
  clear hb3
  replace Px := Lib.hid (Px.out.alloc (.cells #[.int .i64 1, .int .i64 Q, .string ⟨#[]⟩, .bool false] 23))
  replace Py := Lib.hid (Py.out.alloc (.cells #[.int .i64 1, .int .i64 Q, .string ⟨#[]⟩, .bool false] 23))
  have Pq := Lib.hid (in4_new w3 1 Q ⟨#[]⟩ false 23)
  replace HB : Hid (Below w.heap.size w (w3.alloc (.cells #[.int .i64 1, .int .i64 Q, .string ⟨#[]⟩, .bool false] 23))) := below_step HB.out ((Below.refl _ _).alloc (Nat.le_refl _) _)
  obtain ⟨cx0, cx1, cx2, cx3⟩ := Px.out
  obtain ⟨cy0, cy1, cy2, cy3⟩ := Py.out
  obtain ⟨cq0, cq1, cq2, cq3⟩ := Pq.out
  go_wp2_with fail
  refine (HR.out _).mono ?_
  rintro e w4 ⟨rfl, hb4⟩
  clear cx0 cx1 cx2 cx3 cy0 cy1 cy2 cy3 cq0 cq1 cq2 cq3
  replace Px := Lib.hid (Px.out.on hb4)
  replace Py := Lib.hid (Py.out.on hb4)
  replace Pq := Lib.hid (Pq.out.on hb4)
  replace HB := Lib.hid (below_step HB.out hb4)
  clear hb4
  replace Px := Lib.hid (Px.out.alloc (.cells #[.int .i64 1, .int .i64 R, .string ⟨#[]⟩, .bool false] 23))
  replace Py := Lib.hid (Py.out.alloc (.cells #[.int .i64 1, .int .i64 R, .string ⟨#[]⟩, .bool false] 23))
  replace Pq := Lib.hid (Pq.out.alloc (.cells #[.int .i64 1, .int .i64 R, .string ⟨#[]⟩, .bool false] 23))
  have Pr := Lib.hid (in4_new w4 1 R ⟨#[]⟩ false 23)
  replace HB : Hid (Below w.heap.size w (w4.alloc (.cells #[.int .i64 1, .int .i64 R, .string ⟨#[]⟩, .bool false] 23))) := below_step HB.out ((Below.refl _ _).alloc (Nat.le_refl _) _)
  obtain ⟨cx0, cx1, cx2, cx3⟩ := Px.out
  obtain ⟨cy0, cy1, cy2, cy3⟩ := Py.out
  obtain ⟨cq0, cq1, cq2, cq3⟩ := Pq.out
  obtain ⟨cr0, cr1, cr2, cr3⟩ := Pr.out
  go_wp2_with fail
  refine (HP.out _).mono ?_
  rintro e w5 ⟨rfl, hb5⟩
  clear cx0 cx1 cx2 cx3 cy0 cy1 cy2 cy3 cq0 cq1 cq2 cq3 cr0 cr1 cr2 cr3
  replace Px := Lib.hid (Px.out.on hb5)
  replace Py := Lib.hid (Py.out.on hb5)
  replace Pq := Lib.hid (Pq.out.on hb5)
  replace Pr := Lib.hid (Pr.out.on hb5)
  replace HB := Lib.hid (below_step HB.out hb5)
  clear hb5
  replace Px := Lib.hid (Px.out.alloc (.cells #[.int .i64 1, .int .i64 P, .string ⟨#[]⟩, .bool false] 23))
  replace Py := Lib.hid (Py.out.alloc (.cells #[.int .i64 1, .int .i64 P, .string ⟨#[]⟩, .bool false] 23))
  replace Pq := Lib.hid (Pq.out.alloc (.cells #[.int .i64 1, .int .i64 P, .string ⟨#[]⟩, .bool false] 23))
  replace Pr := Lib.hid (Pr.out.alloc (.cells #[.int .i64 1, .int .i64 P, .string ⟨#[]⟩, .bool false] 23))
  have Pp := Lib.hid (in4_new w5 1 P ⟨#[]⟩ false 23)
  replace HB : Hid (Below w.heap.size w (w5.alloc (.cells #[.int .i64 1, .int .i64 P, .string ⟨#[]⟩, .bool false] 23))) := below_step HB.out ((Below.refl _ _).alloc (Nat.le_refl _) _)
  obtain ⟨cx0, cx1, cx2, cx3⟩ := Px.out
  obtain ⟨cy0, cy1, cy2, cy3⟩ := Py.out
  obtain ⟨cq0, cq1, cq2, cq3⟩ := Pq.out
  obtain ⟨cr0, cr1, cr2, cr3⟩ := Pr.out
  obtain ⟨cp0, cp1, cp2, cp3⟩ := Pp.out
  go_wp2_with fail
  refine (HSu.out _).mono ?_
  rintro e w6 ⟨rfl, hb6⟩
  clear cx0 cx1 cx2 cx3 cy0 cy1 cy2 cy3 cq0 cq1 cq2 cq3 cr0 cr1 cr2 cr3 cp0 cp1 cp2 cp3
  replace Px := Lib.hid (Px.out.on hb6)
  replace Py := Lib.hid (Py.out.on hb6)
  replace Pq := Lib.hid (Pq.out.on hb6)
  replace Pr := Lib.hid (Pr.out.on hb6)
  replace Pp := Lib.hid (Pp.out.on hb6)
  replace HB := Lib.hid (below_step HB.out hb6)
  clear hb6
  replace Px := Lib.hid (Px.out.alloc (.cells #[.int .i64 1, .int .i64 a, .string ⟨#[]⟩, .bool false] 23))
  replace Py := Lib.hid (Py.out.alloc (.cells #[.int .i64 1, .int .i64 a, .string ⟨#[]⟩, .bool false] 23))
  replace Pq := Lib.hid (Pq.out.alloc (.cells #[.int .i64 1, .int .i64 a, .string ⟨#[]⟩, .bool false] 23))
  replace Pr := Lib.hid (Pr.out.alloc (.cells #[.int .i64 1, .int .i64 a, .string ⟨#[]⟩, .bool false] 23))
  replace Pp := Lib.hid (Pp.out.alloc (.cells #[.int .i64 1, .int .i64 a, .string ⟨#[]⟩, .bool false] 23))
  have Ps := Lib.hid (in4_new w6 1 a ⟨#[]⟩ false 23)
  replace HB : Hid (Below w.heap.size w (w6.alloc (.cells #[.int .i64 1, .int .i64 a, .string ⟨#[]⟩, .bool false] 23))) := below_step HB.out ((Below.refl _ _).alloc (Nat.le_refl _) _)
  obtain ⟨cx0, cx1, cx2, cx3⟩ := Px.out
  obtain ⟨cy0, cy1, cy2, cy3⟩ := Py.out
  obtain ⟨cq0, cq1, cq2, cq3⟩ := Pq.out
  obtain ⟨cr0, cr1, cr2, cr3⟩ := Pr.out
  obtain ⟨cp0, cp1, cp2, cp3⟩ := Pp.out
  obtain ⟨cs0, cs1, cs2, cs3⟩ := Ps.out
  go_wp2_with fail
  refine (HTo.out _).mono ?_
  rintro e w7 ⟨rfl, hb7⟩
  clear cx0 cx1 cx2 cx3 cy0 cy1 cy2 cy3 cq0 cq1 cq2 cq3 cr0 cr1 cr2 cr3 cp0 cp1 cp2 cp3 cs0 cs1 cs2 cs3
  replace Px := Lib.hid (Px.out.on hb7)
  replace Py := Lib.hid (Py.out.on hb7)
  replace Pq := Lib.hid (Pq.out.on hb7)
  replace Pr := Lib.hid (Pr.out.on hb7)
  replace Pp := Lib.hid (Pp.out.on hb7)
  replace Ps := Lib.hid (Ps.out.on hb7)
  replace HB := Lib.hid (below_step HB.out hb7)
  clear hb7
  replace Px := Lib.hid (Px.out.alloc (.cells #[.int .i64 1, .int .i64 D, .string ⟨#[]⟩, .bool false] 23))
  replace Py := Lib.hid (Py.out.alloc (.cells #[.int .i64 1, .int .i64 D, .string ⟨#[]⟩, .bool false] 23))
  replace Pq := Lib.hid (Pq.out.alloc (.cells #[.int .i64 1, .int .i64 D, .string ⟨#[]⟩, .bool false] 23))
  replace Pr := Lib.hid (Pr.out.alloc (.cells #[.int .i64 1, .int .i64 D, .string ⟨#[]⟩, .bool false] 23))
  replace Pp := Lib.hid (Pp.out.alloc (.cells #[.int .i64 1, .int .i64 D, .string ⟨#[]⟩, .bool false] 23))
  replace Ps := Lib.hid (Ps.out.alloc (.cells #[.int .i64 1, .int .i64 D, .string ⟨#[]⟩, .bool false] 23))
  have Ps2 := Lib.hid (in4_new w7 1 D ⟨#[]⟩ false 23)
  replace HB : Hid (Below w.heap.size w (w7.alloc (.cells #[.int .i64 1, .int .i64 D, .string ⟨#[]⟩, .bool false] 23))) := below_step HB.out ((Below.refl _ _).alloc (Nat.le_refl _) _)
  obtain ⟨cx0, cx1, cx2, cx3⟩ := Px.out
  obtain ⟨cy0, cy1, cy2, cy3⟩ := Py.out
  obtain ⟨cq0, cq1, cq2, cq3⟩ := Pq.out
  obtain ⟨cr0, cr1, cr2, cr3⟩ := Pr.out
  obtain ⟨cp0, cp1, cp2, cp3⟩ := Pp.out
  obtain ⟨cs0, cs1, cs2, cs3⟩ := Ps.out
  obtain ⟨cs20, cs21, cs22, cs23⟩ := Ps2.out
  go_wp2_with fail
  refine (HDi.out _).mono ?_
  rintro e w8 ⟨rfl, hb8⟩
  clear cx0 cx1 cx2 cx3 cy0 cy1 cy2 cy3 cq0 cq1 cq2 cq3 cr0 cr1 cr2 cr3 cp0 cp1 cp2 cp3 cs0 cs1 cs2 cs3 cs20 cs21 cs22 cs23
  replace Px := Lib.hid (Px.out.on hb8)
  replace Py := Lib.hid (Py.out.on hb8)
  replace Pq := Lib.hid (Pq.out.on hb8)
  replace Pr := Lib.hid (Pr.out.on hb8)
  replace Pp := Lib.hid (Pp.out.on hb8)
  replace Ps := Lib.hid (Ps.out.on hb8)
  replace Ps2 := Lib.hid (Ps2.out.on hb8)
  replace HB := Lib.hid (below_step HB.out hb8)
  clear hb8
  replace Px := Lib.hid (Px.out.alloc (.cells #[.int .i64 1, .int .i64 a, .string ⟨#[]⟩, .bool false] 23))
  replace Py := Lib.hid (Py.out.alloc (.cells #[.int .i64 1, .int .i64 a, .string ⟨#[]⟩, .bool false] 23))
  replace Pq := Lib.hid (Pq.out.alloc (.cells #[.int .i64 1, .int .i64 a, .string ⟨#[]⟩, .bool false] 23))
  replace Pr := Lib.hid (Pr.out.alloc (.cells #[.int .i64 1, .int .i64 a, .string ⟨#[]⟩, .bool false] 23))
  replace Pp := Lib.hid (Pp.out.alloc (.cells #[.int .i64 1, .int .i64 a, .string ⟨#[]⟩, .bool false] 23))
  replace Ps := Lib.hid (Ps.out.alloc (.cells #[.int .i64 1, .int .i64 a, .string ⟨#[]⟩, .bool false] 23))
  replace Ps2 := Lib.hid (Ps2.out.alloc (.cells #[.int .i64 1, .int .i64 a, .string ⟨#[]⟩, .bool false] 23))
  have Pd := Lib.hid (in4_new w8 1 a ⟨#[]⟩ false 23)
  replace HB : Hid (Below w.heap.size w (w8.alloc (.cells #[.int .i64 1, .int .i64 a, .string ⟨#[]⟩, .bool false] 23))) := below_step HB.out ((Below.refl _ _).alloc (Nat.le_refl _) _)
  obtain ⟨cx0, cx1, cx2, cx3⟩ := Px.out
  obtain ⟨cy0, cy1, cy2, cy3⟩ := Py.out
  obtain ⟨cq0, cq1, cq2, cq3⟩ := Pq.out
  obtain ⟨cr0, cr1, cr2, cr3⟩ := Pr.out
  obtain ⟨cp0, cp1, cp2, cp3⟩ := Pp.out
  obtain ⟨cs0, cs1, cs2, cs3⟩ := Ps.out
  obtain ⟨cs20, cs21, cs22, cs23⟩ := Ps2.out
  obtain ⟨cd0, cd1, cd2, cd3⟩ := Pd.out
  go_wp2_with fail
  refine (HS.out _ (HE.out.on HB.out)).mono ?_
  rintro e w9 ⟨rfl, hb9⟩
  clear cx0 cx1 cx2 cx3 cy0 cy1 cy2 cy3 cq0 cq1 cq2 cq3 cr0 cr1 cr2 cr3 cp0 cp1 cp2 cp3 cs0 cs1 cs2 cs3 cs20 cs21 cs22 cs23 cd0 cd1 cd2 cd3
  replace Px := Lib.hid (Px.out.on hb9)
  replace Py := Lib.hid (Py.out.on hb9)
  replace Pq := Lib.hid (Pq.out.on hb9)
  replace Pr := Lib.hid (Pr.out.on hb9)
  replace Pp := Lib.hid (Pp.out.on hb9)
  replace Ps := Lib.hid (Ps.out.on hb9)
  replace Ps2 := Lib.hid (Ps2.out.on hb9)
  replace Pd := Lib.hid (Pd.out.on hb9)
  replace HB := Lib.hid (below_step HB.out hb9)
  clear hb9
  obtain ⟨cx0, cx1, cx2, cx3⟩ := Px.out
  obtain ⟨cy0, cy1, cy2, cy3⟩ := Py.out
  obtain ⟨cq0, cq1, cq2, cq3⟩ := Pq.out
  obtain ⟨cr0, cr1, cr2, cr3⟩ := Pr.out
  obtain ⟨cp0, cp1, cp2, cp3⟩ := Pp.out
  obtain ⟨cs0, cs1, cs2, cs3⟩ := Ps.out
  obtain ⟨cs20, cs21, cs22, cs23⟩ := Ps2.out
  obtain ⟨cd0, cd1, cd2, cd3⟩ := Pd.out
  go_wp2_with fail
  go_ret
  exact ⟨rfl, HB.out⟩
set_option maxHeartbeats 8000000 in
set_option maxRecDepth 100000 in
theorem divides_nn_no (a b Q R P : Int) (w : World) (iA : inI a) (iB : inI b) (hb0 : (b == 0) = false) (hQ : reck 47 a b = .ok Q) (hR : reck 37 a b = .ok R) (iQ : inI Q) (iR : inI R) (hP : reck 42 Q b = .ok P) (iP : inI P) (hS : reck 43 P R = .ok a) (s1 : R < 0) (s2 : b < 0) (s3 : b < R) (s4 : a < 0) (hT1 : reck 43 a b = .error 5) (hE : Env w) (hT : ErrType w) :
    Calls Tryd.prog 3 #[.int .i64 a, .int .i64 b] w fun e w' => e = .returned (.bool true) ∧ Below w.heap.size w w' := by
  have HXi : Hid (∀ W, Calls Tryd.prog 5 #[.int .i64 a] W fun e w' => e = .returned (.agg #[.int .i64 1, .int .i64 a, .string ⟨#[]⟩, .bool false]) ∧ Below W.heap.size W w') := fun W => int_ _ W
  have HYi : Hid (∀ W, Calls Tryd.prog 5 #[.int .i64 b] W fun e w' => e = .returned (.agg #[.int .i64 1, .int .i64 b, .string ⟨#[]⟩, .bool false]) ∧ Below W.heap.size W w') := fun W => int_ _ W
  have HQ : Hid (∀ W, Calls Tryd.prog 6 #[.int .u8 47, .agg #[.int .i64 1, .int .i64 a, .string ⟨#[]⟩, .bool false], .agg #[.int .i64 1, .int .i64 b, .string ⟨#[]⟩, .bool false]] W fun e w' => e = .returned (.tuple #[.agg #[.int .i64 1, .int .i64 Q, .string ⟨#[]⟩, .bool false], .nilIface]) ∧ Below W.heap.size W w') := fun W => rkn_ok 47 _ _ _ W (by decide) (by decide) (by decide) iA iB hQ
  have HR : Hid (∀ W, Calls Tryd.prog 6 #[.int .u8 37, .agg #[.int .i64 1, .int .i64 a, .string ⟨#[]⟩, .bool false], .agg #[.int .i64 1, .int .i64 b, .string ⟨#[]⟩, .bool false]] W fun e w' => e = .returned (.tuple #[.agg #[.int .i64 1, .int .i64 R, .string ⟨#[]⟩, .bool false], .nilIface]) ∧ Below W.heap.size W w') := fun W => rkn_ok 37 _ _ _ W (by decide) (by decide) (by decide) iA iB hR
  have HP : Hid (∀ W, Calls Tryd.prog 6 #[.int .u8 42, .agg #[.int .i64 1, .int .i64 Q, .string ⟨#[]⟩, .bool false], .agg #[.int .i64 1, .int .i64 b, .string ⟨#[]⟩, .bool false]] W fun e w' => e = .returned (.tuple #[.agg #[.int .i64 1, .int .i64 P, .string ⟨#[]⟩, .bool false], .nilIface]) ∧ Below W.heap.size W w') := fun W => rkn_ok 42 _ _ _ W (by decide) (by decide) (by decide) iQ iB hP
  have HSu : Hid (∀ W, Calls Tryd.prog 6 #[.int .u8 43, .agg #[.int .i64 1, .int .i64 P, .string ⟨#[]⟩, .bool false], .agg #[.int .i64 1, .int .i64 R, .string ⟨#[]⟩, .bool false]] W fun e w' => e = .returned (.tuple #[.agg #[.int .i64 1, .int .i64 a, .string ⟨#[]⟩, .bool false], .nilIface]) ∧ Below W.heap.size W w') := fun W => rkn_ok 43 _ _ _ W (by decide) (by decide) (by decide) iP iR hS
  have hEQx : ∀ W, (Op.equalIn 10000 23 (.agg #[.int .i64 1, .int .i64 a, .string ⟨#[]⟩, .bool false]) (.agg #[.int .i64 1, .int .i64 a, .string ⟨#[]⟩, .bool false])).run Tryd.prog W = .ok true W := fun W => by rw [eqIn_, sameV_refl]
  have hGD := guardV
  have HTo : Hid (∀ W, Calls Tryd.prog 6 #[.int .u8 43, .agg #[.int .i64 1, .int .i64 a, .string ⟨#[]⟩, .bool false], .agg #[.int .i64 1, .int .i64 b, .string ⟨#[]⟩, .bool false]] W fun e w' => e = .returned (.tuple #[.agg #[.int .i64 0, .int .i64 0, .string ⟨#[]⟩, .bool false], .iface 37 (.int .i64 5)]) ∧ Below W.heap.size W w') := fun W => rkn_err 43 _ _ _ W (by decide) (by decide) (by decide) (by decide) iA iB hT1
  have HNM : Hid (∀ W, ErrType W → Calls Tryd.prog 7 #[.iface 37 (.int .i64 5)] W fun e w' => e = .returned (.int .i64 5) ∧ Below W.heap.size W w') := fun W hW => num11 5 W hW
  have HS : Hid (∀ W, Env W → Calls Tryd.prog 8 #[] W fun e w' => e = .returned (.bool true) ∧ Below W.heap.size W w') := fun W hW => sure_ W hW
  have HE := Lib.hid hE
  have HT := Lib.hid hT
  clear hE hT iA iB hQ hR iQ hP iP iR hS hT1
  have HB : Hid (Below w.heap.size w w) := Below.refl _ _
  go_enter Tryd.func3, Tryd.ntmps3
  go_wp2_with fail
  refine (HXi.out _).mono ?_
  rintro e w1 ⟨rfl, hb1⟩
  replace HB := Lib.hid (below_step HB.out hb1)
  clear hb1
  go_wp2_with fail
  refine (HYi.out _).mono ?_
  rintro e w2 ⟨rfl, hb2⟩
  replace HB := Lib.hid (below_step HB.out hb2)
  clear hb2
  have Px : Hid (In4 ((w2.alloc (.cells #[.int .i64 1, .int .i64 a, .string ⟨#[]⟩, .bool false] 23)).alloc (.cells #[.int .i64 1, .int .i64 b, .string ⟨#[]⟩, .bool false] 23)) (w2.heap.size) 0 1 a ⟨#[]⟩ false) := Lib.hid (by have := (in4_new w2 1 a ⟨#[]⟩ false 23).alloc (.cells #[.int .i64 1, .int .i64 b, .string ⟨#[]⟩, .bool false] 23); simpa using this)
  have Py : Hid (In4 ((w2.alloc (.cells #[.int .i64 1, .int .i64 a, .string ⟨#[]⟩, .bool false] 23)).alloc (.cells #[.int .i64 1, .int .i64 b, .string ⟨#[]⟩, .bool false] 23)) (w2.heap.size + 1) 0 1 b ⟨#[]⟩ false) := Lib.hid (by have := in4_new (w2.alloc (.cells #[.int .i64 1, .int .i64 a, .string ⟨#[]⟩, .bool false] 23)) 1 b ⟨#[]⟩ false 23; simpa using this)
  replace HB : Hid (Below w.heap.size w ((w2.alloc (.cells #[.int .i64 1, .int .i64 a, .string ⟨#[]⟩, .bool false] 23)).alloc (.cells #[.int .i64 1, .int .i64 b, .string ⟨#[]⟩, .bool false] 23))) := (below_step (below_step HB.out ((Below.refl _ _).alloc (Nat.le_refl _) _)) ((Below.refl _ _).alloc (Nat.le_refl _) _))
  obtain ⟨cx0, cx1, cx2, cx3⟩ := Px.out
  obtain ⟨cy0, cy1, cy2, cy3⟩ := Py.out
  go_wp2_with fail
  refine (HQ.out _).mono ?_
  rintro e w3 ⟨rfl, hb3⟩
  clear cx0 cx1 cx2 cx3 cy0 cy1 cy2 cy3
  replace Px := Lib.hid (Px.out.on hb3)
  replace Py := Lib.hid (Py.out.on hb3)
  replace HB := Lib.hid (below_step HB.out hb3)
  clear hb3
  replace Px := Lib.hid (Px.out.alloc (.cells #[.int .i64 1, .int .i64 Q, .string ⟨#[]⟩, .bool false] 23))
  replace Py := Lib.hid (Py.out.alloc (.cells #[.int .i64 1, .int .i64 Q, .string ⟨#[]⟩, .bool false] 23))
  have Pq := Lib.hid (in4_new w3 1 Q ⟨#[]⟩ false 23)
  replace HB : Hid (Below w.heap.size w (w3.alloc (.cells #[.int .i64 1, .int .i64 Q, .string ⟨#[]⟩, .bool false] 23))) := below_step HB.out ((Below.refl _ _).alloc (Nat.le_refl _) _)
  obtain ⟨cx0, cx1, cx2, cx3⟩ := Px.out
  obtain ⟨cy0, cy1, cy2, cy3⟩ := Py.out
  obtain ⟨cq0, cq1, cq2, cq3⟩ := Pq.out
  go_wp2_with fail
  refine (HR.out _).mono ?_
  rintro e w4 ⟨rfl, hb4⟩
  clear cx0 cx1 cx2 cx3 cy0 cy1 cy2 cy3 cq0 cq1 cq2 cq3
  replace Px := Lib.hid (Px.out.on hb4)
  replace Py := Lib.hid (Py.out.on hb4)
  replace Pq := Lib.hid (Pq.out.on hb4)
  replace HB := Lib.hid (below_step HB.out hb4)
  clear hb4
  replace Px := Lib.hid (Px.out.alloc (.cells #[.int .i64 1, .int .i64 R, .string ⟨#[]⟩, .bool false] 23))
  replace Py := Lib.hid (Py.out.alloc (.cells #[.int .i64 1, .int .i64 R, .string ⟨#[]⟩, .bool false] 23))
  replace Pq := Lib.hid (Pq.out.alloc (.cells #[.int .i64 1, .int .i64 R, .string ⟨#[]⟩, .bool false] 23))
  have Pr := Lib.hid (in4_new w4 1 R ⟨#[]⟩ false 23)
  replace HB : Hid (Below w.heap.size w (w4.alloc (.cells #[.int .i64 1, .int .i64 R, .string ⟨#[]⟩, .bool false] 23))) := below_step HB.out ((Below.refl _ _).alloc (Nat.le_refl _) _)
  obtain ⟨cx0, cx1, cx2, cx3⟩ := Px.out
  obtain ⟨cy0, cy1, cy2, cy3⟩ := Py.out
  obtain ⟨cq0, cq1, cq2, cq3⟩ := Pq.out
  obtain ⟨cr0, cr1, cr2, cr3⟩ := Pr.out
  go_wp2_with fail
  refine (HP.out _).mono ?_
  rintro e w5 ⟨rfl, hb5⟩
  clear cx0 cx1 cx2 cx3 cy0 cy1 cy2 cy3 cq0 cq1 cq2 cq3 cr0 cr1 cr2 cr3
  replace Px := Lib.hid (Px.out.on hb5)
  replace Py := Lib.hid (Py.out.on hb5)
  replace Pq := Lib.hid (Pq.out.on hb5)
  replace Pr := Lib.hid (Pr.out.on hb5)
  replace HB := Lib.hid (below_step HB.out hb5)
  clear hb5
  replace Px := Lib.hid (Px.out.alloc (.cells #[.int .i64 1, .int .i64 P, .string ⟨#[]⟩, .bool false] 23))
  replace Py := Lib.hid (Py.out.alloc (.cells #[.int .i64 1, .int .i64 P, .string ⟨#[]⟩, .bool false] 23))
  replace Pq := Lib.hid (Pq.out.alloc (.cells #[.int .i64 1, .int .i64 P, .string ⟨#[]⟩, .bool false] 23))
  replace Pr := Lib.hid (Pr.out.alloc (.cells #[.int .i64 1, .int .i64 P, .string ⟨#[]⟩, .bool false] 23))
  have Pp := Lib.hid (in4_new w5 1 P ⟨#[]⟩ false 23)
  replace HB : Hid (Below w.heap.size w (w5.alloc (.cells #[.int .i64 1, .int .i64 P, .string ⟨#[]⟩, .bool false] 23))) := below_step HB.out ((Below.refl _ _).alloc (Nat.le_refl _) _)
  obtain ⟨cx0, cx1, cx2, cx3⟩ := Px.out
  obtain ⟨cy0, cy1, cy2, cy3⟩ := Py.out
  obtain ⟨cq0, cq1, cq2, cq3⟩ := Pq.out
  obtain ⟨cr0, cr1, cr2, cr3⟩ := Pr.out
  obtain ⟨cp0, cp1, cp2, cp3⟩ := Pp.out
  go_wp2_with fail
  refine (HSu.out _).mono ?_
  rintro e w6 ⟨rfl, hb6⟩
  clear cx0 cx1 cx2 cx3 cy0 cy1 cy2 cy3 cq0 cq1 cq2 cq3 cr0 cr1 cr2 cr3 cp0 cp1 cp2 cp3
  replace Px := Lib.hid (Px.out.on hb6)
  replace Py := Lib.hid (Py.out.on hb6)
  replace Pq := Lib.hid (Pq.out.on hb6)
  replace Pr := Lib.hid (Pr.out.on hb6)
  replace Pp := Lib.hid (Pp.out.on hb6)
  replace HB := Lib.hid (below_step HB.out hb6)
  clear hb6
  replace Px := Lib.hid (Px.out.alloc (.cells #[.int .i64 1, .int .i64 a, .string ⟨#[]⟩, .bool false] 23))
  replace Py := Lib.hid (Py.out.alloc (.cells #[.int .i64 1, .int .i64 a, .string ⟨#[]⟩, .bool false] 23))
  replace Pq := Lib.hid (Pq.out.alloc (.cells #[.int .i64 1, .int .i64 a, .string ⟨#[]⟩, .bool false] 23))
  replace Pr := Lib.hid (Pr.out.alloc (.cells #[.int .i64 1, .int .i64 a, .string ⟨#[]⟩, .bool false] 23))
  replace Pp := Lib.hid (Pp.out.alloc (.cells #[.int .i64 1, .int .i64 a, .string ⟨#[]⟩, .bool false] 23))
  have Ps := Lib.hid (in4_new w6 1 a ⟨#[]⟩ false 23)
  replace HB : Hid (Below w.heap.size w (w6.alloc (.cells #[.int .i64 1, .int .i64 a, .string ⟨#[]⟩, .bool false] 23))) := below_step HB.out ((Below.refl _ _).alloc (Nat.le_refl _) _)
  obtain ⟨cx0, cx1, cx2, cx3⟩ := Px.out
  obtain ⟨cy0, cy1, cy2, cy3⟩ := Py.out
  obtain ⟨cq0, cq1, cq2, cq3⟩ := Pq.out
  obtain ⟨cr0, cr1, cr2, cr3⟩ := Pr.out
  obtain ⟨cp0, cp1, cp2, cp3⟩ := Pp.out
  obtain ⟨cs0, cs1, cs2, cs3⟩ := Ps.out
  go_wp2_with fail
  refine (HTo.out _).mono ?_
  rintro e w7 ⟨rfl, hb7⟩
  clear cx0 cx1 cx2 cx3 cy0 cy1 cy2 cy3 cq0 cq1 cq2 cq3 cr0 cr1 cr2 cr3 cp0 cp1 cp2 cp3 cs0 cs1 cs2 cs3
  replace Px := Lib.hid (Px.out.on hb7)
  replace Py := Lib.hid (Py.out.on hb7)
  replace Pq := Lib.hid (Pq.out.on hb7)
  replace Pr := Lib.hid (Pr.out.on hb7)
  replace Pp := Lib.hid (Pp.out.on hb7)
  replace Ps := Lib.hid (Ps.out.on hb7)
  replace HB := Lib.hid (below_step HB.out hb7)
  clear hb7
  replace Px := Lib.hid (Px.out.alloc (.cells #[.int .i64 0, .int .i64 0, .string ⟨#[]⟩, .bool false] 23))
  replace Py := Lib.hid (Py.out.alloc (.cells #[.int .i64 0, .int .i64 0, .string ⟨#[]⟩, .bool false] 23))
  replace Pq := Lib.hid (Pq.out.alloc (.cells #[.int .i64 0, .int .i64 0, .string ⟨#[]⟩, .bool false] 23))
  replace Pr := Lib.hid (Pr.out.alloc (.cells #[.int .i64 0, .int .i64 0, .string ⟨#[]⟩, .bool false] 23))
  replace Pp := Lib.hid (Pp.out.alloc (.cells #[.int .i64 0, .int .i64 0, .string ⟨#[]⟩, .bool false] 23))
  replace Ps := Lib.hid (Ps.out.alloc (.cells #[.int .i64 0, .int .i64 0, .string ⟨#[]⟩, .bool false] 23))
  have Ps2 := Lib.hid (in4_new w7 0 0 ⟨#[]⟩ false 23)
  replace HB : Hid (Below w.heap.size w (w7.alloc (.cells #[.int .i64 0, .int .i64 0, .string ⟨#[]⟩, .bool false] 23))) := below_step HB.out ((Below.refl _ _).alloc (Nat.le_refl _) _)
  obtain ⟨cx0, cx1, cx2, cx3⟩ := Px.out
  obtain ⟨cy0, cy1, cy2, cy3⟩ := Py.out
  obtain ⟨cq0, cq1, cq2, cq3⟩ := Pq.out
  obtain ⟨cr0, cr1, cr2, cr3⟩ := Pr.out
  obtain ⟨cp0, cp1, cp2, cp3⟩ := Pp.out
  obtain ⟨cs0, cs1, cs2, cs3⟩ := Ps.out
  obtain ⟨cs20, cs21, cs22, cs23⟩ := Ps2.out
  go_wp2_with fail
  refine (HNM.out _ (HT.out.on HB.out)).mono ?_
  rintro e w8 ⟨rfl, hb8⟩
  clear cx0 cx1 cx2 cx3 cy0 cy1 cy2 cy3 cq0 cq1 cq2 cq3 cr0 cr1 cr2 cr3 cp0 cp1 cp2 cp3 cs0 cs1 cs2 cs3 cs20 cs21 cs22 cs23
  replace Px := Lib.hid (Px.out.on hb8)
  replace Py := Lib.hid (Py.out.on hb8)
  replace Pq := Lib.hid (Pq.out.on hb8)
  replace Pr := Lib.hid (Pr.out.on hb8)
  replace Pp := Lib.hid (Pp.out.on hb8)
  replace Ps := Lib.hid (Ps.out.on hb8)
  replace Ps2 := Lib.hid (Ps2.out.on hb8)
  replace HB := Lib.hid (below_step HB.out hb8)
  clear hb8
  obtain ⟨cx0, cx1, cx2, cx3⟩ := Px.out
  obtain ⟨cy0, cy1, cy2, cy3⟩ := Py.out
  obtain ⟨cq0, cq1, cq2, cq3⟩ := Pq.out
  obtain ⟨cr0, cr1, cr2, cr3⟩ := Pr.out
  obtain ⟨cp0, cp1, cp2, cp3⟩ := Pp.out
  obtain ⟨cs0, cs1, cs2, cs3⟩ := Ps.out
  obtain ⟨cs20, cs21, cs22, cs23⟩ := Ps2.out
  go_wp2_with fail
  refine (HS.out _ (HE.out.on HB.out)).mono ?_
  rintro e w9 ⟨rfl, hb9⟩
  clear cx0 cx1 cx2 cx3 cy0 cy1 cy2 cy3 cq0 cq1 cq2 cq3 cr0 cr1 cr2 cr3 cp0 cp1 cp2 cp3 cs0 cs1 cs2 cs3 cs20 cs21 cs22 cs23
  replace Px := Lib.hid (Px.out.on hb9)
  replace Py := Lib.hid (Py.out.on hb9)
  replace Pq := Lib.hid (Pq.out.on hb9)
  replace Pr := Lib.hid (Pr.out.on hb9)
  replace Pp := Lib.hid (Pp.out.on hb9)
  replace Ps := Lib.hid (Ps.out.on hb9)
  replace Ps2 := Lib.hid (Ps2.out.on hb9)
  replace HB := Lib.hid (below_step HB.out hb9)
  clear hb9
  obtain ⟨cx0, cx1, cx2, cx3⟩ := Px.out
  obtain ⟨cy0, cy1, cy2, cy3⟩ := Py.out
  obtain ⟨cq0, cq1, cq2, cq3⟩ := Pq.out
  obtain ⟨cr0, cr1, cr2, cr3⟩ := Pr.out
  obtain ⟨cp0, cp1, cp2, cp3⟩ := Pp.out
  obtain ⟨cs0, cs1, cs2, cs3⟩ := Ps.out
  obtain ⟨cs20, cs21, cs22, cs23⟩ := Ps2.out
  go_wp2_with fail
  go_ret
  exact ⟨rfl, HB.out⟩
set_option maxHeartbeats 8000000 in
set_option maxRecDepth 100000 in
theorem divides_np_ok (a b Q R P D : Int) (w : World) (iA : inI a) (iB : inI b) (hb0 : (b == 0) = false) (hQ : reck 47 a b = .ok Q) (hR : reck 37 a b = .ok R) (iQ : inI Q) (iR : inI R) (hP : reck 42 Q b = .ok P) (iP : inI P) (hS : reck 43 P R = .ok a) (s1 : R < 0) (s2 : 0 < b) (s3 : -b < R) (s4 : a < 0) (hw : wrap64 (-b) = -b) (hT1 : reck 43 a b = .ok D) (iT : inI D) (hD : reck 45 D b = .ok a) (hE : Env w) (hT : ErrType w) :
    Calls Tryd.prog 3 #[.int .i64 a, .int .i64 b] w fun e w' => e = .returned (.bool true) ∧ Below w.heap.size w w' := by
  have HXi : Hid (∀ W, Calls Tryd.prog 5 #[.int .i64 a] W fun e w' => e = .returned (.agg #[.int .i64 1, .int .i64 a, .string ⟨#[]⟩, .bool false]) ∧ Below W.heap.size W w') := fun W => int_ _ W
  have HYi : Hid (∀ W, Calls Tryd.prog 5 #[.int .i64 b] W fun e w' => e = .returned (.agg #[.int .i64 1, .int .i64 b, .string ⟨#[]⟩, .bool false]) ∧ Below W.heap.size W w') := fun W => int_ _ W
  have HQ : Hid (∀ W, Calls Tryd.prog 6 #[.int .u8 47, .agg #[.int .i64 1, .int .i64 a, .string ⟨#[]⟩, .bool false], .agg #[.int .i64 1, .int .i64 b, .string ⟨#[]⟩, .bool false]] W fun e w' => e = .returned (.tuple #[.agg #[.int .i64 1, .int .i64 Q, .string ⟨#[]⟩, .bool false], .nilIface]) ∧ Below W.heap.size W w') := fun W => rkn_ok 47 _ _ _ W (by decide) (by decide) (by decide) iA iB hQ
  have HR : Hid (∀ W, Calls Tryd.prog 6 #[.int .u8 37, .agg #[.int .i64 1, .int .i64 a, .string ⟨#[]⟩, .bool false], .agg #[.int .i64 1, .int .i64 b, .string ⟨#[]⟩, .bool false]] W fun e w' => e = .returned (.tuple #[.agg #[.int .i64 1, .int .i64 R, .string ⟨#[]⟩, .bool false], .nilIface]) ∧ Below W.heap.size W w') := fun W => rkn_ok 37 _ _ _ W (by decide) (by decide) (by decide) iA iB hR
  have HP : Hid (∀ W, Calls Tryd.prog 6 #[.int .u8 42, .agg #[.int .i64 1, .int .i64 Q, .string ⟨#[]⟩, .bool false], .agg #[.int .i64 1, .int .i64 b, .string ⟨#[]⟩, .bool false]] W fun e w' => e = .returned (.tuple #[.agg #[.int .i64 1, .int .i64 P, .string ⟨#[]⟩, .bool false], .nilIface]) ∧ Below W.heap.size W w') := fun W => rkn_ok 42 _ _ _ W (by decide) (by decide) (by decide) iQ iB hP
  have HSu : Hid (∀ W, Calls Tryd.prog 6 #[.int .u8 43, .agg #[.int .i64 1, .int .i64 P, .string ⟨#[]⟩, .bool false], .agg #[.int .i64 1, .int .i64 R, .string ⟨#[]⟩, .bool false]] W fun e w' => e = .returned (.tuple #[.agg #[.int .i64 1, .int .i64 a, .string ⟨#[]⟩, .bool false], .nilIface]) ∧ Below W.heap.size W w') := fun W => rkn_ok 43 _ _ _ W (by decide) (by decide) (by decide) iP iR hS
  have hEQx : ∀ W, (Op.equalIn 10000 23 (.agg #[.int .i64 1, .int .i64 a, .string ⟨#[]⟩, .bool false]) (.agg #[.int .i64 1, .int .i64 a, .string ⟨#[]⟩, .bool false])).run Tryd.prog W = .ok true W := fun W => by rw [eqIn_, sameV_refl]
  have hGD := guardV
  have HTo : Hid (∀ W, Calls Tryd.prog 6 #[.int .u8 43, .agg #[.int .i64 1, .int .i64 a, .string ⟨#[]⟩, .bool false], .agg #[.int .i64 1, .int .i64 b, .string ⟨#[]⟩, .bool false]] W fun e w' => e = .returned (.tuple #[.agg #[.int .i64 1, .int .i64 D, .string ⟨#[]⟩, .bool false], .nilIface]) ∧ Below W.heap.size W w') := fun W => rkn_ok 43 _ _ _ W (by decide) (by decide) (by decide) iA iB hT1
  have HDi : Hid (∀ W, Calls Tryd.prog 6 #[.int .u8 45, .agg #[.int .i64 1, .int .i64 D, .string ⟨#[]⟩, .bool false], .agg #[.int .i64 1, .int .i64 b, .string ⟨#[]⟩, .bool false]] W fun e w' => e = .returned (.tuple #[.agg #[.int .i64 1, .int .i64 a, .string ⟨#[]⟩, .bool false], .nilIface]) ∧ Below W.heap.size W w') := fun W => rkn_ok 45 _ _ _ W (by decide) (by decide) (by decide) iT iB hD
  have HS : Hid (∀ W, Env W → Calls Tryd.prog 8 #[] W fun e w' => e = .returned (.bool true) ∧ Below W.heap.size W w') := fun W hW => sure_ W hW
  have HE := Lib.hid hE
  have HT := Lib.hid hT
  clear hE hT iA iB hQ hR iQ hP iP iR hS hT1 iT hD
  have HB : Hid (Below w.heap.size w w) := Below.refl _ _
  go_enter Tryd.func3, Tryd.ntmps3
  go_wp2_with fail
  refine (HXi.out _).mono ?_
  rintro e w1 ⟨rfl, hb1⟩
  replace HB := Lib.hid (below_step HB.out hb1)
  clear hb1
  go_wp2_with fail
  refine (HYi.out _).mono ?_
  rintro e w2 ⟨rfl, hb2⟩
  replace HB := Lib.hid (below_step HB.out hb2)
  clear hb2
  have Px : Hid (In4 ((w2.alloc (.cells #[.int .i64 1, .int .i64 a, .string ⟨#[]⟩, .bool false] 23)).alloc (.cells #[.int .i64 1, .int .i64 b, .string ⟨#[]⟩, .bool false] 23)) (w2.heap.size) 0 1 a ⟨#[]⟩ false) := Lib.hid (by have := (in4_new w2 1 a ⟨#[]⟩ false 23).alloc (.cells #[.int .i64 1, .int .i64 b, .string ⟨#[]⟩, .bool false] 23); simpa using this)
  have Py : Hid (In4 ((w2.alloc (.cells #[.int .i64 1, .int .i64 a, .string ⟨#[]⟩, .bool false] 23)).alloc (.cells #[.int .i64 1, .int .i64 b, .string ⟨#[]⟩, .bool false] 23)) (w2.heap.size + 1) 0 1 b ⟨#[]⟩ false) := Lib.hid (by have := in4_new (w2.alloc (.cells #[.int .i64 1, .int .i64 a, .string ⟨#[]⟩, .bool false] 23)) 1 b ⟨#[]⟩ false 23; simpa using this)
  replace HB : Hid (Below w.heap.size w ((w2.alloc (.cells #[.int .i64 1, .int .i64 a, .string ⟨#[]⟩, .bool false] 23)).alloc (.cells #[.int .i64 1, .int .i64 b, .string ⟨#[]⟩, .bool false] 23))) := (below_step (below_step HB.out ((Below.refl _ _).alloc (Nat.le_refl _) _)) ((Below.refl _ _).alloc (Nat.le_refl _) _))
  obtain ⟨cx0, cx1, cx2, cx3⟩ := Px.out
  obtain ⟨cy0, cy1, cy2, cy3⟩ := Py.out
  go_wp2_with fail
  refine (HQ.out _).mono ?_
  rintro e w3 ⟨rfl, hb3⟩
  clear cx0 cx1 cx2 cx3 cy0 cy1 cy2 cy3
  replace Px := Lib.hid (Px.out.on hb3)
  replace Py := Lib.hid (Py.out.on hb3)
  replace HB := Lib.hid (below_step HB.out hb3)
  clear hb3
  replace Px := Lib.hid (Px.out.alloc (.cells #[.int .i64 1, .int .i64 Q, .string ⟨#[]⟩, .bool false] 23))
  replace Py := Lib.hid (Py.out.alloc (.cells #[.int .i64 1, .int .i64 Q, .string ⟨#[]⟩, .bool false] 23))
  have Pq := Lib.hid (in4_new w3 1 Q ⟨#[]⟩ false 23)
  replace HB : Hid (Below w.heap.size w (w3.alloc (.cells #[.int .i64 1, .int .i64 Q, .string ⟨#[]⟩, .bool false] 23))) := below_step HB.out ((Below.refl _ _).alloc (Nat.le_refl _) _)
  obtain ⟨cx0, cx1, cx2, cx3⟩ := Px.out
  obtain ⟨cy0, cy1, cy2, cy3⟩ := Py.out
  obtain ⟨cq0, cq1, cq2, cq3⟩ := Pq.out
  go_wp2_with fail
  refine (HR.out _).mono ?_
  rintro e w4 ⟨rfl, hb4⟩
  clear cx0 cx1 cx2 cx3 cy0 cy1 cy2 cy3 cq0 cq1 cq2 cq3
  replace Px := Lib.hid (Px.out.on hb4)
  replace Py := Lib.hid (Py.out.on hb4)
  replace Pq := Lib.hid (Pq.out.on hb4)
  replace HB := Lib.hid (below_step HB.out hb4)
  clear hb4
  replace Px := Lib.hid (Px.out.alloc (.cells #[.int .i64 1, .int .i64 R, .string ⟨#[]⟩, .bool false] 23))
  replace Py := Lib.hid (Py.out.alloc (.cells #[.int .i64 1, .int .i64 R, .string ⟨#[]⟩, .bool false] 23))
  replace Pq := Lib.hid (Pq.out.alloc (.cells #[.int .i64 1, .int .i64 R, .string ⟨#[]⟩, .bool false] 23))
  have Pr := Lib.hid (in4_new w4 1 R ⟨#[]⟩ false 23)
  replace HB : Hid (Below w.heap.size w (w4.alloc (.cells #[.int .i64 1, .int .i64 R, .string ⟨#[]⟩, .bool false] 23))) := below_step HB.out ((Below.refl _ _).alloc (Nat.le_refl _) _)
  obtain ⟨cx0, cx1, cx2, cx3⟩ := Px.out
  obtain ⟨cy0, cy1, cy2, cy3⟩ := Py.out
  obtain ⟨cq0, cq1, cq2, cq3⟩ := Pq.out
  obtain ⟨cr0, cr1, cr2, cr3⟩ := Pr.out
  go_wp2_with fail
  refine (HP.out _).mono ?_
  rintro e w5 ⟨rfl, hb5⟩
  clear cx0 cx1 cx2 cx3 cy0 cy1 cy2 cy3 cq0 cq1 cq2 cq3 cr0 cr1 cr2 cr3
  replace Px := Lib.hid (Px.out.on hb5)
  replace Py := Lib.hid (Py.out.on hb5)
  replace Pq := Lib.hid (Pq.out.on hb5)
  replace Pr := Lib.hid (Pr.out.on hb5)
  replace HB := Lib.hid (below_step HB.out hb5)
  clear hb5
  replace Px := Lib.hid (Px.out.alloc (.cells #[.int .i64 1, .int .i64 P, .string ⟨#[]⟩, .bool false] 23))
  replace Py := Lib.hid (Py.out.alloc (.cells #[.int .i64 1, .int .i64 P, .string ⟨#[]⟩, .bool false] 23))
  replace Pq := Lib.hid (Pq.out.alloc (.cells #[.int .i64 1, .int .i64 P, .string ⟨#[]⟩, .bool false] 23))
  replace Pr := Lib.hid (Pr.out.alloc (.cells #[.int .i64 1, .int .i64 P, .string ⟨#[]⟩, .bool false] 23))
  have Pp := Lib.hid (in4_new w5 1 P ⟨#[]⟩ false 23)
  replace HB : Hid (Below w.heap.size w (w5.alloc (.cells #[.int .i64 1, .int .i64 P, .string ⟨#[]⟩, .bool false] 23))) := below_step HB.out ((Below.refl _ _).alloc (Nat.le_refl _) _)
  obtain ⟨cx0, cx1, cx2, cx3⟩ := Px.out
  obtain ⟨cy0, cy1, cy2, cy3⟩ := Py.out
  obtain ⟨cq0, cq1, cq2, cq3⟩ := Pq.out
  obtain ⟨cr0, cr1, cr2, cr3⟩ := Pr.out
  obtain ⟨cp0, cp1, cp2, cp3⟩ := Pp.out
  go_wp2_with fail
  refine (HSu.out _).mono ?_
  rintro e w6 ⟨rfl, hb6⟩
  clear cx0 cx1 cx2 cx3 cy0 cy1 cy2 cy3 cq0 cq1 cq2 cq3 cr0 cr1 cr2 cr3 cp0 cp1 cp2 cp3
  replace Px := Lib.hid (Px.out.on hb6)
  replace Py := Lib.hid (Py.out.on hb6)
  replace Pq := Lib.hid (Pq.out.on hb6)
  replace Pr := Lib.hid (Pr.out.on hb6)
  replace Pp := Lib.hid (Pp.out.on hb6)
  replace HB := Lib.hid (below_step HB.out hb6)
  clear hb6
  replace Px := Lib.hid (Px.out.alloc (.cells #[.int .i64 1, .int .i64 a, .string ⟨#[]⟩, .bool false] 23))
  replace Py := Lib.hid (Py.out.alloc (.cells #[.int .i64 1, .int .i64 a, .string ⟨#[]⟩, .bool false] 23))
  replace Pq := Lib.hid (Pq.out.alloc (.cells #[.int .i64 1, .int .i64 a, .string ⟨#[]⟩, .bool false] 23))
  replace Pr := Lib.hid (Pr.out.alloc (.cells #[.int .i64 1, .int .i64 a, .string ⟨#[]⟩, .bool false] 23))
  replace Pp := Lib.hid (Pp.out.alloc (.cells #[.int .i64 1, .int .i64 a, .string ⟨#[]⟩, .bool false] 23))
  have Ps := Lib.hid (in4_new w6 1 a ⟨#[]⟩ false 23)
  replace HB : Hid (Below w.heap.size w (w6.alloc (.cells #[.int .i64 1, .int .i64 a, .string ⟨#[]⟩, .bool false] 23))) := below_step HB.out ((Below.refl _ _).alloc (Nat.le_refl _) _)
  obtain ⟨cx0, cx1, cx2, cx3⟩ := Px.out
  obtain ⟨cy0, cy1, cy2, cy3⟩ := Py.out
  obtain ⟨cq0, cq1, cq2, cq3⟩ := Pq.out
  obtain ⟨cr0, cr1, cr2, cr3⟩ := Pr.out
  obtain ⟨cp0, cp1, cp2, cp3⟩ := Pp.out
  obtain ⟨cs0, cs1, cs2, cs3⟩ := Ps.out
  go_wp2_with fail
  refine (HTo.out _).mono ?_
  rintro e w7 ⟨rfl, hb7⟩
  clear cx0 cx1 cx2 cx3 cy0 cy1 cy2 cy3 cq0 cq1 cq2 cq3 cr0 cr1 cr2 cr3 cp0 cp1 cp2 cp3 cs0 cs1 cs2 cs3
  replace Px := Lib.hid (Px.out.on hb7)
  replace Py := Lib.hid (Py.out.on hb7)
  replace Pq := Lib.hid (Pq.out.on hb7)
  replace Pr := Lib.hid (Pr.out.on hb7)
  replace Pp := Lib.hid (Pp.out.on hb7)
  replace Ps := Lib.hid (Ps.out.on hb7)
  replace HB := Lib.hid (below_step HB.out hb7)
  clear hb7
  replace Px := Lib.hid (Px.out.alloc (.cells #[.int .i64 1, .int .i64 D, .string ⟨#[]⟩, .bool false] 23))
  replace Py := Lib.hid (Py.out.alloc (.cells #[.int .i64 1, .int .i64 D, .string ⟨#[]⟩, .bool false] 23))
  replace Pq := Lib.hid (Pq.out.alloc (.cells #[.int .i64 1, .int .i64 D, .string ⟨#[]⟩, .bool false] 23))
  replace Pr := Lib.hid (Pr.out.alloc (.cells #[.int .i64 1, .int .i64 D, .string ⟨#[]⟩, .bool false] 23))
  replace Pp := Lib.hid (Pp.out.alloc (.cells #[.int .i64 1, .int .i64 D, .string ⟨#[]⟩, .bool false] 23))
  replace Ps := Lib.hid (Ps.out.alloc (.cells #[.int .i64 1, .int .i64 D, .string ⟨#[]⟩, .bool false] 23))
  have Ps2 := Lib.hid (in4_new w7 1 D ⟨#[]⟩ false 23)
  replace HB : Hid (Below w.heap.size w (w7.alloc (.cells #[.int .i64 1, .int .i64 D, .string ⟨#[]⟩, .bool false] 23))) := below_step HB.out ((Below.refl _ _).alloc (Nat.le_refl _) _)
  obtain ⟨cx0, cx1, cx2, cx3⟩ := Px.out
  obtain ⟨cy0, cy1, cy2, cy3⟩ := Py.out
  obtain ⟨cq0, cq1, cq2, cq3⟩ := Pq.out
  obtain ⟨cr0, cr1, cr2, cr3⟩ := Pr.out
  obtain ⟨cp0, cp1, cp2, cp3⟩ := Pp.out
  obtain ⟨cs0, cs1, cs2, cs3⟩ := Ps.out
  obtain ⟨cs20, cs21, cs22, cs23⟩ := Ps2.out
  go_wp2_with fail
  refine (HDi.out _).mono ?_
  rintro e w8 ⟨rfl, hb8⟩
  clear cx0 cx1 cx2 cx3 cy0 cy1 cy2 cy3 cq0 cq1 cq2 cq3 cr0 cr1 cr2 cr3 cp0 cp1 cp2 cp3 cs0 cs1 cs2 cs3 cs20 cs21 cs22 cs23
  replace Px := Lib.hid (Px.out.on hb8)
  replace Py := Lib.hid (Py.out.on hb8)
  replace Pq := Lib.hid (Pq.out.on hb8)
  replace Pr := Lib.hid (Pr.out.on hb8)
  replace Pp := Lib.hid (Pp.out.on hb8)
  replace Ps := Lib.hid (Ps.out.on hb8)
  replace Ps2 := Lib.hid (Ps2.out.on hb8)
  replace HB := Lib.hid (below_step HB.out hb8)
  clear hb8
  replace Px := Lib.hid (Px.out.alloc (.cells #[.int .i64 1, .int .i64 a, .string ⟨#[]⟩, .bool false] 23))
  replace Py := Lib.hid (Py.out.alloc (.cells #[.int .i64 1, .int .i64 a, .string ⟨#[]⟩, .bool false] 23))
  replace Pq := Lib.hid (Pq.out.alloc (.cells #[.int .i64 1, .int .i64 a, .string ⟨#[]⟩, .bool false] 23))
  replace Pr := Lib.hid (Pr.out.alloc (.cells #[.int .i64 1, .int .i64 a, .string ⟨#[]⟩, .bool false] 23))
  replace Pp := Lib.hid (Pp.out.alloc (.cells #[.int .i64 1, .int .i64 a, .string ⟨#[]⟩, .bool false] 23))
  replace Ps := Lib.hid (Ps.out.alloc (.cells #[.int .i64 1, .int .i64 a, .string ⟨#[]⟩, .bool false] 23))
  replace Ps2 := Lib.hid (Ps2.out.alloc (.cells #[.int .i64 1, .int .i64 a, .string ⟨#[]⟩, .bool false] 23))
  have Pd := Lib.hid (in4_new w8 1 a ⟨#[]⟩ false 23)
  replace HB : Hid (Below w.heap.size w (w8.alloc (.cells #[.int .i64 1, .int .i64 a, .string ⟨#[]⟩, .bool false] 23))) := below_step HB.out ((Below.refl _ _).alloc (Nat.le_refl _) _)
  obtain ⟨cx0, cx1, cx2, cx3⟩ := Px.out
  obtain ⟨cy0, cy1, cy2, cy3⟩ := Py.out
  obtain ⟨cq0, cq1, cq2, cq3⟩ := Pq.out
  obtain ⟨cr0, cr1, cr2, cr3⟩ := Pr.out
  obtain ⟨cp0, cp1, cp2, cp3⟩ := Pp.out
  obtain ⟨cs0, cs1, cs2, cs3⟩ := Ps.out
  obtain ⟨cs20, cs21, cs22, cs23⟩ := Ps2.out
  obtain ⟨cd0, cd1, cd2, cd3⟩ := Pd.out
  go_wp2_with fail
  refine (HS.out _ (HE.out.on HB.out)).mono ?_
  rintro e w9 ⟨rfl, hb9⟩
  clear cx0 cx1 cx2 cx3 cy0 cy1 cy2 cy3 cq0 cq1 cq2 cq3 cr0 cr1 cr2 cr3 cp0 cp1 cp2 cp3 cs0 cs1 cs2 cs3 cs20 cs21 cs22 cs23 cd0 cd1 cd2 cd3
  replace Px := Lib.hid (Px.out.on hb9)
  replace Py := Lib.hid (Py.out.on hb9)
  replace Pq := Lib.hid (Pq.out.on hb9)
  replace Pr := Lib.hid (Pr.out.on hb9)
  replace Pp := Lib.hid (Pp.out.on hb9)
  replace Ps := Lib.hid (Ps.out.on hb9)
  replace Ps2 := Lib.hid (Ps2.out.on hb9)
  replace Pd := Lib.hid (Pd.out.on hb9)
  replace HB := Lib.hid (below_step HB.out hb9)
  clear hb9
  obtain ⟨cx0, cx1, cx2, cx3⟩ := Px.out
  obtain ⟨cy0, cy1, cy2, cy3⟩ := Py.out
  obtain ⟨cq0, cq1, cq2, cq3⟩ := Pq.out
  obtain ⟨cr0, cr1, cr2, cr3⟩ := Pr.out
  obtain ⟨cp0, cp1, cp2, cp3⟩ := Pp.out
  obtain ⟨cs0, cs1, cs2, cs3⟩ := Ps.out
  obtain ⟨cs20, cs21, cs22, cs23⟩ := Ps2.out
  obtain ⟨cd0, cd1, cd2, cd3⟩ := Pd.out
  go_wp2_with fail
  go_ret
  exact ⟨rfl, HB.out⟩
set_option maxHeartbeats 8000000 in
set_option maxRecDepth 100000 in
theorem divides_np_no (a b Q R P : Int) (w : World) (iA : inI a) (iB : inI b) (hb0 : (b == 0) = false) (hQ : reck 47 a b = .ok Q) (hR : reck 37 a b = .ok R) (iQ : inI Q) (iR : inI R) (hP : reck 42 Q b = .ok P) (iP : inI P) (hS : reck 43 P R = .ok a) (s1 : R < 0) (s2 : 0 < b) (s3 : -b < R) (s4 : a < 0) (hw : wrap64 (-b) = -b) (hT1 : reck 43 a b = .error 5) (hE : Env w) (hT : ErrType w) :
    Calls Tryd.prog 3 #[.int .i64 a, .int .i64 b] w fun e w' => e = .returned (.bool true) ∧ Below w.heap.size w w' := by
  have HXi : Hid (∀ W, Calls Tryd.prog 5 #[.int .i64 a] W fun e w' => e = .returned (.agg #[.int .i64 1, .int .i64 a, .string ⟨#[]⟩, .bool false]) ∧ Below W.heap.size W w') := fun W => int_ _ W
  have HYi : Hid (∀ W, Calls Tryd.prog 5 #[.int .i64 b] W fun e w' => e = .returned (.agg #[.int .i64 1, .int .i64 b, .string ⟨#[]⟩, .bool false]) ∧ Below W.heap.size W w') := fun W => int_ _ W
  have HQ : Hid (∀ W, Calls Tryd.prog 6 #[.int .u8 47, .agg #[.int .i64 1, .int .i64 a, .string ⟨#[]⟩, .bool false], .agg #[.int .i64 1, .int .i64 b, .string ⟨#[]⟩, .bool false]] W fun e w' => e = .returned (.tuple #[.agg #[.int .i64 1, .int .i64 Q, .string ⟨#[]⟩, .bool false], .nilIface]) ∧ Below W.heap.size W w') := fun W => rkn_ok 47 _ _ _ W (by decide) (by decide) (by decide) iA iB hQ
  have HR : Hid (∀ W, Calls Tryd.prog 6 #[.int .u8 37, .agg #[.int .i64 1, .int .i64 a, .string ⟨#[]⟩, .bool false], .agg #[.int .i64 1, .int .i64 b, .string ⟨#[]⟩, .bool false]] W fun e w' => e = .returned (.tuple #[.agg #[.int .i64 1, .int .i64 R, .string ⟨#[]⟩, .bool false], .nilIface]) ∧ Below W.heap.size W w') := fun W => rkn_ok 37 _ _ _ W (by decide) (by decide) (by decide) iA iB hR
  have HP : Hid (∀ W, Calls Tryd.prog 6 #[.int .u8 42, .agg #[.int .i64 1, .int .i64 Q, .string ⟨#[]⟩, .bool false], .agg #[.int .i64 1, .int .i64 b, .string ⟨#[]⟩, .bool false]] W fun e w' => e = .returned (.tuple #[.agg #[.int .i64 1, .int .i64 P, .string ⟨#[]⟩, .bool false], .nilIface]) ∧ Below W.heap.size W w') := fun W => rkn_ok 42 _ _ _ W (by decide) (by decide) (by decide) iQ iB hP
  have HSu : Hid (∀ W, Calls Tryd.prog 6 #[.int .u8 43, .agg #[.int .i64 1, .int .i64 P, .string ⟨#[]⟩, .bool false], .agg #[.int .i64 1, .int .i64 R, .string ⟨#[]⟩, .bool false]] W fun e w' => e = .returned (.tuple #[.agg #[.int .i64 1, .int .i64 a, .string ⟨#[]⟩, .bool false], .nilIface]) ∧ Below W.heap.size W w') := fun W => rkn_ok 43 _ _ _ W (by decide) (by decide) (by decide) iP iR hS
  have hEQx : ∀ W, (Op.equalIn 10000 23 (.agg #[.int .i64 1, .int .i64 a, .string ⟨#[]⟩, .bool false]) (.agg #[.int .i64 1, .int .i64 a, .string ⟨#[]⟩, .bool false])).run Tryd.prog W = .ok true W := fun W => by rw [eqIn_, sameV_refl]
  have hGD := guardV
  have HTo : Hid (∀ W, Calls Tryd.prog 6 #[.int .u8 43, .agg #[.int .i64 1, .int .i64 a, .string ⟨#[]⟩, .bool false], .agg #[.int .i64 1, .int .i64 b, .string ⟨#[]⟩, .bool false]] W fun e w' => e = .returned (.tuple #[.agg #[.int .i64 0, .int .i64 0, .string ⟨#[]⟩, .bool false], .iface 37 (.int .i64 5)]) ∧ Below W.heap.size W w') := fun W => rkn_err 43 _ _ _ W (by decide) (by decide) (by decide) (by decide) iA iB hT1
  have HNM : Hid (∀ W, ErrType W → Calls Tryd.prog 7 #[.iface 37 (.int .i64 5)] W fun e w' => e = .returned (.int .i64 5) ∧ Below W.heap.size W w') := fun W hW => num11 5 W hW
  have HS : Hid (∀ W, Env W → Calls Tryd.prog 8 #[] W fun e w' => e = .returned (.bool true) ∧ Below W.heap.size W w') := fun W hW => sure_ W hW
  have HE := Lib.hid hE
  have HT := Lib.hid hT
  clear hE hT iA iB hQ hR iQ hP iP iR hS hT1
  have HB : Hid (Below w.heap.size w w) := Below.refl _ _
  go_enter Tryd.func3, Tryd.ntmps3
  go_wp2_with fail
  refine (HXi.out _).mono ?_
  rintro e w1 ⟨rfl, hb1⟩
  replace HB := Lib.hid (below_step HB.out hb1)
  clear hb1
  go_wp2_with fail
  refine (HYi.out _).mono ?_
  rintro e w2 ⟨rfl, hb2⟩
  replace HB := Lib.hid (below_step HB.out hb2)
  clear hb2
  have Px : Hid (In4 ((w2.alloc (.cells #[.int .i64 1, .int .i64 a, .string ⟨#[]⟩, .bool false] 23)).alloc (.cells #[.int .i64 1, .int .i64 b, .string ⟨#[]⟩, .bool false] 23)) (w2.heap.size) 0 1 a ⟨#[]⟩ false) := Lib.hid (by have := (in4_new w2 1 a ⟨#[]⟩ false 23).alloc (.cells #[.int .i64 1, .int .i64 b, .string ⟨#[]⟩, .bool false] 23); simpa using this)
  have Py : Hid (In4 ((w2.alloc (.cells #[.int .i64 1, .int .i64 a, .string ⟨#[]⟩, .bool false] 23)).alloc (.cells #[.int .i64 1, .int .i64 b, .string ⟨#[]⟩, .bool false] 23)) (w2.heap.size + 1) 0 1 b ⟨#[]⟩ false) := Lib.hid (by have := in4_new (w2.alloc (.cells #[.int .i64 1, .int .i64 a, .string ⟨#[]⟩, .bool false] 23)) 1 b ⟨#[]⟩ false 23; simpa using this)
  replace HB : Hid (Below w.heap.size w ((w2.alloc (.cells #[.int .i64 1, .int .i64 a, .string ⟨#[]⟩, .bool false] 23)).alloc (.cells #[.int .i64 1, .int .i64 b, .string ⟨#[]⟩, .bool false] 23))) := (below_step (below_step HB.out ((Below.refl _ _).alloc (Nat.le_refl _) _)) ((Below.refl _ _).alloc (Nat.le_refl _) _))
  obtain ⟨cx0, cx1, cx2, cx3⟩ := Px.out
  obtain ⟨cy0, cy1, cy2, cy3⟩ := Py.out
  go_wp2_with fail
  refine (HQ.out _).mono ?_
  rintro e w3 ⟨rfl, hb3⟩
  clear cx0 cx1 cx2 cx3 cy0 cy1 cy2 cy3
  replace Px := Lib.hid (Px.out.on hb3)
  replace Py := Lib.hid (Py.out.on hb3)
  replace HB := Lib.hid (below_step HB.out hb3)
  clear hb3
  replace Px := Lib.hid (Px.out.alloc (.cells #[.int .i64 1, .int .i64 Q, .string ⟨#[]⟩, .bool false] 23))
  replace Py := Lib.hid (Py.out.alloc (.cells #[.int .i64 1, .int .i64 Q, .string ⟨#[]⟩, .bool false] 23))
  have Pq := Lib.hid (in4_new w3 1 Q ⟨#[]⟩ false 23)
  replace HB : Hid (Below w.heap.size w (w3.alloc (.cells #[.int .i64 1, .int .i64 Q, .string ⟨#[]⟩, .bool false] 23))) := below_step HB.out ((Below.refl _ _).alloc (Nat.le_refl _) _)
  obtain ⟨cx0, cx1, cx2, cx3⟩ := Px.out
  obtain ⟨cy0, cy1, cy2, cy3⟩ := Py.out
  obtain ⟨cq0, cq1, cq2, cq3⟩ := Pq.out
  go_wp2_with fail
  refine (HR.out _).mono ?_
  rintro e w4 ⟨rfl, hb4⟩
  clear cx0 cx1 cx2 cx3 cy0 cy1 cy2 cy3 cq0 cq1 cq2 cq3
  replace Px := Lib.hid (Px.out.on hb4)
  replace Py := Lib.hid (Py.out.on hb4)
  replace Pq := Lib.hid (Pq.out.on hb4)
  replace HB := Lib.hid (below_step HB.out hb4)
  clear hb4
  replace Px := Lib.hid (Px.out.alloc (.cells #[.int .i64 1, .int .i64 R, .string ⟨#[]⟩, .bool false] 23))
  replace Py := Lib.hid (Py.out.alloc (.cells #[.int .i64 1, .int .i64 R, .string ⟨#[]⟩, .bool false] 23))
  replace Pq := Lib.hid (Pq.out.alloc (.cells #[.int .i64 1, .int .i64 R, .string ⟨#[]⟩, .bool false] 23))
  have Pr := Lib.hid (in4_new w4 1 R ⟨#[]⟩ false 23)
  replace HB : Hid (Below w.heap.size w (w4.alloc (.cells #[.int .i64 1, .int .i64 R, .string ⟨#[]⟩, .bool false] 23))) := below_step HB.out ((Below.refl _ _).alloc (Nat.le_refl _) _)
  obtain ⟨cx0, cx1, cx2, cx3⟩ := Px.out
  obtain ⟨cy0, cy1, cy2, cy3⟩ := Py.out
  obtain ⟨cq0, cq1, cq2, cq3⟩ := Pq.out
  obtain ⟨cr0, cr1, cr2, cr3⟩ := Pr.out
  go_wp2_with fail
  refine (HP.out _).mono ?_
  rintro e w5 ⟨rfl, hb5⟩
  clear cx0 cx1 cx2 cx3 cy0 cy1 cy2 cy3 cq0 cq1 cq2 cq3 cr0 cr1 cr2 cr3
  replace Px := Lib.hid (Px.out.on hb5)
  replace Py := Lib.hid (Py.out.on hb5)
  replace Pq := Lib.hid (Pq.out.on hb5)
  replace Pr := Lib.hid (Pr.out.on hb5)
  replace HB := Lib.hid (below_step HB.out hb5)
  clear hb5
  replace Px := Lib.hid (Px.out.alloc (.cells #[.int .i64 1, .int .i64 P, .string ⟨#[]⟩, .bool false] 23))
  replace Py := Lib.hid (Py.out.alloc (.cells #[.int .i64 1, .int .i64 P, .string ⟨#[]⟩, .bool false] 23))
  replace Pq := Lib.hid (Pq.out.alloc (.cells #[.int .i64 1, .int .i64 P, .string ⟨#[]⟩, .bool false] 23))
  replace Pr := Lib.hid (Pr.out.alloc (.cells #[.int .i64 1, .int .i64 P, .string ⟨#[]⟩, .bool false] 23))
  have Pp := Lib.hid (in4_new w5 1 P ⟨#[]⟩ false 23)
  replace HB : Hid (Below w.heap.size w (w5.alloc (.cells #[.int .i64 1, .int .i64 P, .string ⟨#[]⟩, .bool false] 23))) := below_step HB.out ((Below.refl _ _).alloc (Nat.le_refl _) _)
  obtain ⟨cx0, cx1, cx2, cx3⟩ := Px.out
  obtain ⟨cy0, cy1, cy2, cy3⟩ := Py.out
  obtain ⟨cq0, cq1, cq2, cq3⟩ := Pq.out
  obtain ⟨cr0, cr1, cr2, cr3⟩ := Pr.out
  obtain ⟨cp0, cp1, cp2, cp3⟩ := Pp.out
  go_wp2_with fail
  refine (HSu.out _).mono ?_
  rintro e w6 ⟨rfl, hb6⟩
  clear cx0 cx1 cx2 cx3 cy0 cy1 cy2 cy3 cq0 cq1 cq2 cq3 cr0 cr1 cr2 cr3 cp0 cp1 cp2 cp3
  replace Px := Lib.hid (Px.out.on hb6)
  replace Py := Lib.hid (Py.out.on hb6)
  replace Pq := Lib.hid (Pq.out.on hb6)
  replace Pr := Lib.hid (Pr.out.on hb6)
  replace Pp := Lib.hid (Pp.out.on hb6)
  replace HB := Lib.hid (below_step HB.out hb6)
  clear hb6
  replace Px := Lib.hid (Px.out.alloc (.cells #[.int .i64 1, .int .i64 a, .string ⟨#[]⟩, .bool false] 23))
  replace Py := Lib.hid (Py.out.alloc (.cells #[.int .i64 1, .int .i64 a, .string ⟨#[]⟩, .bool false] 23))
  replace Pq := Lib.hid (Pq.out.alloc (.cells #[.int .i64 1, .int .i64 a, .string ⟨#[]⟩, .bool false] 23))
  replace Pr := Lib.hid (Pr.out.alloc (.cells #[.int .i64 1, .int .i64 a, .string ⟨#[]⟩, .bool false] 23))
  replace Pp := Lib.hid (Pp.out.alloc (.cells #[.int .i64 1, .int .i64 a, .string ⟨#[]⟩, .bool false] 23))
  have Ps := Lib.hid (in4_new w6 1 a ⟨#[]⟩ false 23)
  replace HB : Hid (Below w.heap.size w (w6.alloc (.cells #[.int .i64 1, .int .i64 a, .string ⟨#[]⟩, .bool false] 23))) := below_step HB.out ((Below.refl _ _).alloc (Nat.le_refl _) _)
  obtain ⟨cx0, cx1, cx2, cx3⟩ := Px.out
  obtain ⟨cy0, cy1, cy2, cy3⟩ := Py.out
  obtain ⟨cq0, cq1, cq2, cq3⟩ := Pq.out
  obtain ⟨cr0, cr1, cr2, cr3⟩ := Pr.out
  obtain ⟨cp0, cp1, cp2, cp3⟩ := Pp.out
  obtain ⟨cs0, cs1, cs2, cs3⟩ := Ps.out
  go_wp2_with fail
  refine (HTo.out _).mono ?_
  rintro e w7 ⟨rfl, hb7⟩
  clear cx0 cx1 cx2 cx3 cy0 cy1 cy2 cy3 cq0 cq1 cq2 cq3 cr0 cr1 cr2 cr3 cp0 cp1 cp2 cp3 cs0 cs1 cs2 cs3
  replace Px := Lib.hid (Px.out.on hb7)
  replace Py := Lib.hid (Py.out.on hb7)
  replace Pq := Lib.hid (Pq.out.on hb7)
  replace Pr := Lib.hid (Pr.out.on hb7)
  replace Pp := Lib.hid (Pp.out.on hb7)
  replace Ps := Lib.hid (Ps.out.on hb7)
  replace HB := Lib.hid (below_step HB.out hb7)
  clear hb7
  replace Px := Lib.hid (Px.out.alloc (.cells #[.int .i64 0, .int .i64 0, .string ⟨#[]⟩, .bool false] 23))
  replace Py := Lib.hid (Py.out.alloc (.cells #[.int .i64 0, .int .i64 0, .string ⟨#[]⟩, .bool false] 23))
  replace Pq := Lib.hid (Pq.out.alloc (.cells #[.int .i64 0, .int .i64 0, .string ⟨#[]⟩, .bool false] 23))
  replace Pr := Lib.hid (Pr.out.alloc (.cells #[.int .i64 0, .int .i64 0, .string ⟨#[]⟩, .bool false] 23))
  replace Pp := Lib.hid (Pp.out.alloc (.cells #[.int .i64 0, .int .i64 0, .string ⟨#[]⟩, .bool false] 23))
  replace Ps := Lib.hid (Ps.out.alloc (.cells #[.int .i64 0, .int .i64 0, .string ⟨#[]⟩, .bool false] 23))
  have Ps2 := Lib.hid (in4_new w7 0 0 ⟨#[]⟩ false 23)
  replace HB : Hid (Below w.heap.size w (w7.alloc (.cells #[.int .i64 0, .int .i64 0, .string ⟨#[]⟩, .bool false] 23))) := below_step HB.out ((Below.refl _ _).alloc (Nat.le_refl _) _)
  obtain ⟨cx0, cx1, cx2, cx3⟩ := Px.out
  obtain ⟨cy0, cy1, cy2, cy3⟩ := Py.out
  obtain ⟨cq0, cq1, cq2, cq3⟩ := Pq.out
  obtain ⟨cr0, cr1, cr2, cr3⟩ := Pr.out
  obtain ⟨cp0, cp1, cp2, cp3⟩ := Pp.out
  obtain ⟨cs0, cs1, cs2, cs3⟩ := Ps.out
  obtain ⟨cs20, cs21, cs22, cs23⟩ := Ps2.out
  go_wp2_with fail
  refine (HNM.out _ (HT.out.on HB.out)).mono ?_
  rintro e w8 ⟨rfl, hb8⟩
  clear cx0 cx1 cx2 cx3 cy0 cy1 cy2 cy3 cq0 cq1 cq2 cq3 cr0 cr1 cr2 cr3 cp0 cp1 cp2 cp3 cs0 cs1 cs2 cs3 cs20 cs21 cs22 cs23
  replace Px := Lib.hid (Px.out.on hb8)
  replace Py := Lib.hid (Py.out.on hb8)
  replace Pq := Lib.hid (Pq.out.on hb8)
  replace Pr := Lib.hid (Pr.out.on hb8)
  replace Pp := Lib.hid (Pp.out.on hb8)
  replace Ps := Lib.hid (Ps.out.on hb8)
  replace Ps2 := Lib.hid (Ps2.out.on hb8)
  replace HB := Lib.hid (below_step HB.out hb8)
  clear hb8
  obtain ⟨cx0, cx1, cx2, cx3⟩ := Px.out
  obtain ⟨cy0, cy1, cy2, cy3⟩ := Py.out
  obtain ⟨cq0, cq1, cq2, cq3⟩ := Pq.out
  obtain ⟨cr0, cr1, cr2, cr3⟩ := Pr.out
  obtain ⟨cp0, cp1, cp2, cp3⟩ := Pp.out
  obtain ⟨cs0, cs1, cs2, cs3⟩ := Ps.out
  obtain ⟨cs20, cs21, cs22, cs23⟩ := Ps2.out
  go_wp2_with fail
  refine (HS.out _ (HE.out.on HB.out)).mono ?_
  rintro e w9 ⟨rfl, hb9⟩
  clear cx0 cx1 cx2 cx3 cy0 cy1 cy2 cy3 cq0 cq1 cq2 cq3 cr0 cr1 cr2 cr3 cp0 cp1 cp2 cp3 cs0 cs1 cs2 cs3 cs20 cs21 cs22 cs23
  replace Px := Lib.hid (Px.out.on hb9)
  replace Py := Lib.hid (Py.out.on hb9)
  replace Pq := Lib.hid (Pq.out.on hb9)
  replace Pr := Lib.hid (Pr.out.on hb9)
  replace Pp := Lib.hid (Pp.out.on hb9)
  replace Ps := Lib.hid (Ps.out.on hb9)
  replace Ps2 := Lib.hid (Ps2.out.on hb9)
  replace HB := Lib.hid (below_step HB.out hb9)
  clear hb9
  obtain ⟨cx0, cx1, cx2, cx3⟩ := Px.out
  obtain ⟨cy0, cy1, cy2, cy3⟩ := Py.out
  obtain ⟨cq0, cq1, cq2, cq3⟩ := Pq.out
  obtain ⟨cr0, cr1, cr2, cr3⟩ := Pr.out
  obtain ⟨cp0, cp1, cp2, cp3⟩ := Pp.out
  obtain ⟨cs0, cs1, cs2, cs3⟩ := Ps.out
  obtain ⟨cs20, cs21, cs22, cs23⟩ := Ps2.out
  go_wp2_with fail
  go_ret
  exact ⟨rfl, HB.out⟩
set_option maxHeartbeats 8000000 in
set_option maxRecDepth 100000 in
theorem divides_zp_ok (a b Q P D : Int) (w : World) (iA : inI a) (iB : inI b) (hb0 : (b == 0) = false) (hQ : reck 47 a b = .ok Q) (hR : reck 37 a b = .ok 0) (iQ : inI Q) (iR : inI 0) (hP : reck 42 Q b = .ok P) (iP : inI P) (hS : reck 43 P 0 = .ok a) (s2 : 0 < b) (hT1 : reck 43 a b = .ok D) (iT : inI D) (hD : reck 45 D b = .ok a) (hE : Env w) (hT : ErrType w) :
    Calls Tryd.prog 3 #[.int .i64 a, .int .i64 b] w fun e w' => e = .returned (.bool true) ∧ Below w.heap.size w w' := by
  have HXi : Hid (∀ W, Calls Tryd.prog 5 #[.int .i64 a] W fun e w' => e = .returned (.agg #[.int .i64 1, .int .i64 a, .string ⟨#[]⟩, .bool false]) ∧ Below W.heap.size W w') := fun W => int_ _ W
  have HYi : Hid (∀ W, Calls Tryd.prog 5 #[.int .i64 b] W fun e w' => e = .returned (.agg #[.int .i64 1, .int .i64 b, .string ⟨#[]⟩, .bool false]) ∧ Below W.heap.size W w') := fun W => int_ _ W
  have HQ : Hid (∀ W, Calls Tryd.prog 6 #[.int .u8 47, .agg #[.int .i64 1, .int .i64 a, .string ⟨#[]⟩, .bool false], .agg #[.int .i64 1, .int .i64 b, .string ⟨#[]⟩, .bool false]] W fun e w' => e = .returned (.tuple #[.agg #[.int .i64 1, .int .i64 Q, .string ⟨#[]⟩, .bool false], .nilIface]) ∧ Below W.heap.size W w') := fun W => rkn_ok 47 _ _ _ W (by decide) (by decide) (by decide) iA iB hQ
  have HR : Hid (∀ W, Calls Tryd.prog 6 #[.int .u8 37, .agg #[.int .i64 1, .int .i64 a, .string ⟨#[]⟩, .bool false], .agg #[.int .i64 1, .int .i64 b, .string ⟨#[]⟩, .bool false]] W fun e w' => e = .returned (.tuple #[.agg #[.int .i64 1, .int .i64 0, .string ⟨#[]⟩, .bool false], .nilIface]) ∧ Below W.heap.size W w') := fun W => rkn_ok 37 _ _ _ W (by decide) (by decide) (by decide) iA iB hR
  have HP : Hid (∀ W, Calls Tryd.prog 6 #[.int .u8 42, .agg #[.int .i64 1, .int .i64 Q, .string ⟨#[]⟩, .bool false], .agg #[.int .i64 1, .int .i64 b, .string ⟨#[]⟩, .bool false]] W fun e w' => e = .returned (.tuple #[.agg #[.int .i64 1, .int .i64 P, .string ⟨#[]⟩, .bool false], .nilIface]) ∧ Below W.heap.size W w') := fun W => rkn_ok 42 _ _ _ W (by decide) (by decide) (by decide) iQ iB hP
  have HSu : Hid (∀ W, Calls Tryd.prog 6 #[.int .u8 43, .agg #[.int .i64 1, .int .i64 P, .string ⟨#[]⟩, .bool false], .agg #[.int .i64 1, .int .i64 0, .string ⟨#[]⟩, .bool false]] W fun e w' => e = .returned (.tuple #[.agg #[.int .i64 1, .int .i64 a, .string ⟨#[]⟩, .bool false], .nilIface]) ∧ Below W.heap.size W w') := fun W => rkn_ok 43 _ _ _ W (by decide) (by decide) (by decide) iP iR hS
  have hEQx : ∀ W, (Op.equalIn 10000 23 (.agg #[.int .i64 1, .int .i64 a, .string ⟨#[]⟩, .bool false]) (.agg #[.int .i64 1, .int .i64 a, .string ⟨#[]⟩, .bool false])).run Tryd.prog W = .ok true W := fun W => by rw [eqIn_, sameV_refl]
  have hGD := guardV
  have HTo : Hid (∀ W, Calls Tryd.prog 6 #[.int .u8 43, .agg #[.int .i64 1, .int .i64 a, .string ⟨#[]⟩, .bool false], .agg #[.int .i64 1, .int .i64 b, .string ⟨#[]⟩, .bool false]] W fun e w' => e = .returned (.tuple #[.agg #[.int .i64 1, .int .i64 D, .string ⟨#[]⟩, .bool false], .nilIface]) ∧ Below W.heap.size W w') := fun W => rkn_ok 43 _ _ _ W (by decide) (by decide) (by decide) iA iB hT1
  have HDi : Hid (∀ W, Calls Tryd.prog 6 #[.int .u8 45, .agg #[.int .i64 1, .int .i64 D, .string ⟨#[]⟩, .bool false], .agg #[.int .i64 1, .int .i64 b, .string ⟨#[]⟩, .bool false]] W fun e w' => e = .returned (.tuple #[.agg #[.int .i64 1, .int .i64 a, .string ⟨#[]⟩, .bool false], .nilIface]) ∧ Below W.heap.size W w') := fun W => rkn_ok 45 _ _ _ W (by decide) (by decide) (by decide) iT iB hD
  have HS : Hid (∀ W, Env W → Calls Tryd.prog 8 #[] W fun e w' => e = .returned (.bool true) ∧ Below W.heap.size W w') := fun W hW => sure_ W hW
  have HE := Lib.hid hE
  have HT := Lib.hid hT
  clear hE hT iA iB hQ hR iQ hP iP iR hS hT1 iT hD
  have HB : Hid (Below w.heap.size w w) := Below.refl _ _
  go_enter Tryd.func3, Tryd.ntmps3
  go_wp2_with fail
  refine (HXi.out _).mono ?_
  rintro e w1 ⟨rfl, hb1⟩
  replace HB := Lib.hid (below_step HB.out hb1)
  clear hb1
  go_wp2_with fail
  refine (HYi.out _).mono ?_
  rintro e w2 ⟨rfl, hb2⟩
  replace HB := Lib.hid (below_step HB.out hb2)
  clear hb2
  have Px : Hid (In4 ((w2.alloc (.cells #[.int .i64 1, .int .i64 a, .string ⟨#[]⟩, .bool false] 23)).alloc (.cells #[.int .i64 1, .int .i64 b, .string ⟨#[]⟩, .bool false] 23)) (w2.heap.size) 0 1 a ⟨#[]⟩ false) := Lib.hid (by have := (in4_new w2 1 a ⟨#[]⟩ false 23).alloc (.cells #[.int .i64 1, .int .i64 b, .string ⟨#[]⟩, .bool false] 23); simpa using this)
  have Py : Hid (In4 ((w2.alloc (.cells #[.int .i64 1, .int .i64 a, .string ⟨#[]⟩, .bool false] 23)).alloc (.cells #[.int .i64 1, .int .i64 b, .string ⟨#[]⟩, .bool false] 23)) (w2.heap.size + 1) 0 1 b ⟨#[]⟩ false) := Lib.hid (by have := in4_new (w2.alloc (.cells #[.int .i64 1, .int .i64 a, .string ⟨#[]⟩, .bool false] 23)) 1 b ⟨#[]⟩ false 23; simpa using this)
  replace HB : Hid (Below w.heap.size w ((w2.alloc (.cells #[.int .i64 1, .int .i64 a, .string ⟨#[]⟩, .bool false] 23)).alloc (.cells #[.int .i64 1, .int .i64 b, .string ⟨#[]⟩, .bool false] 23))) := (below_step (below_step HB.out ((Below.refl _ _).alloc (Nat.le_refl _) _)) ((Below.refl _ _).alloc (Nat.le_refl _) _))
  obtain ⟨cx0, cx1, cx2, cx3⟩ := Px.out
  obtain ⟨cy0, cy1, cy2, cy3⟩ := Py.out
  go_wp2_with fail
  refine (HQ.out _).mono ?_
  rintro e w3 ⟨rfl, hb3⟩
  clear cx0 cx1 cx2 cx3 cy0 cy1 cy2 cy3
  replace Px := Lib.hid (Px.out.on hb3)
  replace Py := Lib.hid (Py.out.on hb3)
  replace HB := Lib.hid (below_step HB.out hb3)
  clear hb3
  replace Px := Lib.hid (Px.out.alloc (.cells #[.int .i64 1, .int .i64 Q, .string ⟨#[]⟩, .bool false] 23))
  replace Py := Lib.hid (Py.out.alloc (.cells #[.int .i64 1, .int .i64 Q, .string ⟨#[]⟩, .bool false] 23))
  have Pq := Lib.hid (in4_new w3 1 Q ⟨#[]⟩ false 23)
  replace HB : Hid (Below w.heap.size w (w3.alloc (.cells #[.int .i64 1, .int .i64 Q, .string ⟨#[]⟩, .bool false] 23))) := below_step HB.out ((Below.refl _ _).alloc (Nat.le_refl _) _)
  obtain ⟨cx0, cx1, cx2, cx3⟩ := Px.out
  obtain ⟨cy0, cy1, cy2, cy3⟩ := Py.out
  obtain ⟨cq0, cq1, cq2, cq3⟩ := Pq.out
  go_wp2_with fail
  refine (HR.out _).mono ?_
  rintro e w4 ⟨rfl, hb4⟩
  clear cx0 cx1 cx2 cx3 cy0 cy1 cy2 cy3 cq0 cq1 cq2 cq3
  replace Px := Lib.hid (Px.out.on hb4)
  replace Py := Lib.hid (Py.out.on hb4)
  replace Pq := Lib.hid (Pq.out.on hb4)
  replace HB := Lib.hid (below_step HB.out hb4)
  clear hb4
  replace Px := Lib.hid (Px.out.alloc (.cells #[.int .i64 1, .int .i64 0, .string ⟨#[]⟩, .bool false] 23))
  replace Py := Lib.hid (Py.out.alloc (.cells #[.int .i64 1, .int .i64 0, .string ⟨#[]⟩, .bool false] 23))
  replace Pq := Lib.hid (Pq.out.alloc (.cells #[.int .i64 1, .int .i64 0, .string ⟨#[]⟩, .bool false] 23))
  have Pr := Lib.hid (in4_new w4 1 0 ⟨#[]⟩ false 23)
  replace HB : Hid (Below w.heap.size w (w4.alloc (.cells #[.int .i64 1, .int .i64 0, .string ⟨#[]⟩, .bool false] 23))) := below_step HB.out ((Below.refl _ _).alloc (Nat.le_refl _) _)
  obtain ⟨cx0, cx1, cx2, cx3⟩ := Px.out
  obtain ⟨cy0, cy1, cy2, cy3⟩ := Py.out
  obtain ⟨cq0, cq1, cq2, cq3⟩ := Pq.out
  obtain ⟨cr0, cr1, cr2, cr3⟩ := Pr.out
  go_wp2_with fail
  refine (HP.out _).mono ?_
  rintro e w5 ⟨rfl, hb5⟩
  clear cx0 cx1 cx2 cx3 cy0 cy1 cy2 cy3 cq0 cq1 cq2 cq3 cr0 cr1 cr2 cr3
  replace Px := Lib.hid (Px.out.on hb5)
  replace Py := Lib.hid (Py.out.on hb5)
  replace Pq := Lib.hid (Pq.out.on hb5)
  replace Pr := Lib.hid (Pr.out.on hb5)
  replace HB := Lib.hid (below_step HB.out hb5)
  clear hb5
  replace Px := Lib.hid (Px.out.alloc (.cells #[.int .i64 1, .int .i64 P, .string ⟨#[]⟩, .bool false] 23))
  replace Py := Lib.hid (Py.out.alloc (.cells #[.int .i64 1, .int .i64 P, .string ⟨#[]⟩, .bool false] 23))
  replace Pq := Lib.hid (Pq.out.alloc (.cells #[.int .i64 1, .int .i64 P, .string ⟨#[]⟩, .bool false] 23))
  replace Pr := Lib.hid (Pr.out.alloc (.cells #[.int .i64 1, .int .i64 P, .string ⟨#[]⟩, .bool false] 23))
  have Pp := Lib.hid (in4_new w5 1 P ⟨#[]⟩ false 23)
  replace HB : Hid (Below w.heap.size w (w5.alloc (.cells #[.int .i64 1, .int .i64 P, .string ⟨#[]⟩, .bool false] 23))) := below_step HB.out ((Below.refl _ _).alloc (Nat.le_refl _) _)
  obtain ⟨cx0, cx1, cx2, cx3⟩ := Px.out
  obtain ⟨cy0, cy1, cy2, cy3⟩ := Py.out
  obtain ⟨cq0, cq1, cq2, cq3⟩ := Pq.out
  obtain ⟨cr0, cr1, cr2, cr3⟩ := Pr.out
  obtain ⟨cp0, cp1, cp2, cp3⟩ := Pp.out
  go_wp2_with fail
  refine (HSu.out _).mono ?_
  rintro e w6 ⟨rfl, hb6⟩
  clear cx0 cx1 cx2 cx3 cy0 cy1 cy2 cy3 cq0 cq1 cq2 cq3 cr0 cr1 cr2 cr3 cp0 cp1 cp2 cp3
  replace Px := Lib.hid (Px.out.on hb6)
  replace Py := Lib.hid (Py.out.on hb6)
  replace Pq := Lib.hid (Pq.out.on hb6)
  replace Pr := Lib.hid (Pr.out.on hb6)
  replace Pp := Lib.hid (Pp.out.on hb6)
  replace HB := Lib.hid (below_step HB.out hb6)
  clear hb6
  replace Px := Lib.hid (Px.out.alloc (.cells #[.int .i64 1, .int .i64 a, .string ⟨#[]⟩, .bool false] 23))
  replace Py := Lib.hid (Py.out.alloc (.cells #[.int .i64 1, .int .i64 a, .string ⟨#[]⟩, .bool false] 23))
  replace Pq := Lib.hid (Pq.out.alloc (.cells #[.int .i64 1, .int .i64 a, .string ⟨#[]⟩, .bool false] 23))
  replace Pr := Lib.hid (Pr.out.alloc (.cells #[.int .i64 1, .int .i64 a, .string ⟨#[]⟩, .bool false] 23))
  replace Pp := Lib.hid (Pp.out.alloc (.cells #[.int .i64 1, .int .i64 a, .string ⟨#[]⟩, .bool false] 23))
  have Ps := Lib.hid (in4_new w6 1 a ⟨#[]⟩ false 23)
  replace HB : Hid (Below w.heap.size w (w6.alloc (.cells #[.int .i64 1, .int .i64 a, .string ⟨#[]⟩, .bool false] 23))) := below_step HB.out ((Below.refl _ _).alloc (Nat.le_refl _) _)
  obtain ⟨cx0, cx1, cx2, cx3⟩ := Px.out
  obtain ⟨cy0, cy1, cy2, cy3⟩ := Py.out
  obtain ⟨cq0, cq1, cq2, cq3⟩ := Pq.out
  obtain ⟨cr0, cr1, cr2, cr3⟩ := Pr.out
  obtain ⟨cp0, cp1, cp2, cp3⟩ := Pp.out
  obtain ⟨cs0, cs1, cs2, cs3⟩ := Ps.out
  go_wp2_with fail
  refine (HTo.out _).mono ?_
  rintro e w7 ⟨rfl, hb7⟩
  clear cx0 cx1 cx2 cx3 cy0 cy1 cy2 cy3 cq0 cq1 cq2 cq3 cr0 cr1 cr2 cr3 cp0 cp1 cp2 cp3 cs0 cs1 cs2 cs3
  replace Px := Lib.hid (Px.out.on hb7)
  replace Py := Lib.hid (Py.out.on hb7)
  replace Pq := Lib.hid (Pq.out.on hb7)
  replace Pr := Lib.hid (Pr.out.on hb7)
  replace Pp := Lib.hid (Pp.out.on hb7)
  replace Ps := Lib.hid (Ps.out.on hb7)
  replace HB := Lib.hid (below_step HB.out hb7)
  clear hb7
  replace Px := Lib.hid (Px.out.alloc (.cells #[.int .i64 1, .int .i64 D, .string ⟨#[]⟩, .bool false] 23))
  replace Py := Lib.hid (Py.out.alloc (.cells #[.int .i64 1, .int .i64 D, .string ⟨#[]⟩, .bool false] 23))
  replace Pq := Lib.hid (Pq.out.alloc (.cells #[.int .i64 1, .int .i64 D, .string ⟨#[]⟩, .bool false] 23))
  replace Pr := Lib.hid (Pr.out.alloc (.cells #[.int .i64 1, .int .i64 D, .string ⟨#[]⟩, .bool false] 23))
  replace Pp := Lib.hid (Pp.out.alloc (.cells #[.int .i64 1, .int .i64 D, .string ⟨#[]⟩, .bool false] 23))
  replace Ps := Lib.hid (Ps.out.alloc (.cells #[.int .i64 1, .int .i64 D, .string ⟨#[]⟩, .bool false] 23))
  have Ps2 := Lib.hid (in4_new w7 1 D ⟨#[]⟩ false 23)
  replace HB : Hid (Below w.heap.size w (w7.alloc (.cells #[.int .i64 1, .int .i64 D, .string ⟨#[]⟩, .bool false] 23))) := below_step HB.out ((Below.refl _ _).alloc (Nat.le_refl _) _)
  obtain ⟨cx0, cx1, cx2, cx3⟩ := Px.out
  obtain ⟨cy0, cy1, cy2, cy3⟩ := Py.out
  obtain ⟨cq0, cq1, cq2, cq3⟩ := Pq.out
  obtain ⟨cr0, cr1, cr2, cr3⟩ := Pr.out
  obtain ⟨cp0, cp1, cp2, cp3⟩ := Pp.out
  obtain ⟨cs0, cs1, cs2, cs3⟩ := Ps.out
  obtain ⟨cs20, cs21, cs22, cs23⟩ := Ps2.out
  go_wp2_with fail
  refine (HDi.out _).mono ?_
  rintro e w8 ⟨rfl, hb8⟩
  clear cx0 cx1 cx2 cx3 cy0 cy1 cy2 cy3 cq0 cq1 cq2 cq3 cr0 cr1 cr2 cr3 cp0 cp1 cp2 cp3 cs0 cs1 cs2 cs3 cs20 cs21 cs22 cs23
  replace Px := Lib.hid (Px.out.on hb8)
  replace Py := Lib.hid (Py.out.on hb8)
  replace Pq := Lib.hid (Pq.out.on hb8)
  replace Pr := Lib.hid (Pr.out.on hb8)
  replace Pp := Lib.hid (Pp.out.on hb8)
  replace Ps := Lib.hid (Ps.out.on hb8)
  replace Ps2 := Lib.hid (Ps2.out.on hb8)
  replace HB := Lib.hid (below_step HB.out hb8)
  clear hb8
  replace Px := Lib.hid (Px.out.alloc (.cells #[.int .i64 1, .int .i64 a, .string ⟨#[]⟩, .bool false] 23))
  replace Py := Lib.hid (Py.out.alloc (.cells #[.int .i64 1, .int .i64 a, .string ⟨#[]⟩, .bool false] 23))
  replace Pq := Lib.hid (Pq.out.alloc (.cells #[.int .i64 1, .int .i64 a, .string ⟨#[]⟩, .bool false] 23))
  replace Pr := Lib.hid (Pr.out.alloc (.cells #[.int .i64 1, .int .i64 a, .string ⟨#[]⟩, .bool false] 23))
  replace Pp := Lib.hid (Pp.out.alloc (.cells #[.int .i64 1, .int .i64 a, .string ⟨#[]⟩, .bool false] 23))
  replace Ps := Lib.hid (Ps.out.alloc (.cells #[.int .i64 1, .int .i64 a, .string ⟨#[]⟩, .bool false] 23))
  replace Ps2 := Lib.hid (Ps2.out.alloc (.cells #[.int .i64 1, .int .i64 a, .string ⟨#[]⟩, .bool false] 23))
  have Pd := Lib.hid (in4_new w8 1 a ⟨#[]⟩ false 23)
  replace HB : Hid (Below w.heap.size w (w8.alloc (.cells #[.int .i64 1, .int .i64 a, .string ⟨#[]⟩, .bool false] 23))) := below_step HB.out ((Below.refl _ _).alloc (Nat.le_refl _) _)
  obtain ⟨cx0, cx1, cx2, cx3⟩ := Px.out
  obtain ⟨cy0, cy1, cy2, cy3⟩ := Py.out
  obtain ⟨cq0, cq1, cq2, cq3⟩ := Pq.out
  obtain ⟨cr0, cr1, cr2, cr3⟩ := Pr.out
  obtain ⟨cp0, cp1, cp2, cp3⟩ := Pp.out
  obtain ⟨cs0, cs1, cs2, cs3⟩ := Ps.out
  obtain ⟨cs20, cs21, cs22, cs23⟩ := Ps2.out
  obtain ⟨cd0, cd1, cd2, cd3⟩ := Pd.out
  go_wp2_with fail
  refine (HS.out _ (HE.out.on HB.out)).mono ?_
  rintro e w9 ⟨rfl, hb9⟩
  clear cx0 cx1 cx2 cx3 cy0 cy1 cy2 cy3 cq0 cq1 cq2 cq3 cr0 cr1 cr2 cr3 cp0 cp1 cp2 cp3 cs0 cs1 cs2 cs3 cs20 cs21 cs22 cs23 cd0 cd1 cd2 cd3
  replace Px := Lib.hid (Px.out.on hb9)
  replace Py := Lib.hid (Py.out.on hb9)
  replace Pq := Lib.hid (Pq.out.on hb9)
  replace Pr := Lib.hid (Pr.out.on hb9)
  replace Pp := Lib.hid (Pp.out.on hb9)
  replace Ps := Lib.hid (Ps.out.on hb9)
  replace Ps2 := Lib.hid (Ps2.out.on hb9)
  replace Pd := Lib.hid (Pd.out.on hb9)
  replace HB := Lib.hid (below_step HB.out hb9)
  clear hb9
  obtain ⟨cx0, cx1, cx2, cx3⟩ := Px.out
  obtain ⟨cy0, cy1, cy2, cy3⟩ := Py.out
  obtain ⟨cq0, cq1, cq2, cq3⟩ := Pq.out
  obtain ⟨cr0, cr1, cr2, cr3⟩ := Pr.out
  obtain ⟨cp0, cp1, cp2, cp3⟩ := Pp.out
  obtain ⟨cs0, cs1, cs2, cs3⟩ := Ps.out
  obtain ⟨cs20, cs21, cs22, cs23⟩ := Ps2.out
  obtain ⟨cd0, cd1, cd2, cd3⟩ := Pd.out
  go_wp2_with fail
  go_ret
  exact ⟨rfl, HB.out⟩
set_option maxHeartbeats 8000000 in
set_option maxRecDepth 100000 in
theorem divides_zp_no (a b Q P : Int) (w : World) (iA : inI a) (iB : inI b) (hb0 : (b == 0) = false) (hQ : reck 47 a b = .ok Q) (hR : reck 37 a b = .ok 0) (iQ : inI Q) (iR : inI 0) (hP : reck 42 Q b = .ok P) (iP : inI P) (hS : reck 43 P 0 = .ok a) (s2 : 0 < b) (hT1 : reck 43 a b = .error 5) (hE : Env w) (hT : ErrType w) :
    Calls Tryd.prog 3 #[.int .i64 a, .int .i64 b] w fun e w' => e = .returned (.bool true) ∧ Below w.heap.size w w' := by
  have HXi : Hid (∀ W, Calls Tryd.prog 5 #[.int .i64 a] W fun e w' => e = .returned (.agg #[.int .i64 1, .int .i64 a, .string ⟨#[]⟩, .bool false]) ∧ Below W.heap.size W w') := fun W => int_ _ W
  have HYi : Hid (∀ W, Calls Tryd.prog 5 #[.int .i64 b] W fun e w' => e = .returned (.agg #[.int .i64 1, .int .i64 b, .string ⟨#[]⟩, .bool false]) ∧ Below W.heap.size W w') := fun W => int_ _ W
  have HQ : Hid (∀ W, Calls Tryd.prog 6 #[.int .u8 47, .agg #[.int .i64 1, .int .i64 a, .string ⟨#[]⟩, .bool false], .agg #[.int .i64 1, .int .i64 b, .string ⟨#[]⟩, .bool false]] W fun e w' => e = .returned (.tuple #[.agg #[.int .i64 1, .int .i64 Q, .string ⟨#[]⟩, .bool false], .nilIface]) ∧ Below W.heap.size W w') := fun W => rkn_ok 47 _ _ _ W (by decide) (by decide) (by decide) iA iB hQ
  have HR : Hid (∀ W, Calls Tryd.prog 6 #[.int .u8 37, .agg #[.int .i64 1, .int .i64 a, .string ⟨#[]⟩, .bool false], .agg #[.int .i64 1, .int .i64 b, .string ⟨#[]⟩, .bool false]] W fun e w' => e = .returned (.tuple #[.agg #[.int .i64 1, .int .i64 0, .string ⟨#[]⟩, .bool false], .nilIface]) ∧ Below W.heap.size W w') := fun W => rkn_ok 37 _ _ _ W (by decide) (by decide) (by decide) iA iB hR
  have HP : Hid (∀ W, Calls Tryd.prog 6 #[.int .u8 42, .agg #[.int .i64 1, .int .i64 Q, .string ⟨#[]⟩, .bool false], .agg #[.int .i64 1, .int .i64 b, .string ⟨#[]⟩, .bool false]] W fun e w' => e = .returned (.tuple #[.agg #[.int .i64 1, .int .i64 P, .string ⟨#[]⟩, .bool false], .nilIface]) ∧ Below W.heap.size W w') := fun W => rkn_ok 42 _ _ _ W (by decide) (by decide) (by decide) iQ iB hP
  have HSu : Hid (∀ W, Calls Tryd.prog 6 #[.int .u8 43, .agg #[.int .i64 1, .int .i64 P, .string ⟨#[]⟩, .bool false], .agg #[.int .i64 1, .int .i64 0, .string ⟨#[]⟩, .bool false]] W fun e w' => e = .returned (.tuple #[.agg #[.int .i64 1, .int .i64 a, .string ⟨#[]⟩, .bool false], .nilIface]) ∧ Below W.heap.size W w') := fun W => rkn_ok 43 _ _ _ W (by decide) (by decide) (by decide) iP iR hS
  have hEQx : ∀ W, (Op.equalIn 10000 23 (.agg #[.int .i64 1, .int .i64 a, .string ⟨#[]⟩, .bool false]) (.agg #[.int .i64 1, .int .i64 a, .string ⟨#[]⟩, .bool false])).run Tryd.prog W = .ok true W := fun W => by rw [eqIn_, sameV_refl]
  have hGD := guardV
  have HTo : Hid (∀ W, Calls Tryd.prog 6 #[.int .u8 43, .agg #[.int .i64 1, .int .i64 a, .string ⟨#[]⟩, .bool false], .agg #[.int .i64 1, .int .i64 b, .string ⟨#[]⟩, .bool false]] W fun e w' => e = .returned (.tuple #[.agg #[.int .i64 0, .int .i64 0, .string ⟨#[]⟩, .bool false], .iface 37 (.int .i64 5)]) ∧ Below W.heap.size W w') := fun W => rkn_err 43 _ _ _ W (by decide) (by decide) (by decide) (by decide) iA iB hT1
  have HNM : Hid (∀ W, ErrType W → Calls Tryd.prog 7 #[.iface 37 (.int .i64 5)] W fun e w' => e = .returned (.int .i64 5) ∧ Below W.heap.size W w') := fun W hW => num11 5 W hW
  have HS : Hid (∀ W, Env W → Calls Tryd.prog 8 #[] W fun e w' => e = .returned (.bool true) ∧ Below W.heap.size W w') := fun W hW => sure_ W hW
  have HE := Lib.hid hE
  have HT := Lib.hid hT
  clear hE hT iA iB hQ hR iQ hP iP iR hS hT1
  have HB : Hid (Below w.heap.size w w) := Below.refl _ _
  go_enter Tryd.func3, Tryd.ntmps3
  go_wp2_with fail
  refine (HXi.out _).mono ?_
  rintro e w1 ⟨rfl, hb1⟩
  replace HB := Lib.hid (below_step HB.out hb1)
  clear hb1
  go_wp2_with fail
  refine (HYi.out _).mono ?_
  rintro e w2 ⟨rfl, hb2⟩
  replace HB := Lib.hid (below_step HB.out hb2)
  clear hb2
  have Px : Hid (In4 ((w2.alloc (.cells #[.int .i64 1, .int .i64 a, .string ⟨#[]⟩, .bool false] 23)).alloc (.cells #[.int .i64 1, .int .i64 b, .string ⟨#[]⟩, .bool false] 23)) (w2.heap.size) 0 1 a ⟨#[]⟩ false) := Lib.hid (by have := (in4_new w2 1 a ⟨#[]⟩ false 23).alloc (.cells #[.int .i64 1, .int .i64 b, .string ⟨#[]⟩, .bool false] 23); simpa using this)
  have Py : Hid (In4 ((w2.alloc (.cells #[.int .i64 1, .int .i64 a, .string ⟨#[]⟩, .bool false] 23)).alloc (.cells #[.int .i64 1, .int .i64 b, .string ⟨#[]⟩, .bool false] 23)) (w2.heap.size + 1) 0 1 b ⟨#[]⟩ false) := Lib.hid (by have := in4_new (w2.alloc (.cells #[.int .i64 1, .int .i64 a, .string ⟨#[]⟩, .bool false] 23)) 1 b ⟨#[]⟩ false 23; simpa using this)
  replace HB : Hid (Below w.heap.size w ((w2.alloc (.cells #[.int .i64 1, .int .i64 a, .string ⟨#[]⟩, .bool false] 23)).alloc (.cells #[.int .i64 1, .int .i64 b, .string ⟨#[]⟩, .bool false] 23))) := (below_step (below_step HB.out ((Below.refl _ _).alloc (Nat.le_refl _) _)) ((Below.refl _ _).alloc (Nat.le_refl _) _))
  obtain ⟨cx0, cx1, cx2, cx3⟩ := Px.out
  obtain ⟨cy0, cy1, cy2, cy3⟩ := Py.out
  go_wp2_with fail
  refine (HQ.out _).mono ?_
  rintro e w3 ⟨rfl, hb3⟩
  clear cx0 cx1 cx2 cx3 cy0 cy1 cy2 cy3
  replace Px := Lib.hid (Px.out.on hb3)
  replace Py := Lib.hid (Py.out.on hb3)
  replace HB := Lib.hid (below_step HB.out hb3)
  clear hb3
  replace Px := Lib.hid (Px.out.alloc (.cells #[.int .i64 1, .int .i64 Q, .string ⟨#[]⟩, .bool false] 23))
  replace Py := Lib.hid (Py.out.alloc (.cells #[.int .i64 1, .int .i64 Q, .string ⟨#[]⟩, .bool false] 23))
  have Pq := Lib.hid (in4_new w3 1 Q ⟨#[]⟩ false 23)
  replace HB : Hid (Below w.heap.size w (w3.alloc (.cells #[.int .i64 1, .int .i64 Q, .string ⟨#[]⟩, .bool false] 23))) := below_step HB.out ((Below.refl _ _).alloc (Nat.le_refl _) _)
  obtain ⟨cx0, cx1, cx2, cx3⟩ := Px.out
  obtain ⟨cy0, cy1, cy2, cy3⟩ := Py.out
  obtain ⟨cq0, cq1, cq2, cq3⟩ := Pq.out
  go_wp2_with fail
  refine (HR.out _).mono ?_
  rintro e w4 ⟨rfl, hb4⟩
  clear cx0 cx1 cx2 cx3 cy0 cy1 cy2 cy3 cq0 cq1 cq2 cq3
  replace Px := Lib.hid (Px.out.on hb4)
  replace Py := Lib.hid (Py.out.on hb4)
  replace Pq := Lib.hid (Pq.out.on hb4)
  replace HB := Lib.hid (below_step HB.out hb4)
  clear hb4
  replace Px := Lib.hid (Px.out.alloc (.cells #[.int .i64 1, .int .i64 0, .string ⟨#[]⟩, .bool false] 23))
  replace Py := Lib.hid (Py.out.alloc (.cells #[.int .i64 1, .int .i64 0, .string ⟨#[]⟩, .bool false] 23))
  replace Pq := Lib.hid (Pq.out.alloc (.cells #[.int .i64 1, .int .i64 0, .string ⟨#[]⟩, .bool false] 23))
  have Pr := Lib.hid (in4_new w4 1 0 ⟨#[]⟩ false 23)
  replace HB : Hid (Below w.heap.size w (w4.alloc (.cells #[.int .i64 1, .int .i64 0, .string ⟨#[]⟩, .bool false] 23))) := below_step HB.out ((Below.refl _ _).alloc (Nat.le_refl _) _)
  obtain ⟨cx0, cx1, cx2, cx3⟩ := Px.out
  obtain ⟨cy0, cy1, cy2, cy3⟩ := Py.out
  obtain ⟨cq0, cq1, cq2, cq3⟩ := Pq.out
  obtain ⟨cr0, cr1, cr2, cr3⟩ := Pr.out
  go_wp2_with fail
  refine (HP.out _).mono ?_
  rintro e w5 ⟨rfl, hb5⟩
  clear cx0 cx1 cx2 cx3 cy0 cy1 cy2 cy3 cq0 cq1 cq2 cq3 cr0 cr1 cr2 cr3
  replace Px := Lib.hid (Px.out.on hb5)
  replace Py := Lib.hid (Py.out.on hb5)
  replace Pq := Lib.hid (Pq.out.on hb5)
  replace Pr := Lib.hid (Pr.out.on hb5)
  replace HB := Lib.hid (below_step HB.out hb5)
  clear hb5
  replace Px := Lib.hid (Px.out.alloc (.cells #[.int .i64 1, .int .i64 P, .string ⟨#[]⟩, .bool false] 23))
  replace Py := Lib.hid (Py.out.alloc (.cells #[.int .i64 1, .int .i64 P, .string ⟨#[]⟩, .bool false] 23))
  replace Pq := Lib.hid (Pq.out.alloc (.cells #[.int .i64 1, .int .i64 P, .string ⟨#[]⟩, .bool false] 23))
  replace Pr := Lib.hid (Pr.out.alloc (.cells #[.int .i64 1, .int .i64 P, .string ⟨#[]⟩, .bool false] 23))
  have Pp := Lib.hid (in4_new w5 1 P ⟨#[]⟩ false 23)
  replace HB : Hid (Below w.heap.size w (w5.alloc (.cells #[.int .i64 1, .int .i64 P, .string ⟨#[]⟩, .bool false] 23))) := below_step HB.out ((Below.refl _ _).alloc (Nat.le_refl _) _)
  obtain ⟨cx0, cx1, cx2, cx3⟩ := Px.out
  obtain ⟨cy0, cy1, cy2, cy3⟩ := Py.out
  obtain ⟨cq0, cq1, cq2, cq3⟩ := Pq.out
  obtain ⟨cr0, cr1, cr2, cr3⟩ := Pr.out
  obtain ⟨cp0, cp1, cp2, cp3⟩ := Pp.out
  go_wp2_with fail
  refine (HSu.out _).mono ?_
  rintro e w6 ⟨rfl, hb6⟩
  clear cx0 cx1 cx2 cx3 cy0 cy1 cy2 cy3 cq0 cq1 cq2 cq3 cr0 cr1 cr2 cr3 cp0 cp1 cp2 cp3
  replace Px := Lib.hid (Px.out.on hb6)
  replace Py := Lib.hid (Py.out.on hb6)
  replace Pq := Lib.hid (Pq.out.on hb6)
  replace Pr := Lib.hid (Pr.out.on hb6)
  replace Pp := Lib.hid (Pp.out.on hb6)
  replace HB := Lib.hid (below_step HB.out hb6)
  clear hb6
  replace Px := Lib.hid (Px.out.alloc (.cells #[.int .i64 1, .int .i64 a, .string ⟨#[]⟩, .bool false] 23))
  replace Py := Lib.hid (Py.out.alloc (.cells #[.int .i64 1, .int .i64 a, .string ⟨#[]⟩, .bool false] 23))
  replace Pq := Lib.hid (Pq.out.alloc (.cells #[.int .i64 1, .int .i64 a, .string ⟨#[]⟩, .bool false] 23))
  replace Pr := Lib.hid (Pr.out.alloc (.cells #[.int .i64 1, .int .i64 a, .string ⟨#[]⟩, .bool false] 23))
  replace Pp := Lib.hid (Pp.out.alloc (.cells #[.int .i64 1, .int .i64 a, .string ⟨#[]⟩, .bool false] 23))
  have Ps := Lib.hid (in4_new w6 1 a ⟨#[]⟩ false 23)
  replace HB : Hid (Below w.heap.size w (w6.alloc (.cells #[.int .i64 1, .int .i64 a, .string ⟨#[]⟩, .bool false] 23))) := below_step HB.out ((Below.refl _ _).alloc (Nat.le_refl _) _)
  obtain ⟨cx0, cx1, cx2, cx3⟩ := Px.out
  obtain ⟨cy0, cy1, cy2, cy3⟩ := Py.out
  obtain ⟨cq0, cq1, cq2, cq3⟩ := Pq.out
  obtain ⟨cr0, cr1, cr2, cr3⟩ := Pr.out
  obtain ⟨cp0, cp1, cp2, cp3⟩ := Pp.out
  obtain ⟨cs0, cs1, cs2, cs3⟩ := Ps.out
  go_wp2_with fail
  refine (HTo.out _).mono ?_
  rintro e w7 ⟨rfl, hb7⟩
  clear cx0 cx1 cx2 cx3 cy0 cy1 cy2 cy3 cq0 cq1 cq2 cq3 cr0 cr1 cr2 cr3 cp0 cp1 cp2 cp3 cs0 cs1 cs2 cs3
  replace Px := Lib.hid (Px.out.on hb7)
  replace Py := Lib.hid (Py.out.on hb7)
  replace Pq := Lib.hid (Pq.out.on hb7)
  replace Pr := Lib.hid (Pr.out.on hb7)
  replace Pp := Lib.hid (Pp.out.on hb7)
  replace Ps := Lib.hid (Ps.out.on hb7)
  replace HB := Lib.hid (below_step HB.out hb7)
  clear hb7
  replace Px := Lib.hid (Px.out.alloc (.cells #[.int .i64 0, .int .i64 0, .string ⟨#[]⟩, .bool false] 23))
  replace Py := Lib.hid (Py.out.alloc (.cells #[.int .i64 0, .int .i64 0, .string ⟨#[]⟩, .bool false] 23))
  replace Pq := Lib.hid (Pq.out.alloc (.cells #[.int .i64 0, .int .i64 0, .string ⟨#[]⟩, .bool false] 23))
  replace Pr := Lib.hid (Pr.out.alloc (.cells #[.int .i64 0, .int .i64 0, .string ⟨#[]⟩, .bool false] 23))
  replace Pp := Lib.hid (Pp.out.alloc (.cells #[.int .i64 0, .int .i64 0, .string ⟨#[]⟩, .bool false] 23))
  replace Ps := Lib.hid (Ps.out.alloc (.cells #[.int .i64 0, .int .i64 0, .string ⟨#[]⟩, .bool false] 23))
  have Ps2 := Lib.hid (in4_new w7 0 0 ⟨#[]⟩ false 23)
  replace HB : Hid (Below w.heap.size w (w7.alloc (.cells #[.int .i64 0, .int .i64 0, .string ⟨#[]⟩, .bool false] 23))) := below_step HB.out ((Below.refl _ _).alloc (Nat.le_refl _) _)
  obtain ⟨cx0, cx1, cx2, cx3⟩ := Px.out
  obtain ⟨cy0, cy1, cy2, cy3⟩ := Py.out
  obtain ⟨cq0, cq1, cq2, cq3⟩ := Pq.out
  obtain ⟨cr0, cr1, cr2, cr3⟩ := Pr.out
  obtain ⟨cp0, cp1, cp2, cp3⟩ := Pp.out
  obtain ⟨cs0, cs1, cs2, cs3⟩ := Ps.out
  obtain ⟨cs20, cs21, cs22, cs23⟩ := Ps2.out
  go_wp2_with fail
  refine (HNM.out _ (HT.out.on HB.out)).mono ?_
  rintro e w8 ⟨rfl, hb8⟩
  clear cx0 cx1 cx2 cx3 cy0 cy1 cy2 cy3 cq0 cq1 cq2 cq3 cr0 cr1 cr2 cr3 cp0 cp1 cp2 cp3 cs0 cs1 cs2 cs3 cs20 cs21 cs22 cs23
  replace Px := Lib.hid (Px.out.on hb8)
  replace Py := Lib.hid (Py.out.on hb8)
  replace Pq := Lib.hid (Pq.out.on hb8)
  replace Pr := Lib.hid (Pr.out.on hb8)
  replace Pp := Lib.hid (Pp.out.on hb8)
  replace Ps := Lib.hid (Ps.out.on hb8)
  replace Ps2 := Lib.hid (Ps2.out.on hb8)
  replace HB := Lib.hid (below_step HB.out hb8)
  clear hb8
  obtain ⟨cx0, cx1, cx2, cx3⟩ := Px.out
  obtain ⟨cy0, cy1, cy2, cy3⟩ := Py.out
  obtain ⟨cq0, cq1, cq2, cq3⟩ := Pq.out
  obtain ⟨cr0, cr1, cr2, cr3⟩ := Pr.out
  obtain ⟨cp0, cp1, cp2, cp3⟩ := Pp.out
  obtain ⟨cs0, cs1, cs2, cs3⟩ := Ps.out
  obtain ⟨cs20, cs21, cs22, cs23⟩ := Ps2.out
  go_wp2_with fail
  refine (HS.out _ (HE.out.on HB.out)).mono ?_
  rintro e w9 ⟨rfl, hb9⟩
  clear cx0 cx1 cx2 cx3 cy0 cy1 cy2 cy3 cq0 cq1 cq2 cq3 cr0 cr1 cr2 cr3 cp0 cp1 cp2 cp3 cs0 cs1 cs2 cs3 cs20 cs21 cs22 cs23
  replace Px := Lib.hid (Px.out.on hb9)
  replace Py := Lib.hid (Py.out.on hb9)
  replace Pq := Lib.hid (Pq.out.on hb9)
  replace Pr := Lib.hid (Pr.out.on hb9)
  replace Pp := Lib.hid (Pp.out.on hb9)
  replace Ps := Lib.hid (Ps.out.on hb9)
  replace Ps2 := Lib.hid (Ps2.out.on hb9)
  replace HB := Lib.hid (below_step HB.out hb9)
  clear hb9
  obtain ⟨cx0, cx1, cx2, cx3⟩ := Px.out
  obtain ⟨cy0, cy1, cy2, cy3⟩ := Py.out
  obtain ⟨cq0, cq1, cq2, cq3⟩ := Pq.out
  obtain ⟨cr0, cr1, cr2, cr3⟩ := Pr.out
  obtain ⟨cp0, cp1, cp2, cp3⟩ := Pp.out
  obtain ⟨cs0, cs1, cs2, cs3⟩ := Ps.out
  obtain ⟨cs20, cs21, cs22, cs23⟩ := Ps2.out
  go_wp2_with fail
  go_ret
  exact ⟨rfl, HB.out⟩
end Go.Proofs.YtfplncbechidnabDoor
