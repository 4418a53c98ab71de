/- The walk of the law LabelTexts: it returns true. -/
import Derived.Test.YticamiopnimhiaaDoorW7
import Derived.Test.YticamiopnimhiaaDoorAs
namespace Go.Proofs.YticamiopnimhiaaDoor
open Go.RowKit Go.Sort

set_option maxHeartbeats 2000000 in
set_option maxRecDepth 100000 in
theorem texts3_ok_yes (r : Int) (c : Nat) (w : World) (hE : ErrType w) (h : okL r c = true) (r' : Int) (c' : Nat) (h' : okL r' c' = true) :
    Calls Tryd.prog 3 #[.agg #[.int .i64 r, .int .u32 c], .string ⟨(textOf r' c').toArray⟩] w fun e w' => e = .returned (.bool true) ∧ Below w.heap.size w w' := by
  obtain ⟨n, rfl⟩ := Int.eq_ofNat_of_zero_le (okL_iff.1 h).1
  have H7 : Hid (∀ W, Calls Tryd.prog 7 #[.agg #[.int .i64 n, .int .u32 c]] W fun e w' => e = .returned (.tuple #[.string ⟨(textOf n c).toArray⟩, .nilIface]) ∧ Below W.heap.size W w') := fun W => text7_yes n c W h
  have H8 : Hid (∀ W, Calls Tryd.prog 8 #[.agg #[.int .i64 n, .int .u32 c]] W fun e w' => e = .returned (.tuple #[.string ⟨(textOf n c).toArray⟩, .int .i64 0]) ∧ Below W.heap.size W w') := fun W => text8_yes n c W h
  have H12 : Hid (∀ W, Calls Tryd.prog 12 #[.agg #[.int .i64 n, .int .u32 c]] W fun e w' => e = .returned .nilIface ∧ Below W.heap.size W w') := fun W => valid12_yes n c W h
  have H13 : Hid (∀ W, Calls Tryd.prog 13 #[.agg #[.int .i64 n, .int .u32 c]] W fun e w' => e = .returned (.int .i64 0) ∧ Below W.heap.size W w') := fun W => valid13_yes n c W h
  generalize textOf n c = T at *
  have K9 : Hid (∀ W, Calls Tryd.prog 9 #[.string ⟨(textOf r' c').toArray⟩] W fun e w' => e = .returned (.tuple #[.agg #[.int .i64 r', .int .u32 c'], .nilIface]) ∧ Below W.heap.size W w') := fun W => parse9_yes r' c' W h'
  have K10 : Hid (∀ W, Calls Tryd.prog 10 #[.string ⟨(textOf r' c').toArray⟩] W fun e w' => e = .returned (.tuple #[.agg #[.int .i64 r', .int .u32 c'], .int .i64 0]) ∧ Below W.heap.size W w') := fun W => parse10_yes r' c' W h'
  generalize textOf r' c' = S at *
  clear h'
  clear h
  have HE := Lib.hid hE
  clear hE
  have hb0 : Below w.heap.size w (w.alloc (Obj.cells #[Value.int IntKind.i64 n, Value.int IntKind.u32 ↑c] 24)) := (Below.refl _ _).alloc (Nat.le_refl _) _
  go_enter Tryd.func3, Tryd.ntmps3
  go_wp2_with fail
  refine (H7.out _).mono ?_
  rintro e w1 ⟨rfl, hb1⟩
  have hA := hb1.mono (B' := w.heap.size + 1) (by simp)
  obtain ⟨x0, x1, hz1⟩ := box1 hA
  clear hb1
  go_wp2_with fail
  refine (H8.out _).mono ?_
  rintro e w2 ⟨rfl, hb2⟩
  have hB := hA.trans (hb2.mono hz1)
  obtain ⟨y0, y1, hz2⟩ := box1 hB
  clear hb2 hA x0 x1
  go_wp2_with fail
  have hbX := hb0.trans (hB.mono (by omega))
  refine (K9.out _).mono ?_
  rintro e w3 ⟨rfl, hb3⟩
  have hC := hB.trans (hb3.mono hz2)
  obtain ⟨z0, z1, hz3⟩ := box1 hC
  clear hb3 hB y0 y1 hbX
  go_wp2_with fail
  refine (K10.out _).mono ?_
  rintro e w4 ⟨rfl, hb4⟩
  obtain ⟨m0, m1, hz4⟩ := box1 (hb4.mono (B' := w3.heap.size + 1) (by simp))
  have hlt3 : w.heap.size < w3.heap.size := by omega
  have hD := hC.trans (((Below.refl _ w3).alloc hz3 _).trans (hb4.mono (by simp; omega)))
  obtain ⟨v0, v1, hz5⟩ := box1 hD
  have hbw := hb0.trans (hD.mono (by omega))
  have hEw := HE.out.on hbw
  clear hb4 hC hD z0 z1 hb0
  go_wp2_with fail
  have hAl : Below w4.heap.size w4 (w4.alloc (Obj.cells #[Value.int IntKind.i64 r', Value.int IntKind.u32 ↑c'] 24)) := (Below.refl _ _).alloc (Nat.le_refl _) _
  have a0 := (hAl.cell (block_lt_of_cell v0)).trans v0
  have a1 := (hAl.cell (block_lt_of_cell v1)).trans v1
  have a2 := (hAl.cell (block_lt_of_cell m0)).trans m0
  have a3 := (hAl.cell (block_lt_of_cell m1)).trans m1
  obtain ⟨a4, a5, _⟩ := box1 (Below.refl (w4.heap.size + 1) (w4.alloc (Obj.cells #[Value.int IntKind.i64 r', Value.int IntKind.u32 ↑c'] 24)))
  have hEX := hEw.on hAl
  have hbX := hbw.trans (hAl.mono hbw.size)
  clear hAl v0 v1 m0 m1 hEw hbw
  generalize (w4.alloc (Obj.cells #[Value.int IntKind.i64 r', Value.int IntKind.u32 ↑c'] 24)) = Y at *
  refine wp_region_quiet_below (by kernel_rfl) (by kernel_rfl) ?_
  have k0 := cell_regrown a0
  have k1 := cell_regrown a1
  have k2 := cell_regrown a2
  have k3 := cell_regrown a3
  have k4 := cell_regrown a4
  have k5 := cell_regrown a5
  have HX := Lib.hid hEX
  clear a0 a1 a2 a3 a4 a5 hEX
  repeat (quiet_step (first | (go_at_call_of 11 (#[Value.nilIface] : Array Value); exact Calls.regrown_of (num11_nil _)) | (go_at_call_of 11 (#[Value.iface 51 (Value.int IntKind.i64 20)] : Array Value); exact Calls.regrown_of (num11 20 _ (cell_regrown HX.out _ _))) | (go_at_call_of 11 (#[Value.iface 51 (Value.int IntKind.i64 3)] : Array Value); exact Calls.regrown_of (num11 3 _ (cell_regrown HX.out _ _))) | (go_at_call 12; exact Calls.regrown_of (H12.out _)) | (go_at_call 13; exact Calls.regrown_of (H13.out _)) | (go_at_call 14; exact Calls.regrown_of (sure14 _))))
  refine wpQuiet_nil ?_
  intro _ hw'
  obtain ⟨⟨dq, osq⟩, hw''⟩ := hw'
  subst hw''
  have hbq := hbX.trans ((below_regrown Y dq osq).mono hbX.size)
  generalize grow (redrawn Y dq) osq = Y2 at *
  go_wp2
  go_ret
  exact ⟨rfl, hbq⟩
set_option maxHeartbeats 2000000 in
set_option maxRecDepth 100000 in
theorem texts3_bad_no (r : Int) (c : Nat) (w : World) (hE : ErrType w) (hc : c < 4294967296) (h : okL r c = false) (s : ByteArray) (hs : s.size ≤ 281474976710656) (hv : Vars w) (hn : ∀ r c, okL r c = true → textOf r c ≠ s.data.toList) :
    Calls Tryd.prog 3 #[.agg #[.int .i64 r, .int .u32 c], .string s] w fun e w' => e = .returned (.bool true) ∧ Below w.heap.size w w' := by
  have H7 : Hid (∀ W, Calls Tryd.prog 7 #[.agg #[.int .i64 r, .int .u32 c]] W fun e w' => e = .returned (.tuple #[.string ⟨#[]⟩, .iface 51 (.int .i64 20)]) ∧ Below W.heap.size W w') := fun W => text7_no r c W hc h
  have H8 : Hid (∀ W, Calls Tryd.prog 8 #[.agg #[.int .i64 r, .int .u32 c]] W fun e w' => e = .returned (.tuple #[.string ⟨#[]⟩, .int .i64 20]) ∧ Below W.heap.size W w') := fun W => text8_no r c W hc h
  have H12 : Hid (∀ W, Calls Tryd.prog 12 #[.agg #[.int .i64 r, .int .u32 c]] W fun e w' => e = .returned (.iface 51 (.int .i64 20)) ∧ Below W.heap.size W w') := fun W => valid12_no r c W hc h
  have H13 : Hid (∀ W, Calls Tryd.prog 13 #[.agg #[.int .i64 r, .int .u32 c]] W fun e w' => e = .returned (.int .i64 20) ∧ Below W.heap.size W w') := fun W => valid13_no r c W hc h
  have K9 : Hid (∀ W, Below w.heap.size w W → Calls Tryd.prog 9 #[.string s] W fun e w' => e = .returned (.tuple #[.agg #[.int .i64 0, .int .u32 0], .iface 51 (.int .i64 3)]) ∧ Below W.heap.size W w') := fun W hb => parse9_no s W hs (hv.on hb) hn
  have K10 : Hid (∀ W, Calls Tryd.prog 10 #[.string s] W fun e w' => e = .returned (.tuple #[.agg #[.int .i64 0, .int .u32 0], .int .i64 3]) ∧ Below W.heap.size W w') := fun W => parse10_no s W hs hn
  clear hn hv
  clear h
  have HE := Lib.hid hE
  clear hE
  have hb0 : Below w.heap.size w (w.alloc (Obj.cells #[Value.int IntKind.i64 r, Value.int IntKind.u32 ↑c] 24)) := (Below.refl _ _).alloc (Nat.le_refl _) _
  go_enter Tryd.func3, Tryd.ntmps3
  go_wp2_with fail
  refine (H7.out _).mono ?_
  rintro e w1 ⟨rfl, hb1⟩
  have hA := hb1.mono (B' := w.heap.size + 1) (by simp)
  obtain ⟨x0, x1, hz1⟩ := box1 hA
  clear hb1
  go_wp2_with fail
  refine (H8.out _).mono ?_
  rintro e w2 ⟨rfl, hb2⟩
  have hB := hA.trans (hb2.mono hz1)
  obtain ⟨y0, y1, hz2⟩ := box1 hB
  clear hb2 hA x0 x1
  go_wp2_with fail
  have hbX := hb0.trans (hB.mono (by omega))
  refine (K9.out _ hbX).mono ?_
  rintro e w3 ⟨rfl, hb3⟩
  have hC := hB.trans (hb3.mono hz2)
  obtain ⟨z0, z1, hz3⟩ := box1 hC
  clear hb3 hB y0 y1 hbX
  go_wp2_with fail
  refine (K10.out _).mono ?_
  rintro e w4 ⟨rfl, hb4⟩
  obtain ⟨m0, m1, hz4⟩ := box1 (hb4.mono (B' := w3.heap.size + 1) (by simp))
  have hlt3 : w.heap.size < w3.heap.size := by omega
  have hD := hC.trans (((Below.refl _ w3).alloc hz3 _).trans (hb4.mono (by simp; omega)))
  obtain ⟨v0, v1, hz5⟩ := box1 hD
  have hbw := hb0.trans (hD.mono (by omega))
  have hEw := HE.out.on hbw
  clear hb4 hC hD z0 z1 hb0
  go_wp2_with fail
  have hAl : Below w4.heap.size w4 (w4.alloc (Obj.cells #[Value.int IntKind.i64 0, Value.int IntKind.u32 0] 24)) := (Below.refl _ _).alloc (Nat.le_refl _) _
  have a0 := (hAl.cell (block_lt_of_cell v0)).trans v0
  have a1 := (hAl.cell (block_lt_of_cell v1)).trans v1
  have a2 := (hAl.cell (block_lt_of_cell m0)).trans m0
  have a3 := (hAl.cell (block_lt_of_cell m1)).trans m1
  obtain ⟨a4, a5, _⟩ := box1 (Below.refl (w4.heap.size + 1) (w4.alloc (Obj.cells #[Value.int IntKind.i64 0, Value.int IntKind.u32 0] 24)))
  have hEX := hEw.on hAl
  have hbX := hbw.trans (hAl.mono hbw.size)
  clear hAl v0 v1 m0 m1 hEw hbw
  generalize (w4.alloc (Obj.cells #[Value.int IntKind.i64 0, Value.int IntKind.u32 0] 24)) = Y at *
  refine wp_region_quiet_below (by kernel_rfl) (by kernel_rfl) ?_
  have k0 := cell_regrown a0
  have k1 := cell_regrown a1
  have k2 := cell_regrown a2
  have k3 := cell_regrown a3
  have k4 := cell_regrown a4
  have k5 := cell_regrown a5
  have HX := Lib.hid hEX
  clear a0 a1 a2 a3 a4 a5 hEX
  repeat (quiet_step (first | (go_at_call_of 11 (#[Value.nilIface] : Array Value); exact Calls.regrown_of (num11_nil _)) | (go_at_call_of 11 (#[Value.iface 51 (Value.int IntKind.i64 20)] : Array Value); exact Calls.regrown_of (num11 20 _ (cell_regrown HX.out _ _))) | (go_at_call_of 11 (#[Value.iface 51 (Value.int IntKind.i64 3)] : Array Value); exact Calls.regrown_of (num11 3 _ (cell_regrown HX.out _ _))) | (go_at_call 12; exact Calls.regrown_of (H12.out _)) | (go_at_call 13; exact Calls.regrown_of (H13.out _)) | (go_at_call 14; exact Calls.regrown_of (sure14 _))))
  refine wpQuiet_nil ?_
  intro _ hw'
  obtain ⟨⟨dq, osq⟩, hw''⟩ := hw'
  subst hw''
  have hbq := hbX.trans ((below_regrown Y dq osq).mono hbX.size)
  generalize grow (redrawn Y dq) osq = Y2 at *
  go_wp2
  go_ret
  exact ⟨rfl, hbq⟩
set_option maxHeartbeats 2000000 in
set_option maxRecDepth 100000 in
theorem texts3_ok_no (r : Int) (c : Nat) (w : World) (hE : ErrType w) (h : okL r c = true) (s : ByteArray) (hs : s.size ≤ 281474976710656) (hv : Vars w) (hn : ∀ r c, okL r c = true → textOf r c ≠ s.data.toList) :
    Calls Tryd.prog 3 #[.agg #[.int .i64 r, .int .u32 c], .string s] w fun e w' => e = .returned (.bool true) ∧ Below w.heap.size w w' := by
  obtain ⟨n, rfl⟩ := Int.eq_ofNat_of_zero_le (okL_iff.1 h).1
  have H7 : Hid (∀ W, Calls Tryd.prog 7 #[.agg #[.int .i64 n, .int .u32 c]] W fun e w' => e = .returned (.tuple #[.string ⟨(textOf n c).toArray⟩, .nilIface]) ∧ Below W.heap.size W w') := fun W => text7_yes n c W h
  have H8 : Hid (∀ W, Calls Tryd.prog 8 #[.agg #[.int .i64 n, .int .u32 c]] W fun e w' => e = .returned (.tuple #[.string ⟨(textOf n c).toArray⟩, .int .i64 0]) ∧ Below W.heap.size W w') := fun W => text8_yes n c W h
  have H12 : Hid (∀ W, Calls Tryd.prog 12 #[.agg #[.int .i64 n, .int .u32 c]] W fun e w' => e = .returned .nilIface ∧ Below W.heap.size W w') := fun W => valid12_yes n c W h
  have H13 : Hid (∀ W, Calls Tryd.prog 13 #[.agg #[.int .i64 n, .int .u32 c]] W fun e w' => e = .returned (.int .i64 0) ∧ Below W.heap.size W w') := fun W => valid13_yes n c W h
  generalize textOf n c = T at *
  have K9 : Hid (∀ W, Below w.heap.size w W → Calls Tryd.prog 9 #[.string s] W fun e w' => e = .returned (.tuple #[.agg #[.int .i64 0, .int .u32 0], .iface 51 (.int .i64 3)]) ∧ Below W.heap.size W w') := fun W hb => parse9_no s W hs (hv.on hb) hn
  have K10 : Hid (∀ W, Calls Tryd.prog 10 #[.string s] W fun e w' => e = .returned (.tuple #[.agg #[.int .i64 0, .int .u32 0], .int .i64 3]) ∧ Below W.heap.size W w') := fun W => parse10_no s W hs hn
  clear hn hv
  clear h
  have HE := Lib.hid hE
  clear hE
  have hb0 : Below w.heap.size w (w.alloc (Obj.cells #[Value.int IntKind.i64 n, Value.int IntKind.u32 ↑c] 24)) := (Below.refl _ _).alloc (Nat.le_refl _) _
  go_enter Tryd.func3, Tryd.ntmps3
  go_wp2_with fail
  refine (H7.out _).mono ?_
  rintro e w1 ⟨rfl, hb1⟩
  have hA := hb1.mono (B' := w.heap.size + 1) (by simp)
  obtain ⟨x0, x1, hz1⟩ := box1 hA
  clear hb1
  go_wp2_with fail
  refine (H8.out _).mono ?_
  rintro e w2 ⟨rfl, hb2⟩
  have hB := hA.trans (hb2.mono hz1)
  obtain ⟨y0, y1, hz2⟩ := box1 hB
  clear hb2 hA x0 x1
  go_wp2_with fail
  have hbX := hb0.trans (hB.mono (by omega))
  refine (K9.out _ hbX).mono ?_
  rintro e w3 ⟨rfl, hb3⟩
  have hC := hB.trans (hb3.mono hz2)
  obtain ⟨z0, z1, hz3⟩ := box1 hC
  clear hb3 hB y0 y1 hbX
  go_wp2_with fail
  refine (K10.out _).mono ?_
  rintro e w4 ⟨rfl, hb4⟩
  obtain ⟨m0, m1, hz4⟩ := box1 (hb4.mono (B' := w3.heap.size + 1) (by simp))
  have hlt3 : w.heap.size < w3.heap.size := by omega
  have hD := hC.trans (((Below.refl _ w3).alloc hz3 _).trans (hb4.mono (by simp; omega)))
  obtain ⟨v0, v1, hz5⟩ := box1 hD
  have hbw := hb0.trans (hD.mono (by omega))
  have hEw := HE.out.on hbw
  clear hb4 hC hD z0 z1 hb0
  go_wp2_with fail
  have hAl : Below w4.heap.size w4 (w4.alloc (Obj.cells #[Value.int IntKind.i64 0, Value.int IntKind.u32 0] 24)) := (Below.refl _ _).alloc (Nat.le_refl _) _
  have a0 := (hAl.cell (block_lt_of_cell v0)).trans v0
  have a1 := (hAl.cell (block_lt_of_cell v1)).trans v1
  have a2 := (hAl.cell (block_lt_of_cell m0)).trans m0
  have a3 := (hAl.cell (block_lt_of_cell m1)).trans m1
  obtain ⟨a4, a5, _⟩ := box1 (Below.refl (w4.heap.size + 1) (w4.alloc (Obj.cells #[Value.int IntKind.i64 0, Value.int IntKind.u32 0] 24)))
  have hEX := hEw.on hAl
  have hbX := hbw.trans (hAl.mono hbw.size)
  clear hAl v0 v1 m0 m1 hEw hbw
  generalize (w4.alloc (Obj.cells #[Value.int IntKind.i64 0, Value.int IntKind.u32 0] 24)) = Y at *
  refine wp_region_quiet_below (by kernel_rfl) (by kernel_rfl) ?_
  have k0 := cell_regrown a0
  have k1 := cell_regrown a1
  have k2 := cell_regrown a2
  have k3 := cell_regrown a3
  have k4 := cell_regrown a4
  have k5 := cell_regrown a5
  have HX := Lib.hid hEX
  clear a0 a1 a2 a3 a4 a5 hEX
  repeat (quiet_step (first | (go_at_call_of 11 (#[Value.nilIface] : Array Value); exact Calls.regrown_of (num11_nil _)) | (go_at_call_of 11 (#[Value.iface 51 (Value.int IntKind.i64 20)] : Array Value); exact Calls.regrown_of (num11 20 _ (cell_regrown HX.out _ _))) | (go_at_call_of 11 (#[Value.iface 51 (Value.int IntKind.i64 3)] : Array Value); exact Calls.regrown_of (num11 3 _ (cell_regrown HX.out _ _))) | (go_at_call 12; exact Calls.regrown_of (H12.out _)) | (go_at_call 13; exact Calls.regrown_of (H13.out _)) | (go_at_call 14; exact Calls.regrown_of (sure14 _))))
  refine wpQuiet_nil ?_
  intro _ hw'
  obtain ⟨⟨dq, osq⟩, hw''⟩ := hw'
  subst hw''
  have hbq := hbX.trans ((below_regrown Y dq osq).mono hbX.size)
  generalize grow (redrawn Y dq) osq = Y2 at *
  go_wp2
  go_ret
  exact ⟨rfl, hbq⟩
set_option maxHeartbeats 2000000 in
set_option maxRecDepth 100000 in
theorem texts3_bad_yes (r : Int) (c : Nat) (w : World) (hE : ErrType w) (hc : c < 4294967296) (h : okL r c = false) (r' : Int) (c' : Nat) (h' : okL r' c' = true) :
    Calls Tryd.prog 3 #[.agg #[.int .i64 r, .int .u32 c], .string ⟨(textOf r' c').toArray⟩] w fun e w' => e = .returned (.bool true) ∧ Below w.heap.size w w' := by
  have H7 : Hid (∀ W, Calls Tryd.prog 7 #[.agg #[.int .i64 r, .int .u32 c]] W fun e w' => e = .returned (.tuple #[.string ⟨#[]⟩, .iface 51 (.int .i64 20)]) ∧ Below W.heap.size W w') := fun W => text7_no r c W hc h
  have H8 : Hid (∀ W, Calls Tryd.prog 8 #[.agg #[.int .i64 r, .int .u32 c]] W fun e w' => e = .returned (.tuple #[.string ⟨#[]⟩, .int .i64 20]) ∧ Below W.heap.size W w') := fun W => text8_no r c W hc h
  have H12 : Hid (∀ W, Calls Tryd.prog 12 #[.agg #[.int .i64 r, .int .u32 c]] W fun e w' => e = .returned (.iface 51 (.int .i64 20)) ∧ Below W.heap.size W w') := fun W => valid12_no r c W hc h
  have H13 : Hid (∀ W, Calls Tryd.prog 13 #[.agg #[.int .i64 r, .int .u32 c]] W fun e w' => e = .returned (.int .i64 20) ∧ Below W.heap.size W w') := fun W => valid13_no r c W hc h
  have K9 : Hid (∀ W, Calls Tryd.prog 9 #[.string ⟨(textOf r' c').toArray⟩] W fun e w' => e = .returned (.tuple #[.agg #[.int .i64 r', .int .u32 c'], .nilIface]) ∧ Below W.heap.size W w') := fun W => parse9_yes r' c' W h'
  have K10 : Hid (∀ W, Calls Tryd.prog 10 #[.string ⟨(textOf r' c').toArray⟩] W fun e w' => e = .returned (.tuple #[.agg #[.int .i64 r', .int .u32 c'], .int .i64 0]) ∧ Below W.heap.size W w') := fun W => parse10_yes r' c' W h'
  generalize textOf r' c' = S at *
  clear h'
  clear h
  have HE := Lib.hid hE
  clear hE
  have hb0 : Below w.heap.size w (w.alloc (Obj.cells #[Value.int IntKind.i64 r, Value.int IntKind.u32 ↑c] 24)) := (Below.refl _ _).alloc (Nat.le_refl _) _
  go_enter Tryd.func3, Tryd.ntmps3
  go_wp2_with fail
  refine (H7.out _).mono ?_
  rintro e w1 ⟨rfl, hb1⟩
  have hA := hb1.mono (B' := w.heap.size + 1) (by simp)
  obtain ⟨x0, x1, hz1⟩ := box1 hA
  clear hb1
  go_wp2_with fail
  refine (H8.out _).mono ?_
  rintro e w2 ⟨rfl, hb2⟩
  have hB := hA.trans (hb2.mono hz1)
  obtain ⟨y0, y1, hz2⟩ := box1 hB
  clear hb2 hA x0 x1
  go_wp2_with fail
  have hbX := hb0.trans (hB.mono (by omega))
  refine (K9.out _).mono ?_
  rintro e w3 ⟨rfl, hb3⟩
  have hC := hB.trans (hb3.mono hz2)
  obtain ⟨z0, z1, hz3⟩ := box1 hC
  clear hb3 hB y0 y1 hbX
  go_wp2_with fail
  refine (K10.out _).mono ?_
  rintro e w4 ⟨rfl, hb4⟩
  obtain ⟨m0, m1, hz4⟩ := box1 (hb4.mono (B' := w3.heap.size + 1) (by simp))
  have hlt3 : w.heap.size < w3.heap.size := by omega
  have hD := hC.trans (((Below.refl _ w3).alloc hz3 _).trans (hb4.mono (by simp; omega)))
  obtain ⟨v0, v1, hz5⟩ := box1 hD
  have hbw := hb0.trans (hD.mono (by omega))
  have hEw := HE.out.on hbw
  clear hb4 hC hD z0 z1 hb0
  go_wp2_with fail
  have hAl : Below w4.heap.size w4 (w4.alloc (Obj.cells #[Value.int IntKind.i64 r', Value.int IntKind.u32 ↑c'] 24)) := (Below.refl _ _).alloc (Nat.le_refl _) _
  have a0 := (hAl.cell (block_lt_of_cell v0)).trans v0
  have a1 := (hAl.cell (block_lt_of_cell v1)).trans v1
  have a2 := (hAl.cell (block_lt_of_cell m0)).trans m0
  have a3 := (hAl.cell (block_lt_of_cell m1)).trans m1
  obtain ⟨a4, a5, _⟩ := box1 (Below.refl (w4.heap.size + 1) (w4.alloc (Obj.cells #[Value.int IntKind.i64 r', Value.int IntKind.u32 ↑c'] 24)))
  have hEX := hEw.on hAl
  have hbX := hbw.trans (hAl.mono hbw.size)
  clear hAl v0 v1 m0 m1 hEw hbw
  generalize (w4.alloc (Obj.cells #[Value.int IntKind.i64 r', Value.int IntKind.u32 ↑c'] 24)) = Y at *
  refine wp_region_quiet_below (by kernel_rfl) (by kernel_rfl) ?_
  have k0 := cell_regrown a0
  have k1 := cell_regrown a1
  have k2 := cell_regrown a2
  have k3 := cell_regrown a3
  have k4 := cell_regrown a4
  have k5 := cell_regrown a5
  have HX := Lib.hid hEX
  clear a0 a1 a2 a3 a4 a5 hEX
  repeat (quiet_step (first | (go_at_call_of 11 (#[Value.nilIface] : Array Value); exact Calls.regrown_of (num11_nil _)) | (go_at_call_of 11 (#[Value.iface 51 (Value.int IntKind.i64 20)] : Array Value); exact Calls.regrown_of (num11 20 _ (cell_regrown HX.out _ _))) | (go_at_call_of 11 (#[Value.iface 51 (Value.int IntKind.i64 3)] : Array Value); exact Calls.regrown_of (num11 3 _ (cell_regrown HX.out _ _))) | (go_at_call 12; exact Calls.regrown_of (H12.out _)) | (go_at_call 13; exact Calls.regrown_of (H13.out _)) | (go_at_call 14; exact Calls.regrown_of (sure14 _))))
  refine wpQuiet_nil ?_
  intro _ hw'
  obtain ⟨⟨dq, osq⟩, hw''⟩ := hw'
  subst hw''
  have hbq := hbX.trans ((below_regrown Y dq osq).mono hbX.size)
  generalize grow (redrawn Y dq) osq = Y2 at *
  go_wp2
  go_ret
  exact ⟨rfl, hbq⟩
/-- Every label, and every text that a machine can hold. -/
theorem texts3 (r : Int) (c : Nat) (s : ByteArray) (w : World) (hc : c < 4294967296) (hs : s.size ≤ 281474976710656) (hv : Vars w) (hE : ErrType w) :
    Calls Tryd.prog 3 #[.agg #[.int .i64 r, .int .u32 c], .string s] w fun e w' => e = .returned (.bool true) ∧ Below w.heap.size w w' := by
  by_cases ht : ∃ r' c', okL r' c' = true ∧ textOf r' c' = s.data.toList
  · obtain ⟨r', c', h', e⟩ := ht
    obtain rfl : s = ⟨(textOf r' c').toArray⟩ := by apply ByteArray.ext; rw [e]
    cases h : okL r c
    · exact texts3_bad_yes r c w hE hc h r' c' h'
    · exact texts3_ok_yes r c w hE h r' c' h'
  · have hn : ∀ r c, okL r c = true → textOf r c ≠ s.data.toList := fun r c h e => ht ⟨r, c, h, e⟩
    cases h : okL r c
    · exact texts3_bad_no r c w hE hc h s hs hv hn
    · exact texts3_ok_no r c w hE h s hs hv hn
end Go.Proofs.YticamiopnimhiaaDoor
