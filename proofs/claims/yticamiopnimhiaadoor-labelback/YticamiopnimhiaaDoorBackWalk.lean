/- The walk of the law LabelBack: it returns true. -/
import Derived.Test.YticamiopnimhiaaDoorW5
namespace Go.Proofs.YticamiopnimhiaaDoor
open Go.RowKit Go.Sort

set_option maxHeartbeats 1000000 in
set_option maxRecDepth 100000 in
theorem back6_ok_yes (r : Int) (c : Nat) (w : World) (h : okL r c = true) (r' : Int) (c' : Nat) (h' : okL r' c' = true) :
    Calls Tryd.prog 6 #[.agg #[.int .i64 r, .int .u32 c], .string ⟨(textOf r' c').toArray⟩] w fun e w' => e = .returned (.bool true) ∧ Below w.heap.size w w' := by
  have H7 : Hid (∀ W, Calls Tryd.prog 7 #[.agg #[.int .i64 r, .int .u32 c]] W fun e w' => e = .returned (.tuple #[.string ⟨(textOf r c).toArray⟩, .nilIface]) ∧ Below W.heap.size W w') := fun W => text7_yes r c W h
  have H12 : Hid (∀ W, Calls Tryd.prog 12 #[.agg #[.int .i64 r, .int .u32 c]] W fun e w' => e = .returned .nilIface ∧ Below W.heap.size W w') := fun W => valid12_yes r c W h
  have H9 : Hid (∀ W, Calls Tryd.prog 9 #[.string ⟨(textOf r c).toArray⟩] W fun e w' => e = .returned (.tuple #[.agg #[.int .i64 r, .int .u32 c], .nilIface]) ∧ Below W.heap.size W w') := fun W => parse9_yes r c W h
  generalize textOf r c = T at *
  have K9 : Hid (∀ W, Calls Tryd.prog 9 #[.string ⟨(textOf r' c').toArray⟩] W fun e w' => e = .returned (.tuple #[.agg #[.int .i64 r', .int .u32 c'], .nilIface]) ∧ Below W.heap.size W w') := fun W => parse9_yes r' c' W h'
  have K7 : Hid (∀ W, Calls Tryd.prog 7 #[.agg #[.int .i64 r', .int .u32 c']] W fun e w' => e = .returned (.tuple #[.string ⟨(textOf r' c').toArray⟩, .nilIface]) ∧ Below W.heap.size W w') := fun W => text7_yes r' c' W h'
  generalize textOf r' c' = S at *
  clear h'
  clear h
  have hb0 : Below w.heap.size w (w.alloc (Obj.cells #[Value.int IntKind.i64 r, Value.int IntKind.u32 ↑c] 24)) := (Below.refl _ _).alloc (Nat.le_refl _) _
  go_enter Tryd.func6, Tryd.ntmps6
  go_wp2_with fail
  refine (H7.out _).mono ?_
  rintro e w1 ⟨rfl, hb1⟩
  obtain ⟨x0, x1, hz⟩ := box1 (hb1.mono (B' := w.heap.size + 1) (by simp))
  have hbw := hb0.trans (hb1.mono hb0.size)
  clear hb0 hb1
  go_wp2_with fail
  refine wp_region_quiet_below (by kernel_rfl) (by kernel_rfl) ?_
  have k0 := cell_regrown x0
  have k1 := cell_regrown x1
  repeat (quiet_step (first | (go_at_call 12; exact Calls.regrown_of (H12.out _))))
  refine wpQuiet_nil ?_
  intro _ hw'
  obtain ⟨⟨dq, osq⟩, hw''⟩ := hw'
  subst hw''
  have y0 := k0 dq osq
  have y1 := k1 dq osq
  have hbx := hbw.trans ((below_regrown w1 dq osq).mono hbw.size)
  generalize grow (redrawn w1 dq) osq = w2 at *
  clear k0 k1 x0 x1 hbw hz
  go_wp2_with fail
  refine (H9.out _).mono ?_
  rintro e w3 ⟨rfl, hb3⟩
  have z0 := (hb3.cell (block_lt_of_cell y0)).trans y0
  have z1 := (hb3.cell (block_lt_of_cell y1)).trans y1
  have hby := hbx.trans (hb3.mono hbx.size)
  have hlt : w.heap.size < w3.heap.size := block_lt_of_cell z0
  clear hb3 hbx y0 y1
  go_wp2_with fail
  have hbX : Below w.heap.size w (w3.alloc (Obj.cells #[Value.int IntKind.i64 r, Value.int IntKind.u32 ↑c] 24)) := hby.alloc hby.size _
  refine (K9.out _).mono ?_
  rintro e w4 ⟨rfl, hb4⟩
  have hbY := hbX.trans (hb4.mono hbX.size)
  clear hb4 hbX
  go_wp2_with fail
  refine (K7.out _).mono ?_
  rintro e w6 ⟨rfl, hb6⟩
  have hbZ := (hbY.alloc hbY.size _).trans (hb6.mono (by have := hbY.size; simp; omega))
  clear hb6
  go_wp2_with fail
  refine (sure14 _).mono ?_
  rintro e w7 ⟨rfl, hb7⟩
  have hbE := hbZ.trans (hb7.mono hbZ.size)
  go_wp2_with fail
  go_ret
  exact ⟨rfl, hbE⟩
set_option maxHeartbeats 1000000 in
set_option maxRecDepth 100000 in
theorem back6_bad_no (r : Int) (c : Nat) (w : World) (hc : c < 4294967296) (h : okL r c = false) (s : ByteArray) (hs : s.size ≤ 281474976710656) (hv : Vars w) (hn : ∀ r c, okL r c = true → textOf r c ≠ s.data.toList) :
    Calls Tryd.prog 6 #[.agg #[.int .i64 r, .int .u32 c], .string s] w fun e w' => e = .returned (.bool true) ∧ Below w.heap.size w w' := by
  have H7 : Hid (∀ W, Calls Tryd.prog 7 #[.agg #[.int .i64 r, .int .u32 c]] W fun e w' => e = .returned (.tuple #[.string ⟨#[]⟩, .iface 51 (.int .i64 20)]) ∧ Below W.heap.size W w') := fun W => text7_no r c W hc h
  have H12 : Hid (∀ W, Calls Tryd.prog 12 #[.agg #[.int .i64 r, .int .u32 c]] W fun e w' => e = .returned (.iface 51 (.int .i64 20)) ∧ Below W.heap.size W w') := fun W => valid12_no r c W hc h
  have K9 : Hid (∀ W, Below w.heap.size w W → Calls Tryd.prog 9 #[.string s] W fun e w' => e = .returned (.tuple #[.agg #[.int .i64 0, .int .u32 0], .iface 51 (.int .i64 3)]) ∧ Below W.heap.size W w') := fun W hb => parse9_no s W hs (hv.on hb) hn
  clear hn hv
  clear h
  have hb0 : Below w.heap.size w (w.alloc (Obj.cells #[Value.int IntKind.i64 r, Value.int IntKind.u32 ↑c] 24)) := (Below.refl _ _).alloc (Nat.le_refl _) _
  go_enter Tryd.func6, Tryd.ntmps6
  go_wp2_with fail
  refine (H7.out _).mono ?_
  rintro e w1 ⟨rfl, hb1⟩
  obtain ⟨x0, x1, hz⟩ := box1 (hb1.mono (B' := w.heap.size + 1) (by simp))
  have hbw := hb0.trans (hb1.mono hb0.size)
  clear hb0 hb1
  go_wp2_with fail
  refine wp_region_quiet_below (by kernel_rfl) (by kernel_rfl) ?_
  have k0 := cell_regrown x0
  have k1 := cell_regrown x1
  repeat (quiet_step (first | (go_at_call 12; exact Calls.regrown_of (H12.out _))))
  refine wpQuiet_nil ?_
  intro _ hw'
  obtain ⟨⟨dq, osq⟩, hw''⟩ := hw'
  subst hw''
  have y0 := k0 dq osq
  have y1 := k1 dq osq
  have hbx := hbw.trans ((below_regrown w1 dq osq).mono hbw.size)
  generalize grow (redrawn w1 dq) osq = w2 at *
  clear k0 k1 x0 x1 hbw hz
  go_wp2_with fail
  have hbX := hbx
  refine (K9.out _ hbX).mono ?_
  rintro e w4 ⟨rfl, hb4⟩
  have hbY := hbX.trans (hb4.mono hbX.size)
  clear hb4 hbX
  go_wp2_with fail
  refine (sure14 _).mono ?_
  rintro e w7 ⟨rfl, hb7⟩
  have hbE := (hbY.alloc hbY.size _).trans (hb7.mono (by have := hbY.size; simp; omega))
  go_wp2_with fail
  go_ret
  exact ⟨rfl, hbE⟩
set_option maxHeartbeats 1000000 in
set_option maxRecDepth 100000 in
theorem back6_ok_no (r : Int) (c : Nat) (w : World) (h : okL r c = true) (s : ByteArray) (hs : s.size ≤ 281474976710656) (hv : Vars w) (hn : ∀ r c, okL r c = true → textOf r c ≠ s.data.toList) :
    Calls Tryd.prog 6 #[.agg #[.int .i64 r, .int .u32 c], .string s] w fun e w' => e = .returned (.bool true) ∧ Below w.heap.size w w' := by
  have H7 : Hid (∀ W, Calls Tryd.prog 7 #[.agg #[.int .i64 r, .int .u32 c]] W fun e w' => e = .returned (.tuple #[.string ⟨(textOf r c).toArray⟩, .nilIface]) ∧ Below W.heap.size W w') := fun W => text7_yes r c W h
  have H12 : Hid (∀ W, Calls Tryd.prog 12 #[.agg #[.int .i64 r, .int .u32 c]] W fun e w' => e = .returned .nilIface ∧ Below W.heap.size W w') := fun W => valid12_yes r c W h
  have H9 : Hid (∀ W, Calls Tryd.prog 9 #[.string ⟨(textOf r c).toArray⟩] W fun e w' => e = .returned (.tuple #[.agg #[.int .i64 r, .int .u32 c], .nilIface]) ∧ Below W.heap.size W w') := fun W => parse9_yes r c W h
  generalize textOf r c = T at *
  have K9 : Hid (∀ W, Below w.heap.size w W → Calls Tryd.prog 9 #[.string s] W fun e w' => e = .returned (.tuple #[.agg #[.int .i64 0, .int .u32 0], .iface 51 (.int .i64 3)]) ∧ Below W.heap.size W w') := fun W hb => parse9_no s W hs (hv.on hb) hn
  clear hn hv
  clear h
  have hb0 : Below w.heap.size w (w.alloc (Obj.cells #[Value.int IntKind.i64 r, Value.int IntKind.u32 ↑c] 24)) := (Below.refl _ _).alloc (Nat.le_refl _) _
  go_enter Tryd.func6, Tryd.ntmps6
  go_wp2_with fail
  refine (H7.out _).mono ?_
  rintro e w1 ⟨rfl, hb1⟩
  obtain ⟨x0, x1, hz⟩ := box1 (hb1.mono (B' := w.heap.size + 1) (by simp))
  have hbw := hb0.trans (hb1.mono hb0.size)
  clear hb0 hb1
  go_wp2_with fail
  refine wp_region_quiet_below (by kernel_rfl) (by kernel_rfl) ?_
  have k0 := cell_regrown x0
  have k1 := cell_regrown x1
  repeat (quiet_step (first | (go_at_call 12; exact Calls.regrown_of (H12.out _))))
  refine wpQuiet_nil ?_
  intro _ hw'
  obtain ⟨⟨dq, osq⟩, hw''⟩ := hw'
  subst hw''
  have y0 := k0 dq osq
  have y1 := k1 dq osq
  have hbx := hbw.trans ((below_regrown w1 dq osq).mono hbw.size)
  generalize grow (redrawn w1 dq) osq = w2 at *
  clear k0 k1 x0 x1 hbw hz
  go_wp2_with fail
  refine (H9.out _).mono ?_
  rintro e w3 ⟨rfl, hb3⟩
  have z0 := (hb3.cell (block_lt_of_cell y0)).trans y0
  have z1 := (hb3.cell (block_lt_of_cell y1)).trans y1
  have hby := hbx.trans (hb3.mono hbx.size)
  have hlt : w.heap.size < w3.heap.size := block_lt_of_cell z0
  clear hb3 hbx y0 y1
  go_wp2_with fail
  have hbX : Below w.heap.size w (w3.alloc (Obj.cells #[Value.int IntKind.i64 r, Value.int IntKind.u32 ↑c] 24)) := hby.alloc hby.size _
  refine (K9.out _ hbX).mono ?_
  rintro e w4 ⟨rfl, hb4⟩
  have hbY := hbX.trans (hb4.mono hbX.size)
  clear hb4 hbX
  go_wp2_with fail
  refine (sure14 _).mono ?_
  rintro e w7 ⟨rfl, hb7⟩
  have hbE := (hbY.alloc hbY.size _).trans (hb7.mono (by have := hbY.size; simp; omega))
  go_wp2_with fail
  go_ret
  exact ⟨rfl, hbE⟩
set_option maxHeartbeats 1000000 in
set_option maxRecDepth 100000 in
theorem back6_bad_yes (r : Int) (c : Nat) (w : World) (hc : c < 4294967296) (h : okL r c = false) (r' : Int) (c' : Nat) (h' : okL r' c' = true) :
    Calls Tryd.prog 6 #[.agg #[.int .i64 r, .int .u32 c], .string ⟨(textOf r' c').toArray⟩] w fun e w' => e = .returned (.bool true) ∧ Below w.heap.size w w' := by
  have H7 : Hid (∀ W, Calls Tryd.prog 7 #[.agg #[.int .i64 r, .int .u32 c]] W fun e w' => e = .returned (.tuple #[.string ⟨#[]⟩, .iface 51 (.int .i64 20)]) ∧ Below W.heap.size W w') := fun W => text7_no r c W hc h
  have H12 : Hid (∀ W, Calls Tryd.prog 12 #[.agg #[.int .i64 r, .int .u32 c]] W fun e w' => e = .returned (.iface 51 (.int .i64 20)) ∧ Below W.heap.size W w') := fun W => valid12_no r c W hc h
  have K9 : Hid (∀ W, Calls Tryd.prog 9 #[.string ⟨(textOf r' c').toArray⟩] W fun e w' => e = .returned (.tuple #[.agg #[.int .i64 r', .int .u32 c'], .nilIface]) ∧ Below W.heap.size W w') := fun W => parse9_yes r' c' W h'
  have K7 : Hid (∀ W, Calls Tryd.prog 7 #[.agg #[.int .i64 r', .int .u32 c']] W fun e w' => e = .returned (.tuple #[.string ⟨(textOf r' c').toArray⟩, .nilIface]) ∧ Below W.heap.size W w') := fun W => text7_yes r' c' W h'
  generalize textOf r' c' = S at *
  clear h'
  clear h
  have hb0 : Below w.heap.size w (w.alloc (Obj.cells #[Value.int IntKind.i64 r, Value.int IntKind.u32 ↑c] 24)) := (Below.refl _ _).alloc (Nat.le_refl _) _
  go_enter Tryd.func6, Tryd.ntmps6
  go_wp2_with fail
  refine (H7.out _).mono ?_
  rintro e w1 ⟨rfl, hb1⟩
  obtain ⟨x0, x1, hz⟩ := box1 (hb1.mono (B' := w.heap.size + 1) (by simp))
  have hbw := hb0.trans (hb1.mono hb0.size)
  clear hb0 hb1
  go_wp2_with fail
  refine wp_region_quiet_below (by kernel_rfl) (by kernel_rfl) ?_
  have k0 := cell_regrown x0
  have k1 := cell_regrown x1
  repeat (quiet_step (first | (go_at_call 12; exact Calls.regrown_of (H12.out _))))
  refine wpQuiet_nil ?_
  intro _ hw'
  obtain ⟨⟨dq, osq⟩, hw''⟩ := hw'
  subst hw''
  have y0 := k0 dq osq
  have y1 := k1 dq osq
  have hbx := hbw.trans ((below_regrown w1 dq osq).mono hbw.size)
  generalize grow (redrawn w1 dq) osq = w2 at *
  clear k0 k1 x0 x1 hbw hz
  go_wp2_with fail
  have hbX := hbx
  refine (K9.out _).mono ?_
  rintro e w4 ⟨rfl, hb4⟩
  have hbY := hbX.trans (hb4.mono hbX.size)
  clear hb4 hbX
  go_wp2_with fail
  refine (K7.out _).mono ?_
  rintro e w6 ⟨rfl, hb6⟩
  have hbZ := (hbY.alloc hbY.size _).trans (hb6.mono (by have := hbY.size; simp; omega))
  clear hb6
  go_wp2_with fail
  refine (sure14 _).mono ?_
  rintro e w7 ⟨rfl, hb7⟩
  have hbE := hbZ.trans (hb7.mono hbZ.size)
  go_wp2_with fail
  go_ret
  exact ⟨rfl, hbE⟩
/-- Every label, and every text that a machine can hold. -/
theorem back6 (r : Int) (c : Nat) (s : ByteArray) (w : World) (hc : c < 4294967296) (hs : s.size ≤ 281474976710656) (hv : Vars w) :
    Calls Tryd.prog 6 #[.agg #[.int .i64 r, .int .u32 c], .string s] w fun e w' => e = .returned (.bool true) ∧ Below w.heap.size w w' := by
  by_cases ht : ∃ r' c', okL r' c' = true ∧ textOf r' c' = s.data.toList
  · obtain ⟨r', c', h', e⟩ := ht
    obtain rfl : s = ⟨(textOf r' c').toArray⟩ := by apply ByteArray.ext; rw [e]
    cases h : okL r c
    · exact back6_bad_yes r c w hc h r' c' h'
    · exact back6_ok_yes r c w h r' c' h'
  · have hn : ∀ r c, okL r c = true → textOf r c ≠ s.data.toList := fun r c h e => ht ⟨r, c, h, e⟩
    cases h : okL r c
    · exact back6_bad_no r c w hc h s hs hv hn
    · exact back6_ok_no r c w h s hs hv hn
end Go.Proofs.YticamiopnimhiaaDoor
