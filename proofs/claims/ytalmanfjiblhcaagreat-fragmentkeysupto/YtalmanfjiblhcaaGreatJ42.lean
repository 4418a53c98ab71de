/- The walk of the document's own Dominates; The walks of the document's own Dominates, Below, Above. -/
import Derived.Test.YtalmanfjiblhcaaGreatJ8
import Derived.Test.YtalmanfjiblhcaaGreatJ21
namespace Go.Proofs.YtalmanfjiblhcaaGreat.Lt
open Go.RowKit Go.Sort
set_option maxHeartbeats 400000 in
theorem dom16 (r r' : Int) (c c' : Nat) (w : World) (hc : c < 4294967296) (hc' : c' < 4294967296) :
 Calls Tryz.prog 33 #[.agg #[.int .i64 r, .int .u32 c], .agg #[.int .i64 r', .int .u32 c']] w fun e w' => e = .returned (.bool (domB r c r' c')) ∧ Below w.heap.size w w' := by
 go_enter Tryz.func33, Tryz.ntmps33
 go_wp2
 have hb0 : Below w.heap.size w ((w.alloc (Obj.cells #[Value.int IntKind.i64 r, Value.int IntKind.u32 ↑c] 70)).alloc (Obj.cells #[Value.int IntKind.i64 r', Value.int IntKind.u32 ↑c'] 70)) := ((Below.refl _ _).alloc (Nat.le_refl _) _).alloc (by simp) _
 go_loopw [5] (fun iv wr => ∃ k : Nat, k ≤ 32 ∧ iv = .int .i64 k ∧ (∀ j, j < k → c'.testBit j = true → c.testBit j = true) ∧ Below (w.heap.size + 2) ((w.alloc (Obj.cells #[Value.int IntKind.i64 r, Value.int IntKind.u32 ↑c] 70)).alloc (Obj.cells #[Value.int IntKind.i64 r', Value.int IntKind.u32 ↑c'] 70)) wr) (fun iv _ => 32 - (intOf iv).toNat)
 case atStart => exact ⟨0, Nat.zero_le _, rfl, fun _ h => by omega, Below.refl _ _⟩
 case round =>
  obtain ⟨k, hk, rfl, hall, hb⟩ := hrel
  obtain ⟨x0, x1, x2, x3, hz⟩ := box2 hb
  have hf : Below w.heap.size w wr := hb0.trans (hb.mono (by omega))
  have HA : Hid (∀ j, j < k → c'.testBit j = true → c.testBit j = true) := hall
  clear hall hb0
  by_cases hlt : k < 32
  · go_wp2_with fail
    refine (has23 _ _ _ _ hc' hlt).mono ?_
    rintro e w1 ⟨rfl, hb1⟩
    have y0 := (hb1.cell (p := ⟨w.heap.size, 0, none⟩) (by show w.heap.size < _; omega)).trans x0
    have y1 := (hb1.cell (p := ⟨w.heap.size, 1, none⟩) (by show w.heap.size < _; omega)).trans x1
    have y2 := (hb1.cell (p := ⟨w.heap.size + 1, 0, none⟩) (by show w.heap.size + 1 < _; omega)).trans x2
    have hb2 : Below (w.heap.size + 2) ((w.alloc (Obj.cells #[Value.int IntKind.i64 r, Value.int IntKind.u32 ↑c] 70)).alloc (Obj.cells #[Value.int IntKind.i64 r', Value.int IntKind.u32 ↑c'] 70)) w1 := hb.trans (hb1.mono hz)
    have hz1 : w.heap.size + 2 ≤ w1.heap.size := Nat.le_trans hz hb1.size
    cases ht : c'.testBit k
    · go_wp2_with fail
      refine ⟨⟨k + 1, by omega, by go_num, fun j hj hjb => ?_, hb2⟩, by simp [intOf]; omega⟩
      by_cases e : j = k
      · subst e; rw [ht] at hjb; cases hjb
      · exact HA.out j (by omega) hjb
    · go_wp2_with fail
      refine (has23 _ _ _ _ hc hlt).mono ?_
      rintro e w2 ⟨rfl, hb3⟩
      have hb4 : Below (w.heap.size + 2) ((w.alloc (Obj.cells #[Value.int IntKind.i64 r, Value.int IntKind.u32 ↑c] 70)).alloc (Obj.cells #[Value.int IntKind.i64 r', Value.int IntKind.u32 ↑c'] 70)) w2 := hb2.trans (hb3.mono hz1)
      cases hs : c.testBit k
      · go_wp2_with fail
        go_ret
        refine ⟨ret_bool ?_, hf.trans ((hb1.trans (hb3.mono hb1.size)).mono hf.size)⟩
        cases hd : domB r c r' c'
        · rfl
        · have := ((domB_iff hc).1 hd).2 k hlt ht
          rw [hs] at this; cases this
      · go_wp2_with fail
        refine ⟨⟨k + 1, by omega, by go_num, fun j hj hjb => ?_, hb4⟩, by simp [intOf]; omega⟩
        by_cases e : j = k
        · subst e; exact hs
        · exact HA.out j (by omega) hjb
  · obtain rfl : k = 32 := by omega
    go_wp2_with fail
    go_ret
    refine ⟨ret_bool ?_, hf⟩
    have hin : inB c c' = true := (inB_iff hc).2 fun i hi hb => HA.out i hi hb
    rw [domB, hin, Bool.and_true]
end Go.Proofs.YtalmanfjiblhcaaGreat.Lt
namespace Go.Proofs.YtalmanfjiblhcaaGreat.Lt
open Go.RowKit Go.Sort
theorem r1Dom_ (a b : Lab) (w : World) (ha : a.2 < 4294967296) (hb : b.2 < 4294967296) :
 Calls Tryz.prog 33 #[.agg #[.int .i64 a.1, .int .u32 a.2], .agg #[.int .i64 b.1, .int .u32 b.2]] w fun e w' => e = .returned (.bool (dm a b)) ∧ Below w.heap.size w w' :=
 dom16 a.1 b.1 a.2 b.2 w ha hb
theorem isAt_no {ls : List Lab} {i : Int} (h : isAt ls i = false) : i < 0 ∨ (0 ≤ i ∧ (ls.length : Int) ≤ i) := by
 by_cases h0 : 0 ≤ i
 · by_cases h1 : i < ls.length
   · rw [isAt_yes h0 h1] at h; cases h
   · omega
 · omega
set_option maxHeartbeats 2000000 in
theorem r2Dom_ (a : Option Addr) (c : Nat) (i j : Int) (ls : List Lab) (w : World) (h : LabsIn w a ls) (hw : allW ls) :
 Calls Tryz.prog 13 #[.slice a ls.length c, .int .i64 i, .int .i64 j] w fun e w' => e = .returned (.bool (domAt ls i j)) ∧ Below w.heap.size w w' := by
 cases hi : isAt ls i
 · have HD : Hid (domAt ls i j = false) := by unfold Hid domAt; rw [hi]; rfl
   rw [HD.out]
   rcases isAt_no hi with h0 | ⟨h0, h1⟩
   · have q0 : decide (0 ≤ i) = false := by simp; omega
     clear hi h HD
     generalize ls.length = n at *
     go_enter Tryz.func13, Tryz.ntmps13
     go_wp2
     refine wp_region_quiet_below (by kernel_rfl) (by kernel_rfl) ?_
     repeat (go_big_quiet_step (fail))
     refine wpQuiet_nil ?_
     intro _ hw'
     obtain ⟨⟨dq, osq⟩, hw''⟩ := hw'
     subst hw''
     have hbq := below_regrown w dq osq
     generalize grow (redrawn w dq) osq = W2 at *
     go_wp2
     go_ret
     exact ⟨rfl, hbq⟩
   · have q0 : decide (0 ≤ i) = true := by simpa using h0
     have q1 : decide (i < (ls.length : Int)) = false := by simp; omega
     clear hi h HD
     generalize ls.length = n at *
     go_enter Tryz.func13, Tryz.ntmps13
     go_wp2
     refine wp_region_quiet_below (by kernel_rfl) (by kernel_rfl) ?_
     repeat (go_big_quiet_step (fail))
     refine wpQuiet_nil ?_
     intro _ hw'
     obtain ⟨⟨dq, osq⟩, hw''⟩ := hw'
     subst hw''
     have hbq := below_regrown w dq osq
     generalize grow (redrawn w dq) osq = W2 at *
     go_wp2
     go_ret
     exact ⟨rfl, hbq⟩
 · cases hj : isAt ls j
   · have HD : Hid (domAt ls i j = false) := by unfold Hid domAt; rw [hi, hj]; rfl
     rw [HD.out]
     obtain ⟨n1, rfl, hn1⟩ := isAt_cases hi
     have p0 : decide ((0 : Int) ≤ (n1 : Int)) = true := by simp
     have p1 : decide ((n1 : Int) < (ls.length : Int)) = true := by simp; omega
     have p2 : decide (n1 < ls.length) = true := by simp; omega
     rcases isAt_no hj with h0 | ⟨h0, h1⟩
     · have q0 : decide (0 ≤ j) = false := by simp; omega
       clear hi hj h HD
       generalize ls.length = n at *
       go_enter Tryz.func13, Tryz.ntmps13
       go_wp2
       refine wp_region_quiet_below (by kernel_rfl) (by kernel_rfl) ?_
       repeat (go_big_quiet_step (fail))
       refine wpQuiet_nil ?_
       intro _ hw'
       obtain ⟨⟨dq, osq⟩, hw''⟩ := hw'
       subst hw''
       have hbq := below_regrown w dq osq
       generalize grow (redrawn w dq) osq = W2 at *
       go_wp2
       go_ret
       exact ⟨rfl, hbq⟩
     · have q0 : decide (0 ≤ j) = true := by simpa using h0
       have q1 : decide (j < (ls.length : Int)) = false := by simp; omega
       clear hi hj h HD
       generalize ls.length = n at *
       go_enter Tryz.func13, Tryz.ntmps13
       go_wp2
       refine wp_region_quiet_below (by kernel_rfl) (by kernel_rfl) ?_
       repeat (go_big_quiet_step (fail))
       refine wpQuiet_nil ?_
       intro _ hw'
       obtain ⟨⟨dq, osq⟩, hw''⟩ := hw'
       subst hw''
       have hbq := below_regrown w dq osq
       generalize grow (redrawn w dq) osq = W2 at *
       go_wp2
       go_ret
       exact ⟨rfl, hbq⟩
   · have HD : Hid (domAt ls i j = dm (lab ls i.toNat) (lab ls j.toNat)) := by unfold Hid domAt; rw [hi, hj]; rfl
     rw [HD.out]
     clear HD
     obtain ⟨n1, rfl, hn1⟩ := isAt_cases hi
     obtain ⟨m1, rfl, hm1⟩ := isAt_cases hj
     rw [Int.toNat_natCast, Int.toNat_natCast]
     have H19 : Hid (∀ W, Calls Tryz.prog 33 #[.agg #[.int .i64 (lab ls n1).1, .int .u32 (lab ls n1).2], .agg #[.int .i64 (lab ls m1).1, .int .u32 (lab ls m1).2]] W fun e w' => e = .returned (.bool (dm (lab ls n1) (lab ls m1))) ∧ Below W.heap.size W w') := fun W => r1Dom_ _ _ W (lab_lt hw n1) (lab_lt hw m1)
     obtain ⟨b, o, rfl, x1, x2⟩ := h n1 hn1
     obtain ⟨b', o', e, y1, y2⟩ := h m1 hm1
     simp only [Option.some.injEq, Addr.mk.injEq] at e
     obtain ⟨rfl, rfl, _⟩ := e
     have p0 : decide ((0 : Int) ≤ (n1 : Int)) = true := by simp
     have p1 : decide ((n1 : Int) < (ls.length : Int)) = true := by simp; omega
     have p2 : decide (n1 < ls.length) = true := by simp; omega
     have r0 : decide ((0 : Int) ≤ (m1 : Int)) = true := by simp
     have r1 : decide ((m1 : Int) < (ls.length : Int)) = true := by simp; omega
     have r2 : decide (m1 < ls.length) = true := by simp; omega
     clear hi hj h hw
     generalize ls.length = n at *
     generalize (lab ls n1).1 = r at *
     generalize (lab ls n1).2 = cc at *
     generalize (lab ls m1).1 = r' at *
     generalize (lab ls m1).2 = cc' at *
     generalize dm (lab ls n1) (lab ls m1) = x at *
     have k1 := cell_regrown x1
     have k2 := cell_regrown x2
     have k3 := cell_regrown y1
     have k4 := cell_regrown y2
     clear x1 x2 y1 y2
     go_enter Tryz.func13, Tryz.ntmps13
     go_wp2
     refine wp_region_quiet_below (by kernel_rfl) (by kernel_rfl) ?_
     repeat (go_big_quiet_step (first | (go_at_call 33; exact Calls.regrown_of (H19.out _))))
     refine wpQuiet_nil ?_
     intro _ hw'
     obtain ⟨⟨dq, osq⟩, hw''⟩ := hw'
     subst hw''
     have hbq := below_regrown w dq osq
     generalize grow (redrawn w dq) osq = W2 at *
     go_wp2
     go_ret
     exact ⟨rfl, hbq⟩
end Go.Proofs.YtalmanfjiblhcaaGreat.Lt
