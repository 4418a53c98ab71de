/- The walks of the document's own Dominates, Below, Above. -/
import Derived.Test.YtoompephogamaaaDoorOwn
namespace Go.Proofs.YtoompephogamaaaDoor
open Go.RowKit Go.Sort

theorem r1Dom_ (a b : Lab) (w : World) (ha : a.2 < 4294967296) (hb : b.2 < 4294967296) :
    Calls Tryd.prog 27 #[.agg #[.int .i64 a.1, .int .u32 a.2], .agg #[.int .i64 b.1, .int .u32 b.2]] w fun e w' => e = .returned (.bool (dm a b)) ∧ Below w.heap.size w w' :=
  dom16 a.1 b.1 a.2 b.2 w ha hb
theorem isAt_no {ls : List Lab} {i : Int} (h : isAt ls i = false) : i < 0 ∨ (0 ≤ i ∧ (ls.length : Int) ≤ i) := by
  by_cases h0 : 0 ≤ i
  · by_cases h1 : i < ls.length
    · rw [isAt_yes h0 h1] at h; cases h
    · omega
  · omega

set_option maxHeartbeats 2000000 in
theorem r2Dom_ (a : Option Addr) (c : Nat) (i j : Int) (ls : List Lab) (w : World) (h : LabsIn w a ls) (hw : allW ls) :
    Calls Tryd.prog 17 #[.slice a ls.length c, .int .i64 i, .int .i64 j] w fun e w' => e = .returned (.bool (domAt ls i j)) ∧ Below w.heap.size w w' := by
  cases hi : isAt ls i
  · have HD : Hid (domAt ls i j = false) := by unfold Hid domAt; rw [hi]; rfl
    rw [HD.out]
    rcases isAt_no hi with h0 | ⟨h0, h1⟩
    · have q0 : decide (0 ≤ i) = false := by simp; omega
      clear hi h HD
      generalize ls.length = n at *
      go_enter Tryd.func17, Tryd.ntmps17
      go_wp2
      refine wp_region_quiet_below (by kernel_rfl) (by kernel_rfl) ?_
      repeat (go_big_quiet_step (fail))
      refine wpQuiet_nil ?_
      intro _ hw'
      obtain ⟨⟨dq, osq⟩, hw''⟩ := hw'
      subst hw''
      have hbq := below_regrown w dq osq
      generalize grow (redrawn w dq) osq = W2 at *
      go_wp2
      go_ret
      exact ⟨rfl, hbq⟩
    · have q0 : decide (0 ≤ i) = true := by simpa using h0
      have q1 : decide (i < (ls.length : Int)) = false := by simp; omega
      clear hi h HD
      generalize ls.length = n at *
      go_enter Tryd.func17, Tryd.ntmps17
      go_wp2
      refine wp_region_quiet_below (by kernel_rfl) (by kernel_rfl) ?_
      repeat (go_big_quiet_step (fail))
      refine wpQuiet_nil ?_
      intro _ hw'
      obtain ⟨⟨dq, osq⟩, hw''⟩ := hw'
      subst hw''
      have hbq := below_regrown w dq osq
      generalize grow (redrawn w dq) osq = W2 at *
      go_wp2
      go_ret
      exact ⟨rfl, hbq⟩
  · cases hj : isAt ls j
    · have HD : Hid (domAt ls i j = false) := by unfold Hid domAt; rw [hi, hj]; rfl
      rw [HD.out]
      obtain ⟨n1, rfl, hn1⟩ := isAt_cases hi
      have p0 : decide ((0 : Int) ≤ (n1 : Int)) = true := by simp
      have p1 : decide ((n1 : Int) < (ls.length : Int)) = true := by simp; omega
      have p2 : decide (n1 < ls.length) = true := by simp; omega
      rcases isAt_no hj with h0 | ⟨h0, h1⟩
      · have q0 : decide (0 ≤ j) = false := by simp; omega
        clear hi hj h HD
        generalize ls.length = n at *
        go_enter Tryd.func17, Tryd.ntmps17
        go_wp2
        refine wp_region_quiet_below (by kernel_rfl) (by kernel_rfl) ?_
        repeat (go_big_quiet_step (fail))
        refine wpQuiet_nil ?_
        intro _ hw'
        obtain ⟨⟨dq, osq⟩, hw''⟩ := hw'
        subst hw''
        have hbq := below_regrown w dq osq
        generalize grow (redrawn w dq) osq = W2 at *
        go_wp2
        go_ret
        exact ⟨rfl, hbq⟩
      · have q0 : decide (0 ≤ j) = true := by simpa using h0
        have q1 : decide (j < (ls.length : Int)) = false := by simp; omega
        clear hi hj h HD
        generalize ls.length = n at *
        go_enter Tryd.func17, Tryd.ntmps17
        go_wp2
        refine wp_region_quiet_below (by kernel_rfl) (by kernel_rfl) ?_
        repeat (go_big_quiet_step (fail))
        refine wpQuiet_nil ?_
        intro _ hw'
        obtain ⟨⟨dq, osq⟩, hw''⟩ := hw'
        subst hw''
        have hbq := below_regrown w dq osq
        generalize grow (redrawn w dq) osq = W2 at *
        go_wp2
        go_ret
        exact ⟨rfl, hbq⟩
    · have HD : Hid (domAt ls i j = dm (lab ls i.toNat) (lab ls j.toNat)) := by unfold Hid domAt; rw [hi, hj]; rfl
      rw [HD.out]
      clear HD
      obtain ⟨n1, rfl, hn1⟩ := isAt_cases hi
      obtain ⟨m1, rfl, hm1⟩ := isAt_cases hj
      rw [Int.toNat_natCast, Int.toNat_natCast]
      have H19 : Hid (∀ W, Calls Tryd.prog 27 #[.agg #[.int .i64 (lab ls n1).1, .int .u32 (lab ls n1).2], .agg #[.int .i64 (lab ls m1).1, .int .u32 (lab ls m1).2]] W fun e w' => e = .returned (.bool (dm (lab ls n1) (lab ls m1))) ∧ Below W.heap.size W w') := fun W => r1Dom_ _ _ W (lab_lt hw n1) (lab_lt hw m1)
      obtain ⟨b, o, rfl, x1, x2⟩ := h n1 hn1
      obtain ⟨b', o', e, y1, y2⟩ := h m1 hm1
      simp only [Option.some.injEq, Addr.mk.injEq] at e
      obtain ⟨rfl, rfl, _⟩ := e
      have p0 : decide ((0 : Int) ≤ (n1 : Int)) = true := by simp
      have p1 : decide ((n1 : Int) < (ls.length : Int)) = true := by simp; omega
      have p2 : decide (n1 < ls.length) = true := by simp; omega
      have r0 : decide ((0 : Int) ≤ (m1 : Int)) = true := by simp
      have r1 : decide ((m1 : Int) < (ls.length : Int)) = true := by simp; omega
      have r2 : decide (m1 < ls.length) = true := by simp; omega
      clear hi hj h hw
      generalize ls.length = n at *
      generalize (lab ls n1).1 = r at *
      generalize (lab ls n1).2 = cc at *
      generalize (lab ls m1).1 = r' at *
      generalize (lab ls m1).2 = cc' at *
      generalize dm (lab ls n1) (lab ls m1) = x at *
      have k1 := cell_regrown x1
      have k2 := cell_regrown x2
      have k3 := cell_regrown y1
      have k4 := cell_regrown y2
      clear x1 x2 y1 y2
      go_enter Tryd.func17, Tryd.ntmps17
      go_wp2
      refine wp_region_quiet_below (by kernel_rfl) (by kernel_rfl) ?_
      repeat (go_big_quiet_step (first | (go_at_call 27; exact Calls.regrown_of (H19.out _))))
      refine wpQuiet_nil ?_
      intro _ hw'
      obtain ⟨⟨dq, osq⟩, hw''⟩ := hw'
      subst hw''
      have hbq := below_regrown w dq osq
      generalize grow (redrawn w dq) osq = W2 at *
      go_wp2
      go_ret
      exact ⟨rfl, hbq⟩
end Go.Proofs.YtoompephogamaaaDoor
