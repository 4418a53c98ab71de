/- The walk of (*Lattice).Dominates. -/
import Derived.Test.YtalmanfjiblhcaaGreatJ8
import Derived.BigQuiet
namespace Go.Proofs.YtalmanfjiblhcaaGreat.Lt
open Go.RowKit Go.Sort
set_option maxHeartbeats 1000000 in
theorem dom_ (v : Value) (i j : Int) (ls : List Lab) (w : World) (h : LatIn w v ls) (hw : allW ls) :
 Calls Tryz.prog 70 #[v, .int .i64 i, .int .i64 j] w fun e w' => e = .returned (.bool (domAt ls i j)) ∧ Below w.heap.size w w' := by
 have HI : Hid (∀ W, LatIn W v ls → Calls Tryz.prog 106 #[v, .int .i64 i] W fun e w' => e = .returned (.bool (isAt ls i)) ∧ Below W.heap.size W w') := fun W => has_b v i ls W
 have HJ : Hid (∀ W, LatIn W v ls → Calls Tryz.prog 106 #[v, .int .i64 j] W fun e w' => e = .returned (.bool (isAt ls j)) ∧ Below W.heap.size W w') := fun W => has_b v j ls W
 have HL : Hid (∀ d os, LatIn (grow (redrawn w d) os) v ls) := fun d os => h.on (below_regrown w d os)
 cases hi : isAt ls i
 · have HD : Hid (domAt ls i j = false) := by unfold Hid domAt; rw [hi]; rfl
   rw [HD.out]
   rw [hi] at HI
   clear h hi
   go_enter Tryz.func70, Tryz.ntmps70
   go_wp2
   refine wp_region_quiet_below (by kernel_rfl) (by kernel_rfl) ?_
   repeat (go_big_quiet_step (first | (go_at_call 106; exact Calls.regrown_of (HI.out _ (HL.out _ _)))))
   refine wpQuiet_nil ?_
   intro _ hw'
   obtain ⟨⟨dq, osq⟩, hw''⟩ := hw'
   subst hw''
   have hbq := below_regrown w dq osq
   generalize grow (redrawn w dq) osq = W2 at *
   go_wp2
   go_ret
   exact ⟨rfl, hbq⟩
 · cases hj : isAt ls j
   · have HD : Hid (domAt ls i j = false) := by unfold Hid domAt; rw [hi, hj]; rfl
     rw [HD.out]
     rw [hi] at HI
     rw [hj] at HJ
     have hne : i ≠ j := fun e => by rw [e, hj] at hi; cases hi
     clear h hi hj
     go_enter Tryz.func70, Tryz.ntmps70
     go_wp2
     refine wp_region_quiet_below (by kernel_rfl) (by kernel_rfl) ?_
     repeat (go_big_quiet_step (first | (go_at_call_of 106 (#[v, .int .i64 i] : Array Value); exact Calls.regrown_of (HI.out _ (HL.out _ _))) | (go_at_call 106; exact Calls.regrown_of (HJ.out _ (HL.out _ _)))))
     refine wpQuiet_nil ?_
     intro _ hw'
     obtain ⟨⟨dq, osq⟩, hw''⟩ := hw'
     subst hw''
     have hbq := below_regrown w dq osq
     generalize grow (redrawn w dq) osq = W2 at *
     go_wp2
     go_ret
     exact ⟨rfl, hbq⟩
   · rw [hi] at HI
     rw [hj] at HJ
     have HD : Hid (domAt ls i j = dm (lab ls i.toNat) (lab ls j.toNat)) := by unfold Hid domAt; rw [hi, hj]; rfl
     rw [HD.out]
     clear HD
     obtain ⟨n, rfl, hn⟩ := isAt_cases hi
     obtain ⟨m, rfl, hm⟩ := isAt_cases hj
     rw [Int.toNat_natCast, Int.toNat_natCast]
     have H19 : Hid (∀ W, Calls Tryz.prog 107 #[.agg #[.int .i64 (lab ls n).1, .int .u32 (lab ls n).2], .agg #[.int .i64 (lab ls m).1, .int .u32 (lab ls m).2]] W fun e w' => e = .returned (.bool (dm (lab ls n) (lab ls m))) ∧ Below W.heap.size W w') := fun W => lDom_ _ _ W (lab_lt hw n) (lab_lt hw m)
     rcases h with ⟨rfl, rfl⟩ | ⟨p, a, c, mm, rfl, h2, h3, _, _⟩
     · simp at hn
     obtain ⟨b, o, rfl, n1, n2⟩ := h3 n hn
     obtain ⟨b', o', e, m1, m2⟩ := h3 m hm
     simp only [Option.some.injEq, Addr.mk.injEq] at e
     obtain ⟨rfl, rfl, _⟩ := e
     clear hi hj h3 hw
     generalize (lab ls n).1 = r at *
     generalize (lab ls n).2 = cc at *
     generalize (lab ls m).1 = r' at *
     generalize (lab ls m).2 = cc' at *
     generalize dm (lab ls n) (lab ls m) = x at *
     have k0 := cell_regrown h2
     have k1 := cell_regrown n1
     have k2 := cell_regrown n2
     have k3 := cell_regrown m1
     have k4 := cell_regrown m2
     clear h2 n1 n2 m1 m2
     go_enter Tryz.func70, Tryz.ntmps70
     go_wp2
     refine wp_region_quiet_below (by kernel_rfl) (by kernel_rfl) ?_
     repeat (go_big_quiet_step (first | (go_at_call_of 106 (#[Value.pointer (some ⟨p, 0, none⟩), .int .i64 (n : Int)] : Array Value); exact Calls.regrown_of (HI.out _ (HL.out _ _))) | (go_at_call 106; exact Calls.regrown_of (HJ.out _ (HL.out _ _))) | (go_at_call 107; exact Calls.regrown_of (H19.out _))))
     refine wpQuiet_nil ?_
     intro _ hw'
     obtain ⟨⟨dq, osq⟩, hw''⟩ := hw'
     subst hw''
     have hbq := below_regrown w dq osq
     generalize grow (redrawn w dq) osq = W2 at *
     go_wp2
     go_ret
     exact ⟨rfl, hbq⟩
end Go.Proofs.YtalmanfjiblhcaaGreat.Lt
