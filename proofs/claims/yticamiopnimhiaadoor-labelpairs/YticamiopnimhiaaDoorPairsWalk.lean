/- The walk of the law LabelPairs: it returns true. -/
import Derived.Test.YticamiopnimhiaaDoorW5
namespace Go.Proofs.YticamiopnimhiaaDoor
open Go.RowKit Go.Sort

set_option maxHeartbeats 1000000 in
theorem pairs4 (r r' : Int) (c c' : Nat) (w : World) (hc : c < 4294967296) (hc' : c' < 4294967296) :
    Calls Tryd.prog 4 #[.agg #[.int .i64 r, .int .u32 c], .agg #[.int .i64 r', .int .u32 c']] w fun e w' => e = .returned (.bool true) ∧ Below w.heap.size w w' := by
  have H15 : ∀ W, Calls Tryd.prog 15 #[.agg #[.int .i64 r, .int .u32 c], .agg #[.int .i64 r', .int .u32 c']] W fun e w' => e = .returned (.bool (domB r c r' c')) ∧ Below W.heap.size W w' := fun W => dom15 r r' c c' W hc hc'
  have H16 : ∀ W, Calls Tryd.prog 16 #[.agg #[.int .i64 r, .int .u32 c], .agg #[.int .i64 r', .int .u32 c']] W fun e w' => e = .returned (.bool (domB r c r' c')) ∧ Below W.heap.size W w' := fun W => dom16 r r' c c' W hc hc'
  have H17 : ∀ W, Calls Tryd.prog 17 #[.agg #[.int .i64 r, .int .u32 c], .agg #[.int .i64 r', .int .u32 c']] W fun e w' => e = .returned (.int .i64 (cmpI r c r' c')) ∧ Below W.heap.size W w' := fun W => cmp17 r r' c c' W hc hc'
  have H18 : ∀ W, Calls Tryd.prog 18 #[.agg #[.int .i64 r, .int .u32 c], .agg #[.int .i64 r', .int .u32 c']] W fun e w' => e = .returned (.int .i64 (cmpI r c r' c')) ∧ Below W.heap.size W w' := fun W => cmp18 r r' c c' W hc hc'
  generalize domB r c r' c' = x at *
  generalize cmpI r c r' c' = k at *
  have K15 := Lib.hid H15
  have K16 := Lib.hid H16
  have K17 := Lib.hid H17
  have K18 := Lib.hid H18
  clear H15 H16 H17 H18
  go_enter Tryd.func4, Tryd.ntmps4
  go_wp2
  obtain ⟨x0, x1, x2, x3, hz⟩ := box2 (Below.refl (w.heap.size + 2) ((w.alloc (Obj.cells #[Value.int IntKind.i64 r, Value.int IntKind.u32 ↑c] 24)).alloc (Obj.cells #[Value.int IntKind.i64 r', Value.int IntKind.u32 ↑c'] 24)))
  have hb0 : Below w.heap.size w ((w.alloc (Obj.cells #[Value.int IntKind.i64 r, Value.int IntKind.u32 ↑c] 24)).alloc (Obj.cells #[Value.int IntKind.i64 r', Value.int IntKind.u32 ↑c'] 24)) := ((Below.refl _ _).alloc (Nat.le_refl _) _).alloc (by simp) _
  generalize (w.alloc (Obj.cells #[Value.int IntKind.i64 r, Value.int IntKind.u32 ↑c] 24)).alloc (Obj.cells #[Value.int IntKind.i64 r', Value.int IntKind.u32 ↑c'] 24) = W at *
  refine wp_region_quiet_below (by kernel_rfl) (by kernel_rfl) ?_
  have k0 := cell_regrown x0
  have k1 := cell_regrown x1
  have k2 := cell_regrown x2
  have k3 := cell_regrown x3
  clear x0 x1 x2 x3
  repeat (quiet_step (first | (go_at_call 15; exact Calls.regrown_of (K15.out _)) | (go_at_call 16; exact Calls.regrown_of (K16.out _)) | (go_at_call 17; exact Calls.regrown_of (K17.out _)) | (go_at_call 18; exact Calls.regrown_of (K18.out _)) | (go_at_call 14; exact Calls.regrown_of (sure14 _))))
  refine wpQuiet_nil ?_
  intro _ hw'
  obtain ⟨⟨dq, osq⟩, hw''⟩ := hw'
  subst hw''
  have hbq := hb0.trans ((below_regrown W dq osq).mono hb0.size)
  generalize grow (redrawn W dq) osq = W2 at *
  go_wp2
  go_ret
  exact ⟨rfl, hbq⟩
end Go.Proofs.YticamiopnimhiaaDoor
