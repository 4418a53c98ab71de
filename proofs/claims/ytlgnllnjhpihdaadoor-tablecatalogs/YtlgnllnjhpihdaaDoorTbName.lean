/- The walks of table's Name and Reserved. -/
import Derived.Test.YtlgnllnjhpihdaaDoorTbMem
namespace Go.Proofs.YtlgnllnjhpihdaaDoor
open Go.RowKit Go.Sort

set_option maxHeartbeats 1000000 in
theorem small_ (c : UInt8) (w : World) : Calls Tryd.prog 32 #[.int .u8 (c.toNat : Int)] w fun e w' => e = .returned (.bool (smallB c)) ∧ w' = w := by
  by_cases h1 : 97 ≤ c.toNat
  · have h2 : ((97 : Int) ≤ (c.toNat : Int)) := by omega
    have HE : Hid (smallB c = decide (c.toNat ≤ 122)) := by show _ = _; simp [smallB, h1]
    clear h1
    go_enter Tryd.func32, Tryd.ntmps32
    go_wp2_with fail
    go_ret
    refine ⟨?_, rfl⟩
    rw [HE.out]
    exact ret_bool (decide_eq_decide.2 (by omega))
  · have h2 : ¬ ((97 : Int) ≤ (c.toNat : Int)) := by omega
    have HE : Hid (smallB c = false) := by show _ = _; simp [smallB, h1]
    clear h1
    go_enter Tryd.func32, Tryd.ntmps32
    go_wp2_with fail
    go_ret
    exact ⟨by rw [HE.out]; rfl, rfl⟩
set_option maxHeartbeats 1000000 in
theorem digit_ (c : UInt8) (w : World) : Calls Tryd.prog 33 #[.int .u8 (c.toNat : Int)] w fun e w' => e = .returned (.bool (digitB c)) ∧ w' = w := by
  by_cases h1 : 48 ≤ c.toNat
  · have h2 : ((48 : Int) ≤ (c.toNat : Int)) := by omega
    have HE : Hid (digitB c = decide (c.toNat ≤ 57)) := by show _ = _; simp [digitB, h1]
    clear h1
    go_enter Tryd.func33, Tryd.ntmps33
    go_wp2_with fail
    go_ret
    refine ⟨?_, rfl⟩
    rw [HE.out]
    exact ret_bool (decide_eq_decide.2 (by omega))
  · have h2 : ¬ ((48 : Int) ≤ (c.toNat : Int)) := by omega
    have HE : Hid (digitB c = false) := by show _ = _; simp [digitB, h1]
    clear h1
    go_enter Tryd.func33, Tryd.ntmps33
    go_wp2_with fail
    go_ret
    exact ⟨by rw [HE.out]; rfl, rfl⟩
theorem res_of {l x : List UInt8} (h : (l == x) = true) (hx : x ∈ words) : resL l = true := List.any_eq_true.2 ⟨x, hx, by rw [beq_swap]; exact h⟩
theorem two_ways {b : Bool} (h : b = true) (h' : b = false) : False := by rw [h] at h'; cases h'
set_option maxHeartbeats 4000000 in
set_option maxRecDepth 100000 in
theorem reserved_ (s : ByteArray) (w : World) : Calls Tryd.prog 14 #[.string s] w fun e w' => e = .returned (.bool (resL (lst s))) ∧ w' = w := by
  rw [← toList_lst]
  go_enter Tryd.func14, Tryd.ntmps14
  go_wp2_with fail
  all_goals first
    | exact (two_ways (by assumption) (by assumption)).elim
    | (have h : resL s.toList = true := res_of (by assumption) (by decide)
       go_ret
       exact ⟨by rw [h]; rfl, rfl⟩)
    | (have h : resL s.toList = false := by
         simp only [resL, words, List.any_cons, List.any_nil, fun x => beq_swap x s.toList, *, Bool.or_false]
       go_ret
       exact ⟨by rw [h]; rfl, rfl⟩)
end Go.Proofs.YtlgnllnjhpihdaaDoor
