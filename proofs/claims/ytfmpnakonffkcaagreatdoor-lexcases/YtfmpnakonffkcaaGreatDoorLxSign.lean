/- The walk of lex.isSign. -/
import Derived.Test.YtfmpnakonffkcaaGreatDoorLxTok
namespace Go.Proofs.YtfmpnakonffkcaaGreatDoor
open Go.RowKit Go.Sort

theorem sg_of {l x : List UInt8} (h : (l == x) = true) (hx : x ∈ allSg) : sgB l = true := List.any_eq_true.2 ⟨x, hx, by rw [beq_swap]; exact h⟩
set_option maxHeartbeats 4000000 in
set_option maxRecDepth 100000 in
theorem isSign_ (s : ByteArray) (w : World) : Calls Tryz.prog 57 #[.string s] w fun e w' => e = .returned (.bool (sgB (lst s))) ∧ w' = w := by
  rw [← toList_lst]
  by_cases g0 : (s.toList == ([60, 62] : List UInt8)) = true
  · have h : sgB s.toList = true := sg_of g0 (by decide)
    rw [h]
    clear h
    go_enter Tryz.func57, Tryz.ntmps57
    go_wp2_with fail
    go_ret
    exact ⟨rfl, rfl⟩
  have g0 : (s.toList == ([60, 62] : List UInt8)) = false := Bool.eq_false_iff.2 g0
  by_cases g1 : (s.toList == ([60, 61] : List UInt8)) = true
  · have h : sgB s.toList = true := sg_of g1 (by decide)
    rw [h]
    clear h
    go_enter Tryz.func57, Tryz.ntmps57
    go_wp2_with fail
    go_ret
    exact ⟨rfl, rfl⟩
  have g1 : (s.toList == ([60, 61] : List UInt8)) = false := Bool.eq_false_iff.2 g1
  by_cases g2 : (s.toList == ([62, 61] : List UInt8)) = true
  · have h : sgB s.toList = true := sg_of g2 (by decide)
    rw [h]
    clear h
    go_enter Tryz.func57, Tryz.ntmps57
    go_wp2_with fail
    go_ret
    exact ⟨rfl, rfl⟩
  have g2 : (s.toList == ([62, 61] : List UInt8)) = false := Bool.eq_false_iff.2 g2
  by_cases g3 : (s.toList == ([124, 124] : List UInt8)) = true
  · have h : sgB s.toList = true := sg_of g3 (by decide)
    rw [h]
    clear h
    go_enter Tryz.func57, Tryz.ntmps57
    go_wp2_with fail
    go_ret
    exact ⟨rfl, rfl⟩
  have g3 : (s.toList == ([124, 124] : List UInt8)) = false := Bool.eq_false_iff.2 g3
  by_cases g4 : (s.toList == ([40] : List UInt8)) = true
  · have h : sgB s.toList = true := sg_of g4 (by decide)
    rw [h]
    clear h
    go_enter Tryz.func57, Tryz.ntmps57
    go_wp2_with fail
    go_ret
    exact ⟨rfl, rfl⟩
  have g4 : (s.toList == ([40] : List UInt8)) = false := Bool.eq_false_iff.2 g4
  by_cases g5 : (s.toList == ([41] : List UInt8)) = true
  · have h : sgB s.toList = true := sg_of g5 (by decide)
    rw [h]
    clear h
    go_enter Tryz.func57, Tryz.ntmps57
    go_wp2_with fail
    go_ret
    exact ⟨rfl, rfl⟩
  have g5 : (s.toList == ([41] : List UInt8)) = false := Bool.eq_false_iff.2 g5
  by_cases g6 : (s.toList == ([44] : List UInt8)) = true
  · have h : sgB s.toList = true := sg_of g6 (by decide)
    rw [h]
    clear h
    go_enter Tryz.func57, Tryz.ntmps57
    go_wp2_with fail
    go_ret
    exact ⟨rfl, rfl⟩
  have g6 : (s.toList == ([44] : List UInt8)) = false := Bool.eq_false_iff.2 g6
  by_cases g7 : (s.toList == ([42] : List UInt8)) = true
  · have h : sgB s.toList = true := sg_of g7 (by decide)
    rw [h]
    clear h
    go_enter Tryz.func57, Tryz.ntmps57
    go_wp2_with fail
    go_ret
    exact ⟨rfl, rfl⟩
  have g7 : (s.toList == ([42] : List UInt8)) = false := Bool.eq_false_iff.2 g7
  by_cases g8 : (s.toList == ([43] : List UInt8)) = true
  · have h : sgB s.toList = true := sg_of g8 (by decide)
    rw [h]
    clear h
    go_enter Tryz.func57, Tryz.ntmps57
    go_wp2_with fail
    go_ret
    exact ⟨rfl, rfl⟩
  have g8 : (s.toList == ([43] : List UInt8)) = false := Bool.eq_false_iff.2 g8
  by_cases g9 : (s.toList == ([45] : List UInt8)) = true
  · have h : sgB s.toList = true := sg_of g9 (by decide)
    rw [h]
    clear h
    go_enter Tryz.func57, Tryz.ntmps57
    go_wp2_with fail
    go_ret
    exact ⟨rfl, rfl⟩
  have g9 : (s.toList == ([45] : List UInt8)) = false := Bool.eq_false_iff.2 g9
  by_cases g10 : (s.toList == ([47] : List UInt8)) = true
  · have h : sgB s.toList = true := sg_of g10 (by decide)
    rw [h]
    clear h
    go_enter Tryz.func57, Tryz.ntmps57
    go_wp2_with fail
    go_ret
    exact ⟨rfl, rfl⟩
  have g10 : (s.toList == ([47] : List UInt8)) = false := Bool.eq_false_iff.2 g10
  by_cases g11 : (s.toList == ([37] : List UInt8)) = true
  · have h : sgB s.toList = true := sg_of g11 (by decide)
    rw [h]
    clear h
    go_enter Tryz.func57, Tryz.ntmps57
    go_wp2_with fail
    go_ret
    exact ⟨rfl, rfl⟩
  have g11 : (s.toList == ([37] : List UInt8)) = false := Bool.eq_false_iff.2 g11
  by_cases g12 : (s.toList == ([61] : List UInt8)) = true
  · have h : sgB s.toList = true := sg_of g12 (by decide)
    rw [h]
    clear h
    go_enter Tryz.func57, Tryz.ntmps57
    go_wp2_with fail
    go_ret
    exact ⟨rfl, rfl⟩
  have g12 : (s.toList == ([61] : List UInt8)) = false := Bool.eq_false_iff.2 g12
  by_cases g13 : (s.toList == ([60] : List UInt8)) = true
  · have h : sgB s.toList = true := sg_of g13 (by decide)
    rw [h]
    clear h
    go_enter Tryz.func57, Tryz.ntmps57
    go_wp2_with fail
    go_ret
    exact ⟨rfl, rfl⟩
  have g13 : (s.toList == ([60] : List UInt8)) = false := Bool.eq_false_iff.2 g13
  by_cases g14 : (s.toList == ([62] : List UInt8)) = true
  · have h : sgB s.toList = true := sg_of g14 (by decide)
    rw [h]
    clear h
    go_enter Tryz.func57, Tryz.ntmps57
    go_wp2_with fail
    go_ret
    exact ⟨rfl, rfl⟩
  have g14 : (s.toList == ([62] : List UInt8)) = false := Bool.eq_false_iff.2 g14
  have h : sgB s.toList = false := by
    simp only [sgB, allSg, List.any_cons, List.any_nil, fun x => beq_swap x s.toList, g0, g1, g2, g3, g4, g5, g6, g7, g8, g9, g10, g11, g12, g13, g14, Bool.or_false]
  rw [h]
  clear h
  go_enter Tryz.func57, Tryz.ntmps57
  go_wp2_with fail
  go_ret
  exact ⟨rfl, rfl⟩
end Go.Proofs.YtfmpnakonffkcaaGreatDoor
