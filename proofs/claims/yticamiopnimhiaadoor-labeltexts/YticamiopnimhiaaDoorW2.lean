/- The walks of label.Compare, Join, Meet, Valid, letter, and of the document's Valid. -/
import Derived.Test.YticamiopnimhiaaDoorW1
namespace Go.Proofs.YticamiopnimhiaaDoor
open Go.RowKit Go.Sort

theorem or_eq {c c' : Nat} (hc : c < 4294967296) (hc' : c' < 4294967296) : bits BinOp.or IntKind.u32 (c : Int) (c' : Int) = ((c ||| c' : Nat) : Int) := u32_or_nat _ _ hc hc'
theorem and_eq {c c' : Nat} (hc : c < 4294967296) (hc' : c' < 4294967296) : bits BinOp.and IntKind.u32 (c : Int) (c' : Int) = ((c &&& c' : Nat) : Int) := u32_and_nat _ _ hc hc'

set_option maxHeartbeats 400000 in
theorem join19 (r r' : Int) (c c' : Nat) (w : World) (hc : c < 4294967296) (hc' : c' < 4294967296) :
    Calls Tryd.prog 19 #[.agg #[.int .i64 r, .int .u32 c], .agg #[.int .i64 r', .int .u32 c']] w fun e w' => e = .returned (.agg #[.int .i64 (maxI r r'), .int .u32 (c ||| c' : Nat)]) ∧ Below w.heap.size w w' := by
  have HO : Hid (bits BinOp.or IntKind.u32 (c : Int) (c' : Int) = ((c ||| c' : Nat) : Int)) := or_eq hc hc'
  by_cases h : r < r'
  · have HM : Hid (maxI r r' = r') := by unfold Hid maxI; rw [if_pos h]
    go_enter Tryd.func19, Tryd.ntmps19
    go_wp2
    refine bodyPost_ret (v := .agg #[.int .i64 r', .int .u32 (bits BinOp.or IntKind.u32 ↑c ↑c')]) (by simp [results, Tryd.results19, go_sem]) rfl ⟨by rw [HO.out, HM.out], ?_⟩
    exact (((Below.refl _ _).alloc (Nat.le_refl _) _).alloc (by simp) _).alloc (by simp; omega) _
  · have HM : Hid (maxI r r' = r) := by unfold Hid maxI; rw [if_neg h]
    go_enter Tryd.func19, Tryd.ntmps19
    go_wp2
    refine bodyPost_ret (v := .agg #[.int .i64 r, .int .u32 (bits BinOp.or IntKind.u32 ↑c ↑c')]) (by simp [results, Tryd.results19, go_sem]) rfl ⟨by rw [HO.out, HM.out], ?_⟩
    exact (((Below.refl _ _).alloc (Nat.le_refl _) _).alloc (by simp) _).alloc (by simp; omega) _
set_option maxHeartbeats 400000 in
theorem meet20 (r r' : Int) (c c' : Nat) (w : World) (hc : c < 4294967296) (hc' : c' < 4294967296) :
    Calls Tryd.prog 20 #[.agg #[.int .i64 r, .int .u32 c], .agg #[.int .i64 r', .int .u32 c']] w fun e w' => e = .returned (.agg #[.int .i64 (minI r r'), .int .u32 (c &&& c' : Nat)]) ∧ Below w.heap.size w w' := by
  have HO : Hid (bits BinOp.and IntKind.u32 (c : Int) (c' : Int) = ((c &&& c' : Nat) : Int)) := and_eq hc hc'
  by_cases h : r' < r
  · have HM : Hid (minI r r' = r') := by unfold Hid minI; rw [if_pos h]
    go_enter Tryd.func20, Tryd.ntmps20
    go_wp2
    refine bodyPost_ret (v := .agg #[.int .i64 r', .int .u32 (bits BinOp.and IntKind.u32 ↑c ↑c')]) (by simp [results, Tryd.results20, go_sem]) rfl ⟨by rw [HO.out, HM.out], ?_⟩
    exact (((Below.refl _ _).alloc (Nat.le_refl _) _).alloc (by simp) _).alloc (by simp; omega) _
  · have HM : Hid (minI r r' = r) := by unfold Hid minI; rw [if_neg h]
    go_enter Tryd.func20, Tryd.ntmps20
    go_wp2
    refine bodyPost_ret (v := .agg #[.int .i64 r, .int .u32 (bits BinOp.and IntKind.u32 ↑c ↑c')]) (by simp [results, Tryd.results20, go_sem]) rfl ⟨by rw [HO.out, HM.out], ?_⟩
    exact (((Below.refl _ _).alloc (Nat.le_refl _) _).alloc (by simp) _).alloc (by simp; omega) _

theorem cmp_same {r : Int} {c : Nat} (hc : c < 4294967296) : cmpI r c r c = 0 := by unfold cmpI; rw [dom_refl hc]; rfl
theorem cmp_up {r r' : Int} {c c' : Nat} (h : domB r c r' c' = true) (k : domB r' c' r c = false) : cmpI r c r' c' = 1 := by unfold cmpI; rw [h, k]; rfl
theorem cmp_down {r r' : Int} {c c' : Nat} (h : domB r c r' c' = false) (k : domB r' c' r c = true) : cmpI r c r' c' = -1 := by unfold cmpI; rw [h, k]; rfl
theorem cmp_none {r r' : Int} {c c' : Nat} (h : domB r c r' c' = false) (k : domB r' c' r c = false) : cmpI r c r' c' = 2 := by unfold cmpI; rw [h, k]; rfl

set_option maxHeartbeats 400000 in
theorem cmp17 (r r' : Int) (c c' : Nat) (w : World) (hc : c < 4294967296) (hc' : c' < 4294967296) :
    Calls Tryd.prog 17 #[.agg #[.int .i64 r, .int .u32 c], .agg #[.int .i64 r', .int .u32 c']] w fun e w' => e = .returned (.int .i64 (cmpI r c r' c')) ∧ Below w.heap.size w w' := by
  have hb0 : Below w.heap.size w ((w.alloc (Obj.cells #[Value.int IntKind.i64 r, Value.int IntKind.u32 ↑c] 24)).alloc (Obj.cells #[Value.int IntKind.i64 r', Value.int IntKind.u32 ↑c'] 24)) := ((Below.refl _ _).alloc (Nat.le_refl _) _).alloc (by simp) _
  by_cases hs : r = r' ∧ c = c'
  · obtain ⟨rfl, rfl⟩ := hs
    go_enter Tryd.func17, Tryd.ntmps17
    go_wp2
    go_ret
    exact ⟨ret_int (cmp_same hc).symm, hb0⟩
  · have hor : r ≠ r' ∨ (r = r' ∧ ¬ (c : Int) = (c' : Int)) := by omega
    have HN : Hid (¬ (domB r c r' c' = true ∧ domB r' c' r c = true)) := fun ⟨h1, h2⟩ => hs (dom_anti hc hc' h1 h2)
    clear hs
    rcases hor with hr | ⟨rfl, hr⟩
    all_goals
      go_enter Tryd.func17, Tryd.ntmps17
      go_wp2_with fail
      refine (dom15 _ _ _ _ _ hc hc').mono ?_
      rintro e w1 ⟨rfl, hb1⟩
      obtain ⟨x0, x1, x2, x3, hz⟩ := box2 (hb1.mono (B' := w.heap.size + 2) (by simp))
      have hbw := hb0.trans (hb1.mono hb0.size)
      clear hb0 hb1
      cases hx : domB _ c _ c'
      · go_wp2_with fail
        refine (dom15 _ _ _ _ _ hc' hc).mono ?_
        rintro e w2 ⟨rfl, hb2⟩
        have hbv := hbw.trans (hb2.mono hbw.size)
        cases hy : domB _ c' _ c
        · go_wp2_with fail
          go_ret
          exact ⟨ret_int (cmp_none hx hy).symm, hbv⟩
        · go_wp2_with fail
          go_ret
          exact ⟨ret_int (cmp_down hx hy).symm, hbv⟩
      · go_wp2_with fail
        go_ret
        refine ⟨ret_int (cmp_up hx ?_).symm, hbw⟩
        cases hy : domB _ c' _ c
        · rfl
        · exact absurd ⟨hx, hy⟩ HN.out
end Go.Proofs.YticamiopnimhiaaDoor
