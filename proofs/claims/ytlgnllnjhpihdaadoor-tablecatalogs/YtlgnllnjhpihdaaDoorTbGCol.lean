/- The walks of table's kindOf and guessColumn. -/
import Derived.Test.YtlgnllnjhpihdaaDoorTbFr
namespace Go.Proofs.YtlgnllnjhpihdaaDoor
open Go.RowKit Go.Sort

/-- The library's one open number. -/
def MaxAt (w : World) : Prop := ∃ m, w.cell? ⟨1, 0, none⟩ = some (.int .i64 m)
theorem MaxAt.on {w w' : World} (h : MaxAt w) (hb : Below w.heap.size w w') : MaxAt w' := by
  obtain ⟨m, hm⟩ := h
  exact ⟨m, (hb.cell (block_lt_of_cell hm)).trans hm⟩
theorem beq_dec (a b : List UInt8) : (a == b) = decide (a = b) := by
  by_cases h : a = b
  · subst h; simp
  · rw [beq_eq_false_iff_ne.2 h, decide_eq_false h]
theorem kindN_no {l : List UInt8} (h1 : l ≠ [73, 78, 84]) (h2 : l ≠ [84, 69, 88, 84]) (h3 : l ≠ [66, 79, 79, 76]) : kindN l = 0 := by rw [kindN, if_neg h1, if_neg h2, if_neg h3]
set_option maxRecDepth 100000 in
set_option maxHeartbeats 1000000 in
theorem kindOf_ (s : ByteArray) (w : World) : Calls Tryd.prog 69 #[.string s] w fun e w' => e = .returned (.int .i64 (kindN (lst s))) ∧ Below w.heap.size w w' := by
  have HK1 : Hid (∀ W, Calls Tryd.prog 43 #[.int .i64 1] W fun e w' => e = .returned (.string ⟨#[73, 78, 84]⟩) ∧ Below W.heap.size W w') := fun W => kind_ 1 W
  have HK2 : Hid (∀ W, Calls Tryd.prog 43 #[.int .i64 2] W fun e w' => e = .returned (.string ⟨#[84, 69, 88, 84]⟩) ∧ Below W.heap.size W w') := fun W => kind_ 2 W
  have HK3 : Hid (∀ W, Calls Tryd.prog 43 #[.int .i64 3] W fun e w' => e = .returned (.string ⟨#[66, 79, 79, 76]⟩) ∧ Below W.heap.size W w') := fun W => kind_ 3 W
  have x0 : ∀ w : World, (Instr.index 123 (.agg #[.int .i64 1, .int .i64 2, .int .i64 3]) (.int .i64 0)).run Tryd.prog w = .ok (.int .i64 1) w := fun _ => by kernel_rfl
  have x1 : ∀ w : World, (Instr.index 123 (.agg #[.int .i64 1, .int .i64 2, .int .i64 3]) (.int .i64 1)).run Tryd.prog w = .ok (.int .i64 2) w := fun _ => by kernel_rfl
  have x2 : ∀ w : World, (Instr.index 123 (.agg #[.int .i64 1, .int .i64 2, .int .i64 3]) (.int .i64 2)).run Tryd.prog w = .ok (.int .i64 3) w := fun _ => by kernel_rfl
  have c1 : (([73, 78, 84] : List UInt8) == s.toList) = decide (lst s = [73, 78, 84]) := by rw [toList_lst, beq_swap, beq_dec]
  have c2 : (([84, 69, 88, 84] : List UInt8) == s.toList) = decide (lst s = [84, 69, 88, 84]) := by rw [toList_lst, beq_swap, beq_dec]
  have c3 : (([66, 79, 79, 76] : List UInt8) == s.toList) = decide (lst s = [66, 79, 79, 76]) := by rw [toList_lst, beq_swap, beq_dec]
  have HN : Hid (kindN (lst s) = if lst s = [73, 78, 84] then 1 else if lst s = [84, 69, 88, 84] then 2 else if lst s = [66, 79, 79, 76] then 3 else 0) := rfl
  generalize kindN (lst s) = R at *
  generalize lst s = l at *
  by_cases h1 : l = [73, 78, 84]
  · have HF : Hid (R = 1) := by show _ = _; rw [HN.out, if_pos h1]
    rw [decide_eq_true h1] at c1
    clear HN h1 c2 c3
    go_enter Tryd.func69, Tryd.ntmps69
    go_wp2_with fail
    refine wp_loop_rounds 1 ?_
    rw [rounds_succ]
    go_wp2_with (first | (go_at_call 43; refine (HK1.out _).mono ?_; rintro e w1 ⟨rfl, hb1⟩) | fail)
    go_ret
    exact ⟨by rw [HF.out]; rfl, hb1⟩
  rw [decide_eq_false h1] at c1
  by_cases h2 : l = [84, 69, 88, 84]
  · have HF : Hid (R = 2) := by show _ = _; rw [HN.out, if_neg h1, if_pos h2]
    rw [decide_eq_true h2] at c2
    clear HN h1 h2 c3
    go_enter Tryd.func69, Tryd.ntmps69
    go_wp2_with fail
    refine wp_loop_rounds 2 ?_
    rw [rounds_succ]
    go_wp2_with (first | (go_at_call 43; refine (HK1.out _).mono ?_; rintro e w1 ⟨rfl, hb1⟩) | fail)
    rw [rounds_succ]
    go_wp2_with (first | (go_at_call 43; refine (HK2.out _).mono ?_; rintro e w2 ⟨rfl, hb2⟩) | fail)
    go_ret
    exact ⟨by rw [HF.out]; rfl, below_step hb1 hb2⟩
  rw [decide_eq_false h2] at c2
  by_cases h3 : l = [66, 79, 79, 76]
  · have HF : Hid (R = 3) := by show _ = _; rw [HN.out, if_neg h1, if_neg h2, if_pos h3]
    rw [decide_eq_true h3] at c3
    clear HN h1 h2 h3
    go_enter Tryd.func69, Tryd.ntmps69
    go_wp2_with fail
    refine wp_loop_rounds 3 ?_
    rw [rounds_succ]
    go_wp2_with (first | (go_at_call 43; refine (HK1.out _).mono ?_; rintro e w1 ⟨rfl, hb1⟩) | fail)
    rw [rounds_succ]
    go_wp2_with (first | (go_at_call 43; refine (HK2.out _).mono ?_; rintro e w2 ⟨rfl, hb2⟩) | fail)
    rw [rounds_succ]
    go_wp2_with (first | (go_at_call 43; refine (HK3.out _).mono ?_; rintro e w3 ⟨rfl, hb3⟩) | fail)
    go_ret
    exact ⟨by rw [HF.out]; rfl, below_step (below_step hb1 hb2) hb3⟩
  rw [decide_eq_false h3] at c3
  have HF : Hid (R = 0) := by show _ = _; rw [HN.out, if_neg h1, if_neg h2, if_neg h3]
  clear HN h1 h2 h3
  go_enter Tryd.func69, Tryd.ntmps69
  go_wp2_with fail
  refine wp_loop_rounds 4 ?_
  rw [rounds_succ]
  go_wp2_with (first | (go_at_call 43; refine (HK1.out _).mono ?_; rintro e w1 ⟨rfl, hb1⟩) | fail)
  rw [rounds_succ]
  go_wp2_with (first | (go_at_call 43; refine (HK2.out _).mono ?_; rintro e w2 ⟨rfl, hb2⟩) | fail)
  rw [rounds_succ]
  go_wp2_with (first | (go_at_call 43; refine (HK3.out _).mono ?_; rintro e w3 ⟨rfl, hb3⟩) | fail)
  rw [rounds_succ]
  go_wp2_with fail
  go_ret
  exact ⟨by rw [HF.out]; rfl, below_step (below_step hb1 hb2) hb3⟩
theorem cut_lens (s p : List UInt8) : (Lib.cut s p).1.length ≤ s.length ∧ (Lib.cut s p).2.1.length ≤ s.length := by
  unfold Lib.cut
  split
  · exact ⟨by rw [List.length_take]; omega, by rw [List.length_drop]; omega⟩
  · exact ⟨Nat.le_refl _, by simp⟩
/-- strings.Cut at a blank. -/
theorem cutB_ (s : ByteArray) (w : World) (hs : s.size < 4294967281) (hm : MaxAt w) :
    Calls Tryd.prog 54 #[.string s, .string ⟨#[32]⟩] w fun e w' => e = .returned (.tuple #[.string (ofL (Lib.cut (lst s) [32]).1), .string (ofL (Lib.cut (lst s) [32]).2.1), .bool (Lib.cut (lst s) [32]).2.2]) ∧ Below w.heap.size w w' := by
  obtain ⟨m, hm⟩ := hm
  refine (Tryd.strings_Cut s ⟨#[32]⟩ m w hs hm).mono fun e w' ⟨he, n, hw⟩ => ⟨he, hw ▸ ⟨rfl, rfl, rfl, Nat.le_refl _, fun _ _ => rfl⟩⟩
theorem four_set {w V : World} (h : Below w.heap.size w V) (b : Nat) (hb : w.heap.size ≤ b) (A B C D : Value) : Below w.heap.size w ((((V.setCell ⟨b, 0, none⟩ A).setCell ⟨b, 1, none⟩ B).setCell ⟨b, 2, none⟩ C).setCell ⟨b, 3, none⟩ D) :=
  (((h.setCell hb _).setCell hb _).setCell hb _).setCell hb _
/-- A result that lies in a column's block. -/
def Fc0 (w V : World) : Prop :=
  InC V w.heap.size 0 ⟨⟨#[]⟩, 0, false, false⟩ ∧ (V.frozen? ⟨w.heap.size, 0, none⟩ = false ∧ V.frozen? ⟨w.heap.size, 1, none⟩ = false ∧ V.frozen? ⟨w.heap.size, 2, none⟩ = false ∧ V.frozen? ⟨w.heap.size, 3, none⟩ = false) ∧ Below w.heap.size w V ∧ w.heap.size + 1 ≤ V.heap.size
theorem Fc0.on {w V V' : World} (h : Fc0 w V) (hb : Below V.heap.size V V') : Fc0 w V' := by
  obtain ⟨h3, ⟨f0, f1, f2, f3⟩, h5, h6⟩ := h
  have hl : w.heap.size < V.heap.size := by omega
  exact ⟨h3.on hb, ⟨Frz.on f0 hl hb, Frz.on f1 hl hb, Frz.on f2 hl hb, Frz.on f3 hl hb⟩, below_step h5 hb, Nat.le_trans h6 hb.size⟩
theorem fc0_start (w : World) (ty : TypeId) : Fc0 w (w.alloc (.cells #[.string ⟨#[]⟩, .int .i64 0, .bool false, .bool false] ty)) := by
  refine ⟨inC_new w ⟨⟨#[]⟩, 0, false, false⟩ ty, ⟨?_, ?_, ?_, ?_⟩, below_alloc1 _ _, by simp⟩ <;> simp [go_sem]
set_option maxHeartbeats 1000000 in
theorem guessColumn_ (s : ByteArray) (w : World) (hs : s.size < 4294967281) (hm : MaxAt w) :
    Calls Tryd.prog 58 #[.string s] w fun e w' => e = .returned (agC (gCol (lst s))) ∧ Below w.heap.size w w' := by
  have hcl := cut_lens (lst s) [32]
  have HC1 : Hid (∀ W, Below w.heap.size w W → Calls Tryd.prog 54 #[.string s, .string ⟨#[32]⟩] W fun e w' => e = .returned (.tuple #[.string (ofL (Lib.cut (lst s) [32]).1), .string (ofL (Lib.cut (lst s) [32]).2.1), .bool (Lib.cut (lst s) [32]).2.2]) ∧ Below W.heap.size W w') := fun W hW => cutB_ s W hs (hm.on hW)
  have HC2 : Hid (∀ W, Below w.heap.size w W → Calls Tryd.prog 54 #[.string (ofL (Lib.cut (lst s) [32]).2.1), .string ⟨#[32]⟩] W fun e w' => e = .returned (.tuple #[.string (ofL (Lib.cut (Lib.cut (lst s) [32]).2.1 [32]).1), .string (ofL (Lib.cut (Lib.cut (lst s) [32]).2.1 [32]).2.1), .bool (Lib.cut (Lib.cut (lst s) [32]).2.1 [32]).2.2]) ∧ Below W.heap.size W w') := fun W hW => by
    have := cutB_ (ofL (Lib.cut (lst s) [32]).2.1) W (by rw [size_lst, lst_ofL]; rw [size_lst] at hs; omega) (hm.on hW)
    rwa [lst_ofL] at this
  have HK : Hid (∀ W, Calls Tryd.prog 69 #[.string (ofL (Lib.cut (Lib.cut (lst s) [32]).2.1 [32]).1)] W fun e w' => e = .returned (.int .i64 (kindN (Lib.cut (Lib.cut (lst s) [32]).2.1 [32]).1)) ∧ Below W.heap.size W w') := fun W => by
    have := kindOf_ (ofL (Lib.cut (Lib.cut (lst s) [32]).2.1 [32]).1) W
    rwa [lst_ofL] at this
  have HR : Hid (agC (gCol (lst s)) = .agg #[.string (ofL (Lib.cut (lst s) [32]).1), .int .i64 (kindN (Lib.cut (Lib.cut (lst s) [32]).2.1 [32]).1), .bool ((ofL (Lib.cut (Lib.cut (lst s) [32]).2.1 [32]).2.1).toList == [75, 69, 89]), .bool ((ofL (Lib.cut (Lib.cut (lst s) [32]).2.1 [32]).2.1).toList == [78, 85, 76, 76])]) := by
    show _ = _
    rw [toList_lst, lst_ofL]; rfl
  generalize agC (gCol (lst s)) = R at *
  generalize kindN (Lib.cut (Lib.cut (lst s) [32]).2.1 [32]).1 = K at *
  generalize ofL (Lib.cut (Lib.cut (lst s) [32]).2.1 [32]).1 = P1 at *
  generalize ofL (Lib.cut (Lib.cut (lst s) [32]).2.1 [32]).2.1 = P2 at *
  generalize (Lib.cut (Lib.cut (lst s) [32]).2.1 [32]).2.2 = P3 at *
  generalize ofL (Lib.cut (lst s) [32]).1 = Q1 at *
  generalize ofL (Lib.cut (lst s) [32]).2.1 = Q2 at *
  generalize (Lib.cut (lst s) [32]).2.2 = Q3 at *
  generalize hy : (P2.toList == [75, 69, 89]) = y at *
  generalize hn : (P2.toList == [78, 85, 76, 76]) = nl at *
  have F0 := Lib.hid (fc0_start w 55)
  clear hcl hs hm
  go_enter Tryd.func58, Tryd.ntmps58
  go_wp2_with fail
  generalize w.alloc (.cells #[.string ⟨#[]⟩, .int .i64 0, .bool false, .bool false] 55) = W1 at *
  refine (HC1.out _ F0.out.2.2.1).mono ?_
  rintro e w1 ⟨rfl, hb1⟩
  have F1 := Lib.hid (F0.out.on hb1)
  clear F0 hb1
  go_wp2_with fail
  refine (HC2.out _ F1.out.2.2.1).mono ?_
  rintro e w2 ⟨rfl, hb2⟩
  have F2 := Lib.hid (F1.out.on hb2)
  clear F1 hb2
  go_wp2_with fail
  refine (HK.out _).mono ?_
  rintro e w3 ⟨rfl, hb3⟩
  have F3 := Lib.hid (F2.out.on hb3)
  clear F2 hb3
  obtain ⟨⟨r0, r1, r2, r3⟩, ⟨f0, f1, f2, f3⟩, hbw, hsz⟩ := F3.out
  go_wp2_with fail
  refine bodyPost_ret (v := .agg #[.string Q1, .int .i64 K, .bool y, .bool nl]) ?_ rfl ⟨by rw [HR.out], four_set hbw (w.heap.size) (Nat.le_refl _) _ _ _ _⟩
  simp [results, Tryd.results58, go_sem, r0, r1, r2, r3]
end Go.Proofs.YtlgnllnjhpihdaaDoor
