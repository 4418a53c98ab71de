/- The walk of table's columnText. -/
import Derived.Test.YtlgnllnjhpihdaaDoorTbOwn
namespace Go.Proofs.YtlgnllnjhpihdaaDoor
open Go.RowKit Go.Sort

theorem ofL_size (l : List UInt8) : (ofL l).size = l.length := by rw [size_lst, lst_ofL]
theorem kindS_size (k : Int) : (kindS k).size ≤ 4 := by
  unfold kindS
  split
  · decide
  split
  · decide
  split
  · decide
  split
  · decide
  · decide
theorem colT_key {nm : ByteArray} {k : Int} {nl : Bool} (hk : k = 1 ∨ k = 2 ∨ k = 3) : ofL (colT ⟨nm, k, true, nl⟩) = nm ++ ⟨#[32]⟩ ++ kindS k ++ ⟨#[32]⟩ ++ ⟨#[75, 69, 89]⟩ := by
  apply ba_ext
  simp only [ba_append, kindS_W hk, colT, lst, ofL, if_true, List.append_assoc]
  simp
theorem colT_null {nm : ByteArray} {k : Int} (hk : k = 1 ∨ k = 2 ∨ k = 3) : ofL (colT ⟨nm, k, false, true⟩) = nm ++ ⟨#[32]⟩ ++ kindS k ++ ⟨#[32]⟩ ++ ⟨#[78, 85, 76, 76]⟩ := by
  apply ba_ext
  simp only [ba_append, kindS_W hk, colT, lst, ofL, if_true, List.append_assoc]
  simp
theorem colT_no {nm : ByteArray} {k : Int} (hk : k = 1 ∨ k = 2 ∨ k = 3) : ofL (colT ⟨nm, k, false, false⟩) = nm ++ ⟨#[32]⟩ ++ kindS k := by
  apply ba_ext
  simp only [ba_append, kindS_W hk, colT, lst, ofL]
  simp
theorem colT_len {c : Col} (h : RightC c) : (colT c).length ≤ 42 := by
  have h1 := (name_ok h.nm).2.1
  have h2 : (kindW c.k).length ≤ 4 := by rcases h.k with e | e | e <;> rw [e] <;> decide
  unfold colT
  simp only [List.length_append, List.length_cons]
  split
  · simp; omega
  split
  · simp; omega
  · simp; omega
set_option maxHeartbeats 1000000 in
theorem columnText_ (nm : ByteArray) (k : Int) (y nl : Bool) (w : World) (hr : RightC ⟨nm, k, y, nl⟩) :
    Calls Tryd.prog 29 #[.agg #[.string nm, .int .i64 k, .bool y, .bool nl]] w fun e w' => e = .returned (.string (ofL (colT ⟨nm, k, y, nl⟩))) ∧ Below w.heap.size w w' := by
  have hs : nm.size ≤ 32 := by rw [size_lst]; exact (name_ok hr.nm).2.1
  have hks := kindS_size k
  have HB := Lib.hid (below_alloc1 w (.cells #[.string nm, .int .i64 k, .bool y, .bool nl] 55))
  obtain ⟨r0, r1, r2, r3⟩ := inC_new w ⟨nm, k, y, nl⟩ 55
  simp only at r0 r1 r2 r3
  have HT1 : Hid (∀ nl', ofL (colT ⟨nm, k, true, nl'⟩) = nm ++ ⟨#[32]⟩ ++ kindS k ++ ⟨#[32]⟩ ++ ⟨#[75, 69, 89]⟩) := fun _ => colT_key hr.k
  have HT2 := Lib.hid (colT_null (nm := nm) hr.k)
  have HT3 := Lib.hid (colT_no (nm := nm) hr.k)
  have HK : Hid (∀ W, Calls Tryd.prog 43 #[.int .i64 k] W fun e w' => e = .returned (.string (kindS k)) ∧ Below W.heap.size W w') := fun W => kind_ k W
  have HR := Lib.hid hr
  generalize kindS k = K at *
  have hT : (nm ++ ⟨#[32]⟩ : ByteArray).size ≤ 33 := by
    have : (⟨#[32]⟩ : ByteArray).size = 1 := rfl
    rw [ByteArray.size_append]; omega
  have hT2 : (nm ++ ⟨#[32]⟩ ++ K : ByteArray).size ≤ 37 := by
    rw [ByteArray.size_append]; omega
  have hT3 : (nm ++ ⟨#[32]⟩ ++ K ++ ⟨#[32]⟩ : ByteArray).size ≤ 38 := by
    have : (⟨#[32]⟩ : ByteArray).size = 1 := rfl
    rw [ByteArray.size_append]; omega
  clear hr
  cases y <;> cases nl
  all_goals
    go_enter Tryd.func29, Tryd.ntmps29
    go_wp2_with fail
    have HBd := Lib.hid HB.out
    generalize w.alloc (.cells #[.string nm, .int .i64 k, .bool _, .bool _] 55) = V at *
    have k0 := cell_regrown r0
    have k1 := cell_regrown r1
    refine wp_region_quiet_below (by kernel_rfl) (by kernel_rfl) ?_
    repeat (go_big_quiet_step (first | (go_at_call 43; exact Calls.regrown_of (HK.out _))))
    refine wpQuiet_nil ?_
    intro _ hw'
    obtain ⟨⟨dq, osq⟩, hw''⟩ := hw'
    subst hw''
    have HB3 := Lib.hid (below_step HB.out (below_regrown V dq osq))
    have l2 := (below_regrown V dq osq).cell (block_lt_of_cell r2) |>.trans r2
    have l3 := (below_regrown V dq osq).cell (block_lt_of_cell r3) |>.trans r3
    generalize grow (redrawn V dq) osq = W2 at *
    clear k0 k1 r0 r1 r2 r3
    go_wp2_with fail
    go_ret
    refine ⟨?_, HB3.out⟩
    first | (rw [HT1.out]; rfl) | (rw [HT2.out]; rfl) | (rw [HT3.out]; rfl)
end Go.Proofs.YtlgnllnjhpihdaaDoor
