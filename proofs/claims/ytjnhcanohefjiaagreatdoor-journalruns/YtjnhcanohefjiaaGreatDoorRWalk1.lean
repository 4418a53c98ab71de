/- The walks of the document's New, has and filled. -/
import Derived.Test.YtjnhcanohefjiaaGreatDoorRMem
import Derived.Lib.BufferWrite
namespace Go.Proofs.YtjnhcanohefjiaaGreatDoor
open Go.RowKit Go.Sort Go.Maps

set_option maxRecDepth 100000 in
set_option maxHeartbeats 1000000 in
theorem rnew_ (r s : Int) (w : World) (h : 1 ≤ r ∧ r ≤ 16 ∧ 1 ≤ s ∧ s ≤ 16384) :
    Calls Tryz.prog 6 #[.int .i64 r, .int .i64 s] w fun e w' => e = .returned (.tuple #[rdV (newR r s) none 0, .int .i64 0]) ∧ Below w.heap.size w w' := by
  have h1 : decide (r < 1) = false := decide_eq_false (by omega)
  have h2 : decide (r > 16) = false := decide_eq_false (by omega)
  have h3 : decide (s < 1) = false := decide_eq_false (by omega)
  have h4 : decide (s > 16384) = false := decide_eq_false (by omega)
  clear h
  unfold rdV rdC newR
  go_enter Tryz.func6, Tryz.ntmps6
  go_wp2_with fail
  exact bodyPost_ret (results_rd rfl _ _ w.heap.size _ _ rfl rfl (alloc_at w _) rfl) rfl ⟨rfl, below_alloc w _⟩
set_option maxHeartbeats 1000000 in
theorem rhas_ (r s lf : Int) (v : Value) (cr ar : Bool) (g j : Int) (w : World) :
    Calls Tryz.prog 55 #[.agg #[.int .i64 r, .int .i64 s, v, .bool cr, .bool ar, .int .i64 lf], .int .i64 g, .int .i64 j] w fun e w' => e = .returned (.bool (decide (0 ≤ g ∧ g < r ∧ 0 ≤ j ∧ j < s))) ∧ Below w.heap.size w w' := by
  have HB := Lib.hid (below_alloc w (.cells #[.int .i64 r, .int .i64 s, v, .bool cr, .bool ar, .int .i64 lf] 33))
  by_cases h1 : 0 ≤ g
  · have k1 : decide (g ≥ 0) = true := decide_eq_true h1
    by_cases h2 : g < r
    · have k2 : decide (g < r) = true := decide_eq_true h2
      by_cases h3 : 0 ≤ j
      · have k3 : decide (j ≥ 0) = true := decide_eq_true h3
        by_cases h4 : j < s
        · have k4 : decide (j < s) = true := decide_eq_true h4
          rw [decide_eq_true ⟨h1, h2, h3, h4⟩]
          go_enter Tryz.func55, Tryz.ntmps55
          go_wp2_with fail
          go_ret
          exact ⟨rfl, HB.out⟩
        · have k4 : decide (j < s) = false := decide_eq_false h4
          rw [decide_eq_false (fun e => h4 e.2.2.2)]
          go_enter Tryz.func55, Tryz.ntmps55
          go_wp2_with fail
          go_ret
          exact ⟨rfl, HB.out⟩
      · have k3 : decide (j ≥ 0) = false := decide_eq_false h3
        rw [decide_eq_false (fun e => h3 e.2.2.1)]
        go_enter Tryz.func55, Tryz.ntmps55
        go_wp2_with fail
        go_ret
        exact ⟨rfl, HB.out⟩
    · have k2 : decide (g < r) = false := decide_eq_false h2
      rw [decide_eq_false (fun e => h2 e.2.1)]
      go_enter Tryz.func55, Tryz.ntmps55
      go_wp2_with fail
      go_ret
      exact ⟨rfl, HB.out⟩
  · have k1 : decide (g ≥ 0) = false := decide_eq_false h1
    rw [decide_eq_false (fun e => h1 e.1)]
    go_enter Tryz.func55, Tryz.ntmps55
    go_wp2_with fail
    go_ret
    exact ⟨rfl, HB.out⟩
theorem byteCells_bs {xs : List Nat} (h : ∀ x ∈ xs, x < 256) : Lib.byteCells (bs xs).data.toList = vals xs := by
  unfold Lib.byteCells bs vals
  simp only [List.map_map]
  refine List.map_congr_left fun x hx => ?_
  have := h x hx
  simp [Nat.mod_eq_of_lt this]
set_option maxRecDepth 100000 in
theorem copy_bs {w : World} {g : Nat} {xs : List Nat} (ty : TypeId) (hg : w.heap[g]? = some (.cells (vals zeroC).toArray 5 (0, 0))) (hx : ∀ x ∈ xs, x < 256) (hl : xs.length ≤ 64) :
    (Builtin.copy_ #[53, 9] ty #[.slice (some ⟨g, 0, none⟩) 64 64, .string (bs xs)]).run Tryz.prog w = .ok (goInt xs.length) (w.setRow g (vals (fillC xs)).toArray) := by
  have := Lib.run_copy_row_string (P := Tryz.prog) w 53 9 ty 5 g 0 64 64 (bs xs) _ 5 Tryz.underlying53 sizeB hg (by rw [bs_size]; exact hl) (by rw [bs_size, List.size_toArray, vals_len, zero_len]; omega)
  rw [this, byteCells_bs hx, bs_size, ← fill_splice xs]
  congr 2
  simp [splice, vals_len]
set_option maxRecDepth 100000 in
set_option maxHeartbeats 1000000 in
theorem rfilled_ (xs : List Nat) (w : World) (hx : ∀ x ∈ xs, x < 256) (hl : xs.length ≤ 64) :
    Calls Tryz.prog 57 #[.string (bs xs)] w fun e w' => e = .returned (.string (bs (fillC xs))) ∧ Below w.heap.size w w' := by
  obtain ⟨i0, hi0, hz0, hz1, hz2⟩ := info_parts infoB
  have HC : Hid (∀ (W : World) (ty : TypeId), W.heap[w.heap.size]? = some (.cells (vals zeroC).toArray 5 (0, 0)) → (Builtin.copy_ #[53, 9] ty #[.slice (some ⟨w.heap.size, 0, none⟩) 64 64, .string (bs xs)]).run Tryz.prog W = .ok (goInt xs.length) (W.setRow w.heap.size (vals (fillC xs)).toArray)) := fun W ty hW => copy_bs ty hW hx hl
  have HF := Lib.hid (fill_len hl)
  generalize bs xs = sx at *
  generalize xs.length = nx at *
  clear hx hl
  go_enter Tryz.func57, Tryz.ntmps57
  go_wp2_with (first
    | (at_make; refine wpList_make_full _ rfl _ _ 53 rfl w.heap.size 5 i0 (.int .u8 0) 1 Tryz.underlying53 hi0 hz0 hz1 .i64 .i64 _ _ 64 rfl rfl rfl rfl (by rw [hz2]; omega) (by unfold maxLen; omega) (Nat.le_refl _) ?_
       intro W3 hown3 hgrow3
       have hb3 := Lib.hid (made_block hown3)
       have hB3 : Hid (Below w.heap.size w W3) := below_grown_none hgrow3
       have hcp := HC.out W3 3 hb3.out
       have hg4 := Lib.hid (setRow_heap W3 w.heap.size _ (vals (fillC xs)).toArray 5 (0, 0) hb3.out)
       have hB4 := Lib.hid (below_setRow hB3.out (Nat.le_refl _) (vals (fillC xs)).toArray)
       have hcv : (convert 53 9 (.slice (some ⟨w.heap.size, 0, none⟩) 64 64)).run Tryz.prog (W3.setRow w.heap.size (vals (fillC xs)).toArray) = .ok (.string (bs (fillC xs))) (W3.setRow w.heap.size (vals (fillC xs)).toArray) := conv_ _ _ 64 64 _ HF.out.symm (ct_bytes 5 hg4.out)
       clear hown3 hgrow3 hb3 hB3
       generalize W3.setRow w.heap.size (vals (fillC xs)).toArray = W4 at *)
    | fail)
  go_ret
  exact ⟨rfl, hB4.out⟩
end Go.Proofs.YtjnhcanohefjiaaGreatDoor
