/- The walks of New, hasRegion, has, filled, spend, Arm, Crashed, Size. -/
import Derived.Test.YtjnhcanohefjiaaGreatDoorDDev
namespace Go.Proofs.YtjnhcanohefjiaaGreatDoor
open Go.RowKit Go.Sort Go.Maps

theorem below_two (w : World) (o o' : Obj) : Below w.heap.size w ((w.alloc o).alloc o') := ((Below.refl _ _).alloc (Nat.le_refl _) _).alloc (by simp) _
theorem heap_two (w : World) (o o' : Obj) : ((w.alloc o).alloc o').heap[w.heap.size + 1]? = some o' ∧ ((w.alloc o).alloc o').heap[w.heap.size]? = some o := by
  constructor
  · have := World.alloc_heap_new' (w.alloc o) o'
    simpa using this
  · show ((w.heap.push o).push o')[w.heap.size]? = some o
    simp [Array.getElem?_push]
theorem new_dev (w : World) (r s : Int) (h : 1 ≤ r ∧ r ≤ 16 ∧ 1 ≤ s ∧ s ≤ 16384) :
    DevIn (((w.alloc (.map #[] 0)).alloc (.map #[] 0)).alloc (.cells #[.int .i64 r, .int .i64 s, .map (some w.heap.size), .map (some (w.heap.size + 1)), .bool false, .int .i64 0, .bool false] 71)) (w.heap.size + 2) w.heap.size (w.heap.size + 1) (newD r s) 0 := by
  have e : ((w.alloc (.map #[] 0)).alloc (.map #[] 0)).heap.size = w.heap.size + 2 := by simp
  have o1 := (World.ownsMap_made w Tryz.prog 132 ctE).alloc (.map #[] 0)
  have o2 := World.ownsMap_made (w.alloc (.map #[] 0)) Tryz.prog 132 ctE
  rw [World.size_alloc] at o2
  refine ⟨?_, by omega, ⟨0, _, o1.alloc _, SafeIs.nil, Nat.le_refl _⟩, ⟨0, _, o2.alloc _, PendIs.nil, Nat.le_refl _⟩, okD_new r s, h, ⟨by show (0 : Int) ≤ 0; omega, by show (0 : Int) ≤ _; omega⟩, by omega⟩
  rw [← e]
  exact World.alloc_heap_new' _ _
set_option maxHeartbeats 1000000 in
theorem new_ (r s : Int) (w : World) (h : 1 ≤ r ∧ r ≤ 16 ∧ 1 ≤ s ∧ s ≤ 16384) :
    Calls Tryz.prog 5 #[.int .i64 r, .int .i64 s] w fun e w' => e = .returned (.tuple #[pt (w.heap.size + 2), .nilIface]) ∧ Below w.heap.size w w' ∧ DevIn w' (w.heap.size + 2) w.heap.size (w.heap.size + 1) (newD r s) 0 := by
  have h1 : decide (r < 1) = false := decide_eq_false (by omega)
  have h2 : decide (r > 16) = false := decide_eq_false (by omega)
  have h3 : decide (s < 1) = false := decide_eq_false (by omega)
  have h4 : decide (s > 16384) = false := decide_eq_false (by omega)
  have hmm := @run_makeMap Tryz.prog
  have HL := Lib.hid h
  clear h
  go_enter Tryz.func5, Tryz.ntmps5
  go_wp2_with fail
  go_ret2
  exact ⟨rfl, (below_two w _ _).alloc (by simp; omega) _, new_dev w r s HL.out⟩
set_option maxHeartbeats 1000000 in
theorem new_bad (r s : Int) (w : World) (h : ¬ (1 ≤ r ∧ r ≤ 16 ∧ 1 ≤ s ∧ s ≤ 16384)) :
    Calls Tryz.prog 5 #[.int .i64 r, .int .i64 s] w fun e w' => e = .returned (.tuple #[.pointer none, errV 1]) ∧ w' = w := by
  unfold errV
  by_cases h1 : r < 1
  · go_enter Tryz.func5, Tryz.ntmps5
    go_wp2_with fail
    go_ret2
    exact ⟨rfl, rfl⟩
  · by_cases h2 : r > 16
    · go_enter Tryz.func5, Tryz.ntmps5
      go_wp2_with fail
      go_ret2
      exact ⟨rfl, rfl⟩
    · by_cases h3 : s < 1
      · go_enter Tryz.func5, Tryz.ntmps5
        go_wp2_with fail
        go_ret2
        exact ⟨rfl, rfl⟩
      · have h4 : s > 16384 := by omega
        go_enter Tryz.func5, Tryz.ntmps5
        go_wp2_with fail
        go_ret2
        exact ⟨rfl, rfl⟩
set_option maxHeartbeats 1000000 in
theorem hasRegion_ {w : World} {p a b : Nat} {d : Dev} {K : Nat} (h : DevIn w p a b d K) (g : Int) :
    Calls Tryz.prog 77 #[.pointer (some ⟨p, 0, none⟩), .int .i64 g] w fun e w' => e = .returned (.bool (decide (0 ≤ g ∧ g < d.r))) ∧ w' = w := by
  obtain ⟨c0, _⟩ := h.cells
  clear h
  generalize d.r = r at *
  by_cases h1 : 0 ≤ g
  · have k1 : decide (g ≥ 0) = true := decide_eq_true h1
    by_cases h2 : g < r
    · have k2 : decide (g < r) = true := decide_eq_true h2
      go_enter Tryz.func77, Tryz.ntmps77
      go_wp2_with fail
      go_ret
      exact ⟨ret_bool (decide_eq_true ⟨h1, h2⟩).symm, rfl⟩
    · have k2 : decide (g < r) = false := decide_eq_false h2
      go_enter Tryz.func77, Tryz.ntmps77
      go_wp2_with fail
      go_ret
      exact ⟨rfl, rfl⟩
  · have k1 : decide (g ≥ 0) = false := decide_eq_false h1
    go_enter Tryz.func77, Tryz.ntmps77
    go_wp2_with fail
    go_ret
    exact ⟨rfl, rfl⟩
theorem hasRegion_nil (g : Int) (w : World) :
    Calls Tryz.prog 77 #[.pointer none, .int .i64 g] w fun e w' => e = .returned (.bool false) ∧ w' = w := by
  go_enter Tryz.func77, Tryz.ntmps77
  go_wp2_with fail
  go_ret
  exact ⟨rfl, rfl⟩
theorem fill_splice (xs : List Nat) : splice (vals zeroC) 0 (vals xs) = vals (fillC xs) := by
  simp only [splice, List.take_zero, List.nil_append, Nat.zero_add, vals_len, fillC, ← vals_append, zeroC]
  congr 1
  simp only [vals, List.map_replicate, List.drop_replicate]
theorem fill_len {xs : List Nat} (h : xs.length ≤ 64) : (fillC xs).length = 64 := by simp [fillC]; omega
theorem zero_len : zeroC.length = 64 := by simp [zeroC]
set_option maxRecDepth 100000 in
set_option maxHeartbeats 1000000 in
theorem filled_ (a : Option Addr) (xs : List Nat) (n c : Nat) (w : World) (h : BytesIn w a xs) (hn : xs.length = n) (h64 : n ≤ 64) :
    Calls Tryz.prog 93 #[.slice a n c] w fun e w' => e = .returned (ctV (fillC xs)) ∧ Below w.heap.size w w' := by
  have hz := (zero_of_info infoC).1
  rw [zero_vals] at hz
  obtain ⟨o, ho⟩ : ∃ o : Obj, o = .cells (vals zeroC).toArray 137 := ⟨_, rfl⟩
  have HB : Hid (BytesIn ((w.alloc o).alloc o) a xs) := h.on (below_two w o o)
  have HG1 : Hid (((w.alloc o).alloc o).heap[w.heap.size + 1]? = some (.cells (vals zeroC).toArray 137 (0, 0))) := by rw [ho]; exact (heap_two w _ _).1
  have HG0 : Hid (((w.alloc o).alloc o).heap[w.heap.size]? = some (.cells (vals zeroC).toArray 137 (0, 0))) := by rw [ho]; exact (heap_two w _ _).2
  have Hb := Lib.hid (below_two w o o)
  have Hs : Hid (((w.alloc o).alloc o).heap.size = w.heap.size + 2) := by simp [Hid]
  have HN := Lib.hid hn
  clear h hn
  go_enter Tryz.func93, Tryz.ntmps93
  go_wp2_with (first
    | (rw [← ho]; refine wpList_copy_splice rfl _ _ 53 53 rfl 5 Tryz.underlying53 sizeB _ a 64 64 n c rfl rfl (w.heap.size + 1) 0 (vals zeroC) 137 HG1.out (vals xs) (by rw [vals_len, HN.out]; exact (Nat.min_eq_left h64).symm) (fun hp => ⟨rfl, ?_⟩) (by rw [vals_len, vals_len, HN.out, zero_len]; omega) (vals_one xs) (w.heap.size + 1) _ (Below.refl _ _) (Nat.le_refl _) ?_)
    | fail)
  · rw [vals_len] at hp
    obtain ⟨bb, oo, rfl, _⟩ := HB.out 0 hp
    exact ⟨_, rfl, HB.out.news⟩
  · intro w2 HG2 hB2
    rw [← ho] at hB2
    rw [fill_splice xs] at HG2
    have hg0 : CtAt w2 w.heap.size zeroC := (hB2.block _ (by omega)).trans HG0.out
    have hl := load_ct HG2.out (fill_len (by rw [HN.out]; exact h64))
    have hs := store_ct hg0 zero_len (fill_len (by rw [HN.out]; exact h64))
    have HE : Hid (CtAt (w2.setRow w.heap.size (vals (fillC xs)).toArray) w.heap.size (fillC xs) ∧ Below w.heap.size w (w2.setRow w.heap.size (vals (fillC xs)).toArray)) :=
      ⟨hg0.set _, below_setRow (Hb.out.trans (hB2.mono (Nat.le_succ _))) (Nat.le_refl _) _⟩
    clear hg0 HG2 hB2 HG1 HG0 HB Hb Hs hz
    go_wp2_with (first | (refine wpList_load_at rfl 137 _ rfl _ _ rfl hl ?_) | (refine wpList_store_at rfl 137 _ _ rfl _ _ rfl rfl hs ?_) | fail)
    refine bodyPost_ret (v := ctV (fillC xs)) ?_ rfl ⟨rfl, HE.out.2⟩
    rw [results_cell rfl]
    simp [asAddr, Result.andThen, Act.put, loadVar_ct HE.out.1 (fill_len (by rw [HN.out]; exact h64))]
end Go.Proofs.YtjnhcanohefjiaaGreatDoor
