/- The walks of has, spend, Arm, Size. -/
import Derived.Test.YtjnhcanohefjiaaGreatDoorDWalk1
namespace Go.Proofs.YtjnhcanohefjiaaGreatDoor
open Go.RowKit Go.Sort Go.Maps

set_option maxHeartbeats 1000000 in
theorem has_ {w : World} {p a b : Nat} {d : Dev} {K : Nat} (h : DevIn w p a b d K) (k : Pl) :
    Calls Tryz.prog 73 #[.pointer (some ⟨p, 0, none⟩), plV k] w fun e w' => e = .returned (.bool (decide (hasD d k))) ∧ Below w.heap.size w w' := by
  obtain ⟨g, j⟩ := k
  unfold plV
  obtain ⟨W, hW⟩ : ∃ W, W = w.alloc (.cells #[.int .i64 g, .int .i64 j] 132) := ⟨_, rfl⟩
  have hB : Below w.heap.size w W := by rw [hW]; exact (Below.refl _ _).alloc (Nat.le_refl _) _
  have hD : DevIn W p a b d K := h.on hB
  have HR : Hid (∀ V, DevIn V p a b d K → Calls Tryz.prog 77 #[.pointer (some ⟨p, 0, none⟩), .int .i64 g] V fun e w' => e = .returned (.bool (decide (0 ≤ g ∧ g < d.r))) ∧ Below V.heap.size V w') := fun V hV => (hasRegion_ hV g).mono fun e w' ⟨h1, h2⟩ => ⟨h1, by rw [h2]; exact Below.refl _ _⟩
  have HL : Hid (∀ n os, DevIn (grow (redrawn W n) os) p a b d K) := fun n os => hD.on (below_regrown W n os)
  have hg : W.heap[w.heap.size]? = some (.cells #[.int .i64 g, .int .i64 j] 132 (0, 0)) := by rw [hW]; exact World.alloc_heap_new' _ _
  have c0 : W.cell? ⟨w.heap.size, 0, none⟩ = some (.int .i64 g) := cell_of hg rfl
  have c1 : W.cell? ⟨w.heap.size, 1, none⟩ = some (.int .i64 j) := cell_of hg rfl
  obtain ⟨_, d1, _⟩ := hD.cells
  have r0 := cell_regrown c0
  have r1 := cell_regrown c1
  have r2 := cell_regrown d1
  have HE : Hid (∀ x : Bool, x = decide (0 ≤ g ∧ g < d.r) → (x && (decide (j ≥ 0) && decide (j < d.s))) = decide (hasD d (g, j))) := by
    intro x hx
    rw [hx]
    unfold hasD
    by_cases h1 : 0 ≤ g <;> by_cases h2 : g < d.r <;> by_cases h3 : j ≥ 0 <;> by_cases h4 : j < d.s <;> simp [h1, h2, h3, h4]
  clear h hD hg d1 c0 c1
  have HB := Lib.hid hB
  clear hB
  generalize decide (hasD d (g, j)) = res at *
  generalize hx : decide (0 ≤ g ∧ g < d.r) = x at *
  replace HE := HE.out x rfl
  clear hx
  cases x
  · obtain rfl : false = res := by simpa using HE
    clear HE
    go_enter Tryz.func73, Tryz.ntmps73
    go_wp2_with fail
    rw [← hW]; clear hW
    refine wp_region_quiet_below (by kernel_rfl) (by kernel_rfl) ?_
    repeat (go_big_quiet_step (first | (go_at_call 77; exact Calls.regrown_of (HR.out _ (HL.out _ _)))))
    refine wpQuiet_nil ?_
    intro _ hw'
    obtain ⟨⟨dq, osq⟩, hw''⟩ := hw'
    subst hw''
    have hbq := below_step HB.out (below_regrown W dq osq)
    generalize grow (redrawn W dq) osq = W2 at *
    clear r0 r1 r2
    go_wp2
    go_ret
    exact ⟨rfl, hbq⟩
  · by_cases h3 : j ≥ 0
    · have k3 : decide (j ≥ 0) = true := decide_eq_true h3
      by_cases h4 : j < d.s
      · have k4 : decide (j < d.s) = true := decide_eq_true h4
        obtain rfl : true = res := by simpa [h3, h4] using HE
        clear HE
        generalize d.s = s at *
        go_enter Tryz.func73, Tryz.ntmps73
        go_wp2_with fail
        rw [← hW]; clear hW
        refine wp_region_quiet_below (by kernel_rfl) (by kernel_rfl) ?_
        repeat (go_big_quiet_step (first | (go_at_call 77; exact Calls.regrown_of (HR.out _ (HL.out _ _)))))
        refine wpQuiet_nil ?_
        intro _ hw'
        obtain ⟨⟨dq, osq⟩, hw''⟩ := hw'
        subst hw''
        have hbq := below_step HB.out (below_regrown W dq osq)
        generalize grow (redrawn W dq) osq = W2 at *
        clear r0 r1 r2
        go_wp2
        go_ret
        exact ⟨rfl, hbq⟩
      · have k4 : decide (j < d.s) = false := decide_eq_false h4
        obtain rfl : false = res := by simpa [h3, h4] using HE
        clear HE
        generalize d.s = s at *
        go_enter Tryz.func73, Tryz.ntmps73
        go_wp2_with fail
        rw [← hW]; clear hW
        refine wp_region_quiet_below (by kernel_rfl) (by kernel_rfl) ?_
        repeat (go_big_quiet_step (first | (go_at_call 77; exact Calls.regrown_of (HR.out _ (HL.out _ _)))))
        refine wpQuiet_nil ?_
        intro _ hw'
        obtain ⟨⟨dq, osq⟩, hw''⟩ := hw'
        subst hw''
        have hbq := below_step HB.out (below_regrown W dq osq)
        generalize grow (redrawn W dq) osq = W2 at *
        clear r0 r1 r2
        go_wp2
        go_ret
        exact ⟨rfl, hbq⟩
    · have k3 : decide (j ≥ 0) = false := decide_eq_false h3
      obtain rfl : false = res := by simpa [h3] using HE
      clear HE
      go_enter Tryz.func73, Tryz.ntmps73
      go_wp2_with fail
      rw [← hW]; clear hW
      refine wp_region_quiet_below (by kernel_rfl) (by kernel_rfl) ?_
      repeat (go_big_quiet_step (first | (go_at_call 77; exact Calls.regrown_of (HR.out _ (HL.out _ _)))))
      refine wpQuiet_nil ?_
      intro _ hw'
      obtain ⟨⟨dq, osq⟩, hw''⟩ := hw'
      subst hw''
      have hbq := below_step HB.out (below_regrown W dq osq)
      generalize grow (redrawn W dq) osq = W2 at *
      clear r0 r1 r2
      go_wp2
      go_ret
      exact ⟨rfl, hbq⟩
/-- What a device is when cells of its own block were set. -/
theorem DevIn.sets {w : World} {p a b : Nat} {d d' : Dev} {K : Nat} (h : DevIn w p a b d K) (w' : World) (hb : w'.heap[p]? = some (.cells (devC d' a b) 71 (0, 0))) (hf : ∀ k, k ≠ p → w'.heap[k]? = w.heap[k]?)
    (e1 : d'.r = d.r) (e2 : d'.s = d.s) (e3 : d'.safe = d.safe) (e4 : d'.pend = d.pend) (hl : 0 ≤ d'.left ∧ d'.left ≤ 9223372036854775807) : DevIn w' p a b d' K := by
  obtain ⟨n, D, h1, h2⟩ := h.safe
  obtain ⟨m, E, h3, h4⟩ := h.pend
  refine ⟨hb, h.ne, ⟨n, D, owns_keep h1 (hf a (Ne.symm h.pa)), by rw [e3, e4]; exact h2⟩, ⟨m, E, owns_keep h3 (hf b (Ne.symm h.pb)), by rw [e4]; exact h4⟩, ?_, by rw [e1, e2]; exact h.lim, hl, h.kl⟩
  exact ⟨by rw [e4]; exact h.ok.srt, by rw [e4]; exact h.ok.pend, by rw [e3]; exact h.ok.safe, fun x hx => by have := h.ok.wid x (e4 ▸ hx); unfold hasD at *; rw [e1, e2]; exact this⟩
/-- A write taken off those that go well. -/
def spentD (d : Dev) : Dev := { d with left := if d.armed = true ∧ d.left ≠ 0 then d.left - 1 else d.left, crashed := d.crashed || (d.armed && decide (d.left = 0)) }
set_option maxHeartbeats 1000000 in
theorem spend_ {w : World} {p a b : Nat} {d : Dev} {K : Nat} (h : DevIn w p a b d K) :
    Calls Tryz.prog 94 #[.pointer (some ⟨p, 0, none⟩)] w fun e w' => e = .returned (errV (if d.armed = true ∧ d.left = 0 then 60 else 0)) ∧ DevIn w' p a b (spentD d) K ∧ Fd p a b w w' := by
  obtain ⟨_, _, _, _, c4, c5, c6⟩ := h.cells
  have f5 : w.frozen? ⟨p, 5, none⟩ = false := frozen_of h.blk
  have f6 : w.frozen? ⟨p, 6, none⟩ = false := frozen_of h.blk
  have H := Lib.hid h
  obtain ⟨ev, hev⟩ : ∃ x, errV (if d.armed = true ∧ d.left = 0 then 60 else 0) = x := ⟨_, rfl⟩
  rw [hev]
  have HV := Lib.hid hev
  clear hev
  obtain ⟨l1, l2⟩ := h.lft
  clear h
  obtain ⟨d2, hd2⟩ : ∃ x, spentD d = x := ⟨_, rfl⟩
  rw [hd2]
  cases ha : d.armed
  · have HE : Hid (d2 = d) := by
      unfold Hid; rw [← hd2]; obtain ⟨r, s, sf, pd, ar, lf, cr⟩ := d
      simp only at ha; subst ha; simp [spentD]
    rw [ha] at c4 HV
    clear hd2
    go_enter Tryz.func94, Tryz.ntmps94
    go_wp2_with fail
    go_ret
    exact ⟨by rw [← HV.out]; simp [errV], by rw [HE.out]; exact H.out, Fd.refl _ _ _ _⟩
  · rw [ha] at c4 HV
    by_cases h0 : d.left = 0
    · have HE : Hid (d2 = { d with crashed := true }) := by unfold Hid; rw [← hd2]; unfold spentD; simp [ha, h0]
      have hb : (w.setCell ⟨p, 6, none⟩ (.bool true)).heap[p]? = some (.cells (devC { d with crashed := true } a b) 71 (0, 0)) := heap_set _ H.out.blk
      have HD : Hid (DevIn (w.setCell ⟨p, 6, none⟩ (.bool true)) p a b { d with crashed := true } K) := H.out.sets _ hb (fun k hk => heap_far _ hk) rfl rfl rfl rfl H.out.lft
      rw [h0] at c5
      rw [← HE.out] at HD
      clear hb H hd2 HE
      go_enter Tryz.func94, Tryz.ntmps94
      go_wp2_with fail
      go_ret
      exact ⟨by rw [← HV.out]; simp [errV, h0], HD.out, set_fd _ _ _ _ _ _⟩
    · have HE : Hid (d2 = { d with left := d.left - 1 }) := by unfold Hid; rw [← hd2]; unfold spentD; simp [ha, h0]
      have hb : (w.setCell ⟨p, 5, none⟩ (.int .i64 (d.left - 1))).heap[p]? = some (.cells (devC { d with left := d.left - 1 } a b) 71 (0, 0)) := heap_set _ H.out.blk
      have HD : Hid (DevIn (w.setCell ⟨p, 5, none⟩ (.int .i64 (d.left - 1))) p a b { d with left := d.left - 1 } K) := H.out.sets _ hb (fun k hk => heap_far _ hk) rfl rfl rfl rfl ⟨by show 0 ≤ d.left - 1; omega, by show d.left - 1 ≤ _; omega⟩
      rw [← HE.out] at HD
      have k0 : ((d.left : Int) == 0) = false := by simpa using h0
      clear hb H HE hd2
      have H0 := Lib.hid h0
      clear h0
      generalize d.left = lf at *
      go_enter Tryz.func94, Tryz.ntmps94
      go_wp2_with fail
      go_ret
      exact ⟨by rw [← HV.out]; simp [errV, H0.out], HD.out, set_fd _ _ _ _ _ _⟩
set_option maxHeartbeats 1000000 in
theorem arm_ {w : World} {p a b : Nat} {d : Dev} {K : Nat} (h : DevIn w p a b d K) (n : Int) (h0 : 0 ≤ n) (h1 : n ≤ 9223372036854775807) :
    Calls Tryz.prog 39 #[.pointer (some ⟨p, 0, none⟩), .int .i64 n] w fun e w' => e = .returned .nilIface ∧ DevIn w' p a b { d with armed := true, left := n } K ∧ Fd p a b w w' := by
  obtain ⟨_, _, _, _, c4, c5, c6⟩ := h.cells
  have f4 : w.frozen? ⟨p, 4, none⟩ = false := frozen_of h.blk
  have f5 : (w.setCell ⟨p, 4, none⟩ (.bool true)).frozen? ⟨p, 5, none⟩ = false := frozen_of (heap_set _ h.blk)
  have g5 : (w.setCell ⟨p, 4, none⟩ (.bool true)).cell? ⟨p, 5, none⟩ = some (.int .i64 d.left) := cell_of (heap_set _ h.blk) rfl
  have hb : ((w.setCell ⟨p, 4, none⟩ (.bool true)).setCell ⟨p, 5, none⟩ (.int .i64 n)).heap[p]? = some (.cells (devC { d with armed := true, left := n } a b) 71 (0, 0)) := heap_set _ (heap_set _ h.blk)
  have HD : Hid (DevIn ((w.setCell ⟨p, 4, none⟩ (.bool true)).setCell ⟨p, 5, none⟩ (.int .i64 n)) p a b { d with armed := true, left := n } K) := h.sets _ hb (fun k hk => by rw [heap_far _ hk, heap_far _ hk]) rfl rfl rfl rfl ⟨h0, h1⟩
  have k0 : decide (n < 0) = false := decide_eq_false (by omega)
  clear h hb
  go_enter Tryz.func39, Tryz.ntmps39
  go_wp2_with fail
  go_ret
  exact ⟨rfl, HD.out, (set_fd _ _ _ _ _ _).trans (set_fd _ _ _ _ _ _)⟩
theorem arm_bad (v : Option Addr) (n : Int) (w : World) (h : v = none ∨ n < 0) :
    Calls Tryz.prog 39 #[.pointer v, .int .i64 n] w fun e w' => e = .returned (errV 1) ∧ w' = w := by
  unfold errV
  cases v with
  | none =>
    go_enter Tryz.func39, Tryz.ntmps39
    go_wp2_with fail
    go_ret
    exact ⟨rfl, rfl⟩
  | some q =>
    have h0 : n < 0 := by simpa using h
    go_enter Tryz.func39, Tryz.ntmps39
    go_wp2_with fail
    go_ret
    exact ⟨rfl, rfl⟩
end Go.Proofs.YtjnhcanohefjiaaGreatDoor
