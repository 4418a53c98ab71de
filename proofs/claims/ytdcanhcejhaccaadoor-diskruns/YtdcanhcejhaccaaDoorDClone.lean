/- The walk of Clone. -/
import Derived.Test.YtdcanhcejhaccaaDoorDCloneM
import Derived.Test.YtdcanhcejhaccaaDoorDSync
import Derived.Test.YtdcanhcejhaccaaDoorRSync
namespace Go.Proofs.YtdcanhcejhaccaaDoor
open Go.RowKit Go.Sort Go.Maps Go.Shelf

theorem store_map {w : World} {b o : Nat} {cs : Array Value} {t : TypeId} (m : Option Nat) (h : w.heap[b]? = some (.cells cs t (0, 0))) (v : Value) (hv : cs[o]? = some v) :
    (Instr.storeAt 63 (.pointer (some ⟨b, o, none⟩)) (.map m)).run Tryd.prog w = .ok () (w.setCell ⟨b, o, none⟩ (.map m)) := by
  have q : w.cell? ⟨b, o, none⟩ = some v := cell_of h hv
  have f : w.frozen? ⟨b, o, none⟩ = false := frozen_of h
  go_simp
theorem cloneMap_ {b n : Nat} {D : DataW Unit} {w : World} (h : w.ownsMap Tryd.prog 73 ctE b n D) : Calls Tryd.prog 29 #[.map (some b)] w fun e w' => e = .returned (.map (some w.heap.size)) ∧ w'.ownsMap Tryd.prog 73 ctE w.heap.size n D ∧ w'.ownsMap Tryd.prog 73 ctE b n D ∧ Below w.heap.size w w' :=
  AnyW.maps_Clone_owns Tryd.cloneM 73 ctE b n D w h
/-- What Clone leaves. -/
def ClonedTo (w : World) (p aa bb : Nat) (d : Dev) (K : Nat) (e : Ending) (w' : World) : Prop :=
  ∃ c a' b', e = .returned (.pointer (some ⟨c, 0, none⟩)) ∧ DevIn w' c a' b' d K ∧ DevIn w' p aa bb d K ∧ (w.heap.size ≤ c ∧ w.heap.size ≤ a' ∧ w.heap.size ≤ b') ∧ Below w.heap.size w w'
set_option maxRecDepth 100000 in
set_option maxHeartbeats 4000000 in
theorem clone_ {w : World} {p aa bb : Nat} {d : Dev} {K : Nat} (h : DevIn w p aa bb d K) :
    Calls Tryd.prog 15 #[.pointer (some ⟨p, 0, none⟩)] w (ClonedTo w p aa bb d K) := by
  have hcells := h.blk
  unfold devC at hcells
  have H := Lib.hid h
  obtain ⟨W, hW⟩ : ∃ W, W = w.alloc (.cells #[.int .i64 d.r, .int .i64 d.s, .map (some aa), .map (some bb), .bool d.armed, .int .i64 d.left, .bool d.crashed] 65) := ⟨_, rfl⟩
  have hB : Below w.heap.size w W := by rw [hW]; exact below_alloc w _
  have hg : W.heap[w.heap.size]? = some (.cells (devC d aa bb) 65 (0, 0)) := by rw [hW]; exact alloc_at w _
  have hsW : W.heap.size = w.heap.size + 1 := by rw [hW]; simp
  have hD := h.on hB
  obtain ⟨c0, c1, c2, c3, c4, c5, c6⟩ := h.cells
  obtain ⟨n, D, s1, s2, s3⟩ := hD.safe
  obtain ⟨m, E, t1, t2, t3⟩ := hD.pend
  have lts := h.lts
  have HA := Lib.hid (And.intro hg (And.intro hB (And.intro hsW hD)))
  have HS := Lib.hid (And.intro s1 (And.intro s2 s3))
  have HT := Lib.hid (And.intro t1 (And.intro t2 t3))
  have F2 : Hid (∀ V, W.grownBy V (some w.heap.size) → V.cell? ⟨p, 2, none⟩ = some (.map (some aa))) := fun V hV => grown_cell hV hD.cells.2.2.1 (by omega)
  have F3 : Hid (∀ V, W.grownBy V (some w.heap.size) → V.cell? ⟨p, 3, none⟩ = some (.map (some bb))) := fun V hV => grown_cell hV hD.cells.2.2.2.1 (by omega)
  have HW := Lib.hid hW
  clear h hcells hB hg hsW hD s1 s2 s3 t1 t2 t3 hW
  generalize d.r = r at *
  generalize d.s = s at *
  generalize d.armed = ar at *
  generalize d.left = lf at *
  generalize d.crashed = cr at *
  go_enter Tryd.func15, Tryd.ntmps15
  go_wp2_with fail
  rw [← HW.out]
  clear HW c0 c1 c2 c3 c4 c5 c6
  refine wp_region_noPanic ?_
  refine wp_region_held_drew (S := fun V => W.grownBy V (some w.heap.size)) (by kernel_rfl) (grown_drew _ _) (fun hHeld => ?_)
  refine take_at 0 (.pointer (some ⟨p, 0, none⟩)) rfl (by kernel_rfl) (by kernel_rfl) (by kernel_rfl) (fun _ _ _ h => h) (Or.inl ⟨by rfl, ?_⟩) (by assumption) ?_
  · intro V hSV; go_simp
  simp only [Act.put, List.setIfInBounds_toArray, List.set_cons_zero, List.set_cons_succ]
  refine take_at 1 (.pointer (some ⟨p, 0, none⟩)) rfl (by kernel_rfl) (by kernel_rfl) (by kernel_rfl) (fun _ _ _ h => h) (Or.inl ⟨by rfl, ?_⟩) (by assumption) ?_
  · intro V hSV; go_simp
  simp only [Act.put, List.setIfInBounds_toArray, List.set_cons_zero, List.set_cons_succ]
  refine take_at 2 (.pointer (some ⟨p, 2, none⟩)) rfl (by kernel_rfl) (by kernel_rfl) (by kernel_rfl) (fun _ _ _ h => h) (Or.inl ⟨by rfl, ?_⟩) (by assumption) ?_
  · intro V hSV; go_simp
  simp only [Act.put, List.setIfInBounds_toArray, List.set_cons_zero, List.set_cons_succ]
  refine take_at 3 (.map (some aa)) rfl (by kernel_rfl) (by kernel_rfl) (by kernel_rfl) (fun _ _ _ h => h) (Or.inl ⟨by rfl, ?_⟩) (by assumption) ?_
  · intro V hSV; have e0 := F2.out V hSV; go_simp
  simp only [Act.put, List.setIfInBounds_toArray, List.set_cons_zero, List.set_cons_succ]
  refine take_at 5 (.pointer (some ⟨p, 0, none⟩)) rfl (by kernel_rfl) (by kernel_rfl) (by kernel_rfl) (fun _ _ _ h => h) (Or.inl ⟨by rfl, ?_⟩) (by assumption) ?_
  · intro V hSV; go_simp
  simp only [Act.put, List.setIfInBounds_toArray, List.set_cons_zero, List.set_cons_succ]
  refine take_at 6 (.pointer (some ⟨p, 0, none⟩)) rfl (by kernel_rfl) (by kernel_rfl) (by kernel_rfl) (fun _ _ _ h => h) (Or.inl ⟨by rfl, ?_⟩) (by assumption) ?_
  · intro V hSV; go_simp
  simp only [Act.put, List.setIfInBounds_toArray, List.set_cons_zero, List.set_cons_succ]
  refine take_at 7 (.pointer (some ⟨p, 3, none⟩)) rfl (by kernel_rfl) (by kernel_rfl) (by kernel_rfl) (fun _ _ _ h => h) (Or.inl ⟨by rfl, ?_⟩) (by assumption) ?_
  · intro V hSV; go_simp
  simp only [Act.put, List.setIfInBounds_toArray, List.set_cons_zero, List.set_cons_succ]
  refine take_at 8 (.map (some bb)) rfl (by kernel_rfl) (by kernel_rfl) (by kernel_rfl) (fun _ _ _ h => h) (Or.inl ⟨by rfl, ?_⟩) (by assumption) ?_
  · intro V hSV; have e0 := F3.out V hSV; go_simp
  simp only [Act.put, List.setIfInBounds_toArray, List.set_cons_zero, List.set_cons_succ]
  have HC1 := Lib.hid (cloneMap_ HS.out.1.drew)
  refine wpAnyH_ready (rs := [4]) (by kernel_rfl) (by simp) ?_
  refine AllReadyH.cons rfl (fun KK hK => ?_) AllReadyH.nil
  go_simp
  go_wp2_with (first | (go_at_call 29; refine HC1.out.mono ?_; rintro e V1 ⟨rfl, o1, o2, b1⟩))
  refine hK.out _ _ ?_ (fun hHeld4 => ?_)
  · exact grown_below (by assumption) b1
  clear hK KK
  have hb1 : Below W.heap.size W V1 := below_step (below_drew _) b1
  have HC2 := Lib.hid (cloneMap_ (owns_keep HT.out.1 (hb1.block bb HT.out.1.lt)))
  have HO1 := Lib.hid (And.intro o1 hb1)
  clear o1 o2 b1 hb1 HC1
  refine wpAnyH_ready (rs := [9]) (by kernel_rfl) (by simp) ?_
  refine AllReadyH.cons rfl (fun KK hK => ?_) AllReadyH.nil
  go_simp
  go_wp2_with (first | (go_at_call 29; refine HC2.out.mono ?_; rintro e V2 ⟨rfl, o3, o4, b2⟩))
  refine hK.out _ _ ?_ (fun hHeld9 => ?_)
  · exact grown_below (by assumption) b2
  clear hK KK
  have hb2 : Below W.heap.size W V2 := below_step HO1.out.2 b2
  have hg2 : V2.heap[w.heap.size]? = some (.cells (devC d aa bb) 65 (0, 0)) := (hb2.block _ (by have := HA.out.2.2.1; omega)).trans HA.out.1
  have hst1 := store_map (o := 2) (some W.heap.size) hg2 (.map (some aa)) rfl
  have hg3 := heap_set (o := 2) (.map (some W.heap.size)) hg2
  have hst2 := store_map (o := 3) (some V1.heap.size) hg3 (.map (some bb)) rfl
  have hg4 := heap_set (o := 3) (.map (some V1.heap.size)) hg3
  have hsW := HA.out.2.2.1
  have hV1 : W.heap.size < V1.heap.size := by
    have := HO1.out.1.lt
    simpa using this
  have HE : Hid (ClonedTo w p aa bb d K (.returned (.pointer (some ⟨w.heap.size, 0, none⟩))) ((V2.setCell ⟨w.heap.size, 2, none⟩ (.map (some W.heap.size))).setCell ⟨w.heap.size, 3, none⟩ (.map (some V1.heap.size)))) := by
    have hfar : ∀ k, k ≠ w.heap.size → ((V2.setCell ⟨w.heap.size, 2, none⟩ (.map (some W.heap.size))).setCell ⟨w.heap.size, 3, none⟩ (.map (some V1.heap.size))).heap[k]? = V2.heap[k]? := fun k hk => (heap_far _ hk).trans (heap_far _ hk)
    have hdo := HA.out.2.2.2
    refine ⟨w.heap.size, W.heap.size, V1.heap.size, rfl, ⟨hg4, by omega, ⟨n, D, ?_, HS.out.2.1, HS.out.2.2⟩, ⟨m, E, ?_, HT.out.2.1, HT.out.2.2⟩, hdo.ok, hdo.lim, hdo.lft, hdo.kl⟩, ?_, by omega, ?_⟩
    · exact owns_keep HO1.out.1 ((hfar _ (by show W.heap.size ≠ _; omega)).trans (b2.block _ HO1.out.1.lt))
    · exact owns_keep o3 (hfar _ (by omega))
    · exact (hdo.on hb2).keep (hfar _ (by omega)) (hfar _ (by omega)) (hfar _ (by omega))
    · exact below_set (below_set (below_step HA.out.2.1 hb2) (Nat.le_refl _) _) (Nat.le_refl _) _
  have hS3 : W.grownBy (V2.setCell ⟨w.heap.size, 2, none⟩ (.map (some W.heap.size))) (some w.heap.size) := ⟨hHeld9.os, hHeld9.tape, hHeld9.output, by simpa [World.setCell] using hHeld9.size, fun k hk hne => (heap_far _ (fun e => hne (by rw [e]))).trans (hHeld9.block k hk hne)⟩
  have hS4 : W.grownBy ((V2.setCell ⟨w.heap.size, 2, none⟩ (.map (some W.heap.size))).setCell ⟨w.heap.size, 3, none⟩ (.map (some V1.heap.size))) (some w.heap.size) := ⟨hS3.os, hS3.tape, hS3.output, by simpa [World.setCell] using hS3.size, fun k hk hne => (heap_far _ (fun e => hne (by rw [e]))).trans (hS3.block k hk hne)⟩
  clear o3 o4 b2 hb2 hg2 hg3 hg4 HC2
  refine take_at 10 (.pointer (some ⟨w.heap.size, 2, none⟩)) rfl (by kernel_rfl) (by kernel_rfl) (by kernel_rfl) (fun _ _ _ h => h) (Or.inl ⟨by rfl, ?_⟩) (by assumption) ?_
  · intro V hSV; go_simp
  simp only [Act.put, List.setIfInBounds_toArray, List.set_cons_zero, List.set_cons_succ]
  refine ready_store 11 rfl (by kernel_rfl) (by rfl) 63 _ _ (by rfl) _ _ (by rfl) (by rfl) hst1 hS3 ?_
  refine take_at 12 (.pointer (some ⟨w.heap.size, 3, none⟩)) rfl (by kernel_rfl) (by kernel_rfl) (by kernel_rfl) (fun _ _ _ h => h) (Or.inl ⟨by rfl, ?_⟩) (by assumption) ?_
  · intro V hSV; go_simp
  simp only [Act.put, List.setIfInBounds_toArray, List.set_cons_zero, List.set_cons_succ]
  refine ready_store 13 rfl (by kernel_rfl) (by rfl) 63 _ _ (by rfl) _ _ (by rfl) (by rfl) hst2 hS4 ?_
  refine wpAnyH_done (by kernel_rfl) ?_ _
  refine NoPanic.normal ?_
  clear hst1 hst2 hS3 hS4 hHeld hHeld4 hHeld9 hsW hV1
  go_wp2_with fail
  go_ret
  exact HE.out
end Go.Proofs.YtdcanhcejhaccaaDoor
