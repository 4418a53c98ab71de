/- The walk of Read. -/
import Derived.Test.YtjnhcanohefjiaaGreatDoorDWrite
namespace Go.Proofs.YtjnhcanohefjiaaGreatDoor
open Go.RowKit Go.Sort Go.Maps

theorem zero_vals_list : List.replicate 64 (Value.int .u8 0) = vals zeroC := by
  have := congrArg Array.toList zero_vals
  simpa using this
theorem zero_ct (w : World) : (zeroValue 137).run Tryz.prog w = .ok (ctV zeroC) w := by
  have := (zero_of_info infoC).1 w
  rw [zero_vals] at this
  exact this
theorem look_safe {w : World} {p a b : Nat} {d : Dev} {K : Nat} (h : DevIn w p a b d K) {k : Pl} (hk : inP k) : (Instr.lookup 69 (.map (some a)) (plV k) false).run Tryz.prog w = .ok (ctV (d.safe k)) w := by
  obtain ⟨n, D, h1, h2, _⟩ := h.safe
  obtain ⟨v, ps, hr, hv⟩ := h1.lookup (t := 69) keyed Tryz.underlying69 (zero_ct w) (ctE_ct zeroC) (key_ k hk)
  rw [hr, ctE_inv hv (h2 k hk)]
theorem pend_at {D : DataW Unit} {l : List (Pl × Ct)} (h : PendIs D l) {k : Pl} (hk : inP k) : D.atKey (keyL k) (ctD zeroC) = ctD ((getP l k).getD zeroC) := by
  obtain ⟨h1, h2⟩ := h k hk
  cases hg : getP l k with
  | none => rw [hg] at h1; exact atKey_of_not_has h1 _
  | some c => exact h2 c hg _
theorem look_pend_ok {w : World} {p a b : Nat} {d : Dev} {K : Nat} (h : DevIn w p a b d K) {k : Pl} (hk : inP k) : (Instr.lookup 69 (.map (some b)) (plV k) true).run Tryz.prog w = .ok (.tuple #[ctV ((getP d.pend k).getD zeroC), .bool (getP d.pend k).isSome]) w := by
  obtain ⟨n, D, h1, h2, _⟩ := h.pend
  obtain ⟨v, ps, hr, hv⟩ := h1.look_ok (t := 69) keyed Tryz.underlying69 (zero_ct w) (ctE_ct zeroC) (key_ k hk)
  rw [hr, ctE_inv hv (pend_at h2 hk), (h2 k hk).1]
theorem okC_pend {d : Dev} (h : okD d) (k : Pl) : okC ((getP d.pend k).getD zeroC) := by
  cases hg : getP d.pend k with
  | none => exact okC_zero
  | some c => exact h.pend _ (getP_mem hg)
/-- What Read hands back where it reads. -/
def GotC (w : World) (c : Ct) (e : Ending) (w' : World) : Prop := ∃ g, e = .returned (.tuple #[.slice (some ⟨g, 0, none⟩) 64 64, .nilIface]) ∧ w.heap.size ≤ g ∧ w'.heap[g]? = some (.cells (vals c).toArray 5 (0, 0)) ∧ Below w.heap.size w w'
theorem made_block {w : World} {g : Nat} (h : w.ownsRow g 5 1 (.slice (some ⟨g, 0, none⟩) 64 64) 64 (madeCells (Value.int .u8 0).cells (64 * 1)).toList) : w.heap[g]? = some (.cells (vals zeroC).toArray 5 (0, 0)) := by
  rcases h.2 with ⟨e, _⟩ | ⟨g', cap, cur, e, h1, h2, h3, h4, h5, h6⟩
  · cases e
  · simp only [Value.slice.injEq, Option.some.injEq, Addr.mk.injEq, and_true, true_and] at e
    obtain ⟨rfl, rfl⟩ := e
    rw [h2]
    have hl : cur.toList = vals zeroC := by
      have e1 : cur.toList.take (64 * 1) = cur.toList := List.take_of_length_le (by simp [h5])
      rw [← e1, h6]
      rw [← zero_vals_list]
      refine List.eq_replicate_iff.2 ⟨by simp [madeCells], fun b hb => ?_⟩
      simp [madeCells, Value.cells, Nat.mod_one] at hb
      exact hb.2.symm
    rw [← hl]
theorem below_grown_none {w w' : World} (h : w.grownBy w' none) : Below w.heap.size w w' := ⟨h.os, h.tape, h.output, h.size, fun k hk => h.block k hk (by simp)⟩
theorem fill_self {c : Ct} (h : c.length = 64) : fillC c = c := by simp [fillC, h]
set_option maxRecDepth 100000 in
set_option maxHeartbeats 2000000 in
theorem read_ok {w : World} {p aa bb : Nat} {d : Dev} {K : Nat} (h : DevIn w p aa bb d K) (k : Pl) (hk : hasD d k) (hc : d.crashed = false) :
    Calls Tryz.prog 49 #[.pointer (some ⟨p, 0, none⟩), .int .i64 k.1, .int .i64 k.2] w (GotC w (readD d k)) := by
  have H := has_ (h.on (plW_below w k)) k
  rw [decide_eq_true hk] at H
  have HH := Lib.hid H
  have HB := Lib.hid (plW_below w k)
  have hd := Lib.hid (h.on (plW_below w k))
  have Hk := Lib.hid (inP_of hk h.lim)
  have HP := Lib.hid (plW_at w k)
  clear H h hk
  obtain ⟨g, j⟩ := k
  go_enter Tryz.func49, Tryz.ntmps49
  go_wp2_with fail
  refine HH.out.mono ?_
  rintro e W ⟨rfl, hb⟩
  have HE := Lib.hid (below_step HB.out hb)
  have hD := hd.out.on hb
  obtain ⟨_, _, c2, c3, _, _, c6⟩ := hD.cells
  rw [hc] at c6
  have hp : W.heap[w.heap.size]? = some (.cells #[.int .i64 g, .int .i64 j] 132 (0, 0)) := (hb.block _ (blk_lt HP.out)).trans HP.out
  have F3 : Hid (∀ V, Below W.heap.size W V → V.cell? ⟨p, 3, none⟩ = some (.map (some bb))) := fun V hV => (hD.on hV).cells.2.2.2.1
  have F0 : Hid (∀ V, Below W.heap.size W V → V.cell? ⟨w.heap.size, 0, none⟩ = some (.int .i64 g)) := fun V hV => cell_of ((hV.block _ (blk_lt hp)).trans hp) rfl
  have F1 : Hid (∀ V, Below W.heap.size W V → V.cell? ⟨w.heap.size, 1, none⟩ = some (.int .i64 j)) := fun V hV => cell_of ((hV.block _ (blk_lt hp)).trans hp) rfl
  have HD := Lib.hid hD
  have HQ : Hid (∀ V, Below W.heap.size W V → (Instr.lookup 69 (.map (some bb)) (plV (g, j)) true).run Tryz.prog V = .ok (.tuple #[ctV ((getP d.pend (g, j)).getD zeroC), .bool (getP d.pend (g, j)).isSome]) V) := fun V hV => look_pend_ok (HD.out.on hV) Hk.out
  unfold plV at HQ
  clear hb HH HB hd hD c3 c2 HP
  go_wp2_with fail
  refine wp_region_noPanic ?_
  refine wp_region_held_drew (S := fun V => Below W.heap.size W V) (by kernel_rfl) (below_drew _) (fun hHeld => ?_)
  refine take_at 0 (.pointer (some ⟨p, 0, none⟩)) rfl (by kernel_rfl) (by kernel_rfl) (by kernel_rfl) (fun _ _ _ h => h) (Or.inl ⟨by rfl, ?_⟩) (by assumption) ?_
  · intro V hSV; go_simp
  simp only [Act.put, List.setIfInBounds_toArray, List.set_cons_zero, List.set_cons_succ]
  refine take_at 1 (.pointer (some ⟨p, 0, none⟩)) rfl (by kernel_rfl) (by kernel_rfl) (by kernel_rfl) (fun _ _ _ h => h) (Or.inl ⟨by rfl, ?_⟩) (by assumption) ?_
  · intro V hSV; go_simp
  simp only [Act.put, List.setIfInBounds_toArray, List.set_cons_zero, List.set_cons_succ]
  refine take_at 2 (.pointer (some ⟨p, 3, none⟩)) rfl (by kernel_rfl) (by kernel_rfl) (by kernel_rfl) (fun _ _ _ h => h) (Or.inl ⟨by rfl, ?_⟩) (by assumption) ?_
  · intro V hSV; go_simp
  simp only [Act.put, List.setIfInBounds_toArray, List.set_cons_zero, List.set_cons_succ]
  refine take_at 3 (.map (some bb)) rfl (by kernel_rfl) (by kernel_rfl) (by kernel_rfl) (fun _ _ _ h => h) (Or.inl ⟨by rfl, ?_⟩) (by assumption) ?_
  · intro V hSV; have e0 := F3.out V hSV; go_simp
  simp only [Act.put, List.setIfInBounds_toArray, List.set_cons_zero, List.set_cons_succ]
  refine take_at 4 (.agg #[.int .i64 g, .int .i64 j]) rfl (by kernel_rfl) (by kernel_rfl) (by kernel_rfl) (fun _ _ _ h => h) (Or.inl ⟨by rfl, ?_⟩) (by assumption) ?_
  · intro V hSV; have e0 := F0.out V hSV; have e1 := F1.out V hSV; go_simp
  simp only [Act.put, List.setIfInBounds_toArray, List.set_cons_zero, List.set_cons_succ]
  refine take_at 5 (.tuple #[ctV ((getP d.pend (g, j)).getD zeroC), .bool (getP d.pend (g, j)).isSome]) rfl (by kernel_rfl) (by kernel_rfl) (by kernel_rfl) (fun _ _ _ h => h) (yields_lookup (by rfl) 69 _ _ true (by rfl) _ _ _ (by rfl) (by rfl) (HQ.out)) (by assumption) ?_
  simp only [Act.put, List.setIfInBounds_toArray, List.set_cons_zero, List.set_cons_succ]
  refine take_at 6 (.tuple #[ctV ((getP d.pend (g, j)).getD zeroC), .bool (getP d.pend (g, j)).isSome]) rfl (by kernel_rfl) (by kernel_rfl) (by kernel_rfl) (fun _ _ _ h => h) (Or.inl ⟨by rfl, ?_⟩) (by assumption) ?_
  · intro V hSV; go_simp
  simp only [Act.put, List.setIfInBounds_toArray, List.set_cons_zero, List.set_cons_succ]
  refine take_at 7 (ctV ((getP d.pend (g, j)).getD zeroC)) rfl (by kernel_rfl) (by kernel_rfl) (by kernel_rfl) (fun _ _ _ h => h) (Or.inl ⟨by rfl, ?_⟩) (by assumption) ?_
  · intro V hSV; go_simp
  simp only [Act.put, List.setIfInBounds_toArray, List.set_cons_zero, List.set_cons_succ]
  refine take_at 8 (.bool (getP d.pend (g, j)).isSome) rfl (by kernel_rfl) (by kernel_rfl) (by kernel_rfl) (fun _ _ _ h => h) (Or.inl ⟨by rfl, ?_⟩) (by assumption) ?_
  · intro V hSV; go_simp
  simp only [Act.put, List.setIfInBounds_toArray, List.set_cons_zero, List.set_cons_succ]
  have hHeld9 : Below W.heap.size W (W.drew.alloc (.cells (vals zeroC).toArray 137)) := hHeld.alloc hHeld.size _
  refine ready_alloc 9 rfl (by kernel_rfl) (by rfl) (by rfl) hHeld9 ?_
  simp only [Act.put, List.setIfInBounds_toArray, List.set_cons_zero, List.set_cons_succ]
  have hc1 : CtAt (W.drew.alloc (.cells (vals zeroC).toArray 137)) W.heap.size zeroC := World.alloc_heap_new' W.drew _
  have hz1 : (W.drew.alloc (.cells (vals zeroC).toArray 137)).heap.size = W.heap.size + 1 := World.size_alloc _ _
  generalize W.drew.alloc (.cells (vals zeroC).toArray 137) = W1 at *
  have ho := okC_pend HD.out.ok (g, j)
  have hst := store_ct hc1 zero_len ho.1
  have hHeld10 := below_setRow hHeld9 (Nat.le_refl _) (vals ((getP d.pend (g, j)).getD zeroC)).toArray
  refine ready_store 10 rfl (by kernel_rfl) (by rfl) 137 _ _ (by rfl) _ _ (by rfl) (by rfl) hst hHeld10 ?_
  simp only [Act.put]
  have hc2 := hc1.set ((getP d.pend (g, j)).getD zeroC)
  generalize W1.setRow W.heap.size (vals ((getP d.pend (g, j)).getD zeroC)).toArray = W2 at *
  refine take_at 11 (.bool (getP d.pend (g, j)).isSome) rfl (by kernel_rfl) (by kernel_rfl) (by kernel_rfl) (fun _ _ _ h => h) (Or.inl ⟨by rfl, ?_⟩) (by assumption) ?_
  · intro V hSV; go_simp
  simp only [Act.put, List.setIfInBounds_toArray, List.set_cons_zero, List.set_cons_succ]
  refine wpAnyH_done (by kernel_rfl) ?_ _
  refine NoPanic.normal ?_
  have HC2 := Lib.hid (And.intro hc2 hHeld10)
  clear hst hHeld10 hHeld9 hc1 hz1 hc2 hHeld ho
  cases hg : getP d.pend (g, j) with
  | some cc =>
    rw [hg] at HC2
    have ho : cc.length = 64 := (HD.out.ok.pend _ (getP_mem hg)).1
    replace HC2 : Hid (CtAt W2 W.heap.size cc ∧ Below W.heap.size W W2) := HC2
    clear F3 F0 F1 HQ
    obtain ⟨i0, hi0, hz0, hz1, hz2⟩ := info_parts infoB
    go_wp2_with (first
      | (at_make; refine wpList_make_full _ rfl _ _ 53 rfl W2.heap.size 5 i0 (.int .u8 0) 1 Tryz.underlying53 hi0 hz0 hz1 .i64 .i64 _ _ 64 rfl rfl rfl rfl (by rw [hz2]; omega) (by unfold maxLen; omega) (Nat.le_refl _) ?_
         intro W3 hown3 hgrow3
         have hb3 := Lib.hid (made_block hown3)
         have hB3 : Hid (Below W2.heap.size W2 W3) := below_grown_none hgrow3
         clear hown3 hgrow3)
      | (refine wpList_copy_splice rfl _ _ 53 53 rfl 5 Tryz.underlying53 sizeB _ (some ⟨W.heap.size, 0, none⟩) 64 64 64 64 rfl (by rfl) W2.heap.size 0 (vals zeroC) 5 hb3.out (vals cc) (by rw [vals_len, ho]; rfl) (fun _ => ⟨rfl, _, rfl, (ct_bytes 137 (HC2.out.1.on hB3.out)).news⟩) (by rw [vals_len, vals_len, ho, zero_len]; omega) (vals_one _) W2.heap.size W2 hB3.out (Nat.le_refl _) ?_
         intro W4 hg4 hB4
         have HG4 := Lib.hid (And.intro hg4.out hB4)
         clear hg4 hB4)
      | fail)
    go_ret2
    refine ⟨W2.heap.size, rfl, Nat.le_trans HE.out.size HC2.out.2.size, ?_, below_step HE.out (below_step HC2.out.2 HG4.out.2)⟩
    rw [HG4.out.1, fill_splice, fill_self ho]
    exact congrArg (fun c => some (Obj.cells (vals c).toArray 5 (0, 0))) (by rw [readD, hg]; rfl)
  | none =>
    rw [hg] at HC2
    replace HC2 : Hid (CtAt W2 W.heap.size zeroC ∧ Below W.heap.size W W2) := HC2
    have hD2 := HD.out.on HC2.out.2
    have hp2 := (HC2.out.2.block _ (blk_lt hp)).trans hp
    have hne : ∀ k, k < W.heap.size → k ≠ W.heap.size := fun k hk => by omega
    have G2 : Hid (∀ V, W2.grownBy V (some W.heap.size) → V.cell? ⟨p, 2, none⟩ = some (.map (some aa))) := fun V hV => grown_cell hV hD2.cells.2.2.1 (hne p HD.out.lts.1)
    have G0 : Hid (∀ V, W2.grownBy V (some W.heap.size) → V.cell? ⟨w.heap.size, 0, none⟩ = some (.int .i64 g)) := fun V hV => grown_cell hV (cell_of hp2 rfl) (hne _ (blk_lt hp))
    have G1 : Hid (∀ V, W2.grownBy V (some W.heap.size) → V.cell? ⟨w.heap.size, 1, none⟩ = some (.int .i64 j)) := fun V hV => grown_cell hV (cell_of hp2 rfl) (hne _ (blk_lt hp))
    have GQ : Hid (∀ V, W2.grownBy V (some W.heap.size) → (Instr.lookup 69 (.map (some aa)) (.agg #[.int .i64 g, .int .i64 j]) false).run Tryz.prog V = .ok (ctV (d.safe (g, j))) V) := fun V hV =>
      look_safe (hD2.keep (hV.block p hD2.lts.1 (fun e => hne p HD.out.lts.1 (by cases e; rfl))) (hV.block aa hD2.lts.2.1 (fun e => hne aa HD.out.lts.2.1 (by cases e; rfl))) (hV.block bb hD2.lts.2.2 (fun e => hne bb HD.out.lts.2.2 (by cases e; rfl)))) (k := (g, j)) Hk.out
    have ho := (HD.out.ok.safe (g, j)).1
    clear F3 F0 F1 HQ hD2 hp2 hne hp
    go_wp2_with fail
    refine wp_region_noPanic ?_
    refine wp_region_held_drew (S := fun V => W2.grownBy V (some W.heap.size)) (by kernel_rfl) (grown_drew _ _) (fun hHeld => ?_)
    refine take_at 0 (.pointer (some ⟨p, 0, none⟩)) rfl (by kernel_rfl) (by kernel_rfl) (by kernel_rfl) (fun _ _ _ h => h) (Or.inl ⟨by rfl, ?_⟩) (by assumption) ?_
    · intro V hSV; go_simp
    simp only [Act.put, List.setIfInBounds_toArray, List.set_cons_zero, List.set_cons_succ]
    refine take_at 1 (.pointer (some ⟨p, 0, none⟩)) rfl (by kernel_rfl) (by kernel_rfl) (by kernel_rfl) (fun _ _ _ h => h) (Or.inl ⟨by rfl, ?_⟩) (by assumption) ?_
    · intro V hSV; go_simp
    simp only [Act.put, List.setIfInBounds_toArray, List.set_cons_zero, List.set_cons_succ]
    refine take_at 2 (.pointer (some ⟨p, 2, none⟩)) rfl (by kernel_rfl) (by kernel_rfl) (by kernel_rfl) (fun _ _ _ h => h) (Or.inl ⟨by rfl, ?_⟩) (by assumption) ?_
    · intro V hSV; go_simp
    simp only [Act.put, List.setIfInBounds_toArray, List.set_cons_zero, List.set_cons_succ]
    refine take_at 3 (.map (some aa)) rfl (by kernel_rfl) (by kernel_rfl) (by kernel_rfl) (fun _ _ _ h => h) (Or.inl ⟨by rfl, ?_⟩) (by assumption) ?_
    · intro V hSV; have e0 := G2.out V hSV; go_simp
    simp only [Act.put, List.setIfInBounds_toArray, List.set_cons_zero, List.set_cons_succ]
    refine take_at 4 (.agg #[.int .i64 g, .int .i64 j]) rfl (by kernel_rfl) (by kernel_rfl) (by kernel_rfl) (fun _ _ _ h => h) (Or.inl ⟨by rfl, ?_⟩) (by assumption) ?_
    · intro V hSV; have e0 := G0.out V hSV; have e1 := G1.out V hSV; go_simp
    simp only [Act.put, List.setIfInBounds_toArray, List.set_cons_zero, List.set_cons_succ]
    refine take_at 5 (ctV (d.safe (g, j))) rfl (by kernel_rfl) (by kernel_rfl) (by kernel_rfl) (fun _ _ _ h => h) (yields_lookup (by rfl) 69 _ _ false (by rfl) _ _ _ (by rfl) (by rfl) (GQ.out)) (by assumption) ?_
    simp only [Act.put, List.setIfInBounds_toArray, List.set_cons_zero, List.set_cons_succ]
    have hcd : CtAt W2.drew W.heap.size zeroC := HC2.out.1
    refine ready_store 6 rfl (by kernel_rfl) (by rfl) 137 _ _ (by rfl) _ _ (by rfl) (by rfl) (store_ct hcd zero_len ho) ⟨rfl, rfl, rfl, by simp [World.setRow], fun i hi hne => setRow_other W2.drew W.heap.size i _ (fun e => hne (by rw [e]))⟩ ?_
    refine wpAnyH_done (by kernel_rfl) ?_ _
    refine NoPanic.normal ?_
    have HC5 : Hid (CtAt (W2.drew.setRow W.heap.size (vals (d.safe (g, j))).toArray) W.heap.size (d.safe (g, j)) ∧ Below W.heap.size W (W2.drew.setRow W.heap.size (vals (d.safe (g, j))).toArray)) := ⟨hcd.set _, below_setRow (below_step HC2.out.2 (below_drew _)) (Nat.le_refl _) _⟩
    generalize W2.drew.setRow W.heap.size (vals (d.safe (g, j))).toArray = W5 at *
    clear HC2 hcd hHeld G2 G0 G1 GQ
    obtain ⟨i0, hi0, hz0, hz1, hz2⟩ := info_parts infoB
    go_wp2_with (first
      | (at_make; refine wpList_make_full _ rfl _ _ 53 rfl W5.heap.size 5 i0 (.int .u8 0) 1 Tryz.underlying53 hi0 hz0 hz1 .i64 .i64 _ _ 64 rfl rfl rfl rfl (by rw [hz2]; omega) (by unfold maxLen; omega) (Nat.le_refl _) ?_
         intro W3 hown3 hgrow3
         have hb3 := Lib.hid (made_block hown3)
         have hB3 : Hid (Below W5.heap.size W5 W3) := below_grown_none hgrow3
         clear hown3 hgrow3)
      | (refine wpList_copy_splice rfl _ _ 53 53 rfl 5 Tryz.underlying53 sizeB _ (some ⟨W.heap.size, 0, none⟩) 64 64 64 64 rfl (by rfl) W5.heap.size 0 (vals zeroC) 5 hb3.out (vals (d.safe (g, j))) (by rw [vals_len, ho]; rfl) (fun _ => ⟨rfl, _, rfl, (ct_bytes 137 (HC5.out.1.on hB3.out)).news⟩) (by rw [vals_len, vals_len, ho, zero_len]; omega) (vals_one _) W5.heap.size W5 hB3.out (Nat.le_refl _) ?_
         intro W4 hg4 hB4
         have HG4 := Lib.hid (And.intro hg4.out hB4)
         clear hg4 hB4)
      | fail)
    go_ret2
    refine ⟨W5.heap.size, rfl, Nat.le_trans HE.out.size HC5.out.2.size, ?_, below_step HE.out (below_step HC5.out.2 HG4.out.2)⟩
    rw [HG4.out.1, fill_splice, fill_self ho]
    exact congrArg (fun c => some (Obj.cells (vals c).toArray 5 (0, 0))) (by rw [readD, hg]; rfl)
end Go.Proofs.YtjnhcanohefjiaaGreatDoor
