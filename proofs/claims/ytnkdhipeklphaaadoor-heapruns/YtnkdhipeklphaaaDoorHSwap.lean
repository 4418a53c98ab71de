/- The walks of a line's Swap, Push and Pop. -/
import Derived.Test.YtnkdhipeklphaaaDoorHLess
namespace Go.Proofs.YtnkdhipeklphaaaDoor
open Go.RowKit Go.Sort

theorem Fr.set {N hb k o : Nat} {w : World} {c : Array Value} {t : TypeId} {z : Nat × Nat} (v : Value) (hk : w.heap[k]? = some (.cells c t z)) (hN : N ≤ k) (ht : t = 59 ∨ t = 56 ∨ k = hb) : Fr N hb w (w.setCell ⟨k, o, none⟩ v) := by
  refine ⟨rfl, rfl, rfl, by rw [Deep.nblk_setCell]; exact Nat.le_refl _, fun i _ hc => ?_⟩
  refine heap_far v fun e => ?_
  subst e
  rcases hc with hc | ⟨hc, ho⟩
  · omega
  · rcases ht with rfl | rfl | ht
    · exact ho.1 c z hk
    · exact ho.2 c z hk
    · exact hc ht
theorem Fr.drewN {N hb : Nat} {w w' : World} (h : Fr N hb w w') (q : Nat) : Fr N hb w (w'.drewN q) := ⟨h.os, h.tape, h.output, h.size, h.block⟩
theorem Ln.drewN {w : World} {N hb : Nat} {ty : TypeId} {rs : List Value} {v : Value} {n : Nat} {b : Nat → Nat} {S : Nat → Sl} (h : Ln w N hb ty rs v n b S) (q : Nat) : Ln (w.drewN q) N hb ty rs v n b S := h.on (below_drewN (Below.refl _ _) q)
set_option maxHeartbeats 1000000 in
theorem swap_cells (g cap n i j bi bj : Nat) (x y : Value) (W : World) (hi : i < n) (hj : j < n) (_hn : n ≤ 17592186044416) (hij : i ≠ j) (hbb : bi ≠ bj) (hgi : g ≠ bi) (hgj : g ≠ bj)
    (ci : W.cell? ⟨g, i, none⟩ = some (.pointer (some ⟨bi, 0, none⟩))) (cj : W.cell? ⟨g, j, none⟩ = some (.pointer (some ⟨bj, 0, none⟩))) (fi : W.frozen? ⟨g, i, none⟩ = false) (fj : W.frozen? ⟨g, j, none⟩ = false)
    (pi : W.cell? ⟨bi, 4, none⟩ = some x) (pj : W.cell? ⟨bj, 4, none⟩ = some y) (qi : W.frozen? ⟨bi, 4, none⟩ = false) (qj : W.frozen? ⟨bj, 4, none⟩ = false) :
    Calls Tryd.prog 84 #[.slice (some ⟨g, 0, none⟩) n cap, .int .i64 i, .int .i64 j] W fun e w' => e = .returned (.tuple #[]) ∧
      ∃ q, w' = ((((W.setCell ⟨g, i, none⟩ (pt bj)).setCell ⟨g, j, none⟩ (pt bi)).setCell ⟨bj, 4, none⟩ (.int .i64 i)).setCell ⟨bi, 4, none⟩ (.int .i64 j)).drewN q := by
  have hi2 : (i : Int) < (n : Int) := by omega
  have hj2 : (j : Int) < (n : Int) := by omega
  have n1 : (⟨g, i, none⟩ : Addr) ≠ ⟨g, j, none⟩ := fun e => hij (Addr.mk.inj e).2.1
  have cj1 : (W.setCell ⟨g, i, none⟩ (.pointer (some ⟨bj, 0, none⟩))).cell? ⟨g, j, none⟩ = some (.pointer (some ⟨bj, 0, none⟩)) := by rw [World.cell?_setCell_other _ _ _ _ n1]; exact cj
  have E : ∃ W1 : World, W1 = ((W.setCell ⟨g, i, none⟩ (.pointer (some ⟨bj, 0, none⟩))).setCell ⟨g, j, none⟩ (.pointer (some ⟨bi, 0, none⟩))) := ⟨_, rfl⟩
  obtain ⟨W1, hW1⟩ := E
  have c1 : W1.cell? ⟨g, i, none⟩ = some (.pointer (some ⟨bj, 0, none⟩)) := by
    rw [hW1, World.cell?_setCell_other _ _ _ _ n1.symm, World.cell?_setCell_same _ _ _ ci]
  have c2 : W1.cell? ⟨g, j, none⟩ = some (.pointer (some ⟨bi, 0, none⟩)) := by
    rw [hW1, World.cell?_setCell_same _ _ _ cj1]
  have c3 : W1.cell? ⟨bi, 4, none⟩ = some x := by
    rw [hW1, World.cell?_setCell_other _ _ _ _ (fun e => hgi (Addr.mk.inj e).1), World.cell?_setCell_other _ _ _ _ (fun e => hgi (Addr.mk.inj e).1)]; exact pi
  have c4 : W1.cell? ⟨bj, 4, none⟩ = some y := by
    rw [hW1, World.cell?_setCell_other _ _ _ _ (fun e => hgj (Addr.mk.inj e).1), World.cell?_setCell_other _ _ _ _ (fun e => hgj (Addr.mk.inj e).1)]; exact pj
  have c5 : W1.frozen? ⟨bi, 4, none⟩ = false := by rw [hW1, World.frozen?_setCell, World.frozen?_setCell]; exact qi
  have c6 : W1.frozen? ⟨bj, 4, none⟩ = false := by rw [hW1, World.frozen?_setCell, World.frozen?_setCell]; exact qj
  have c7 : (W1.setCell ⟨bj, 4, none⟩ (.int .i64 i)).cell? ⟨bi, 4, none⟩ = some x := by rw [World.cell?_setCell_other _ _ _ _ (fun e => hbb (Addr.mk.inj e).1.symm)]; exact c3
  have c8 : (W1.setCell ⟨bi, 4, none⟩ (.int .i64 j)).cell? ⟨bj, 4, none⟩ = some y := by rw [World.cell?_setCell_other _ _ _ _ (fun e => hbb (Addr.mk.inj e).1)]; exact c4
  have HW1 := Lib.hid hW1
  clear pi pj qi qj hW1
  go_enter Tryd.func84, Tryd.ntmps84
  go_wp2_with fail
  go_region
  go_wp2_with fail
  rw [← HW1.out]
  clear ci cj fi fj cj1
  go_region
  all_goals (try go_wp2)
  all_goals go_end0
  all_goals (rw [HW1.out]; exact ⟨rfl, 2, rfl⟩)
set_option maxHeartbeats 1000000 in
theorem swap_one (g cap n i bi : Nat) (x : Value) (W : World) (hi : i < n) (_hn : n ≤ 17592186044416) (hgi : g ≠ bi)
    (ci : W.cell? ⟨g, i, none⟩ = some (.pointer (some ⟨bi, 0, none⟩))) (fi : W.frozen? ⟨g, i, none⟩ = false) (pi : W.cell? ⟨bi, 4, none⟩ = some x) (qi : W.frozen? ⟨bi, 4, none⟩ = false) :
    Calls Tryd.prog 84 #[.slice (some ⟨g, 0, none⟩) n cap, .int .i64 i, .int .i64 i] W fun e w' => e = .returned (.tuple #[]) ∧
      ∃ q, w' = ((((W.setCell ⟨g, i, none⟩ (pt bi)).setCell ⟨g, i, none⟩ (pt bi)).setCell ⟨bi, 4, none⟩ (.int .i64 i)).setCell ⟨bi, 4, none⟩ (.int .i64 i)).drewN q := by
  have hi2 : (i : Int) < (n : Int) := by omega
  have ci1 : (W.setCell ⟨g, i, none⟩ (.pointer (some ⟨bi, 0, none⟩))).cell? ⟨g, i, none⟩ = some (.pointer (some ⟨bi, 0, none⟩)) := World.cell?_setCell_same _ _ _ ci
  have E : ∃ W1 : World, W1 = ((W.setCell ⟨g, i, none⟩ (.pointer (some ⟨bi, 0, none⟩))).setCell ⟨g, i, none⟩ (.pointer (some ⟨bi, 0, none⟩))) := ⟨_, rfl⟩
  obtain ⟨W1, hW1⟩ := E
  have c1 : W1.cell? ⟨g, i, none⟩ = some (.pointer (some ⟨bi, 0, none⟩)) := by
    rw [hW1, World.cell?_setCell_same _ _ _ ci1]
  have c3 : W1.cell? ⟨bi, 4, none⟩ = some x := by
    rw [hW1, World.cell?_setCell_other _ _ _ _ (fun e => hgi (Addr.mk.inj e).1), World.cell?_setCell_other _ _ _ _ (fun e => hgi (Addr.mk.inj e).1)]; exact pi
  have c5 : W1.frozen? ⟨bi, 4, none⟩ = false := by rw [hW1, World.frozen?_setCell, World.frozen?_setCell]; exact qi
  have c7 : (W1.setCell ⟨bi, 4, none⟩ (.int .i64 i)).cell? ⟨bi, 4, none⟩ = some (.int .i64 i) := World.cell?_setCell_same _ _ _ c3
  have HW1 := Lib.hid hW1
  clear pi qi hW1
  go_enter Tryd.func84, Tryd.ntmps84
  go_wp2_with fail
  go_region
  go_wp2_with fail
  rw [← HW1.out]
  clear ci fi ci1
  go_region
  all_goals (try go_wp2)
  all_goals go_end0
  all_goals (rw [HW1.out]; exact ⟨rfl, 2, rfl⟩)
theorem slotC_place (s : Sl) (p q : Nat) : (slotC s p).setIfInBounds 4 (.int .i64 (q : Int)) = slotC s q := rfl
theorem row_set {c : Array Value} {n i j : Nat} {b : Nat → Nat} (hn : n ≤ c.size) (hi : i < n) (hj : j < n) (hc : ∀ k, k < n → c[k]? = some (pt (b k))) : ∀ k, k < n → ((c.setIfInBounds i (pt (b j))).setIfInBounds j (pt (b i)))[k]? = some (pt (sw b i j k)) := by
  intro k hk
  rw [Array.getElem?_setIfInBounds, Array.getElem?_setIfInBounds]
  by_cases e1 : j = k
  · subst e1
    rw [if_pos rfl, if_pos (by simp; omega), sw_right]
  · rw [if_neg e1]
    by_cases e2 : i = k
    · subst e2
      rw [if_pos rfl, if_pos (by omega), sw_left]
    · rw [if_neg e2, hc k hk, sw_far b (fun e => e2 e.symm) (fun e => e1 e.symm)]
theorem swap_ {w : World} {N hb : Nat} {ty : TypeId} {rs : List Value} {v : Value} {n : Nat} {b : Nat → Nat} {S : Nat → Sl} (h : Ln w N hb ty rs v n b S) (i j : Nat) (hi : i < n) (hj : j < n) :
    Calls Tryd.prog 84 #[v, .int .i64 i, .int .i64 j] w fun e w' => e = .returned (.tuple #[]) ∧ Ln w' N hb ty rs v n (sw b i j) S ∧ Fr N hb w w' := by
  obtain ⟨g, cap, c, rfl, hNg, hg, hnc, hcm, hsz, hc, hgh, hgb, hhb⟩ := h.some (by omega)
  have sli := (h.slot i hi).2
  have slj := (h.slot j hj).2
  have Ni := (h.slot i hi).1
  have Nj := (h.slot j hj).1
  by_cases hij : i = j
  · subst hij
    refine (swap_one g cap n i (b i) _ w hi h.lim (hgb i hi) (cell_of hg (hc i hi)) (frozen_of hg) sli.cells.2.2.2.2 (frozen_of sli)).mono ?_
    rintro e w' ⟨rfl, q, rfl⟩
    have g1 := heap_set (o := i) (pt (b i)) hg
    have g2 := heap_set (o := i) (pt (b i)) g1
    have s2 : ((w.setCell ⟨g, i, none⟩ (pt (b i))).setCell ⟨g, i, none⟩ (pt (b i))).heap[b i]? = some (.cells (slotC (S (b i)) i) 59 (0, 0)) := by
      rw [heap_far _ (Ne.symm (hgb i hi)), heap_far _ (Ne.symm (hgb i hi))]; exact sli
    have s3 := heap_set (o := 4) (.int .i64 (i : Int)) s2
    rw [slotC_place] at s3
    have s4 := heap_set (o := 4) (.int .i64 (i : Int)) s3
    rw [slotC_place] at s4
    refine ⟨rfl, ?_, Fr.drewN ((((Fr.set _ hg hNg (.inr (.inl rfl))).trans (Fr.set _ g1 hNg (.inr (.inl rfl)))).trans (Fr.set _ s2 Ni (.inl rfl))).trans (Fr.set _ s3 Ni (.inl rfl))) q⟩
    refine Ln.drewN ?_ q
    refine ⟨?_, h.tyS, h.tyP, h.low, .inr ⟨g, cap, _, rfl, hNg, ?_, hnc, hcm, ?_, row_set (by omega) hi hi hc⟩, fun k hk => ?_, h.lim⟩
    · rw [heap_far _ (hhb i hi), heap_far _ (hhb i hi), heap_far _ (Ne.symm hgh), heap_far _ (Ne.symm hgh)]; exact h.hdr
    · rw [heap_far _ (hgb i hi), heap_far _ (hgb i hi)]; exact g2
    · simpa using hsz
    · have e : sw b i i k = b k := by
        by_cases e : k = i
        · rw [e, sw_left]
        · exact sw_far b e e
      rw [e]
      refine ⟨(h.slot k hk).1, ?_⟩
      by_cases ek : k = i
      · subst ek; exact s4
      · have hne : b k ≠ b i := fun e => ek (h.inj k i hk hi e)
        show _ = _
        rw [heap_far _ hne, heap_far _ hne, heap_far _ (Ne.symm (hgb k hk)), heap_far _ (Ne.symm (hgb k hk))]
        exact (h.slot k hk).2
  · have hbb : b i ≠ b j := fun e => hij (h.inj i j hi hj e)
    refine (swap_cells g cap n i j (b i) (b j) _ _ w hi hj h.lim hij hbb (hgb i hi) (hgb j hj) (cell_of hg (hc i hi)) (cell_of hg (hc j hj)) (frozen_of hg) (frozen_of hg) sli.cells.2.2.2.2 slj.cells.2.2.2.2 (frozen_of sli) (frozen_of slj)).mono ?_
    rintro e w' ⟨rfl, q, rfl⟩
    have g1 := heap_set (o := i) (pt (b j)) hg
    have g2 := heap_set (o := j) (pt (b i)) g1
    have s2 : ((w.setCell ⟨g, i, none⟩ (pt (b j))).setCell ⟨g, j, none⟩ (pt (b i))).heap[b j]? = some (.cells (slotC (S (b j)) j) 59 (0, 0)) := by
      rw [heap_far _ (Ne.symm (hgb j hj)), heap_far _ (Ne.symm (hgb j hj))]; exact slj
    have s3 := heap_set (o := 4) (.int .i64 (i : Int)) s2
    rw [slotC_place] at s3
    have s4 : (((w.setCell ⟨g, i, none⟩ (pt (b j))).setCell ⟨g, j, none⟩ (pt (b i))).setCell ⟨b j, 4, none⟩ (.int .i64 (i : Int))).heap[b i]? = some (.cells (slotC (S (b i)) i) 59 (0, 0)) := by
      rw [heap_far _ hbb, heap_far _ (Ne.symm (hgb i hi)), heap_far _ (Ne.symm (hgb i hi))]; exact sli
    have s5 := heap_set (o := 4) (.int .i64 (j : Int)) s4
    rw [slotC_place] at s5
    refine ⟨rfl, ?_, Fr.drewN ((((Fr.set _ hg hNg (.inr (.inl rfl))).trans (Fr.set _ g1 hNg (.inr (.inl rfl)))).trans (Fr.set _ s2 Nj (.inl rfl))).trans (Fr.set _ s4 Ni (.inl rfl))) q⟩
    refine Ln.drewN ?_ q
    refine ⟨?_, h.tyS, h.tyP, h.low, .inr ⟨g, cap, _, rfl, hNg, ?_, hnc, hcm, ?_, row_set (by omega) hi hj hc⟩, fun k hk => ?_, h.lim⟩
    · rw [heap_far _ (hhb i hi), heap_far _ (hhb j hj), heap_far _ (Ne.symm hgh), heap_far _ (Ne.symm hgh)]; exact h.hdr
    · rw [heap_far _ (hgb i hi), heap_far _ (hgb j hj)]; exact g2
    · simpa using hsz
    · by_cases e1 : k = i
      · subst e1
        rw [sw_left]
        refine ⟨Nj, ?_⟩
        show _ = _
        rw [heap_far _ (Ne.symm hbb)]
        exact s3
      · by_cases e2 : k = j
        · subst e2
          rw [sw_right]
          exact ⟨Ni, s5⟩
        · rw [sw_far b e1 e2]
          refine ⟨(h.slot k hk).1, ?_⟩
          have h1 : b k ≠ b i := fun e => e1 (h.inj k i hk hi e)
          have h2 : b k ≠ b j := fun e => e2 (h.inj k j hk hj e)
          show _ = _
          rw [heap_far _ h1, heap_far _ h2, heap_far _ (Ne.symm (hgb k hk)), heap_far _ (Ne.symm (hgb k hk))]
          exact (h.slot k hk).2
end Go.Proofs.YtnkdhipeklphaaaDoor
