/- The walks of a line's Push and Pop. -/
import Derived.Test.YtnkdhipeklphaaaDoorHSwap
namespace Go.Proofs.YtnkdhipeklphaaaDoor
open Go.RowKit Go.Sort

set_option maxHeartbeats 1000000 in
theorem lpop_cells (hb g cap m s : Nat) (W : World) (_hn : m + 1 ≤ 17592186044416) (hmc : m + 1 ≤ cap) (hgh : g ≠ hb)
    (ch : W.cell? ⟨hb, 0, none⟩ = some (.slice (some ⟨g, 0, none⟩) (m + 1) cap)) (fh : W.frozen? ⟨hb, 0, none⟩ = false)
    (ci : W.cell? ⟨g, m, none⟩ = some (.pointer (some ⟨s, 0, none⟩))) (fi : W.frozen? ⟨g, m, none⟩ = false) :
    Calls Tryd.prog 86 #[.pointer (some ⟨hb, 0, none⟩)] W fun e w' => e = .returned (.iface 56 (pt s)) ∧
      ∃ q, w' = ((W.setCell ⟨g, m, none⟩ (.pointer none)).setCell ⟨hb, 0, none⟩ (.slice (some ⟨g, 0, none⟩) m cap)).drewN q := by
  have c1 : (W.setCell ⟨g, m, none⟩ (.pointer none)).cell? ⟨hb, 0, none⟩ = some (.slice (some ⟨g, 0, none⟩) (m + 1) cap) := by
    rw [World.cell?_setCell_other _ _ _ _ (fun e => hgh (Addr.mk.inj e).1)]; exact ch
  go_enter Tryd.func86, Tryd.ntmps86
  go_wp2_with fail
  go_ret
  exact ⟨rfl, 0, rfl⟩
theorem lpop_ {w : World} {N hb : Nat} {ty : TypeId} {rs : List Value} {v : Value} {m : Nat} {b : Nat → Nat} {S : Nat → Sl} (h : Ln w N hb ty rs v (m + 1) b S) :
    Calls Tryd.prog 86 #[.pointer (some ⟨hb, 0, none⟩)] w fun e w' => e = .returned (.iface 56 (pt (b m))) ∧ (∃ v', Ln w' N hb ty rs v' m b S) ∧ SlotAt w' (b m) (S (b m)) m ∧ Fr N hb w w' := by
  obtain ⟨g, cap, c, rfl, hNg, hg, hnc, hcm, hsz, hc, hgh, hgb, hhb⟩ := h.some (by omega)
  refine (lpop_cells hb g cap m (b m) w h.lim hnc hgh h.head.1 h.head.2 (cell_of hg (hc m (by omega))) (frozen_of hg)).mono ?_
  rintro e w' ⟨rfl, q, rfl⟩
  have g1 := heap_set (o := m) (.pointer none) hg
  have h1 : (w.setCell ⟨g, m, none⟩ (.pointer none)).heap[hb]? = some (.cells ⟨.slice (some ⟨g, 0, none⟩) (m + 1) cap :: rs⟩ ty (0, 0)) := by rw [heap_far _ (Ne.symm hgh)]; exact h.hdr
  have h2 := heap_set (o := 0) (.slice (some ⟨g, 0, none⟩) m cap) h1
  have hsl : ∀ k, k < m + 1 → SlotAt ((w.setCell ⟨g, m, none⟩ (.pointer none)).setCell ⟨hb, 0, none⟩ (.slice (some ⟨g, 0, none⟩) m cap)) (b k) (S (b k)) k := fun k hk => by
    show _ = _
    rw [heap_far _ (Ne.symm (hhb k hk)), heap_far _ (Ne.symm (hgb k hk))]
    exact (h.slot k hk).2
  refine ⟨rfl, ⟨.slice (some ⟨g, 0, none⟩) m cap, Ln.drewN ?_ q⟩, SlotAt.on (hsl m (by omega)) (below_drewN (Below.refl _ _) q), Fr.drewN ((Fr.set _ hg hNg (.inr (.inl rfl))).trans (Fr.set _ h1 h.low (.inr (.inr rfl)))) q⟩
  refine ⟨h2, h.tyS, h.tyP, h.low, .inr ⟨g, cap, c.setIfInBounds m (.pointer none), rfl, hNg, ?_, by omega, hcm, ?_, fun k hk => ?_⟩, fun k hk => ⟨(h.slot k (by omega)).1, hsl k (by omega)⟩, by have := h.lim; omega⟩
  · rw [heap_far _ hgh]; exact g1
  · simpa using hsz
  · rw [Array.getElem?_setIfInBounds, if_neg (by omega)]
    exact hc k (by omega)
/-- A row as what append asks for, and back. -/
def ptrs (n : Nat) (b : Nat → Nat) : List Value := (List.range n).map fun k => pt (b k)
theorem ptrs_len (n : Nat) (b : Nat → Nat) : (ptrs n b).length = n := by simp [ptrs]
theorem ptrs_get {n k : Nat} {b : Nat → Nat} (h : k < n) : (ptrs n b)[k]? = some (pt (b k)) := by simp [ptrs, h]
theorem ptrs_ext {n : Nat} {b : Nat → Nat} {l : List Value} (hl : l.length = n) (h : ∀ k, k < n → l[k]? = some (pt (b k))) : l = ptrs n b := by
  apply List.ext_getElem?
  intro k
  by_cases hk : k < n
  · rw [h k hk, ptrs_get hk]
  · rw [List.getElem?_eq_none (by omega), List.getElem?_eq_none (by rw [ptrs_len]; omega)]
theorem Row.owns {w : World} {N : Nat} {v : Value} {n : Nat} {b : Nat → Nat} (h : Row w N v n b) : w.ownsRow N 56 1 v n (ptrs n b) := by
  refine ⟨by rw [ptrs_len]; omega, ?_⟩
  rcases h with h | ⟨g, cap, c, e, h1, h2, h3, h4, h5, h6⟩
  · exact .inl h
  · refine .inr ⟨g, cap, c, e, h1, h2, h3, h4, by omega, ?_⟩
    refine ptrs_ext ?_ fun k hk => ?_
    · simp; omega
    · rw [Nat.mul_one, List.getElem?_take_of_lt hk, Array.getElem?_toList]; exact h6 k hk
theorem Row.back {w : World} {N : Nat} {v : Value} {n : Nat} {b : Nat → Nat} (h : w.ownsRow N 56 1 v n (ptrs n b)) : Row w N v n b := by
  rcases h.2 with h1 | ⟨g, cap, c, e, h1, h2, h3, h4, h5, h6⟩
  · exact .inl h1
  · refine .inr ⟨g, cap, c, e, h1, h2, h3, h4, by omega, fun k hk => ?_⟩
    have := ptrs_get (b := b) hk
    rw [← h6, Nat.mul_one, List.getElem?_take_of_lt hk, Array.getElem?_toList] at this
    exact this
/-- One more behind the places. -/
def put (b : Nat → Nat) (n s : Nat) : Nat → Nat := fun k => if k = n then s else b k
theorem put_at (b : Nat → Nat) (n s : Nat) : put b n s n = s := by simp [put]
theorem put_old {b : Nat → Nat} {n s k : Nat} (h : k ≠ n) : put b n s k = b k := by simp [put, h]
theorem ptrs_put (n s : Nat) (b : Nat → Nat) : ptrs n b ++ [pt s] = ptrs (n + 1) (put b n s) := by
  refine ptrs_ext (by simp [ptrs_len]) fun k hk => ?_
  by_cases e : k = n
  · subst e; rw [List.getElem?_append_right (by rw [ptrs_len]; exact Nat.le_refl _), ptrs_len, put_at]; simp
  · rw [List.getElem?_append_left (by rw [ptrs_len]; omega), ptrs_get (by omega), put_old e]
theorem info56 : (Tryd.prog.info? 56).map (fun i => (i.zero, i.size, i.bytes)) = some (some (.pointer none), 1, 8) := by kernel_rfl
theorem grown_fr {N hb : Nat} {w w' : World} {v : Value} {n : Nat} {b : Nat → Nat} (h : Row w N v n b) (hg : w.grownBy w' v.ownBlock) : Fr N hb w w' := by
  refine ⟨hg.os, hg.tape, hg.output, hg.size, fun k hk hc => hg.block k hk fun e => ?_⟩
  rcases h with ⟨rfl, _⟩ | ⟨g, cap, c, rfl, h1, h2, _⟩
  · cases e
  · simp only [Value.ownBlock, Option.some.injEq] at e
    subst e
    rcases hc with hc | ⟨_, ho⟩
    · omega
    · exact ho.2 _ _ h2
theorem grown_keep {N k : Nat} {w w' : World} {v : Value} {n : Nat} {b : Nat → Nat} {c : Array Value} {t : TypeId} {z : Nat × Nat} (h : Row w N v n b) (hg : w.grownBy w' v.ownBlock) (hk : w.heap[k]? = some (.cells c t z)) (ht : t ≠ 56) : w'.heap[k]? = some (.cells c t z) := by
  refine (hg.block k (blk_lt hk) fun e => ?_).trans hk
  rcases h with ⟨rfl, _⟩ | ⟨g, cap, c, rfl, h1, h2, _⟩
  · cases e
  · simp only [Value.ownBlock, Option.some.injEq] at e
    subst e
    rw [h2] at hk
    simp only [Option.some.injEq, Obj.cells.injEq] at hk
    exact ht hk.2.1.symm
theorem one_cell (w : World) (v : Value) (t : TypeId) : ∀ j u, [v][j]? = some u → (w.alloc (.cells #[v] t)).cell? ((⟨w.heap.size, 0, none⟩ : Addr).add j) = some u := by
  intro j u hj
  cases j with
  | zero => simp at hj; subst hj; simp [Addr.add]
  | succ j => simp at hj
theorem one_pt (s : Nat) : ∀ u ∈ [pt s], u.oneCell' = true := by intro u hu; simp at hu; subst hu; rfl
set_option maxHeartbeats 1000000 in
theorem lpush_ {w : World} {N hb : Nat} {ty : TypeId} {rs : List Value} {v : Value} {n : Nat} {b : Nat → Nat} {S : Nat → Sl} (h : Ln w N hb ty rs v n b S) (s p : Nat) (hs : SlotAt w s (S s) p) (hNs : N ≤ s) (hnot : ∀ k, k < n → b k ≠ s) (hn : n + 1 ≤ 17592186044416) :
    Calls Tryd.prog 87 #[.pointer (some ⟨hb, 0, none⟩), .iface 56 (.pointer (some ⟨s, 0, none⟩))] w fun e w' => e = .returned (.tuple #[]) ∧ ∃ v', Ln w' N hb ty rs v' (n + 1) (put b n s) S ∧ Fr N hb w w' := by
  have ta : ∀ (v : Value) (w : World), (Instr.typeAssert (.iface 56 v) 20 56 false).run Tryd.prog w = .ok v w := fun _ _ => by kernel_rfl
  obtain ⟨i0, hi, hz0, hz1, hz2⟩ := info_parts info56
  obtain ⟨a, c, rfl, _, _⟩ := h.len
  obtain ⟨c0, f0⟩ := h.head
  have c4 := hs.cells.2.2.2.2
  have f4 : w.frozen? ⟨s, 4, none⟩ = false := frozen_of hs
  have hhs : hb ≠ s := fun e => by subst e; rw [SlotAt, h.hdr] at hs; simp only [Option.some.injEq, Obj.cells.injEq] at hs; exact h.tyS hs.2.1
  have c1 : (w.setCell ⟨s, 4, none⟩ (.int .i64 (n : Int))).cell? ⟨hb, 0, none⟩ = some (.slice a n c) := by
    rw [World.cell?_setCell_other _ _ _ _ (fun e => hhs (Addr.mk.inj e).1.symm)]; exact c0
  have hsz1 : (w.setCell ⟨s, 4, none⟩ (.int .i64 (n : Int))).heap.size = w.heap.size := Deep.nblk_setCell _ _ _
  have fr1 : Fr N hb w (w.setCell ⟨s, 4, none⟩ (.int .i64 (n : Int))) := Fr.set _ hs hNs (.inl rfl)
  have s1 := heap_set (o := 4) (.int .i64 (n : Int)) hs
  rw [slotC_place] at s1
  have r1 : Row (w.setCell ⟨s, 4, none⟩ (.int .i64 (n : Int))) N (.slice a n c) n b := by
    rcases h.row with h1 | ⟨g, cap, cc, e, k1, k2, k3⟩
    · exact .inl h1
    · refine .inr ⟨g, cap, cc, e, k1, ?_, k3⟩
      rw [heap_far _ fun e => by subst e; rw [SlotAt, k2] at hs; simp at hs]
      exact k2
  have hh1 : (w.setCell ⟨s, 4, none⟩ (.int .i64 (n : Int))).heap[hb]? = some (.cells ⟨.slice a n c :: rs⟩ ty (0, 0)) := by rw [heap_far _ hhs]; exact h.hdr
  have sl1 : ∀ k, k < n → SlotAt (w.setCell ⟨s, 4, none⟩ (.int .i64 (n : Int))) (b k) (S (b k)) k := fun k hk => by
    show _ = _
    rw [heap_far _ (hnot k hk)]
    exact (h.slot k hk).2
  have hlow := h.low
  have hlt := blk_lt h.hdr
  have HT : Hid (ty ≠ 59 ∧ ty ≠ 56) := ⟨h.tyS, h.tyP⟩
  have HN : Hid (∀ k, k < n → N ≤ b k) := fun k hk => (h.slot k hk).1
  have HF1 := Lib.hid fr1
  have HS1 := Lib.hid s1
  have HR1 := Lib.hid r1
  have HH1 := Lib.hid hh1
  have HL1 := Lib.hid sl1
  clear fr1 s1 r1 hh1 sl1 h hs hnot
  go_enter Tryd.func87, Tryd.ntmps87
  go_wp2_with (first
    | (at_builtin; refine wpList_append_own _ rfl _ _ 51 rfl N 56 i0 (.pointer none) 1 8 Tryd.underlying51 hi hz0 hz1 hz2 rfl (by decide) _ _ _ rfl ((HR1.out.on ((Below.refl _ _).alloc (Nat.le_refl _) _)).owns) ⟨w.heap.size, 0, none⟩ 1 1 [pt s] rfl rfl (by have := one_cell (w.setCell ⟨s, 4, none⟩ (.int .i64 (n : Int))) (pt s) 56; rw [hsz1] at this; exact this) (one_pt _) (by unfold maxLen; omega) (by omega) (by simp; omega) ?_)
    | go_in)
  intro v' w2 hown hgrow _
  rw [ptrs_put] at hown
  have hr0 := HR1.out.on ((Below.refl _ _).alloc (Nat.le_refl (w.setCell ⟨s, 4, none⟩ (.int .i64 (n : Int))).heap.size) (.cells #[Value.pointer (some ⟨s, 0, none⟩)] 56))
  have hb0 : Below (w.setCell ⟨s, 4, none⟩ (.int .i64 (n : Int))).heap.size (w.setCell ⟨s, 4, none⟩ (.int .i64 (n : Int))) ((w.setCell ⟨s, 4, none⟩ (.int .i64 (n : Int))).alloc (.cells #[Value.pointer (some ⟨s, 0, none⟩)] 56)) := (Below.refl _ _).alloc (Nat.le_refl _) _
  have HF2 := Lib.hid ((HF1.out.trans (below_fr hb0 N hb)).trans (grown_fr hr0 hgrow))
  have hh2 : w2.heap[hb]? = some (.cells ⟨.slice a n c :: rs⟩ ty (0, 0)) := grown_keep hr0 hgrow ((hb0.block hb (blk_lt HH1.out)).trans HH1.out) HT.out.2
  have HS2 : Hid (SlotAt w2 s (S s) n) := grown_keep hr0 hgrow ((hb0.block s (blk_lt HS1.out)).trans HS1.out) (by decide)
  have HL2 : Hid (∀ k, k < n → SlotAt w2 (b k) (S (b k)) k) := fun k hk => grown_keep hr0 hgrow ((hb0.block (b k) (blk_lt (HL1.out k hk))).trans (HL1.out k hk)) (by decide)
  obtain ⟨g', cap', rfl⟩ : ∃ g' cap', v' = .slice (some ⟨g', 0, none⟩) (n + 1) cap' := by
    rcases Row.back hown with ⟨_, h0⟩ | ⟨g, cap, _, e, _⟩
    · omega
    · exact ⟨g, cap, e⟩
  have HR2 := Lib.hid (Row.back hown)
  have cc := cell_of (o := 0) hh2 rfl
  have ff := frozen_of (o := 0) hh2
  have HH2 := Lib.hid hh2
  clear HF1 HS1 HR1 HH1 HL1 hr0 hb0 hown hgrow hh2 c0 f0 c4 f4 c1 hsz1 hlt ta hi hz0 hz1 hz2
  go_wp2_with fail
  go_end0
  refine ⟨rfl, .slice (some ⟨g', 0, none⟩) (n + 1) cap', ?_, HF2.out.trans (Fr.set _ HH2.out hlow (.inr (.inr rfl)))⟩
  have hne : ∀ k t cs, w2.heap[k]? = some (.cells cs t (0, 0)) → t ≠ ty → k ≠ hb := fun k t cs hk ht e => by
    subst e; rw [HH2.out] at hk; simp only [Option.some.injEq, Obj.cells.injEq] at hk; exact ht hk.2.1.symm
  refine ⟨heap_set (o := 0) _ HH2.out, HT.out.1, HT.out.2, hlow, ?_, fun k hk => ?_, hn⟩
  · rcases HR2.out with h1 | ⟨g, cap, cc, e, k1, k2, k3⟩
    · exact .inl h1
    · exact .inr ⟨g, cap, cc, e, k1, by rw [heap_far _ (hne g _ _ k2 (Ne.symm HT.out.2))]; exact k2, k3⟩
  · by_cases e : k = n
    · subst e
      rw [put_at]
      refine ⟨hNs, ?_⟩
      show _ = _
      rw [heap_far _ (hne s _ _ HS2.out (Ne.symm HT.out.1))]
      exact HS2.out
    · rw [put_old e]
      refine ⟨HN.out k (by omega), ?_⟩
      show _ = _
      rw [heap_far _ (hne _ _ _ (HL2.out k (by omega)) (Ne.symm HT.out.1))]
      exact HL2.out k (by omega)
end Go.Proofs.YtnkdhipeklphaaaDoor
