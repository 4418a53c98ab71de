/- The walk of a line's Less. -/
import Derived.Test.YtnkdhipeklphaaaDoorHCmp
namespace Go.Proofs.YtnkdhipeklphaaaDoor
open Go.RowKit Go.Sort

theorem below_grow {w w' : World} (h : ∃ q os', w' = grow (w.drewN q) os') : Below w.heap.size w w' := by
  obtain ⟨q, os', rfl⟩ := h
  exact ⟨rfl, rfl, rfl, by simp [grow], fun k hk => by simp [grow, Array.getElem?_append, hk]⟩
theorem below_drew (w : World) : Below w.heap.size w w.drew := (Below.refl _ _).drew
theorem below_step {W w w' : World} (h : Below W.heap.size W w) (hb : Below w.heap.size w w') : Below W.heap.size W w' := h.trans (hb.mono h.size)
theorem below_drewN {N : Nat} {W w : World} (h : Below N W w) (q : Nat) : Below N W (w.drewN q) := ⟨h.os, h.tape, h.output, h.size, h.block⟩
set_option maxHeartbeats 1000000 in
theorem less_ {w : World} {N hb : Nat} {ty : TypeId} {rs : List Value} {v : Value} {n : Nat} {b : Nat → Nat} {S : Nat → Sl} (h : Ln w N hb ty rs v n b S) (i j : Nat) (hi : i < n) (hj : j < n) :
    Calls Tryd.prog 83 #[v, .int .i64 i, .int .i64 j] w fun e w' => e = .returned (.bool (decide (cmpS (S (b i)) (S (b j)) < 0))) ∧ Below w.heap.size w w' := by
  obtain ⟨g, cap, c, rfl, _, hg, hnc, hcm, hsz, hc, _⟩ := h.some (by omega)
  have ci := cell_of hg (hc i hi)
  have cj := cell_of hg (hc j hj)
  have HC : Hid (∀ W, Below w.heap.size w W → Calls Tryd.prog 30 #[pt (b i), pt (b j)] W fun e w' => e = .returned (.int .i64 (cmpS (S (b i)) (S (b j)))) ∧ Below W.heap.size W w') := fun W hW =>
    (compare_ (b i) (b j) i j _ _ W ((h.slot i hi).2.on hW) ((h.slot j hj).2.on hW)).mono fun _ _ ⟨he, hw⟩ => ⟨he, below_grow hw⟩
  have ci' : ∀ W, Below w.heap.size w W → W.cell? ⟨g, i, none⟩ = some (pt (b i)) := fun W hW => (hW.cell (block_lt_of_cell ci)).trans ci
  have cj' : ∀ W, Below w.heap.size w W → W.cell? ⟨g, j, none⟩ = some (pt (b j)) := fun W hW => (hW.cell (block_lt_of_cell cj)).trans cj
  have hi2 : (i : Int) < (n : Int) := by omega
  have hj2 : (j : Int) < (n : Int) := by omega
  have hlim := h.lim
  unfold pt at ci' cj' HC
  clear h hg hc hsz hcm ci cj
  generalize cmpS (S (b i)) (S (b j)) = r at *
  generalize b i = bi at *
  generalize b j = bj at *
  go_enter Tryd.func83, Tryd.ntmps83
  go_wp2_with fail
  refine wp_region_noPanic ?_
  go_region_held (fun w' => Below w.heap.size w w') (first | assumption | exact below_drew _ | exact below_step (by assumption) (by assumption))
    (first | (go_at_call 30; refine (HC.out _ (by assumption)).mono ?_; rintro e w' ⟨rfl, hb⟩))
  refine NoPanic.normal ?_
  have hbE : Below w.heap.size w w' := by assumption
  clear ci' cj' HC
  go_wp2_with fail
  go_ret
  exact ⟨rfl, hbE⟩
end Go.Proofs.YtnkdhipeklphaaaDoor
