/- The walk of a slot's compare. -/
import Derived.Test.YtnkdhipeklphaaaDoorHOr
import Derived.Sort.Grow
import Derived.Deep.RegionHeld
import Derived.Deep.RegionHeld3
namespace Go.Proofs.YtnkdhipeklphaaaDoor
open Go.RowKit Go.Sort

theorem gr_drew_alloc (w : World) (o : Obj) : ∃ q os', (w.alloc o).drew = grow (w.drewN q) os' := ⟨1, #[o], by rw [alloc_eq_grow]; rfl⟩
set_option maxHeartbeats 400000 in
set_option maxRecDepth 100000 in
theorem compare_ (a b p q : Nat) (x y : Sl) (w : World) (ha : SlotAt w a x p) (hb : SlotAt w b y q) :
    Calls Tryd.prog 30 #[.pointer (some ⟨a, 0, none⟩), .pointer (some ⟨b, 0, none⟩)] w fun e w' => e = .returned (.int .i64 (cmpS x y)) ∧ ∃ q os', w' = grow (w.drewN q) os' := by
  obtain ⟨_, a1, a2, a3, _⟩ := ha.cells
  obtain ⟨_, b1, b2, b3, _⟩ := hb.cells
  have HR : Hid (cmpS x y = if Lib.compareInt x.rank y.rank = 0 then (if cmpT x.text.toList y.text.toList = 0 then Lib.compareInt x.turn y.turn else cmpT x.text.toList y.text.toList) else Lib.compareInt x.rank y.rank) := rfl
  have G := Lib.hid (gr_drew_alloc w)
  clear ha hb
  generalize cmpS x y = r at *
  generalize x.rank = x1 at *
  generalize x.text = x2 at *
  generalize x.turn = x3 at *
  generalize y.rank = y1 at *
  generalize y.text = y2 at *
  generalize y.turn = y3 at *
  go_enter Tryd.func30, Tryd.ntmps30
  go_wp2_with fail
  go_region_held (fun w' => w'.cell? ⟨a, 1, none⟩ = some (.int .i64 x1) ∧ w'.cell? ⟨a, 2, none⟩ = some (.string x2) ∧ w'.cell? ⟨a, 3, none⟩ = some (.int .i64 x3) ∧ w'.cell? ⟨b, 1, none⟩ = some (.int .i64 y1) ∧ w'.cell? ⟨b, 2, none⟩ = some (.string y2) ∧ w'.cell? ⟨b, 3, none⟩ = some (.int .i64 y3)) (go_keep)
    (first | (go_at_call 41; refine (cmpInt_ _ _ _).mono ?_; rintro e w' ⟨rfl, rfl⟩) | (go_at_call 42; refine (cmpStr_ _ _ _).mono ?_; rintro e w' ⟨rfl, rfl⟩) | (go_at_call 40; refine (or_ w.heap.size (Lib.compareInt x1 y1) (cmpT x2.toList y2.toList) (Lib.compareInt x3 y3) r _ (by simp) (by simp) (by simp) HR).mono ?_; rintro e w' ⟨rfl, rfl⟩))
  go_wp2_with fail
  go_ret
  exact ⟨rfl, G.out _⟩
end Go.Proofs.YtnkdhipeklphaaaDoor
