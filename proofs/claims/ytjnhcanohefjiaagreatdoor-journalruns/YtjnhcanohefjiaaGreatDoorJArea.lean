/- journal's small functions: isIn; disk's Size; an area in memory. -/
import Derived.Test.YtjnhcanohefjiaaGreatDoorDReg
import Derived.Test.YtjnhcanohefjiaaGreatDoorJMem
namespace Go.Proofs.YtjnhcanohefjiaaGreatDoor
open Go.RowKit Go.Sort Go.Maps

/-- An area as a value. -/
def arV (a : Ar) : Value := .agg #[.int .i64 a.g, .int .i64 a.f, .int .i64 a.s]
def inR (a : Ar) : Prop := inI a.g ∧ inI a.f ∧ inI a.s
theorem wraps_i64 (n : Int) (h0 : -9223372036854775808 ≤ n) (h1 : n ≤ 9223372036854775807) : IntKind.i64.wrap n = n := by rw [IntKind.wrap_i64]; omega
/-- An area in a block of its own. -/
def ArAt (w : World) (b : Nat) (a : Ar) : Prop := w.heap[b]? = some (.cells #[.int .i64 a.g, .int .i64 a.f, .int .i64 a.s] 36 (0, 0))
theorem ArAt.on {w w' : World} {b : Nat} {a : Ar} (h : ArAt w b a) (hb : Below w.heap.size w w') : ArAt w' b a := (hb.block b (blk_lt h)).trans h
theorem ArAt.cells {w : World} {b : Nat} {a : Ar} (h : ArAt w b a) : w.cell? ⟨b, 0, none⟩ = some (.int .i64 a.g) ∧ w.cell? ⟨b, 1, none⟩ = some (.int .i64 a.f) ∧ w.cell? ⟨b, 2, none⟩ = some (.int .i64 a.s) := ⟨cell_of h rfl, cell_of h rfl, cell_of h rfl⟩
def arW' (w : World) (a : Ar) : World := w.alloc (.cells #[.int .i64 a.g, .int .i64 a.f, .int .i64 a.s] 36)
theorem arW'_at (w : World) (a : Ar) : ArAt (arW' w a) w.heap.size a := World.alloc_heap_new' _ _
theorem arW'_below (w : World) (a : Ar) : Below w.heap.size w (arW' w a) := (Below.refl _ _).alloc (Nat.le_refl _) _
set_option maxHeartbeats 1000000 in
theorem dsize_ {w : World} {p aa bb : Nat} {d : Dev} {K : Nat} (h : DevIn w p aa bb d K) :
    Calls Tryz.prog 48 #[.pointer (some ⟨p, 0, none⟩)] w fun e w' => e = .returned (.tuple #[.int .i64 d.r, .int .i64 d.s]) ∧ Below w.heap.size w w' := by
  obtain ⟨c0, c1, _, _, _, _, _⟩ := h.cells
  clear h
  generalize d.r = r at *
  generalize d.s = s at *
  go_enter Tryz.func48, Tryz.ntmps48
  go_wp2_with fail
  go_quiet (fail)
  have HB := Lib.hid (below_drewN (Below.refl w.heap.size w) nq)
  go_wp2_with fail
  go_ret2
  exact ⟨rfl, HB.out⟩
set_option maxRecDepth 100000 in
set_option maxHeartbeats 2000000 in
theorem isIn_ {w : World} {p aa bb : Nat} {d : Dev} {K : Nat} (h : DevIn w p aa bb d K) (a : Ar) (hr : inR a) :
    Calls Tryz.prog 23 #[arV a, .pointer (some ⟨p, 0, none⟩)] w fun e w' => e = .returned (.bool (decide (inJ d a))) ∧ Below w.heap.size w w' := by
  have hb := arW'_below w a
  have HS := Lib.hid (dsize_ (h.on hb))
  have HA := Lib.hid (arW'_at w a)
  have HB := Lib.hid hb
  have hl := h.lim
  unfold inJ
  unfold arW' at *
  clear hb h
  obtain ⟨g, f, s⟩ := a
  obtain ⟨⟨r1, r2⟩, ⟨r3, r4⟩, r5, r6⟩ := hr
  unfold arV
  simp only at *
  generalize d.r = dr at *
  generalize d.s = ds at *
  obtain ⟨l1, l2, l3, l4⟩ := hl
  generalize hV : w.alloc (.cells #[.int .i64 g, .int .i64 f, .int .i64 s] 36) = V at *
  have key : ∀ b : Bool, b = decide (0 ≤ g ∧ g < dr ∧ 0 ≤ f ∧ 1 ≤ s ∧ s ≤ ds ∧ f ≤ ds - s) → ∀ (e : Ending) (w' : World), e = .returned (.bool b) → Below w.heap.size w w' → e = .returned (.bool (decide (0 ≤ g ∧ g < dr ∧ 0 ≤ f ∧ 1 ≤ s ∧ s ≤ ds ∧ f ≤ ds - s))) ∧ Below w.heap.size w w' := by
    intro b hb e w' he hw
    exact ⟨he.trans (ret_bool hb), hw⟩
  go_enter Tryz.func23, Tryz.ntmps23
  go_wp2_with fail
  refine HS.out.mono ?_
  rintro e w1 ⟨rfl, hb1⟩
  have HB1 := Lib.hid (below_step HB.out hb1)
  obtain ⟨x0, x1, x2⟩ := (HA.out.on hb1).cells
  simp only at x0 x1 x2
  clear hb1 HS HA hV
  by_cases c1 : g < 0
  · go_wp2_with fail
    go_ret
    exact key false (by symm; exact decide_eq_false (by omega)) _ _ rfl HB1.out
  · by_cases c2 : g ≥ dr
    · go_wp2_with fail
      go_ret
      exact key false (by symm; exact decide_eq_false (by omega)) _ _ rfl HB1.out
    · by_cases c3 : f < 0
      · go_wp2_with fail
        go_ret
        exact key false (by symm; exact decide_eq_false (by omega)) _ _ rfl HB1.out
      · by_cases c4 : s < 1
        · go_wp2_with fail
          go_ret
          exact key false (by symm; exact decide_eq_false (by omega)) _ _ rfl HB1.out
        · by_cases c5 : s ≤ ds
          · have w1 := wraps_i64 (ds - s) (by omega) (by omega)
            by_cases c6 : f ≤ ds - s
            · go_wp2_with fail
              go_ret
              exact key true (by symm; exact decide_eq_true (by omega)) _ _ rfl HB1.out
            · have b6 : decide (f ≤ ds - s) = false := decide_eq_false c6
              go_wp2_with fail
              go_ret
              exact key false (by symm; exact decide_eq_false (by omega)) _ _ rfl HB1.out
          · have b5 : decide (s ≤ ds) = false := decide_eq_false c5
            go_wp2_with fail
            go_ret
            exact key false (by symm; exact decide_eq_false (by omega)) _ _ rfl HB1.out
end Go.Proofs.YtjnhcanohefjiaaGreatDoor
