/- The walk of a place's compare. -/
import Derived.Test.YtjnhcanohefjiaaGreatDoorDWalk1
import Derived.Sort.Grow
namespace Go.Proofs.YtjnhcanohefjiaaGreatDoor
open Go.RowKit Go.Sort Go.Maps

def cmpI (x y : Int) : Int := if x < y then -1 else if x = y then 0 else 1
theorem cmpI_cases (x y : Int) : (cmpI x y = -1 ∧ x < y) ∨ (cmpI x y = 0 ∧ x = y) ∨ (cmpI x y = 1 ∧ y < x) := by
  unfold cmpI
  rcases Int.lt_trichotomy x y with h | h | h
  · exact .inl ⟨by simp [h], h⟩
  · exact .inr (.inl ⟨by subst h; simp, h⟩)
  · exact .inr (.inr ⟨by rw [if_neg (by omega), if_neg (by omega)], h⟩)
theorem nanInt_ (x : Int) (w : World) : Calls Tryz.prog 99 #[.int .i64 x] w fun e w' => e = .returned (.bool false) ∧ w' = w := by
  go_enter Tryz.func99, Tryz.ntmps99
  go_wp2_with fail
  go_ret
  exact ⟨rfl, rfl⟩
theorem cmpInt_ (x y : Int) (w : World) : Calls Tryz.prog 88 #[.int .i64 x, .int .i64 y] w fun e w' => e = .returned (.int .i64 (cmpI x y)) ∧ w' = w := by
  rcases cmpI_cases x y with ⟨h1, h2⟩ | ⟨h1, h2⟩ | ⟨h1, h2⟩
  · rw [h1]
    go_enter Tryz.func88, Tryz.ntmps88
    go_wp2_with (go_at_call 99; refine (nanInt_ _ _).mono ?_; rintro e w' ⟨rfl, rfl⟩)
    go_ret
    exact ⟨rfl, rfl⟩
  · rw [h1]
    subst h2
    go_enter Tryz.func88, Tryz.ntmps88
    go_wp2_with (go_at_call 99; refine (nanInt_ _ _).mono ?_; rintro e w' ⟨rfl, rfl⟩)
    go_ret
    exact ⟨rfl, rfl⟩
  · rw [h1]
    have h3 : ¬ x < y := by omega
    go_enter Tryz.func88, Tryz.ntmps88
    go_wp2_with (go_at_call 99; refine (nanInt_ _ _).mono ?_; rintro e w' ⟨rfl, rfl⟩)
    go_ret
    exact ⟨rfl, rfl⟩
/-- Places in order: by regions, and in them ascending. -/
def cmpP (a b : Pl) : Int := if cmpI a.1 b.1 = 0 then cmpI a.2 b.2 else cmpI a.1 b.1
theorem cmpP_lt (a b : Pl) : cmpP a b < 0 ↔ ltP a b := by
  unfold cmpP ltP
  rcases cmpI_cases a.1 b.1 with ⟨h1, h2⟩ | ⟨h1, h2⟩ | ⟨h1, h2⟩
  · rw [h1]; simp; omega
  · rw [h1]
    rcases cmpI_cases a.2 b.2 with ⟨h3, h4⟩ | ⟨h3, h4⟩ | ⟨h3, h4⟩ <;> rw [h3] <;> simp <;> omega
  · rw [h1]; simp; omega
set_option maxHeartbeats 1000000 in
theorem or_ (B : Nat) (x y r : Int) (w : World) (h0 : w.cell? ⟨B, 0, none⟩ = some (.int .i64 x)) (h1 : w.cell? ⟨B, 1, none⟩ = some (.int .i64 y)) (HR : Hid (r = if x = 0 then y else x)) :
    Calls Tryz.prog 87 #[.slice (some ⟨B, 0, none⟩) 2 2] w fun e w' => e = .returned (.int .i64 r) ∧ w' = w := by
  go_enter Tryz.func87, Tryz.ntmps87
  go_wp2
  go_loopw [8] (fun iv wy => ∃ i : Nat, i ≤ 2 ∧ iv = .int .i64 i ∧ wy = w ∧ Hid ((0 < i → x = 0) ∧ (1 < i → y = 0))) (fun iv _ => 2 - (intOf iv).toNat)
  case atStart => exact ⟨0, by omega, rfl, rfl, ⟨fun h => by omega, fun h => by omega⟩⟩
  case round =>
    obtain ⟨i, hi, rfl, rfl, H⟩ := hrel
    rcases (by omega : i = 0 ∨ i = 1 ∨ i = 2) with rfl | rfl | rfl
    · by_cases hx : x = 0
      · have HX := Lib.hid hx
        have hx' : (x != 0) = false := by simp [hx]
        clear hx
        have HREL : Hid (Hid ((0 < 1 → x = 0) ∧ (1 < 1 → y = 0))) := ⟨fun _ => HX.out, fun h => by omega⟩
        go_wp2_with fail
        go_roundw
        case rel => exact ⟨1, by omega, by go_num, trivial, HREL.out⟩
        case measure => simp [intOf]
      · have hx' : (x != 0) = true := by simp [hx]
        have HN : Hid (r = x) := by
          show r = x
          rw [HR.out, if_neg hx]
        clear hx
        go_wp2_with fail
        go_ret
        exact ⟨ret_int HN.out.symm, rfl⟩
    · by_cases hx : y = 0
      · have HX := Lib.hid hx
        have hx' : (y != 0) = false := by simp [hx]
        clear hx
        have HREL : Hid (Hid ((0 < 2 → x = 0) ∧ (1 < 2 → y = 0))) := ⟨fun _ => H.out.1 (by omega), fun _ => HX.out⟩
        go_wp2_with fail
        go_roundw
        case rel => exact ⟨2, by omega, by go_num, trivial, HREL.out⟩
        case measure => simp [intOf]
      · have hx' : (y != 0) = true := by simp [hx]
        have HN : Hid (r = y) := by
          show r = y
          rw [HR.out, if_pos (H.out.1 (by omega))]
        clear hx
        go_wp2_with fail
        go_ret
        exact ⟨ret_int HN.out.symm, rfl⟩
    · have HN : Hid (r = 0) := by
        show r = 0
        rw [HR.out, if_pos (H.out.1 (by omega)), H.out.2 (by omega)]
      go_wp2_with fail
      go_ret
      exact ⟨ret_int HN.out.symm, rfl⟩
theorem heap_three (w : World) (o o' o'' : Obj) : (((w.alloc o).alloc o').alloc o'').drew.heap[w.heap.size + 1 + 1]? = some o'' := by
  have := World.alloc_heap_new' ((w.alloc o).alloc o') o''
  simp only [World.size_alloc] at this
  exact this
theorem cell_three (w : World) (o o' : Obj) (x y : Value) (t : TypeId) : (((w.alloc o).alloc o').alloc (.cells #[x, y] t)).drew.cell? ⟨w.heap.size + 1 + 1, 0, none⟩ = some x ∧ (((w.alloc o).alloc o').alloc (.cells #[x, y] t)).drew.cell? ⟨w.heap.size + 1 + 1, 1, none⟩ = some y :=
  ⟨cell_of (heap_three w o o' (.cells #[x, y] t)) rfl, cell_of (heap_three w o o' (.cells #[x, y] t)) rfl⟩
theorem gr_three (w : World) (o o' o'' : Obj) : ∃ q os', (((w.alloc o).alloc o').alloc o'').drew = grow (w.drewN q) os' := ⟨1, #[o, o', o''], by
  show ({ w with heap := ((w.heap.push o).push o').push o'', drawn := w.drawn + 1 } : World) = { w with heap := w.heap ++ #[o, o', o''], drawn := w.drawn + 1 }
  congr 1⟩
set_option maxHeartbeats 1000000 in
set_option maxRecDepth 100000 in
theorem compare_ (a b : Pl) (w : World) :
    Calls Tryz.prog 68 #[plV a, plV b] w fun e w' => e = .returned (.int .i64 (cmpP a b)) ∧ ∃ q os', w' = grow (w.drewN q) os' := by
  obtain ⟨x1, x2⟩ := a
  obtain ⟨y1, y2⟩ := b
  unfold plV
  have HR : Hid (cmpP (x1, x2) (y1, y2) = if cmpI x1 y1 = 0 then cmpI x2 y2 else cmpI x1 y1) := rfl
  generalize cmpP (x1, x2) (y1, y2) = r at *
  have G := Lib.hid (gr_three w)
  go_enter Tryz.func68, Tryz.ntmps68
  go_wp2_with fail
  go_region_held (fun w' => w'.cell? ⟨w.heap.size, 0, none⟩ = some (.int .i64 x1) ∧ w'.cell? ⟨w.heap.size, 1, none⟩ = some (.int .i64 x2) ∧ w'.cell? ⟨w.heap.size + 1, 0, none⟩ = some (.int .i64 y1) ∧ w'.cell? ⟨w.heap.size + 1, 1, none⟩ = some (.int .i64 y2)) (go_keep)
    (first | (go_at_call 88; refine (cmpInt_ _ _ _).mono ?_; rintro e w' ⟨rfl, rfl⟩) | (go_at_call 87; refine (or_ (w.heap.size + 1 + 1) (cmpI x1 y1) (cmpI x2 y2) r _ (cell_three w _ _ _ _ _).1 (cell_three w _ _ _ _ _).2 HR).mono ?_; rintro e w' ⟨rfl, rfl⟩))
  go_wp2_with fail
  go_ret
  exact ⟨rfl, G.out _ _ _⟩
end Go.Proofs.YtjnhcanohefjiaaGreatDoor
