/- twin's small functions: Room, halfSectors, begin, isIn, newest, next; disk's Size. -/
import Derived.Test.YthaihallfjjnpaaGreatDoorJ4
import Derived.Test.YthaihallfjjnpaaGreatDoorJ1
namespace Go.Proofs.YthaihallfjjnpaaGreatDoor
open Go.RowKit Go.Sort Go.Maps

/-- An area as a value. -/
def arV (a : Ar) : Value := .agg #[.int .i64 a.g, .int .i64 a.f, .int .i64 a.s]
def inR (a : Ar) : Prop := inI a.g ∧ inI a.f ∧ inI a.s
theorem wraps_i64 (n : Int) (h0 : -9223372036854775808 ≤ n) (h1 : n ≤ 9223372036854775807) : IntKind.i64.wrap n = n := by rw [IntKind.wrap_i64]; omega
set_option maxHeartbeats 1000000 in
theorem halfS_ (a : Ar) (w : World) (h0 : 0 ≤ a.s) (h1 : a.s ≤ 16384) :
    Calls Tryz.prog 30 #[arV a] w fun e w' => e = .returned (.int .i64 (a.s / 2)) ∧ Below w.heap.size w w' := by
  obtain ⟨g, f, s⟩ := a
  unfold arV
  simp only at h0 h1 ⊢
  have e1 : s.tdiv 2 = s / 2 := Int.tdiv_eq_ediv_of_nonneg h0
  go_enter Tryz.func30, Tryz.ntmps30
  go_wp2_with fail
  go_ret
  exact ⟨rfl, (Below.refl _ _).alloc (Nat.le_refl _) _⟩
/-- An area in a block of its own. -/
def ArAt (w : World) (b : Nat) (a : Ar) : Prop := w.heap[b]? = some (.cells #[.int .i64 a.g, .int .i64 a.f, .int .i64 a.s] 44 (0, 0))
theorem ArAt.on {w w' : World} {b : Nat} {a : Ar} (h : ArAt w b a) (hb : Below w.heap.size w w') : ArAt w' b a := (hb.block b (blk_lt h)).trans h
theorem ArAt.cells {w : World} {b : Nat} {a : Ar} (h : ArAt w b a) : w.cell? ⟨b, 0, none⟩ = some (.int .i64 a.g) ∧ w.cell? ⟨b, 1, none⟩ = some (.int .i64 a.f) ∧ w.cell? ⟨b, 2, none⟩ = some (.int .i64 a.s) := ⟨cell_of h rfl, cell_of h rfl, cell_of h rfl⟩
def arW' (w : World) (a : Ar) : World := w.alloc (.cells #[.int .i64 a.g, .int .i64 a.f, .int .i64 a.s] 44)
theorem arW'_at (w : World) (a : Ar) : ArAt (arW' w a) w.heap.size a := World.alloc_heap_new' _ _
theorem arW'_below (w : World) (a : Ar) : Below w.heap.size w (arW' w a) := (Below.refl _ _).alloc (Nat.le_refl _) _
set_option maxHeartbeats 1000000 in
theorem room9_ (a : Ar) (w : World) :
    Calls Tryz.prog 12 #[arV a] w fun e w' => e = .returned (.int .i64 (roomA a)) ∧ Below w.heap.size w w' := by
  by_cases h1 : a.s < 2
  · have e : roomA a = 0 := if_pos (.inl h1)
    rw [e]
    obtain ⟨g, f, s⟩ := a
    unfold arV
    simp only at h1 ⊢
    clear e
    go_enter Tryz.func12, Tryz.ntmps12
    go_wp2_with fail
    go_ret
    exact ⟨rfl, (Below.refl _ _).alloc (Nat.le_refl _) _⟩
  · by_cases h2 : 16384 < a.s
    · have e : roomA a = 0 := if_pos (.inr h2)
      rw [e]
      obtain ⟨g, f, s⟩ := a
      unfold arV
      simp only at h1 h2 ⊢
      clear e
      go_enter Tryz.func12, Tryz.ntmps12
      go_wp2_with fail
      go_ret
      exact ⟨rfl, (Below.refl _ _).alloc (Nat.le_refl _) _⟩
    · have e : roomA a = max 0 (a.s / 2 * 64 - 24) := if_neg (by omega)
      have HH := Lib.hid (fun W => halfS_ a W (by omega) (by omega))
      rw [e]
      obtain ⟨g, f, s⟩ := a
      unfold arV at HH ⊢
      simp only at h1 h2 ⊢
      simp only [] at HH
      clear e
      have hs0 : 1 ≤ s / 2 ∧ s / 2 ≤ 8192 := by omega
      generalize hq : s / 2 = q at *
      have w1 := wraps_i64 (q * 64) (by omega) (by omega)
      have w2 := wraps_i64 (q * 64 - 24) (by omega) (by omega)
      go_enter Tryz.func12, Tryz.ntmps12
      go_wp2_with (first | (go_at_call 30; refine (HH.out _).mono ?_; rintro e w1 ⟨rfl, hb1⟩) | fail)
      go_ret
      exact ⟨ret_int (by omega), ((Below.refl _ _).alloc (Nat.le_refl _) _).trans (hb1.mono (by simp))⟩
set_option maxHeartbeats 1000000 in
theorem begin_ (a : Ar) (h : Nat) (w : World) (hs0 : 0 ≤ a.s) (hs1 : a.s ≤ 16384) (hf0 : 0 ≤ a.f) (hf1 : a.f ≤ 16384) (hh : h < 2) :
    Calls Tryz.prog 33 #[arV a, .int .i64 (h : Int)] w fun e w' => e = .returned (.int .i64 (begA a h)) ∧ Below w.heap.size w w' := by
  have HH := Lib.hid (fun W => halfS_ a W hs0 hs1)
  have HB := Lib.hid (arW'_below w a)
  obtain ⟨x0, x1, x2⟩ := (arW'_at w a).cells
  unfold begA arW' at *
  obtain ⟨g, f, s⟩ := a
  unfold arV at HH ⊢
  simp only at hs0 hs1 hf0 hf1 x0 x1 x2 HB ⊢
  simp only [] at HH
  have hq0 : 0 ≤ s / 2 ∧ s / 2 ≤ 8192 := by omega
  generalize hq : s / 2 = q at *
  have hm : (h : Int) * q = 0 ∨ (h : Int) * q = q := by
    have : h = 0 ∨ h = 1 := by omega
    rcases this with rfl | rfl
    · left; simp
    · right; simp
  have w1 : IntKind.i64.wrap ((h : Int) * q) = (h : Int) * q := by rcases hm with e | e <;> rw [e] <;> exact wraps_i64 _ (by omega) (by omega)
  generalize hmq : (h : Int) * q = m at *
  have w2 := wraps_i64 (f + m) (by omega) (by omega)
  go_enter Tryz.func33, Tryz.ntmps33
  go_wp2_with fail
  generalize w.alloc (.cells #[.int .i64 g, .int .i64 f, .int .i64 s] 44) = W at *
  refine wp_region_quiet_below (by kernel_rfl) (by kernel_rfl) ?_
  have k0 := cell_regrown x0
  have k1 := cell_regrown x1
  have k2 := cell_regrown x2
  clear x0 x1 x2
  repeat (go_big_quiet_step (first | (go_at_call 30; exact Calls.regrown_of (HH.out _))))
  refine wpQuiet_nil ?_
  intro _ hw'
  obtain ⟨⟨dq, osq⟩, hw''⟩ := hw'
  subst hw''
  have hbq := Lib.hid (HB.out.trans ((below_regrown W dq osq).mono HB.out.size))
  generalize grow (redrawn W dq) osq = W2 at *
  go_wp2_with fail
  go_ret
  exact ⟨rfl, hbq.out⟩
set_option maxHeartbeats 1000000 in
theorem dsize_ {w : World} {p aa bb : Nat} {d : Dev} {K : Nat} (h : DevIn w p aa bb d K) :
    Calls Tryz.prog 70 #[.pointer (some ⟨p, 0, none⟩)] w fun e w' => e = .returned (.tuple #[.int .i64 d.r, .int .i64 d.s]) ∧ Below w.heap.size w w' := by
  obtain ⟨c0, c1, _, _, _, _, _⟩ := h.cells
  clear h
  generalize d.r = r at *
  generalize d.s = s at *
  go_enter Tryz.func70, Tryz.ntmps70
  go_wp2_with fail
  go_quiet (fail)
  have HB := Lib.hid (below_drewN (Below.refl w.heap.size w) nq)
  go_wp2_with fail
  go_ret2
  exact ⟨rfl, HB.out⟩
set_option maxRecDepth 100000 in
set_option maxHeartbeats 2000000 in
theorem isIn_ {w : World} {p aa bb : Nat} {d : Dev} {K : Nat} (h : DevIn w p aa bb d K) (a : Ar) (hr : inR a) :
    Calls Tryz.prog 49 #[arV a, .pointer (some ⟨p, 0, none⟩)] w fun e w' => e = .returned (.bool (decide (inA d a))) ∧ Below w.heap.size w w' := by
  have hb := arW'_below w a
  have HS := Lib.hid (dsize_ (h.on hb))
  have HA := Lib.hid (arW'_at w a)
  have HB := Lib.hid hb
  have hl := h.lim
  unfold inA
  unfold arW' at *
  clear hb h
  obtain ⟨g, f, s⟩ := a
  obtain ⟨⟨r1, r2⟩, ⟨r3, r4⟩, r5, r6⟩ := hr
  unfold arV
  simp only at *
  generalize d.r = dr at *
  generalize d.s = ds at *
  obtain ⟨l1, l2, l3, l4⟩ := hl
  generalize hV : w.alloc (.cells #[.int .i64 g, .int .i64 f, .int .i64 s] 44) = V at *
  have key : ∀ b : Bool, b = decide (0 ≤ g ∧ g < dr ∧ 0 ≤ f ∧ 2 ≤ s ∧ s ≤ ds ∧ f ≤ ds - s) → ∀ (e : Ending) (w' : World), e = .returned (.bool b) → Below w.heap.size w w' → e = .returned (.bool (decide (0 ≤ g ∧ g < dr ∧ 0 ≤ f ∧ 2 ≤ s ∧ s ≤ ds ∧ f ≤ ds - s))) ∧ Below w.heap.size w w' := by
    intro b hb e w' he hw
    exact ⟨he.trans (ret_bool hb), hw⟩
  go_enter Tryz.func49, Tryz.ntmps49
  go_wp2_with fail
  refine HS.out.mono ?_
  rintro e w1 ⟨rfl, hb1⟩
  have HB1 := Lib.hid (below_step HB.out hb1)
  obtain ⟨x0, x1, x2⟩ := (HA.out.on hb1).cells
  simp only at x0 x1 x2
  clear hb1 HS HA hV
  by_cases c1 : g < 0
  · go_wp2_with fail
    go_ret
    exact key false (by symm; exact decide_eq_false (by omega)) _ _ rfl HB1.out
  · by_cases c2 : g ≥ dr
    · go_wp2_with fail
      go_ret
      exact key false (by symm; exact decide_eq_false (by omega)) _ _ rfl HB1.out
    · by_cases c3 : f < 0
      · go_wp2_with fail
        go_ret
        exact key false (by symm; exact decide_eq_false (by omega)) _ _ rfl HB1.out
      · by_cases c4 : s < 2
        · go_wp2_with fail
          go_ret
          exact key false (by symm; exact decide_eq_false (by omega)) _ _ rfl HB1.out
        · by_cases c5 : s ≤ ds
          · have w1 := wraps_i64 (ds - s) (by omega) (by omega)
            by_cases c6 : f ≤ ds - s
            · go_wp2_with fail
              go_ret
              exact key true (by symm; exact decide_eq_true (by omega)) _ _ rfl HB1.out
            · have b6 : decide (f ≤ ds - s) = false := decide_eq_false c6
              go_wp2_with fail
              go_ret
              exact key false (by symm; exact decide_eq_false (by omega)) _ _ rfl HB1.out
          · have b5 : decide (s ≤ ds) = false := decide_eq_false c5
            go_wp2_with fail
            go_ret
            exact key false (by symm; exact decide_eq_false (by omega)) _ _ rfl HB1.out
/-- What both halves hold, as a value. -/
def twoV (n m : Nat) (s t : Value) : Value := .agg #[.int .u64 n, s, .int .u64 m, t]
set_option maxHeartbeats 1000000 in
theorem newest_ (n m : Nat) (s t : Value) (w : World) :
    Calls Tryz.prog 25 #[twoV n m s t] w fun e w' => e = .returned (.int .i64 (if m > n then 1 else 0 : Nat)) ∧ Below w.heap.size w w' := by
  unfold twoV
  by_cases h : m > n
  · rw [if_pos h]
    have h' : (m : Int) > n := by omega
    go_enter Tryz.func25, Tryz.ntmps25
    go_wp2_with fail
    go_ret
    exact ⟨rfl, (Below.refl _ _).alloc (Nat.le_refl _) _⟩
  · rw [if_neg h]
    have h' : ¬ (m : Int) > n := by omega
    go_enter Tryz.func25, Tryz.ntmps25
    go_wp2_with fail
    go_ret
    exact ⟨rfl, (Below.refl _ _).alloc (Nat.le_refl _) _⟩
theorem cell4 {w : World} {b : Nat} {v0 v1 v2 v3 : Value} (h : w.heap[b]? = some (.cells #[v0, v1, v2, v3] 71 (0, 0))) : w.cell? ⟨b, 0, none⟩ = some v0 ∧ w.cell? ⟨b, 1, none⟩ = some v1 ∧ w.cell? ⟨b, 2, none⟩ = some v2 ∧ w.cell? ⟨b, 3, none⟩ = some v3 :=
  ⟨cell_of h rfl, cell_of h rfl, cell_of h rfl, cell_of h rfl⟩
set_option maxHeartbeats 1000000 in
theorem next_ (n m : Nat) (s t : Value) (w : World) :
    Calls Tryz.prog 31 #[twoV n m s t] w fun e w' => e = .returned (.tuple #[.int .i64 (if (if m > n then m else n) = 0 then 0 else if m > n then 0 else 1 : Nat), .int .u64 (if (if m > n then m else n) = 0 then 1 else ((if m > n then m else n) + 1) % 18446744073709551616 : Nat)]) ∧ Below w.heap.size w w' := by
  obtain ⟨V, hV⟩ : ∃ V, V = w.alloc (.cells #[.int .u64 n, s, .int .u64 m, t] 71) := ⟨_, rfl⟩
  have hat : V.heap[w.heap.size]? = some (.cells #[.int .u64 n, s, .int .u64 m, t] 71 (0, 0)) := by rw [hV]; exact World.alloc_heap_new' _ _
  have HB : Hid (Below w.heap.size w V) := by rw [hV]; exact (Below.refl _ _).alloc (Nat.le_refl _) _
  have HN := Lib.hid (newest_ n m s t V)
  unfold twoV at HN ⊢
  by_cases h : m > n
  · simp only [if_pos h] at HN ⊢
    rw [if_neg (by omega), if_neg (by omega)]
    go_enter Tryz.func31, Tryz.ntmps31
    go_wp2_with fail
    rw [← hV]
    refine HN.out.mono ?_
    rintro e w1 ⟨rfl, hb1⟩
    obtain ⟨x0, x1, x2, x3⟩ := cell4 ((hb1.block _ (blk_lt hat)).trans hat)
    have HB1 := Lib.hid (below_step HB.out hb1)
    clear hb1 hat hV HN
    have hm : ((m : Int) == 0) = false := by simpa using (by omega : ¬ (m : Int) = 0)
    have hw : IntKind.u64.wrap ((m : Int) + 1) = ((m + 1) % 18446744073709551616 : Nat) := by rw [IntKind.wrap_u64]; omega
    go_wp2_with fail
    go_ret2
    exact ⟨rfl, HB1.out⟩
  · simp only [if_neg h] at HN ⊢
    by_cases h0 : n = 0
    · rw [if_pos h0, if_pos h0]
      have H0 := Lib.hid h0
      clear h0
      go_enter Tryz.func31, Tryz.ntmps31
      go_wp2_with fail
      rw [← hV]
      refine HN.out.mono ?_
      rintro e w1 ⟨rfl, hb1⟩
      have hm : ((n : Int) == 0) = true := by simp [H0.out]
      obtain ⟨x0, x1, x2, x3⟩ := cell4 ((hb1.block _ (blk_lt hat)).trans hat)
      have HB1 := Lib.hid (below_step HB.out hb1)
      clear hb1 hat hV HN
      go_wp2_with fail
      go_ret2
      exact ⟨rfl, HB1.out⟩
    · rw [if_neg h0, if_neg h0]
      go_enter Tryz.func31, Tryz.ntmps31
      go_wp2_with fail
      rw [← hV]
      refine HN.out.mono ?_
      rintro e w1 ⟨rfl, hb1⟩
      obtain ⟨x0, x1, x2, x3⟩ := cell4 ((hb1.block _ (blk_lt hat)).trans hat)
      have HB1 := Lib.hid (below_step HB.out hb1)
      clear hb1 hat hV HN
      have hm : ((n : Int) == 0) = false := by simpa using (by omega : ¬ (n : Int) = 0)
      have hw : IntKind.u64.wrap ((n : Int) + 1) = ((n + 1) % 18446744073709551616 : Nat) := by rw [IntKind.wrap_u64]; omega
      go_wp2_with fail
      go_ret2
      exact ⟨rfl, HB1.out⟩
end Go.Proofs.YthaihallfjjnpaaGreatDoor
