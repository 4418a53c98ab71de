/- The walk of row.some. -/
import Derived.Test.YtlldamgnfaikhaaDoorRwRead
import Derived.Test.YtlldamgnfaikhaaDoorRwPack
import Derived.Test.YtlldamgnfaikhaaDoorRwMem
import Derived.Deep.RegionHeld3
namespace Go.Proofs.YtlldamgnfaikhaaDoor
open Go.RowKit Go.Sort

set_option maxRecDepth 100000 in
set_option maxHeartbeats 1000000 in
theorem some_int (a : Option Addr) (L c : Nat) (n : Int) (m E : Nat) (w : World) (HP : Hid (∀ W, Below w.heap.size w W → Calls Tryd.prog 51 #[.slice a L c] W fun e w' => e = .returned (.tuple #[.int .i64 n, .int .i64 m, errK E]) ∧ w' = W)) :
    Calls Tryd.prog 36 #[.int .i64 1, .slice a L c] w fun e w' => e = .returned (.tuple #[.agg #[.int .i64 1, .int .i64 n, .string ⟨#[]⟩, .bool false], .int .i64 m, .bool (decide (E = 0))]) ∧ Below w.heap.size w w' := by
  have HV : Hid (∀ W, Calls Tryd.prog 52 #[.int .i64 n] W fun e w' => e = .returned (.agg #[.int .i64 1, .int .i64 n, .string ⟨#[]⟩, .bool false]) ∧ Below W.heap.size W w') := fun W => int_ n W
  have F0 := Lib.hid (fr0_start w 47)
  obtain ⟨EV, ok, hEV, hok⟩ : ∃ (EV : Value) (ok : Bool), errK E = EV ∧ decide (E = 0) = ok := ⟨_, _, rfl, rfl⟩
  rw [hEV] at HP
  rw [hok]
  have hcase : (EV = .nilIface ∧ ok = true) ∨ (∃ z : Int, EV = .iface 57 (.int .i64 z)) ∧ ok = false := by
    by_cases h : E = 0
    · left; subst h; exact ⟨hEV ▸ rfl, by rw [← hok]; rfl⟩
    · right; exact ⟨⟨E, by rw [← hEV, errK_not h]⟩, by rw [← hok]; simp [h]⟩
  clear hEV hok
  rcases hcase with ⟨rfl, rfl⟩ | ⟨⟨z, rfl⟩, rfl⟩
  all_goals
    go_enter Tryd.func36, Tryd.ntmps36
    go_wp2_with fail
    generalize w.alloc (.cells #[.int .i64 0, .int .i64 0, .string ⟨#[]⟩, .bool false] 47) = V at *
    refine (HP.out _ F0.out.2.2.1).mono ?_
    rintro e w1 ⟨rfl, rfl⟩
    clear HP
    go_wp2_with fail
    refine wp_region_noPanic ?_
    go_region_with (first
      | (go_at_call 52; refine (HV.out _).mono ?_; rintro e w2 ⟨rfl, hb2⟩
         have F3 : Hid (Fr0 w w2) := by first | exact F0.out.on hb2 | exact F0.out.on (below_step (below_drew _) hb2)
         clear hb2
         obtain ⟨⟨r0, r1, r2, r3⟩, ⟨f0, f1, f2, f3⟩, hbw, hsz⟩ := F3.out))
    all_goals (refine NoPanic.normal ?_; go_wp2_with fail)
  · refine bodyPost_ret (v := .tuple #[.agg #[.int .i64 1, .int .i64 n, .string ⟨#[]⟩, .bool false], .int .i64 m, .bool true]) ?_ rfl ⟨rfl, four_set hbw (w.heap.size) (by omega) _ _ _ _⟩
    simp [results, Tryd.results36, go_sem, r0, r1, r2, r3]
  · refine bodyPost_ret (v := .tuple #[.agg #[.int .i64 1, .int .i64 n, .string ⟨#[]⟩, .bool false], .int .i64 m, .bool false]) ?_ rfl ⟨rfl, four_set hbw (w.heap.size) (by omega) _ _ _ _⟩
    simp [results, Tryd.results36, go_sem, r0, r1, r2, r3]
set_option maxRecDepth 100000 in
set_option maxHeartbeats 1000000 in
theorem some_text (a : Option Addr) (L c : Nat) (t : ByteArray) (m E : Nat) (w : World) (HP : Hid (∀ W, Below w.heap.size w W → Calls Tryd.prog 53 #[.slice a L c, .int .i64 4096] W fun e w' => e = .returned (.tuple #[.string t, .int .i64 m, errK E]) ∧ w' = W)) :
    Calls Tryd.prog 36 #[.int .i64 2, .slice a L c] w fun e w' => e = .returned (.tuple #[.agg #[.int .i64 2, .int .i64 0, .string t, .bool false], .int .i64 m, .bool (decide (E = 0))]) ∧ Below w.heap.size w w' := by
  have HV : Hid (∀ W, Calls Tryd.prog 54 #[.string t] W fun e w' => e = .returned (.agg #[.int .i64 2, .int .i64 0, .string t, .bool false]) ∧ Below W.heap.size W w') := fun W => text_ t W
  have F0 := Lib.hid (fr0_start w 47)
  obtain ⟨EV, ok, hEV, hok⟩ : ∃ (EV : Value) (ok : Bool), errK E = EV ∧ decide (E = 0) = ok := ⟨_, _, rfl, rfl⟩
  rw [hEV] at HP
  rw [hok]
  have hcase : (EV = .nilIface ∧ ok = true) ∨ (∃ z : Int, EV = .iface 57 (.int .i64 z)) ∧ ok = false := by
    by_cases h : E = 0
    · left; subst h; exact ⟨hEV ▸ rfl, by rw [← hok]; rfl⟩
    · right; exact ⟨⟨E, by rw [← hEV, errK_not h]⟩, by rw [← hok]; simp [h]⟩
  clear hEV hok
  rcases hcase with ⟨rfl, rfl⟩ | ⟨⟨z, rfl⟩, rfl⟩
  all_goals
    go_enter Tryd.func36, Tryd.ntmps36
    go_wp2_with fail
    generalize w.alloc (.cells #[.int .i64 0, .int .i64 0, .string ⟨#[]⟩, .bool false] 47) = V at *
    refine (HP.out _ F0.out.2.2.1).mono ?_
    rintro e w1 ⟨rfl, rfl⟩
    clear HP
    go_wp2_with fail
    refine wp_region_noPanic ?_
    go_region_with (first
      | (go_at_call 54; refine (HV.out _).mono ?_; rintro e w2 ⟨rfl, hb2⟩
         have F3 : Hid (Fr0 w w2) := by first | exact F0.out.on hb2 | exact F0.out.on (below_step (below_drew _) hb2)
         clear hb2
         obtain ⟨⟨r0, r1, r2, r3⟩, ⟨f0, f1, f2, f3⟩, hbw, hsz⟩ := F3.out))
    all_goals (refine NoPanic.normal ?_; go_wp2_with fail)
  · refine bodyPost_ret (v := .tuple #[.agg #[.int .i64 2, .int .i64 0, .string t, .bool false], .int .i64 m, .bool true]) ?_ rfl ⟨rfl, four_set hbw (w.heap.size) (by omega) _ _ _ _⟩
    simp [results, Tryd.results36, go_sem, r0, r1, r2, r3]
  · refine bodyPost_ret (v := .tuple #[.agg #[.int .i64 2, .int .i64 0, .string t, .bool false], .int .i64 m, .bool false]) ?_ rfl ⟨rfl, four_set hbw (w.heap.size) (by omega) _ _ _ _⟩
    simp [results, Tryd.results36, go_sem, r0, r1, r2, r3]
set_option maxRecDepth 100000 in
set_option maxHeartbeats 1000000 in
theorem some_bool (b o L c y : Nat) (w : World) (hL : 0 < L) (hy : y ≤ 1) (hc : w.cell? ⟨b, o, none⟩ = some (.int .u8 y)) :
    Calls Tryd.prog 36 #[.int .i64 3, .slice (some ⟨b, o, none⟩) L c] w fun e w' => e = .returned (.tuple #[.agg #[.int .i64 3, .int .i64 0, .string ⟨#[]⟩, .bool (y == 1)], .int .i64 1, .bool true]) ∧ Below w.heap.size w w' := by
  have HV : Hid (∀ W, Calls Tryd.prog 55 #[.bool (y == 1)] W fun e w' => e = .returned (.agg #[.int .i64 3, .int .i64 0, .string ⟨#[]⟩, .bool (y == 1)]) ∧ Below W.heap.size W w') := fun W => bool_ _ W
  have F0 := Lib.hid (fr0_start w 47)
  have hc' := ((below_alloc1 w (.cells #[.int .i64 0, .int .i64 0, .string ⟨#[]⟩, .bool false] 47)).cell (block_lt_of_cell hc)).trans hc
  have hL2 : (0 : Int) < (L : Int) := by omega
  clear hc
  rcases (by omega : y = 0 ∨ y = 1) with rfl | rfl
  all_goals
    simp only [Nat.reduceBEq] at HV ⊢
    have hc2 : _ = some (Value.int .u8 _) := hc'
    clear hc'
    go_enter Tryd.func36, Tryd.ntmps36
    go_wp2_with fail
    refine (HV.out _).mono ?_
    rintro e w1 ⟨rfl, hb1⟩
    have F1 := Lib.hid (F0.out.on hb1)
    clear hb1 F0 hc2
    obtain ⟨⟨r0, r1, r2, r3⟩, ⟨f0, f1, f2, f3⟩, hbw, hsz⟩ := F1.out
    go_wp2_with fail
  · refine bodyPost_ret (v := .tuple #[.agg #[.int .i64 3, .int .i64 0, .string ⟨#[]⟩, .bool false], .int .i64 1, .bool true]) ?_ rfl ⟨rfl, four_set hbw (w.heap.size) (by omega) _ _ _ _⟩
    simp [results, Tryd.results36, go_sem, r0, r1, r2, r3]
  · refine bodyPost_ret (v := .tuple #[.agg #[.int .i64 3, .int .i64 0, .string ⟨#[]⟩, .bool true], .int .i64 1, .bool true]) ?_ rfl ⟨rfl, four_set hbw (w.heap.size) (by omega) _ _ _ _⟩
    simp [results, Tryd.results36, go_sem, r0, r1, r2, r3]
set_option maxRecDepth 100000 in
set_option maxHeartbeats 1000000 in
theorem some_else (k : Int) (a : Option Addr) (L c : Nat) (w : World) (h1 : k ≠ 1) (h2 : k ≠ 2) (h3 : k ≠ 3) :
    Calls Tryd.prog 36 #[.int .i64 k, .slice a L c] w fun e w' => e = .returned (.tuple #[.agg #[.int .i64 0, .int .i64 0, .string ⟨#[]⟩, .bool false], .int .i64 0, .bool false]) ∧ Below w.heap.size w w' := by
  have F0 := Lib.hid (fr0_start w 47)
  have g1 : (k == 1) = false := by simpa using h1
  have g2 : (k == 2) = false := by simpa using h2
  have g3 : (k == 3) = false := by simpa using h3
  go_enter Tryd.func36, Tryd.ntmps36
  go_wp2_with fail
  generalize w.alloc (.cells #[.int .i64 0, .int .i64 0, .string ⟨#[]⟩, .bool false] 47) = V at *
  obtain ⟨⟨r0, r1, r2, r3⟩, ⟨f0, f1, f2, f3⟩, hbw, hsz⟩ := F0.out
  refine bodyPost_ret (v := .tuple #[.agg #[.int .i64 0, .int .i64 0, .string ⟨#[]⟩, .bool false], .int .i64 0, .bool false]) ?_ rfl ⟨rfl, hbw⟩
  simp [results, Tryd.results36, go_sem, r0, r1, r2, r3]
set_option maxRecDepth 100000 in
set_option maxHeartbeats 1000000 in
theorem some_none (a : Option Addr) (c : Nat) (w : World) :
    Calls Tryd.prog 36 #[.int .i64 3, .slice a 0 c] w fun e w' => e = .returned (.tuple #[.agg #[.int .i64 0, .int .i64 0, .string ⟨#[]⟩, .bool false], .int .i64 0, .bool false]) ∧ Below w.heap.size w w' := by
  have F0 := Lib.hid (fr0_start w 47)
  go_enter Tryd.func36, Tryd.ntmps36
  go_wp2_with fail
  generalize w.alloc (.cells #[.int .i64 0, .int .i64 0, .string ⟨#[]⟩, .bool false] 47) = V at *
  obtain ⟨⟨r0, r1, r2, r3⟩, ⟨f0, f1, f2, f3⟩, hbw, hsz⟩ := F0.out
  refine bodyPost_ret (v := .tuple #[.agg #[.int .i64 0, .int .i64 0, .string ⟨#[]⟩, .bool false], .int .i64 0, .bool false]) ?_ rfl ⟨rfl, hbw⟩
  simp [results, Tryd.results36, go_sem, r0, r1, r2, r3]
set_option maxRecDepth 100000 in
set_option maxHeartbeats 1000000 in
theorem some_odd (b o L c y : Nat) (w : World) (hL : 0 < L) (hy : 1 < y) (hc : w.cell? ⟨b, o, none⟩ = some (.int .u8 y)) :
    Calls Tryd.prog 36 #[.int .i64 3, .slice (some ⟨b, o, none⟩) L c] w fun e w' => e = .returned (.tuple #[.agg #[.int .i64 0, .int .i64 0, .string ⟨#[]⟩, .bool false], .int .i64 0, .bool false]) ∧ Below w.heap.size w w' := by
  have F0 := Lib.hid (fr0_start w 47)
  have hc' := ((below_alloc1 w (.cells #[.int .i64 0, .int .i64 0, .string ⟨#[]⟩, .bool false] 47)).cell (block_lt_of_cell hc)).trans hc
  have hL2 : (0 : Int) < (L : Int) := by omega
  have hy2 : ¬ (y : Int) ≤ 1 := by omega
  clear hc
  go_enter Tryd.func36, Tryd.ntmps36
  go_wp2_with fail
  generalize w.alloc (.cells #[.int .i64 0, .int .i64 0, .string ⟨#[]⟩, .bool false] 47) = V at *
  obtain ⟨⟨r0, r1, r2, r3⟩, ⟨f0, f1, f2, f3⟩, hbw, hsz⟩ := F0.out
  refine bodyPost_ret (v := .tuple #[.agg #[.int .i64 0, .int .i64 0, .string ⟨#[]⟩, .bool false], .int .i64 0, .bool false]) ?_ rfl ⟨rfl, hbw⟩
  simp [results, Tryd.results36, go_sem, r0, r1, r2, r3]
/-- What some tells. -/
theorem some_ (k : Int) (a : Option Addr) (xs : List Nat) (c : Nat) (w : World) (h : BytesIn w a xs) (hb : ∀ x ∈ xs, x < 256) (hlim : xs.length ≤ 9223372036854775807) (hcap : xs.length ≤ c) :
    Calls Tryd.prog 36 #[.int .i64 k, .slice a xs.length c] w fun e w' => e = .returned (.tuple #[agV (someR k xs).1, .int .i64 (someR k xs).2.1, .bool (someR k xs).2.2]) ∧ Below w.heap.size w w' := by
  unfold someR agV
  by_cases h1 : k = 1
  · subst h1
    rw [if_pos rfl]
    exact some_int a xs.length c _ _ _ w fun W hW => pint_ a xs c W (h.on hW) hb hlim
  rw [if_neg h1]
  by_cases h2 : k = 2
  · subst h2
    rw [if_pos rfl]
    exact some_text a xs.length c _ _ _ w fun W hW => ptext_ a xs c 4096 W (h.on hW) hb hlim (by decide) (by decide) hcap
  rw [if_neg h2]
  by_cases h3 : k = 3
  · subst h3
    by_cases h0 : 0 < xs.length
    · obtain ⟨b, o, rfl, hc⟩ := h 0 h0
      by_cases hy : xs.getD 0 0 ≤ 1
      · rw [if_pos ⟨rfl, h0, hy⟩]
        exact some_bool b o xs.length c _ w h0 hy hc
      · rw [if_neg (fun q => hy q.2.2)]
        exact some_odd b o xs.length c _ w h0 (by omega) hc
    · rw [if_neg (fun q => h0 q.2.1)]
      have h00 : xs.length = 0 := by omega
      rw [h00]
      exact some_none a c w
  · rw [if_neg (fun q => h3 q.1)]
    exact some_else k a xs.length c w h1 h2 h3
end Go.Proofs.YtlldamgnfaikhaaDoor
