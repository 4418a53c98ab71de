/- The walk of row.some; The walk of row.first; Values appended to a row of one's own: at a drawn region; and what stays beside it; The walk of row.fits; The walk of row.Check. -/
import Derived.Test.YtalmanfjiblhcaaGreatJ23
import Derived.Test.YtalmanfjiblhcaaGreatJ24
import Derived.Deep.RegionHeld3
namespace Go.Proofs.YtalmanfjiblhcaaGreat.Rw
open Go.RowKit Go.Sort
set_option maxRecDepth 100000 in
set_option maxHeartbeats 1000000 in
theorem some_int (a : Option Addr) (L c : Nat) (n : Int) (m E : Nat) (w : World) (HP : Hid (∀ W, Below w.heap.size w W → Calls Tryz.prog 148 #[.slice a L c] W fun e w' => e = .returned (.tuple #[.int .i64 n, .int .i64 m, errK E]) ∧ w' = W)) :
 Calls Tryz.prog 122 #[.int .i64 1, .slice a L c] w fun e w' => e = .returned (.tuple #[.agg #[.int .i64 1, .int .i64 n, .string ⟨#[]⟩, .bool false], .int .i64 m, .bool (decide (E = 0))]) ∧ Below w.heap.size w w' := by
 have HV : Hid (∀ W, Calls Tryz.prog 149 #[.int .i64 n] W fun e w' => e = .returned (.agg #[.int .i64 1, .int .i64 n, .string ⟨#[]⟩, .bool false]) ∧ Below W.heap.size W w') := fun W => int_ n W
 have F0 := Lib.hid (fr0_start w 73)
 obtain ⟨EV, ok, hEV, hok⟩ : ∃ (EV : Value) (ok : Bool), errK E = EV ∧ decide (E = 0) = ok := ⟨_, _, rfl, rfl⟩
 rw [hEV] at HP
 rw [hok]
 have hcase : (EV = .nilIface ∧ ok = true) ∨ (∃ z : Int, EV = .iface 77 (.int .i64 z)) ∧ ok = false := by
  by_cases h : E = 0
  · left; subst h; exact ⟨hEV ▸ rfl, by rw [← hok]; rfl⟩
  · right; exact ⟨⟨E, by rw [← hEV, errK_not h]⟩, by rw [← hok]; simp [h]⟩
 clear hEV hok
 rcases hcase with ⟨rfl, rfl⟩ | ⟨⟨z, rfl⟩, rfl⟩
 all_goals
  go_enter Tryz.func122, Tryz.ntmps122
  go_wp2_with fail
  generalize w.alloc (.cells #[.int .i64 0, .int .i64 0, .string ⟨#[]⟩, .bool false] 73) = V at *
  refine (HP.out _ F0.out.2.2.1).mono ?_
  rintro e w1 ⟨rfl, rfl⟩
  clear HP
  go_wp2_with fail
  refine wp_region_noPanic ?_
  go_region_with (first
   | (go_at_call 149; refine (HV.out _).mono ?_; rintro e w2 ⟨rfl, hb2⟩
      have F3 : Hid (Fr0 w w2) := by first | exact F0.out.on hb2 | exact F0.out.on (below_step (below_drew _) hb2)
      clear hb2
      obtain ⟨⟨r0, r1, r2, r3⟩, ⟨f0, f1, f2, f3⟩, hbw, hsz⟩ := F3.out))
  all_goals (refine NoPanic.normal ?_; go_wp2_with fail)
 · refine bodyPost_ret (v := .tuple #[.agg #[.int .i64 1, .int .i64 n, .string ⟨#[]⟩, .bool false], .int .i64 m, .bool true]) ?_ rfl ⟨rfl, four_set hbw (w.heap.size) (by omega) _ _ _ _⟩
   simp [results, Tryz.results122, go_sem, r0, r1, r2, r3]
 · refine bodyPost_ret (v := .tuple #[.agg #[.int .i64 1, .int .i64 n, .string ⟨#[]⟩, .bool false], .int .i64 m, .bool false]) ?_ rfl ⟨rfl, four_set hbw (w.heap.size) (by omega) _ _ _ _⟩
   simp [results, Tryz.results122, go_sem, r0, r1, r2, r3]
set_option maxRecDepth 100000 in
set_option maxHeartbeats 1000000 in
theorem some_text (a : Option Addr) (L c : Nat) (t : ByteArray) (m E : Nat) (w : World) (HP : Hid (∀ W, Below w.heap.size w W → Calls Tryz.prog 150 #[.slice a L c, .int .i64 4096] W fun e w' => e = .returned (.tuple #[.string t, .int .i64 m, errK E]) ∧ w' = W)) :
 Calls Tryz.prog 122 #[.int .i64 2, .slice a L c] w fun e w' => e = .returned (.tuple #[.agg #[.int .i64 2, .int .i64 0, .string t, .bool false], .int .i64 m, .bool (decide (E = 0))]) ∧ Below w.heap.size w w' := by
 have HV : Hid (∀ W, Calls Tryz.prog 151 #[.string t] W fun e w' => e = .returned (.agg #[.int .i64 2, .int .i64 0, .string t, .bool false]) ∧ Below W.heap.size W w') := fun W => text_ t W
 have F0 := Lib.hid (fr0_start w 73)
 obtain ⟨EV, ok, hEV, hok⟩ : ∃ (EV : Value) (ok : Bool), errK E = EV ∧ decide (E = 0) = ok := ⟨_, _, rfl, rfl⟩
 rw [hEV] at HP
 rw [hok]
 have hcase : (EV = .nilIface ∧ ok = true) ∨ (∃ z : Int, EV = .iface 77 (.int .i64 z)) ∧ ok = false := by
  by_cases h : E = 0
  · left; subst h; exact ⟨hEV ▸ rfl, by rw [← hok]; rfl⟩
  · right; exact ⟨⟨E, by rw [← hEV, errK_not h]⟩, by rw [← hok]; simp [h]⟩
 clear hEV hok
 rcases hcase with ⟨rfl, rfl⟩ | ⟨⟨z, rfl⟩, rfl⟩
 all_goals
  go_enter Tryz.func122, Tryz.ntmps122
  go_wp2_with fail
  generalize w.alloc (.cells #[.int .i64 0, .int .i64 0, .string ⟨#[]⟩, .bool false] 73) = V at *
  refine (HP.out _ F0.out.2.2.1).mono ?_
  rintro e w1 ⟨rfl, rfl⟩
  clear HP
  go_wp2_with fail
  refine wp_region_noPanic ?_
  go_region_with (first
   | (go_at_call 151; refine (HV.out _).mono ?_; rintro e w2 ⟨rfl, hb2⟩
      have F3 : Hid (Fr0 w w2) := by first | exact F0.out.on hb2 | exact F0.out.on (below_step (below_drew _) hb2)
      clear hb2
      obtain ⟨⟨r0, r1, r2, r3⟩, ⟨f0, f1, f2, f3⟩, hbw, hsz⟩ := F3.out))
  all_goals (refine NoPanic.normal ?_; go_wp2_with fail)
 · refine bodyPost_ret (v := .tuple #[.agg #[.int .i64 2, .int .i64 0, .string t, .bool false], .int .i64 m, .bool true]) ?_ rfl ⟨rfl, four_set hbw (w.heap.size) (by omega) _ _ _ _⟩
   simp [results, Tryz.results122, go_sem, r0, r1, r2, r3]
 · refine bodyPost_ret (v := .tuple #[.agg #[.int .i64 2, .int .i64 0, .string t, .bool false], .int .i64 m, .bool false]) ?_ rfl ⟨rfl, four_set hbw (w.heap.size) (by omega) _ _ _ _⟩
   simp [results, Tryz.results122, go_sem, r0, r1, r2, r3]
set_option maxRecDepth 100000 in
set_option maxHeartbeats 1000000 in
theorem some_bool (b o L c y : Nat) (w : World) (hL : 0 < L) (hy : y ≤ 1) (hc : w.cell? ⟨b, o, none⟩ = some (.int .u8 y)) :
 Calls Tryz.prog 122 #[.int .i64 3, .slice (some ⟨b, o, none⟩) L c] w fun e w' => e = .returned (.tuple #[.agg #[.int .i64 3, .int .i64 0, .string ⟨#[]⟩, .bool (y == 1)], .int .i64 1, .bool true]) ∧ Below w.heap.size w w' := by
 have HV : Hid (∀ W, Calls Tryz.prog 152 #[.bool (y == 1)] W fun e w' => e = .returned (.agg #[.int .i64 3, .int .i64 0, .string ⟨#[]⟩, .bool (y == 1)]) ∧ Below W.heap.size W w') := fun W => bool_ _ W
 have F0 := Lib.hid (fr0_start w 73)
 have hc' := ((below_alloc1 w (.cells #[.int .i64 0, .int .i64 0, .string ⟨#[]⟩, .bool false] 73)).cell (block_lt_of_cell hc)).trans hc
 have hL2 : (0 : Int) < (L : Int) := by omega
 clear hc
 rcases (by omega : y = 0 ∨ y = 1) with rfl | rfl
 all_goals
  simp only [Nat.reduceBEq] at HV ⊢
  have hc2 : _ = some (Value.int .u8 _) := hc'
  clear hc'
  go_enter Tryz.func122, Tryz.ntmps122
  go_wp2_with fail
  refine (HV.out _).mono ?_
  rintro e w1 ⟨rfl, hb1⟩
  have F1 := Lib.hid (F0.out.on hb1)
  clear hb1 F0 hc2
  obtain ⟨⟨r0, r1, r2, r3⟩, ⟨f0, f1, f2, f3⟩, hbw, hsz⟩ := F1.out
  go_wp2_with fail
 · refine bodyPost_ret (v := .tuple #[.agg #[.int .i64 3, .int .i64 0, .string ⟨#[]⟩, .bool false], .int .i64 1, .bool true]) ?_ rfl ⟨rfl, four_set hbw (w.heap.size) (by omega) _ _ _ _⟩
   simp [results, Tryz.results122, go_sem, r0, r1, r2, r3]
 · refine bodyPost_ret (v := .tuple #[.agg #[.int .i64 3, .int .i64 0, .string ⟨#[]⟩, .bool true], .int .i64 1, .bool true]) ?_ rfl ⟨rfl, four_set hbw (w.heap.size) (by omega) _ _ _ _⟩
   simp [results, Tryz.results122, go_sem, r0, r1, r2, r3]
set_option maxRecDepth 100000 in
set_option maxHeartbeats 1000000 in
theorem some_else (k : Int) (a : Option Addr) (L c : Nat) (w : World) (h1 : k ≠ 1) (h2 : k ≠ 2) (h3 : k ≠ 3) :
 Calls Tryz.prog 122 #[.int .i64 k, .slice a L c] w fun e w' => e = .returned (.tuple #[.agg #[.int .i64 0, .int .i64 0, .string ⟨#[]⟩, .bool false], .int .i64 0, .bool false]) ∧ Below w.heap.size w w' := by
 have F0 := Lib.hid (fr0_start w 73)
 have g1 : (k == 1) = false := by simpa using h1
 have g2 : (k == 2) = false := by simpa using h2
 have g3 : (k == 3) = false := by simpa using h3
 go_enter Tryz.func122, Tryz.ntmps122
 go_wp2_with fail
 generalize w.alloc (.cells #[.int .i64 0, .int .i64 0, .string ⟨#[]⟩, .bool false] 73) = V at *
 obtain ⟨⟨r0, r1, r2, r3⟩, ⟨f0, f1, f2, f3⟩, hbw, hsz⟩ := F0.out
 refine bodyPost_ret (v := .tuple #[.agg #[.int .i64 0, .int .i64 0, .string ⟨#[]⟩, .bool false], .int .i64 0, .bool false]) ?_ rfl ⟨rfl, hbw⟩
 simp [results, Tryz.results122, go_sem, r0, r1, r2, r3]
set_option maxRecDepth 100000 in
set_option maxHeartbeats 1000000 in
theorem some_none (a : Option Addr) (c : Nat) (w : World) :
 Calls Tryz.prog 122 #[.int .i64 3, .slice a 0 c] w fun e w' => e = .returned (.tuple #[.agg #[.int .i64 0, .int .i64 0, .string ⟨#[]⟩, .bool false], .int .i64 0, .bool false]) ∧ Below w.heap.size w w' := by
 have F0 := Lib.hid (fr0_start w 73)
 go_enter Tryz.func122, Tryz.ntmps122
 go_wp2_with fail
 generalize w.alloc (.cells #[.int .i64 0, .int .i64 0, .string ⟨#[]⟩, .bool false] 73) = V at *
 obtain ⟨⟨r0, r1, r2, r3⟩, ⟨f0, f1, f2, f3⟩, hbw, hsz⟩ := F0.out
 refine bodyPost_ret (v := .tuple #[.agg #[.int .i64 0, .int .i64 0, .string ⟨#[]⟩, .bool false], .int .i64 0, .bool false]) ?_ rfl ⟨rfl, hbw⟩
 simp [results, Tryz.results122, go_sem, r0, r1, r2, r3]
set_option maxRecDepth 100000 in
set_option maxHeartbeats 1000000 in
theorem some_odd (b o L c y : Nat) (w : World) (hL : 0 < L) (hy : 1 < y) (hc : w.cell? ⟨b, o, none⟩ = some (.int .u8 y)) :
 Calls Tryz.prog 122 #[.int .i64 3, .slice (some ⟨b, o, none⟩) L c] w fun e w' => e = .returned (.tuple #[.agg #[.int .i64 0, .int .i64 0, .string ⟨#[]⟩, .bool false], .int .i64 0, .bool false]) ∧ Below w.heap.size w w' := by
 have F0 := Lib.hid (fr0_start w 73)
 have hc' := ((below_alloc1 w (.cells #[.int .i64 0, .int .i64 0, .string ⟨#[]⟩, .bool false] 73)).cell (block_lt_of_cell hc)).trans hc
 have hL2 : (0 : Int) < (L : Int) := by omega
 have hy2 : ¬ (y : Int) ≤ 1 := by omega
 clear hc
 go_enter Tryz.func122, Tryz.ntmps122
 go_wp2_with fail
 generalize w.alloc (.cells #[.int .i64 0, .int .i64 0, .string ⟨#[]⟩, .bool false] 73) = V at *
 obtain ⟨⟨r0, r1, r2, r3⟩, ⟨f0, f1, f2, f3⟩, hbw, hsz⟩ := F0.out
 refine bodyPost_ret (v := .tuple #[.agg #[.int .i64 0, .int .i64 0, .string ⟨#[]⟩, .bool false], .int .i64 0, .bool false]) ?_ rfl ⟨rfl, hbw⟩
 simp [results, Tryz.results122, go_sem, r0, r1, r2, r3]
theorem some_ (k : Int) (a : Option Addr) (xs : List Nat) (c : Nat) (w : World) (h : BytesIn w a xs) (hb : ∀ x ∈ xs, x < 256) (hlim : xs.length ≤ 9223372036854775807) (hcap : xs.length ≤ c) :
 Calls Tryz.prog 122 #[.int .i64 k, .slice a xs.length c] w fun e w' => e = .returned (.tuple #[agV (someR k xs).1, .int .i64 (someR k xs).2.1, .bool (someR k xs).2.2]) ∧ Below w.heap.size w w' := by
 unfold someR agV
 by_cases h1 : k = 1
 · subst h1
   rw [if_pos rfl]
   exact some_int a xs.length c _ _ _ w fun W hW => pint_ a xs c W (h.on hW) hb hlim
 rw [if_neg h1]
 by_cases h2 : k = 2
 · subst h2
   rw [if_pos rfl]
   exact some_text a xs.length c _ _ _ w fun W hW => ptext_ a xs c 4096 W (h.on hW) hb hlim (by decide) (by decide) hcap
 rw [if_neg h2]
 by_cases h3 : k = 3
 · subst h3
   by_cases h0 : 0 < xs.length
   · obtain ⟨b, o, rfl, hc⟩ := h 0 h0
     by_cases hy : xs.getD 0 0 ≤ 1
     · rw [if_pos ⟨rfl, h0, hy⟩]
       exact some_bool b o xs.length c _ w h0 hy hc
     · rw [if_neg (fun q => hy q.2.2)]
       exact some_odd b o xs.length c _ w h0 (by omega) hc
   · rw [if_neg (fun q => h0 q.2.1)]
     have h00 : xs.length = 0 := by omega
     rw [h00]
     exact some_none a c w
 · rw [if_neg (fun q => h3 q.1)]
   exact some_else k a xs.length c w h1 h2 h3
end Go.Proofs.YtalmanfjiblhcaaGreat.Rw
namespace Go.Proofs.YtalmanfjiblhcaaGreat.Rw
open Go.RowKit Go.Sort
theorem BytesIn.cutAt {w : World} {b o c k : Nat} {xs : List Nat} (h : BytesIn w (some ⟨b, o, none⟩) xs) (hc : xs.length ≤ c) : BytesIn w (if c = k then (some ⟨b, o, none⟩ : Option Addr) else some ⟨b, o + k, none⟩) (xs.drop k) := by
 by_cases hk : c = k
 · rw [if_pos hk, List.drop_eq_nil_of_le (by omega)]; exact bytesIn_nil _ _
 · rw [if_neg hk]
   intro i hi
   rw [List.length_drop] at hi
   obtain ⟨b', o', e, h1⟩ := h (k + i) (by omega)
   cases e
   refine ⟨b, o + k, rfl, ?_⟩
   rw [Nat.add_assoc, h1]
   congr 2
   rw [List.getD_eq_getElem?_getD, List.getD_eq_getElem?_getD, List.getElem?_drop]
set_option maxRecDepth 100000 in
set_option maxHeartbeats 1000000 in
theorem first_none (k : Int) (a : Option Addr) (c : Nat) (w : World) :
 Calls Tryz.prog 83 #[.int .i64 k, .slice a 0 c] w fun e w' => e = .returned (.tuple #[.agg #[.int .i64 0, .int .i64 0, .string ⟨#[]⟩, .bool false], .int .i64 0, .bool false]) ∧ Below w.heap.size w w' := by
 have F0 := Lib.hid (fr0_start w 73)
 go_enter Tryz.func83, Tryz.ntmps83
 go_wp2_with fail
 generalize w.alloc (.cells #[.int .i64 0, .int .i64 0, .string ⟨#[]⟩, .bool false] 73) = V at *
 obtain ⟨⟨r0, r1, r2, r3⟩, ⟨f0, f1, f2, f3⟩, hbw, hsz⟩ := F0.out
 refine bodyPost_ret (v := .tuple #[.agg #[.int .i64 0, .int .i64 0, .string ⟨#[]⟩, .bool false], .int .i64 0, .bool false]) ?_ rfl ⟨rfl, hbw⟩
 simp [results, Tryz.results83, go_sem, r0, r1, r2, r3]
set_option maxRecDepth 100000 in
set_option maxHeartbeats 1000000 in
theorem first_odd (k : Int) (b o L c y : Nat) (w : World) (hL : 0 < L) (hy : 1 < y) (hc : w.cell? ⟨b, o, none⟩ = some (.int .u8 y)) :
 Calls Tryz.prog 83 #[.int .i64 k, .slice (some ⟨b, o, none⟩) L c] w fun e w' => e = .returned (.tuple #[.agg #[.int .i64 0, .int .i64 0, .string ⟨#[]⟩, .bool false], .int .i64 0, .bool false]) ∧ Below w.heap.size w w' := by
 have F0 := Lib.hid (fr0_start w 73)
 have hc' := ((below_alloc1 w (.cells #[.int .i64 0, .int .i64 0, .string ⟨#[]⟩, .bool false] 73)).cell (block_lt_of_cell hc)).trans hc
 have hL2 : (0 : Int) < (L : Int) := by omega
 have hL3 : ((L : Int) == 0) = false := by simp; omega
 have hy2 : (1 : Int) < (y : Int) := by omega
 clear hc
 go_enter Tryz.func83, Tryz.ntmps83
 go_wp2_with fail
 generalize w.alloc (.cells #[.int .i64 0, .int .i64 0, .string ⟨#[]⟩, .bool false] 73) = V at *
 obtain ⟨⟨r0, r1, r2, r3⟩, ⟨f0, f1, f2, f3⟩, hbw, hsz⟩ := F0.out
 refine bodyPost_ret (v := .tuple #[.agg #[.int .i64 0, .int .i64 0, .string ⟨#[]⟩, .bool false], .int .i64 0, .bool false]) ?_ rfl ⟨rfl, hbw⟩
 simp [results, Tryz.results83, go_sem, r0, r1, r2, r3]
set_option maxRecDepth 100000 in
set_option maxHeartbeats 1000000 in
theorem first_null (k : Int) (b o L c : Nat) (w : World) (hL : 0 < L) (hc : w.cell? ⟨b, o, none⟩ = some (.int .u8 0)) :
 Calls Tryz.prog 83 #[.int .i64 k, .slice (some ⟨b, o, none⟩) L c] w fun e w' => e = .returned (.tuple #[.agg #[.int .i64 0, .int .i64 0, .string ⟨#[]⟩, .bool false], .int .i64 1, .bool true]) ∧ Below w.heap.size w w' := by
 have HV : Hid (∀ W, Calls Tryz.prog 121 #[] W fun e w' => e = .returned (.agg #[.int .i64 0, .int .i64 0, .string ⟨#[]⟩, .bool false]) ∧ Below W.heap.size W w') := fun W => null_ W
 have F0 := Lib.hid (fr0_start w 73)
 have hc' := ((below_alloc1 w (.cells #[.int .i64 0, .int .i64 0, .string ⟨#[]⟩, .bool false] 73)).cell (block_lt_of_cell hc)).trans hc
 have hL2 : (0 : Int) < (L : Int) := by omega
 have hL3 : ((L : Int) == 0) = false := by simp; omega
 clear hc
 go_enter Tryz.func83, Tryz.ntmps83
 go_wp2_with fail
 refine (HV.out _).mono ?_
 rintro e w1 ⟨rfl, hb1⟩
 have F1 := Lib.hid (F0.out.on hb1)
 clear hb1 F0 hc'
 obtain ⟨⟨r0, r1, r2, r3⟩, ⟨f0, f1, f2, f3⟩, hbw, hsz⟩ := F1.out
 go_wp2_with fail
 refine bodyPost_ret (v := .tuple #[.agg #[.int .i64 0, .int .i64 0, .string ⟨#[]⟩, .bool false], .int .i64 1, .bool true]) ?_ rfl ⟨rfl, four_set hbw (w.heap.size) (by omega) _ _ _ _⟩
 simp [results, Tryz.results83, go_sem, r0, r1, r2, r3]
set_option maxRecDepth 100000 in
set_option maxHeartbeats 1000000 in
theorem first_some (k : Int) (b o L c : Nat) (w : World) (hL : 0 < L) (hLc : L ≤ c) (hc : w.cell? ⟨b, o, none⟩ = some (.int .u8 1)) (k' n' : Int) (t' : ByteArray) (b' : Bool) (m : Nat) (ok : Bool) (hm : m ≤ 9223372036854775806)
 (HS : Hid (∀ W A, Below w.heap.size w W → A = (if c = 1 then (some ⟨b, o, none⟩ : Option Addr) else some ⟨b, o + 1, none⟩) → Calls Tryz.prog 122 #[.int .i64 k, .slice A (L - 1) (c - 1)] W fun e w' => e = .returned (.tuple #[.agg #[.int .i64 k', .int .i64 n', .string t', .bool b'], .int .i64 m, .bool ok]) ∧ Below W.heap.size W w')) :
 Calls Tryz.prog 83 #[.int .i64 k, .slice (some ⟨b, o, none⟩) L c] w fun e w' => e = .returned (.tuple #[.agg #[.int .i64 k', .int .i64 n', .string t', .bool b'], .int .i64 (1 + m), .bool ok]) ∧ Below w.heap.size w w' := by
 have F0 := Lib.hid (fr0_start w 73)
 have hc' := ((below_alloc1 w (.cells #[.int .i64 0, .int .i64 0, .string ⟨#[]⟩, .bool false] 73)).cell (block_lt_of_cell hc)).trans hc
 have hL2 : (0 : Int) < (L : Int) := by omega
 have hL3 : ((L : Int) == 0) = false := by simp; omega
 have hL4 : (1 : Int) ≤ (L : Int) := by omega
 have hL5 : (1 : Int) ≤ (c : Int) := by omega
 clear hc
 by_cases hc1 : c = 1
 · subst hc1
   obtain rfl : L = 1 := by omega
   have HS2 : Hid (∀ W, Below w.heap.size w W → Calls Tryz.prog 122 #[.int .i64 k, .slice (some ⟨b, o, none⟩) 0 0] W fun e w' => e = .returned (.tuple #[.agg #[.int .i64 k', .int .i64 n', .string t', .bool b'], .int .i64 m, .bool ok]) ∧ Below W.heap.size W w') := fun W hW => HS.out W _ hW rfl
   clear HS hL hLc hL2 hL3 hL4 hL5
   go_enter Tryz.func83, Tryz.ntmps83
   go_wp2_with fail
   refine (HS2.out _ F0.out.2.2.1).mono ?_
   rintro e w1 ⟨rfl, hb1⟩
   have F1 := Lib.hid ((F0.out.on hb1).on (below_alloc1 w1 (.cells #[.int .i64 k', .int .i64 n', .string t', .bool b'] 73)))
   clear hb1 F0 hc' HS2
   obtain ⟨⟨r0, r1, r2, r3⟩, ⟨f0, f1, f2, f3⟩, hbw, hsz⟩ := F1.out
   go_wp2_with fail
   refine bodyPost_ret (v := .tuple #[.agg #[.int .i64 k', .int .i64 n', .string t', .bool b'], .int .i64 (1 + m), .bool ok]) ?_ rfl ⟨rfl, four_set hbw (w.heap.size) (by omega) _ _ _ _⟩
   simp [results, Tryz.results83, go_sem, r0, r1, r2, r3]
 · have hc2 : ¬ (c : Int) = 1 := by omega
   have HS2 : Hid (∀ W, Below w.heap.size w W → Calls Tryz.prog 122 #[.int .i64 k, .slice (some ⟨b, o + 1, none⟩) (L - 1) (c - 1)] W fun e w' => e = .returned (.tuple #[.agg #[.int .i64 k', .int .i64 n', .string t', .bool b'], .int .i64 m, .bool ok]) ∧ Below W.heap.size W w') := fun W hW => HS.out W _ hW (by rw [if_neg hc1])
   clear HS
   go_enter Tryz.func83, Tryz.ntmps83
   go_wp2_with fail
   refine (HS2.out _ F0.out.2.2.1).mono ?_
   rintro e w1 ⟨rfl, hb1⟩
   have F1 := Lib.hid ((F0.out.on hb1).on (below_alloc1 w1 (.cells #[.int .i64 k', .int .i64 n', .string t', .bool b'] 73)))
   clear hb1 F0 hc' HS2
   obtain ⟨⟨r0, r1, r2, r3⟩, ⟨f0, f1, f2, f3⟩, hbw, hsz⟩ := F1.out
   go_wp2_with fail
   refine bodyPost_ret (v := .tuple #[.agg #[.int .i64 k', .int .i64 n', .string t', .bool b'], .int .i64 (1 + m), .bool ok]) ?_ rfl ⟨rfl, four_set hbw (w.heap.size) (by omega) _ _ _ _⟩
   simp [results, Tryz.results83, go_sem, r0, r1, r2, r3]
theorem some_size (k : Int) (xs : List Nat) (hb : ∀ x ∈ xs, x < 256) : (someR k xs).2.1 ≤ xs.length + 1 := by
 have h := (rdU_lt xs hb).2
 unfold someR
 split
 · simp only [rdI]; omega
 · split
   · simp only [rdT]
     repeat' split
     all_goals simp only
     all_goals omega
   · split
     · rename_i q; simp only; omega
     · simp
theorem first_ (k : Int) (a : Option Addr) (xs : List Nat) (c : Nat) (w : World) (h : BytesIn w a xs) (hb : ∀ x ∈ xs, x < 256) (hlim : xs.length ≤ 9223372036854775) (hcap : xs.length ≤ c) :
 Calls Tryz.prog 83 #[.int .i64 k, .slice a xs.length c] w fun e w' => e = .returned (.tuple #[agV (firstR k xs).1, .int .i64 (firstR k xs).2.1, .bool (firstR k xs).2.2]) ∧ Below w.heap.size w w' := by
 unfold firstR agV
 by_cases h0 : xs.length = 0
 · rw [if_pos (.inl h0), h0]
   exact first_none k a c w
 obtain ⟨b, o, rfl, hc⟩ := h 0 (by omega)
 rw [Nat.add_zero] at hc
 by_cases h1 : 1 < xs.getD 0 0
 · rw [if_pos (.inr h1)]
   exact first_odd k b o xs.length c _ w (by omega) h1 hc
 rw [if_neg (by rintro (q | q); exact h0 q; exact h1 q)]
 by_cases h2 : xs.getD 0 0 = 0
 · rw [if_pos h2]
   rw [h2] at hc
   exact first_null k b o xs.length c w (by omega) hc
 · rw [if_neg h2]
   have h3 : xs.getD 0 0 = 1 := by omega
   rw [h3] at hc
   have hsz := some_size k (xs.drop 1) (fun x hx => hb x (List.mem_of_mem_drop hx))
   rw [List.length_drop] at hsz
   have hd : (xs.drop 1).length = xs.length - 1 := List.length_drop
   have HS : Hid (∀ W A, Below w.heap.size w W → A = (if c = 1 then (some ⟨b, o, none⟩ : Option Addr) else some ⟨b, o + 1, none⟩) → Calls Tryz.prog 122 #[.int .i64 k, .slice A (xs.length - 1) (c - 1)] W fun e w' => e = .returned (.tuple #[agV (someR k (xs.drop 1)).1, .int .i64 (someR k (xs.drop 1)).2.1, .bool (someR k (xs.drop 1)).2.2]) ∧ Below W.heap.size W w') := fun W A hW hA => by
    have := some_ k A (xs.drop 1) (c - 1) W (hA ▸ (h.on hW).cutAt hcap) (fun x hx => hb x (List.mem_of_mem_drop hx)) (by omega) (by omega)
    rw [hd] at this
    exact this
   have := first_some k b o xs.length c w (by omega) hcap hc _ _ _ _ _ _ (by omega) HS
   rw [Int.natCast_add]
   exact this
end Go.Proofs.YtalmanfjiblhcaaGreat.Rw
namespace Go.Proofs.YtalmanfjiblhcaaGreat.Rw
open Go.RowKit Go.Sort
theorem wp_append_vals (w : World) {o : Oper} {act : Act} {K : Act → World → Prop} {Q : Exit → Act → World → Prop} (s x : Operand)
 (ho : o.op = .call { callee := .builtin .append, args := #[s, x], argTypes := #[52, 52] }) (base : Nat) (v : Value) (es ys : List Val) (hs : act.eval s = v) (hown : OwnV w base v es)
 (b oo m c' : Nat) (hx : act.eval x = .slice (some ⟨b, oo, none⟩) m c') (hm : ys.length = m) (hin : ValsIn w (some ⟨b, oo, none⟩) ys) (hlen : (es.length + ys.length) * 40 ≤ 140737488355328) (hbase : base ≤ w.heap.size)
 (hK : ∀ v' w', OwnV w' base v' (es ++ ys) → w.grownBy w' v.ownBlock → (v'.ownBlock = v.ownBlock ∨ v'.ownBlock = some w.heap.size) → K (act.put o.dst v') w') : o.wp Tryz.prog act w K Q := by
 obtain ⟨i0, hi, hz0, hz1, hz2⟩ := info_parts infoV
 subst hm
 obtain ⟨v', w', hr, h2, h3, _, h5⟩ := run_append_own_at (P := Tryz.prog) w base 52 o.type 73 i0 (.agg #[.int .i64 0, .int .i64 0, .string ⟨#[]⟩, .bool false]) 4 40 Tryz.underlying52 hi hz0 hz1 hz2 rfl (by decide) v es.length (valCells es) hown ⟨b, oo, none⟩ ys.length c' (valCells ys) (valCells_len ys) (valNews hin) (valCells_one ys) (by unfold maxLen; omega) (by omega) hbase
 unfold Oper.wp execOp
 simp only [ho, resolve, invoke, builtin, Sem.run_bind, Sem.run_pure, Result.andThen_ok, List.map_toArray, List.map_cons, List.map_nil, hs, hx, hr]
 exact hK v' w' (ownV_join rfl rfl h2) h3 h5
theorem step_append_vals (w : World) {ops : Array Oper} {o : Oper} {act : Act} {K : Act → World → Prop} {Q : Exit → Act → World → Prop} {E : Prop} (hgd : o.guard = none) (s x : Operand)
 (ho : o.op = .call { callee := .builtin .append, args := #[s, x], argTypes := #[52, 52] }) (base : Nat) (v : Value) (es ys : List Val) (hs : act.eval s = v) (hown : OwnV w base v es)
 (b oo m c' : Nat) (hx : act.eval x = .slice (some ⟨b, oo, none⟩) m c') (hm : ys.length = m) (hin : ValsIn w (some ⟨b, oo, none⟩) ys) (hlen : (es.length + ys.length) * 40 ≤ 140737488355328) (hbase : base ≤ w.heap.size)
 (hK : ∀ v' w', OwnV w' base v' (es ++ ys) → w.grownBy w' v.ownBlock → (v'.ownBlock = v.ownBlock ∨ v'.ownBlock = some w.heap.size) → K (act.put o.dst v') w') : if Region.wanted o (yielded ops act.tmps) = true then Oper.wp Tryz.prog o act w K Q else E := by
 have hw : Region.wanted o (yielded ops act.tmps) = true := by simp [Region.wanted, hgd]
 rw [if_pos hw]
 exact wp_append_vals w s x ho base v es ys hs hown b oo m c' hx hm hin hlen hbase hK
theorem wpList_append_vals2 (w : World) {ops : Array Oper} {rest : List Oper} {o : Oper} {act : Act} {Q : Exit → Act → World → Prop} (hgd : o.guard = none) (s x : Operand)
 (ho : o.op = .call { callee := .builtin .append, args := #[s, x], argTypes := #[52, 52] }) (base : Nat) (v : Value) (es ys : List Val) (hs : act.eval s = v) (hown : OwnV w base v es)
 (b oo m c' : Nat) (hx : act.eval x = .slice (some ⟨b, oo, none⟩) m c') (hm : ys.length = m) (hin : ValsIn w (some ⟨b, oo, none⟩) ys) (hlen : (es.length + ys.length) * 40 ≤ 140737488355328) (hbase : base ≤ w.heap.size)
 (hK : ∀ v' w', OwnV w' base v' (es ++ ys) → w.grownBy w' v.ownBlock → (v'.ownBlock = v.ownBlock ∨ v'.ownBlock = some w.heap.size) → wpList Tryz.prog ops Q rest (act.put o.dst v') w') : wpList Tryz.prog ops Q (o :: rest) act w :=
 wpList_plain hgd fun _ hK' => wp_append_vals w s x ho base v es ys hs hown b oo m c' hx hm hin hlen hbase fun v' w' h1 h2 h3 => hK' _ _ (hK v' w' h1 h2 h3)
theorem OwnV.lt {w : World} {base : Nat} {v : Value} {vs : List Val} (h : OwnV w base v vs) : ∀ k, v.ownBlock = some k → base ≤ k ∧ k < w.heap.size := fun k hk => World.ownsRow.lt h k hk
theorem OwnV.grown {w w' : World} {base : Nat} {v u : Value} {vs : List Val} (h : OwnV w base v vs) (hg : w.grownBy w' u.ownBlock) (hne : ∀ k, v.ownBlock = some k → u.ownBlock ≠ some k) : OwnV w' base v vs := by
 refine ⟨h.1, ?_⟩
 rcases h.2 with h1 | ⟨g, cap, cur, e, h1, h2, h3, h4, h5, h6⟩
 · exact .inl h1
 · have hlt : g < w.heap.size := by
    rcases Nat.lt_or_ge g w.heap.size with hl | hl
    · exact hl
    · rw [Array.getElem?_eq_none hl] at h2; cases h2
   exact .inr ⟨g, cap, cur, e, h1, (hg.block g hlt (fun hh => hne g (by rw [e]; rfl) hh.symm)).trans h2, h3, h4, h5, h6⟩
end Go.Proofs.YtalmanfjiblhcaaGreat.Rw
namespace Go.Proofs.YtalmanfjiblhcaaGreat.Rw
open Go.RowKit Go.Sort
theorem fits_two (w : World) (nm : ByteArray) (kc : Int) (key nul : Bool) (k n : Int) (t : ByteArray) (b : Bool) (w1 : World)
 (h : Below ((w.alloc (.cells #[.string nm, .int .i64 kc, .bool key, .bool nul] 112)).alloc (.cells #[.int .i64 k, .int .i64 n, .string t, .bool b] 73)).heap.size ((w.alloc (.cells #[.string nm, .int .i64 kc, .bool key, .bool nul] 112)).alloc (.cells #[.int .i64 k, .int .i64 n, .string t, .bool b] 73)) w1) :
 InC w1 w.heap.size 0 ⟨nm, kc, key, nul⟩ ∧ In4 w1 (w.heap.size + 1) 0 k n t b ∧ Below w.heap.size w w1 := by
 have h1 := inC_new w ⟨nm, kc, key, nul⟩ 112
 have h2 := in4_new (w.alloc (.cells #[.string nm, .int .i64 kc, .bool key, .bool nul] 112)) k n t b 73
 have e : (w.alloc (.cells #[.string nm, .int .i64 kc, .bool key, .bool nul] 112)).heap.size = w.heap.size + 1 := by simp
 rw [e] at h2
 exact ⟨(h1.on (below_alloc1 _ _)).on h, h2.on h, below_step (below_step (below_alloc1 _ _) (below_alloc1 _ _)) h⟩
set_option maxHeartbeats 1000000 in
theorem fits_ (nm : ByteArray) (kc : Int) (key nul : Bool) (k n : Int) (t : ByteArray) (b : Bool) (w : World) :
 Calls Tryz.prog 110 #[.agg #[.string nm, .int .i64 kc, .bool key, .bool nul], .agg #[.int .i64 k, .int .i64 n, .string t, .bool b]] w fun e w' => e = .returned (errV 77 (fitN ⟨nm, kc, key, nul⟩ ⟨k, n, t, b⟩)) ∧ Below w.heap.size w w' := by
 have HV : Hid (∀ W, Calls Tryz.prog 108 #[.agg #[.int .i64 k, .int .i64 n, .string t, .bool b]] W fun e w' => e = .returned (errV 77 (validN ⟨k, n, t, b⟩)) ∧ Below W.heap.size W w') := fun W => valid_ k n t b W
 have HX := Lib.hid (fits_two w nm kc key nul k n t b)
 obtain ⟨R, hR⟩ : ∃ R, R = errV 77 (fitN ⟨nm, kc, key, nul⟩ ⟨k, n, t, b⟩) := ⟨_, rfl⟩
 rw [← hR]
 by_cases h0 : validN ⟨k, n, t, b⟩ = 0
 · have h0' : errV 77 (validN ⟨k, n, t, b⟩) = .nilIface := by rw [errV, if_pos h0]
   rw [h0'] at HV
   by_cases hk : k = 0
   · subst hk
     have HR : Hid (R = if key = true ∨ nul = false then .iface 77 (.int .i64 33) else .nilIface) := by
      show _ = _
      rw [hR, fitN, if_neg (by simp [h0]), if_neg (by simp)]
      by_cases hh : key = true ∨ nul = false
      · rw [if_pos ⟨rfl, hh⟩, if_pos hh]; rfl
      · rw [if_neg (fun h => hh h.2), if_neg hh]; rfl
     clear h0 h0' hR
     cases key <;> cases nul <;> simp only [Bool.false_eq_true, Bool.true_eq_false, or_false, or_true, or_self, if_true, if_false] at HR
     all_goals
      go_enter Tryz.func110, Tryz.ntmps110
      go_wp2_with fail
      refine (HV.out _).mono ?_
      rintro e w1 ⟨rfl, hb1⟩
      obtain ⟨⟨c0, c1, c2, c3⟩, ⟨d0, d1, d2, d3⟩, hB⟩ := HX.out _ hb1
      have HB := Lib.hid hB
      clear hb1 hB HX HV
      go_wp2_with fail
      go_ret
      exact ⟨by rw [HR.out]; rfl, HB.out⟩
   · by_cases hkc : k = kc
     · subst hkc
       have HR : Hid (R = .nilIface) := by
        show _ = _
        rw [hR, fitN, if_neg (by simp [h0]), if_neg (by simp), if_neg (by simp [hk])]; rfl
       have hk' : ((k : Int) == 0) = false := by simpa using hk
       clear h0 h0' hR
       go_enter Tryz.func110, Tryz.ntmps110
       go_wp2_with fail
       refine (HV.out _).mono ?_
       rintro e w1 ⟨rfl, hb1⟩
       obtain ⟨⟨c0, c1, c2, c3⟩, ⟨d0, d1, d2, d3⟩, hB⟩ := HX.out _ hb1
       have HB := Lib.hid hB
       clear hb1 hB HX HV
       go_wp2_with fail
       go_ret
       exact ⟨by rw [HR.out]; rfl, HB.out⟩
     · have HR : Hid (R = .iface 77 (.int .i64 7)) := by
        show _ = _
        rw [hR, fitN, if_neg (by simp [h0]), if_pos ⟨hk, hkc⟩]; rfl
       have hk' : ((k : Int) == 0) = false := by simpa using hk
       have hkc' : ((k : Int) != kc) = true := by simpa using hkc
       have hkc2 : ((k : Int) == kc) = false := by simpa using hkc
       clear h0 h0' hR
       go_enter Tryz.func110, Tryz.ntmps110
       go_wp2_with fail
       refine (HV.out _).mono ?_
       rintro e w1 ⟨rfl, hb1⟩
       obtain ⟨⟨c0, c1, c2, c3⟩, ⟨d0, d1, d2, d3⟩, hB⟩ := HX.out _ hb1
       have HB := Lib.hid hB
       clear hb1 hB HX HV
       go_wp2_with fail
       go_ret
       exact ⟨by rw [HR.out]; rfl, HB.out⟩
 · obtain ⟨E, hE⟩ : ∃ E, validN ⟨k, n, t, b⟩ = E := ⟨_, rfl⟩
   have h0' : errV 77 (validN ⟨k, n, t, b⟩) = .iface 77 (.int .i64 E) := by rw [errV, if_neg h0, hE]
   have HR : Hid (R = .iface 77 (.int .i64 E)) := by
    show _ = _
    rw [hR, fitN, if_pos h0, ← h0']
   rw [h0'] at HV
   clear h0 h0' hR hE
   go_enter Tryz.func110, Tryz.ntmps110
   go_wp2_with fail
   refine (HV.out _).mono ?_
   rintro e w1 ⟨rfl, hb1⟩
   obtain ⟨_, _, hB⟩ := HX.out _ hb1
   have HB := Lib.hid hB
   clear hb1 hB HX HV
   go_wp2_with fail
   go_ret
   exact ⟨by rw [HR.out]; rfl, HB.out⟩
end Go.Proofs.YtalmanfjiblhcaaGreat.Rw
namespace Go.Proofs.YtalmanfjiblhcaaGreat.Rw
open Go.RowKit Go.Sort
set_option maxRecDepth 100000 in
set_option maxHeartbeats 1000000 in
theorem check_ (nm : ByteArray) (at_ : Option Addr) (ct : Nat) (cs : List Col) (a : Option Addr) (c : Nat) (vs : List Val) (w : World) (hc : ColsIn w at_ cs) (h : ValsIn w a vs) (hcl : cs.length ≤ 140737488355328) (hvl : vs.length ≤ 140737488355328) :
 Calls Tryz.prog 75 #[.agg #[.string nm, .slice at_ cs.length ct], .slice a vs.length c] w fun e w' => e = .returned (errV 77 (chkR cs vs)) ∧ Below w.heap.size w w' := by
 obtain ⟨L, hL⟩ : ∃ L, vs.length = L := ⟨_, rfl⟩
 obtain ⟨C, hC⟩ : ∃ C, cs.length = C := ⟨_, rfl⟩
 have HL := Lib.hid hL
 have HC := Lib.hid hC
 have HI := Lib.hid h
 have HJ := Lib.hid hc
 rw [hL] at hvl
 rw [hC] at hcl
 rw [hL, hC]
 obtain ⟨R, hR⟩ : ∃ R, R = errV 77 (chkR cs vs) := ⟨_, rfl⟩
 have HR : Hid (R = errV 77 (chkR cs vs)) := hR
 rw [← hR]
 clear h hc hL hC hR
 by_cases hlc : L = C
 · subst hlc
   have hne : ((L : Int) != L) = false := by simp
   obtain ⟨t0, t1⟩ := inT_new w nm at_ L ct 44
   have HT := Lib.hid (inT_new w nm at_ L ct 44)
   have HB0 : Hid (Below w.heap.size w (w.alloc (.cells #[.string nm, .slice at_ L ct] 44))) := below_alloc1 _ _
   go_enter Tryz.func75, Tryz.ntmps75
   go_wp2_with fail
   generalize w.alloc (.cells #[.string nm, .slice at_ L ct] 44) = V at *
   go_loopw [18] (fun iv wr => ∃ i : Nat, i ≤ L ∧ iv = .int .i64 i ∧ Hid (∀ j (h : j < cs.length) (h' : j < vs.length), j < i → fitN cs[j] vs[j] = 0) ∧ Hid (Below w.heap.size w wr)) (fun iv _ => L - (intOf iv).toNat)
   case atStart => exact ⟨0, Nat.zero_le _, rfl, fun j _ _ hj => by omega, HB0⟩
   case round =>
    obtain ⟨i, hi, rfl, HV, HBw⟩ := hrel
    by_cases hlt : i < L
    · have hlt2 : (i : Int) < (L : Int) := by omega
      have hi1 : i < cs.length := by rw [HC.out]; exact hlt
      have hi2 : i < vs.length := by rw [HL.out]; exact hlt
      obtain ⟨b1, o1, rfl, cn, kc, ky, nl, hci, hcin⟩ := ColsIn.get (HJ.out.on HBw.out) i hi1
      obtain ⟨b, o, rfl, k, n, t, bb, hvi, hin⟩ := ValsIn.get (HI.out.on HBw.out) i hi2
      have HF : Hid (∀ W, Calls Tryz.prog 110 #[.agg #[.string cn, .int .i64 kc, .bool ky, .bool nl], .agg #[.int .i64 k, .int .i64 n, .string t, .bool bb]] W fun e w' => e = .returned (errV 77 (fitN ⟨cn, kc, ky, nl⟩ ⟨k, n, t, bb⟩)) ∧ Below W.heap.size W w') := fun W => fits_ cn kc ky nl k n t bb W
      have HK := Lib.hid (⟨hci, hvi⟩ : _ ∧ _)
      have hB1 := below_step HBw.out (below_alloc1 wr (.cells #[.string cn, .int .i64 kc, .bool ky, .bool nl] 112))
      have HB1 := Lib.hid hB1
      obtain ⟨q0, q1, q2, q3⟩ := hcin
      obtain ⟨p0, p1, p2, p3⟩ := hin.alloc (.cells #[.string cn, .int .i64 kc, .bool ky, .bool nl] 112)
      obtain ⟨r0, r1, r2, r3⟩ := inC_new wr ⟨cn, kc, ky, nl⟩ 112
      simp only at r0 r1 r2 r3
      clear hci hvi hin hB1
      go_wp2_with fail
      generalize wr.alloc (.cells #[.string cn, .int .i64 kc, .bool ky, .bool nl] 112) = V1 at *
      have k0 := cell_regrown p0
      have k1 := cell_regrown p1
      have k2 := cell_regrown p2
      have k3 := cell_regrown p3
      have l0 := cell_regrown r0
      have l1 := cell_regrown r1
      have l2 := cell_regrown r2
      have l3 := cell_regrown r3
      have hd0 : decide (0 ≤ (i : Int)) = true := by simp
      have hd1 : decide ((i : Int) < (L : Int)) = true := by simpa using hlt
      clear p0 p1 p2 p3 r0 r1 r2 r3 q0 q1 q2 q3
      by_cases h0 : fitN ⟨cn, kc, ky, nl⟩ ⟨k, n, t, bb⟩ = 0
      · have h0' : errV 77 (fitN ⟨cn, kc, ky, nl⟩ ⟨k, n, t, bb⟩) = .nilIface := by rw [errV, if_pos h0]
        rw [h0'] at HF
        have HV2 : Hid (∀ j (h : j < cs.length) (h' : j < vs.length), j < i + 1 → fitN cs[j] vs[j] = 0) := fun j hj hj' hji => by
         rcases Nat.lt_or_ge j i with hh | hh
         · exact HV.out j hj hj' hh
         · obtain rfl : j = i := by omega
           rw [HK.out.1, HK.out.2]; exact h0
        clear h0 h0' HK HV
        refine wp_region_quiet_below (by kernel_rfl) (by kernel_rfl) ?_
        repeat (go_big_quiet_step (first | (go_at_call 110; exact Calls.regrown_of (HF.out _))))
        refine wpQuiet_nil ?_
        intro _ hw'
        obtain ⟨⟨dq, osq⟩, hw''⟩ := hw'
        subst hw''
        have HB2 := Lib.hid (below_step HB1.out (below_regrown V1 dq osq))
        generalize grow (redrawn V1 dq) osq = W2 at *
        clear k0 k1 k2 k3 l0 l1 l2 l3 HF HB1 HBw
        go_wp2_with fail
        go_roundw
        case rel => exact ⟨i + 1, by omega, by go_num, HV2, HB2⟩
        case measure => simp [intOf]; omega
      · obtain ⟨E, hE⟩ : ∃ E, fitN ⟨cn, kc, ky, nl⟩ ⟨k, n, t, bb⟩ = E := ⟨_, rfl⟩
        have h0' : errV 77 (fitN ⟨cn, kc, ky, nl⟩ ⟨k, n, t, bb⟩) = .iface 77 (.int .i64 E) := by rw [errV, if_neg h0, hE]
        have HR2 : Hid (R = .iface 77 (.int .i64 E)) := by
         show _ = _
         rw [HR.out, chkR_bad (by rw [HL.out, HC.out]) hi1 hi2 HV.out (E := E) (by rw [HK.out.1, HK.out.2]; exact hE) (by rw [← hE]; exact h0), errV, if_neg (by rw [← hE]; exact h0)]
        rw [h0'] at HF
        clear h0 h0' HK HV hE
        refine wp_region_quiet_below (by kernel_rfl) (by kernel_rfl) ?_
        repeat (go_big_quiet_step (first | (go_at_call 110; exact Calls.regrown_of (HF.out _))))
        refine wpQuiet_nil ?_
        intro _ hw'
        obtain ⟨⟨dq, osq⟩, hw''⟩ := hw'
        subst hw''
        have HB2 := Lib.hid (below_step HB1.out (below_regrown V1 dq osq))
        generalize grow (redrawn V1 dq) osq = W2 at *
        clear k0 k1 k2 k3 l0 l1 l2 l3 HF HB1 HBw
        go_wp2_with fail
        go_ret
        exact ⟨by rw [HR2.out]; rfl, HB2.out⟩
    · obtain rfl : i = L := by omega
      have HF : Hid (R = .nilIface) := by
       show _ = _
       rw [HR.out, chkR_ok (by rw [HL.out, HC.out]) (fun j hj hj' => HV.out j hj hj' (by rw [← HL.out]; exact hj')), errV, if_pos rfl]
      clear HV
      go_wp2_with fail
      go_ret
      exact ⟨by rw [HF.out]; rfl, HBw.out⟩
 · have hne : ((L : Int) != C) = true := by simp; omega
   have hne2 : ((L : Int) == C) = false := by simp; omega
   have HF : Hid (R = .iface 77 (.int .i64 1)) := by
    show _ = _
    rw [HR.out, chkR, if_pos (by rw [HL.out, HC.out]; exact hlc)]; rfl
   clear HR
   go_enter Tryz.func75, Tryz.ntmps75
   go_wp2_with fail
   go_ret
   exact ⟨by rw [HF.out]; rfl, below_alloc1 _ _⟩
end Go.Proofs.YtalmanfjiblhcaaGreat.Rw
