/- The walk of order.first. -/
import Derived.Test.YtonbecjankghaaaDoorONum
import Derived.Deep.RegionHeld3
namespace Go.Proofs.YtonbecjankghaaaDoor
open Go.RowKit Go.Sort

theorem ext8 (s : ByteArray) (n : Nat) : (s.extract 0 n).data.toList = s.data.toList.take n := by simp
theorem txt_ne0 {Q : ByteArray} (h : 0 < Q.size) : (Q.toList == []) = false := by
  rw [Lib.toList_data]
  simp only [beq_eq_false_iff_ne, ne_eq]
  intro e
  rw [size_list, e] at h
  simp at h
set_option maxHeartbeats 1000000 in
theorem first_null (s Q : ByteArray) (w : World) (hs : 0 < s.size) (hs2 : s.size ≤ 4294967000) (hQ : s.extract 1 s.size = Q) (hc : s[0].toNat = 1) :
    Calls Tryd.prog 17 #[.string s] w fun e w' => e = .returned (.tuple #[.agg #[.int .i64 0, .int .i64 0, .string ⟨#[]⟩, .bool false], .string Q, .bool true]) ∧ Below w.heap.size w w' := by
  have HV : Hid (∀ W, Calls Tryd.prog 21 #[] W fun e w' => e = .returned (.agg #[.int .i64 0, .int .i64 0, .string ⟨#[]⟩, .bool false]) ∧ Below W.heap.size W w') := fun W => null_ W
  have F0 := Lib.hid (fr0_start w 41)
  go_enter Tryd.func17, Tryd.ntmps17
  go_wp2_with fail
  go_quiet (fail)
  have F1 := Lib.hid (F0.out.on (below_drewN (Below.refl _ _) nq))
  clear F0
  generalize (w.alloc (.cells #[.int .i64 0, .int .i64 0, .string ⟨#[]⟩, .bool false] 41)).drewN nq = W1 at *
  obtain ⟨⟨r0, r1, r2, r3⟩, ⟨f0, f1, f2, f3⟩, hbw, hsz⟩ := F1.out
  go_wp2_with fail
  refine (HV.out _).mono ?_
  rintro e w1 ⟨rfl, hb1⟩
  have F2 := Lib.hid (F1.out.on hb1)
  clear F1 hb1 r0 r1 r2 r3 f0 f1 f2 f3 hbw hsz
  obtain ⟨⟨r0, r1, r2, r3⟩, ⟨f0, f1, f2, f3⟩, hbw, hsz⟩ := F2.out
  go_wp2_with fail
  refine bodyPost_ret (v := .tuple #[.agg #[.int .i64 0, .int .i64 0, .string ⟨#[]⟩, .bool false], .string Q, .bool true]) ?_ rfl ⟨rfl, four_set hbw (w.heap.size) (by omega) _ _ _ _⟩
  simp [results, Tryd.results17, go_sem, r0, r1, r2, r3]
set_option maxHeartbeats 1000000 in
theorem first_int (s Q : ByteArray) (w : World) (hs : 0 < s.size) (hs2 : s.size ≤ 4294967000) (hQ : s.extract 1 s.size = Q) (hc : s[0].toNat = 2) (h8 : 8 ≤ Q.size) (n : Int) (hn : n = (num8 (Q.extract 0 8).data.toList : Int) - 9223372036854775808) :
    Calls Tryd.prog 17 #[.string s] w fun e w' => e = .returned (.tuple #[.agg #[.int .i64 1, .int .i64 n, .string ⟨#[]⟩, .bool false], .string (Q.extract 8 Q.size), .bool true]) ∧ Below w.heap.size w w' := by
  have hz : (Q.extract 0 8).size = 8 := by rw [size_list, ext8, List.length_take, ← size_list]; omega
  have HN : Hid (∀ W, Calls Tryd.prog 23 #[.string (Q.extract 0 8)] W fun e w' => e = .returned (.int .i64 n) ∧ Below W.heap.size W w') := fun W => (number_ (Q.extract 0 8) W hz).mono fun e w' ⟨he, hw⟩ => ⟨by rw [hn]; exact he, hw ▸ Below.refl _ _⟩
  have HV : Hid (∀ W, Calls Tryd.prog 22 #[.int .i64 n] W fun e w' => e = .returned (.agg #[.int .i64 1, .int .i64 n, .string ⟨#[]⟩, .bool false]) ∧ Below W.heap.size W w') := fun W => int_ n W
  have h8' : (8 : Int) ≤ (Q.size : Int) := by omega
  clear hn hz
  have F0 := Lib.hid (fr0_start w 41)
  go_enter Tryd.func17, Tryd.ntmps17
  go_wp2_with fail
  go_quiet (fail)
  have F1 := Lib.hid (F0.out.on (below_drewN (Below.refl _ _) nq))
  clear F0
  generalize (w.alloc (.cells #[.int .i64 0, .int .i64 0, .string ⟨#[]⟩, .bool false] 41)).drewN nq = W1 at *
  obtain ⟨⟨r0, r1, r2, r3⟩, ⟨f0, f1, f2, f3⟩, hbw, hsz⟩ := F1.out
  go_wp2_with fail
  clear r0 r1 r2 r3 f0 f1 f2 f3 hbw hsz
  refine wp_region_noPanic ?_
  go_region_with (first
    | (go_at_call 23; refine (HN.out _).mono ?_; rintro e w1 ⟨rfl, hb1⟩
       have F2 : Hid (Fr0 w w1) := by first | exact F1.out.on hb1 | exact F1.out.on (below_step (below_drew _) hb1)
       clear hb1)
    | (go_at_call 22; refine (HV.out _).mono ?_; rintro e w2 ⟨rfl, hb2⟩
       have F3 := Lib.hid (F2.out.on hb2)
       clear hb2
       obtain ⟨⟨r0, r1, r2, r3⟩, ⟨f0, f1, f2, f3⟩, hbw, hsz⟩ := F3.out))
  all_goals (refine NoPanic.normal ?_; go_wp2_with fail)
  refine bodyPost_ret (v := .tuple #[.agg #[.int .i64 1, .int .i64 n, .string ⟨#[]⟩, .bool false], .string (Q.extract 8 Q.size), .bool true]) ?_ rfl ⟨rfl, four_set hbw (w.heap.size) (by omega) _ _ _ _⟩
  simp [results, Tryd.results17, go_sem, r0, r1, r2, r3]
set_option maxHeartbeats 1000000 in
theorem first_short (s Q : ByteArray) (w : World) (hs : 0 < s.size) (hs2 : s.size ≤ 4294967000) (hQ : s.extract 1 s.size = Q) (hc : s[0].toNat = 2) (h8 : ¬ 8 ≤ Q.size) :
    Calls Tryd.prog 17 #[.string s] w fun e w' => e = .returned (.tuple #[.agg #[.int .i64 0, .int .i64 0, .string ⟨#[]⟩, .bool false], .string ⟨#[]⟩, .bool false]) ∧ Below w.heap.size w w' := by
  have h8' : ¬ (8 : Int) ≤ (Q.size : Int) := by omega
  have F0 := Lib.hid (fr0_start w 41)
  go_enter Tryd.func17, Tryd.ntmps17
  go_wp2_with fail
  go_quiet (fail)
  have F1 := Lib.hid (F0.out.on (below_drewN (Below.refl _ _) nq))
  clear F0
  generalize (w.alloc (.cells #[.int .i64 0, .int .i64 0, .string ⟨#[]⟩, .bool false] 41)).drewN nq = W1 at *
  obtain ⟨⟨r0, r1, r2, r3⟩, ⟨f0, f1, f2, f3⟩, hbw, hsz⟩ := F1.out
  go_wp2_with fail
  refine bodyPost_ret (v := .tuple #[.agg #[.int .i64 0, .int .i64 0, .string ⟨#[]⟩, .bool false], .string ⟨#[]⟩, .bool false]) ?_ rfl ⟨rfl, four_set hbw (w.heap.size) (by omega) _ _ _ _⟩
  simp [results, Tryd.results17, go_sem, r0, r1, r2, r3]
set_option maxHeartbeats 1000000 in
theorem first_text (s Q : ByteArray) (w : World) (hs : 0 < s.size) (hs2 : s.size ≤ 4294967000) (hQ : s.extract 1 s.size = Q) (hc : s[0].toNat = 3) (A B : ByteArray) (ok : Bool) (hA : Lib.cut Q.data.toList [0] = (A.data.toList, B.data.toList, ok)) (hq : Q.size ≤ 4294967000) (hm : ∃ m, w.cell? ⟨1, 0, none⟩ = some (.int .i64 m)) :
    Calls Tryd.prog 17 #[.string s] w fun e w' => e = .returned (.tuple #[.agg #[.int .i64 2, .int .i64 0, .string A, .bool false], .string B, .bool ok]) ∧ Below w.heap.size w w' := by
  have HK : Hid (∀ W, Below w.heap.size w W → Calls Tryd.prog 24 #[.string Q, .string ⟨#[0]⟩] W fun e w' => e = .returned (.tuple #[.string A, .string B, .bool ok]) ∧ Below W.heap.size W w') := fun W hW => by
    obtain ⟨m, hm⟩ := hm
    refine (Tryd.strings_Cut Q ⟨#[0]⟩ m W (by omega) ((hW.cell (block_lt_of_cell hm)).trans hm)).mono fun e w' ⟨he, k, hw⟩ => ⟨he.trans ?_, by rw [hw]; exact below_drewN (Below.refl _ _) k⟩
    rw [show (⟨#[0]⟩ : ByteArray).data.toList = [0] from rfl, hA]
  have HV : Hid (∀ W, Calls Tryd.prog 25 #[.string A] W fun e w' => e = .returned (.agg #[.int .i64 2, .int .i64 0, .string A, .bool false]) ∧ Below W.heap.size W w') := fun W => text_ A W
  clear hA hm
  have F0 := Lib.hid (fr0_start w 41)
  go_enter Tryd.func17, Tryd.ntmps17
  go_wp2_with fail
  go_quiet (fail)
  have F1 := Lib.hid (F0.out.on (below_drewN (Below.refl _ _) nq))
  clear F0
  generalize (w.alloc (.cells #[.int .i64 0, .int .i64 0, .string ⟨#[]⟩, .bool false] 41)).drewN nq = W1 at *
  obtain ⟨⟨r0, r1, r2, r3⟩, ⟨f0, f1, f2, f3⟩, hbw, hsz⟩ := F1.out
  go_wp2_with fail
  refine (HK.out _ hbw).mono ?_
  rintro e w1 ⟨rfl, hb1⟩
  have F2 := Lib.hid (F1.out.on hb1)
  clear F1 hb1 r0 r1 r2 r3 f0 f1 f2 f3 hbw hsz
  obtain ⟨⟨r0, r1, r2, r3⟩, ⟨f0, f1, f2, f3⟩, hbw, hsz⟩ := F2.out
  go_wp2_with fail
  refine (HV.out _).mono ?_
  rintro e w2 ⟨rfl, hb2⟩
  have F3 := Lib.hid (F2.out.on hb2)
  clear F2 hb2 r0 r1 r2 r3 f0 f1 f2 f3 hbw hsz
  obtain ⟨⟨r0, r1, r2, r3⟩, ⟨f0, f1, f2, f3⟩, hbw, hsz⟩ := F3.out
  go_wp2_with fail
  refine bodyPost_ret (v := .tuple #[.agg #[.int .i64 2, .int .i64 0, .string A, .bool false], .string B, .bool ok]) ?_ rfl ⟨rfl, four_set hbw (w.heap.size) (by omega) _ _ _ _⟩
  simp [results, Tryd.results17, go_sem, r0, r1, r2, r3]
set_option maxHeartbeats 1000000 in
theorem first_true (s Q : ByteArray) (w : World) (hs : 0 < s.size) (hs2 : s.size ≤ 4294967000) (hQ : s.extract 1 s.size = Q) (hc : s[0].toNat = 4) (hq0 : 0 < Q.size) (hb : Q[0].toNat = 1) :
    Calls Tryd.prog 17 #[.string s] w fun e w' => e = .returned (.tuple #[.agg #[.int .i64 3, .int .i64 0, .string ⟨#[]⟩, .bool true], .string (Q.extract 1 Q.size), .bool true]) ∧ Below w.heap.size w w' := by
  have HV : Hid (∀ W, Calls Tryd.prog 26 #[.bool true] W fun e w' => e = .returned (.agg #[.int .i64 3, .int .i64 0, .string ⟨#[]⟩, .bool true]) ∧ Below W.heap.size W w') := fun W => bool_ _ W
  have hqe : (Q.toList == []) = false := txt_ne0 hq0
  have hqs : (1 : Int) ≤ (Q.size : Int) := by omega
  have F0 := Lib.hid (fr0_start w 41)
  go_enter Tryd.func17, Tryd.ntmps17
  go_wp2_with fail
  go_quiet (fail)
  have F1 := Lib.hid (F0.out.on (below_drewN (Below.refl _ _) nq))
  clear F0
  generalize (w.alloc (.cells #[.int .i64 0, .int .i64 0, .string ⟨#[]⟩, .bool false] 41)).drewN nq = W1 at *
  obtain ⟨⟨r0, r1, r2, r3⟩, ⟨f0, f1, f2, f3⟩, hbw, hsz⟩ := F1.out
  go_wp2_with fail
  clear r0 r1 r2 r3 f0 f1 f2 f3 hbw hsz
  refine wp_region_noPanic ?_
  go_region_with (first
    | (go_at_call 26; refine (HV.out _).mono ?_; rintro e w2 ⟨rfl, hb2⟩
       have F3 : Hid (Fr0 w w2) := by first | exact F1.out.on hb2 | exact F1.out.on (below_step (below_drew _) hb2)
       clear hb2
       obtain ⟨⟨r0, r1, r2, r3⟩, ⟨f0, f1, f2, f3⟩, hbw, hsz⟩ := F3.out))
  all_goals (refine NoPanic.normal ?_; go_wp2_with fail)
  refine bodyPost_ret (v := .tuple #[.agg #[.int .i64 3, .int .i64 0, .string ⟨#[]⟩, .bool true], .string (Q.extract 1 Q.size), .bool true]) ?_ rfl ⟨rfl, four_set hbw (w.heap.size) (by omega) _ _ _ _⟩
  simp [results, Tryd.results17, go_sem, r0, r1, r2, r3]
set_option maxHeartbeats 1000000 in
theorem first_false (s Q : ByteArray) (w : World) (hs : 0 < s.size) (hs2 : s.size ≤ 4294967000) (hQ : s.extract 1 s.size = Q) (hc : s[0].toNat = 4) (hq0 : 0 < Q.size) (hb : Q[0].toNat = 0) :
    Calls Tryd.prog 17 #[.string s] w fun e w' => e = .returned (.tuple #[.agg #[.int .i64 3, .int .i64 0, .string ⟨#[]⟩, .bool false], .string (Q.extract 1 Q.size), .bool true]) ∧ Below w.heap.size w w' := by
  have HV : Hid (∀ W, Calls Tryd.prog 26 #[.bool false] W fun e w' => e = .returned (.agg #[.int .i64 3, .int .i64 0, .string ⟨#[]⟩, .bool false]) ∧ Below W.heap.size W w') := fun W => bool_ _ W
  have hqe : (Q.toList == []) = false := txt_ne0 hq0
  have hqs : (1 : Int) ≤ (Q.size : Int) := by omega
  have F0 := Lib.hid (fr0_start w 41)
  go_enter Tryd.func17, Tryd.ntmps17
  go_wp2_with fail
  go_quiet (fail)
  have F1 := Lib.hid (F0.out.on (below_drewN (Below.refl _ _) nq))
  clear F0
  generalize (w.alloc (.cells #[.int .i64 0, .int .i64 0, .string ⟨#[]⟩, .bool false] 41)).drewN nq = W1 at *
  obtain ⟨⟨r0, r1, r2, r3⟩, ⟨f0, f1, f2, f3⟩, hbw, hsz⟩ := F1.out
  go_wp2_with fail
  clear r0 r1 r2 r3 f0 f1 f2 f3 hbw hsz
  refine wp_region_noPanic ?_
  go_region_with (first
    | (go_at_call 26; refine (HV.out _).mono ?_; rintro e w2 ⟨rfl, hb2⟩
       have F3 : Hid (Fr0 w w2) := by first | exact F1.out.on hb2 | exact F1.out.on (below_step (below_drew _) hb2)
       clear hb2
       obtain ⟨⟨r0, r1, r2, r3⟩, ⟨f0, f1, f2, f3⟩, hbw, hsz⟩ := F3.out))
  all_goals (refine NoPanic.normal ?_; go_wp2_with fail)
  refine bodyPost_ret (v := .tuple #[.agg #[.int .i64 3, .int .i64 0, .string ⟨#[]⟩, .bool false], .string (Q.extract 1 Q.size), .bool true]) ?_ rfl ⟨rfl, four_set hbw (w.heap.size) (by omega) _ _ _ _⟩
  simp [results, Tryd.results17, go_sem, r0, r1, r2, r3]
set_option maxHeartbeats 1000000 in
theorem first_empty (s Q : ByteArray) (w : World) (hs : 0 < s.size) (hs2 : s.size ≤ 4294967000) (hQ : s.extract 1 s.size = Q) (hc : s[0].toNat = 4) (hq0 : Q = ⟨#[]⟩) :
    Calls Tryd.prog 17 #[.string s] w fun e w' => e = .returned (.tuple #[.agg #[.int .i64 0, .int .i64 0, .string ⟨#[]⟩, .bool false], .string ⟨#[]⟩, .bool false]) ∧ Below w.heap.size w w' := by
  subst hq0
  have F0 := Lib.hid (fr0_start w 41)
  go_enter Tryd.func17, Tryd.ntmps17
  go_wp2_with fail
  go_quiet (fail)
  have F1 := Lib.hid (F0.out.on (below_drewN (Below.refl _ _) nq))
  clear F0
  generalize (w.alloc (.cells #[.int .i64 0, .int .i64 0, .string ⟨#[]⟩, .bool false] 41)).drewN nq = W1 at *
  obtain ⟨⟨r0, r1, r2, r3⟩, ⟨f0, f1, f2, f3⟩, hbw, hsz⟩ := F1.out
  go_wp2_with fail
  refine bodyPost_ret (v := .tuple #[.agg #[.int .i64 0, .int .i64 0, .string ⟨#[]⟩, .bool false], .string ⟨#[]⟩, .bool false]) ?_ rfl ⟨rfl, four_set hbw (w.heap.size) (by omega) _ _ _ _⟩
  simp [results, Tryd.results17, go_sem, r0, r1, r2, r3]
set_option maxHeartbeats 1000000 in
theorem first_truth (s Q : ByteArray) (w : World) (hs : 0 < s.size) (hs2 : s.size ≤ 4294967000) (hQ : s.extract 1 s.size = Q) (hc : s[0].toNat = 4) (hq0 : 0 < Q.size) (hb : 1 < Q[0].toNat) :
    Calls Tryd.prog 17 #[.string s] w fun e w' => e = .returned (.tuple #[.agg #[.int .i64 0, .int .i64 0, .string ⟨#[]⟩, .bool false], .string ⟨#[]⟩, .bool false]) ∧ Below w.heap.size w w' := by
  have hqe : (Q.toList == []) = false := txt_ne0 hq0
  have F0 := Lib.hid (fr0_start w 41)
  go_enter Tryd.func17, Tryd.ntmps17
  go_wp2_with fail
  go_quiet (fail)
  have F1 := Lib.hid (F0.out.on (below_drewN (Below.refl _ _) nq))
  clear F0
  generalize (w.alloc (.cells #[.int .i64 0, .int .i64 0, .string ⟨#[]⟩, .bool false] 41)).drewN nq = W1 at *
  obtain ⟨⟨r0, r1, r2, r3⟩, ⟨f0, f1, f2, f3⟩, hbw, hsz⟩ := F1.out
  go_wp2_with fail
  refine bodyPost_ret (v := .tuple #[.agg #[.int .i64 0, .int .i64 0, .string ⟨#[]⟩, .bool false], .string ⟨#[]⟩, .bool false]) ?_ rfl ⟨rfl, four_set hbw (w.heap.size) (by omega) _ _ _ _⟩
  simp [results, Tryd.results17, go_sem, r0, r1, r2, r3]
set_option maxHeartbeats 1000000 in
theorem first_else (s Q : ByteArray) (w : World) (hs : 0 < s.size) (hs2 : s.size ≤ 4294967000) (hQ : s.extract 1 s.size = Q) (c : Nat) (hc : s[0].toNat = c) (h1 : c ≠ 1) (h2 : c ≠ 2) (h3 : c ≠ 3) (h4 : c ≠ 4) :
    Calls Tryd.prog 17 #[.string s] w fun e w' => e = .returned (.tuple #[.agg #[.int .i64 0, .int .i64 0, .string ⟨#[]⟩, .bool false], .string ⟨#[]⟩, .bool false]) ∧ Below w.heap.size w w' := by
  have F0 := Lib.hid (fr0_start w 41)
  go_enter Tryd.func17, Tryd.ntmps17
  go_wp2_with fail
  go_quiet (fail)
  have F1 := Lib.hid (F0.out.on (below_drewN (Below.refl _ _) nq))
  clear F0
  generalize (w.alloc (.cells #[.int .i64 0, .int .i64 0, .string ⟨#[]⟩, .bool false] 41)).drewN nq = W1 at *
  obtain ⟨⟨r0, r1, r2, r3⟩, ⟨f0, f1, f2, f3⟩, hbw, hsz⟩ := F1.out
  go_wp2_with fail
  refine bodyPost_ret (v := .tuple #[.agg #[.int .i64 0, .int .i64 0, .string ⟨#[]⟩, .bool false], .string ⟨#[]⟩, .bool false]) ?_ rfl ⟨rfl, four_set hbw (w.heap.size) (by omega) _ _ _ _⟩
  simp [results, Tryd.results17, go_sem, r0, r1, r2, r3]
end Go.Proofs.YtonbecjankghaaaDoor
